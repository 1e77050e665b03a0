/- What an argument that is a row of numbers is. -/
import Derived.Test.YtangnoicnogddaaMar
namespace Go.Proofs.Ytangnoicnogddaa.Tr
open Go.ChangeShapes Go.WideShapes Go.ChangeAt Go.RowKit Go.Deep Go.Lib

theorem bytes3 : Try.prog.bytesOf 3 = 8 := by kernel_rfl
/-- Numbers in a row. -/
def Nums (w : World) (ad : Option Addr) (l : List Int) : Prop := l ≠ [] → ∃ b o, ad = some ⟨b, o, none⟩ ∧ ∀ i (h : i < l.length), w.cell? ⟨b, o + i, none⟩ = some (.int .i64 l[i])
/-- A row of numbers. -/
theorem open_nums {H : Type} {enc : TypeId × Value → H} {W : World} {fuel : Nat} {c : Value} {D : DataW H} {ps : List MemPlace}
    (h : DataW.trod enc Try.prog W 0 (fun _ => true) true fuel 24 [c] = some (D, ps)) (hw : ∀ n ∈ D.weights Try.prog 24, n ≤ reachBytes) :
    ∃ (L : List Int) (ad : Option Addr) (cap : Nat), c = .slice ad L.length cap ∧ L.length ≤ cap ∧ L.length ≤ 140737488351232 ∧ Nums W ad L := by
  rcases open_slice Try.underlying24 h with ⟨hcs, _⟩ | ⟨a, l, cp, m, n, D', Pl, hcs, hb, hl, hm, hmm, hx, hall⟩
  · simp only [List.cons.injEq, and_true] at hcs
    subst hcs
    exact ⟨[], none, 0, rfl, by simp, by simp, fun h => absurd rfl h⟩
  · simp only [List.cons.injEq, and_true] at hcs
    subst hcs
    have hmc : m = cp := by simpa using hmm
    subst hmc
    have hd : D = .slice ((List.range l).map D') ((List.range (m - l)).map fun j => D' (l + j)) := congrArg Prod.fst hx
    have hw0 : m * 8 ≤ reachBytes := hw _ (by
      rw [hd]
      simp only [DataW.weights, Try.underlying24, bytes3, List.mem_cons, List.length_map, List.length_range]
      left; congr 1; omega)
    have hr : reachBytes = 140737488351232 := rfl
    have hone : ∀ i, i < l → ∃ d : Int, W.cell? (a.add (i * 1)) = some (.int .i64 d) := by
      intro i hi
      obtain ⟨cs, h1, h2⟩ := hall i (by omega)
      rw [cells3] at h1
      obtain ⟨_, hlen, hc⟩ := World.cells?_some h1
      obtain ⟨d, rfl, _⟩ := DataW.trod_int Try.underlying3 h2
      refine ⟨d, ?_⟩
      have := hc 0 (by simp)
      have e : ((a.add (i * 1)).add 0) = a.add (i * 1) := by simp [Addr.add]
      rw [e] at this
      simpa using this
    rcases Nat.eq_zero_or_pos l with h0 | hpos
    · subst h0
      exact ⟨[], some a, m, rfl, by simp, by simp, fun h => absurd rfl h⟩
    obtain ⟨bb, bo, sp⟩ := a
    have hsp : sp = none := by
      obtain ⟨d, g0⟩ := hone 0 hpos
      have := World.cell?_spot g0
      simpa [Addr.add] using this
    subst hsp
    obtain ⟨L, hL1, hL2⟩ := list_of _ l hone
    subst hL1
    refine ⟨L, _, m, rfl, hl, by omega, fun _ => ⟨bb, bo, rfl, fun i hi => ?_⟩⟩
    have := hL2 i hi
    rw [Addr.add_mid, Nat.mul_one] at this
    exact this
end Go.Proofs.Ytangnoicnogddaa.Tr
