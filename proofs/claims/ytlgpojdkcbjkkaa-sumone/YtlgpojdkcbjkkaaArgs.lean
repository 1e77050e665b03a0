/- What the arguments are: their cells, read off the row's own reading. -/
import Derived.Test.YtlgpojdkcbjkkaaShown
import Derived.ProofKit
import Derived.OpenShut
import Derived.ShutString
import Derived.ChangeOld
import Derived.SizedLaws
import Derived.Deep.Slices
namespace Go.Proofs.Ytlgpojdkcbjkkaa.Sm
open Go.ChangeShapes Go.WideShapes Go.ChangeAt Go.RowKit Go.Deep

theorem bytes5 : Try.prog.bytesOf 5 = 1 := by kernel_rfl
def byteOf (x : Int) : UInt8 := UInt8.ofNat x.toNat
theorem bv_byteOf (x : Int) (h0 : 0 ≤ x) (h1 : x ≤ 255) : bv (byteOf x) = .int .u8 x := by
  unfold bv byteOf
  obtain ⟨n, rfl⟩ := Int.eq_ofNat_of_zero_le h0
  have : n % 2 ^ 8 = n := Nat.mod_eq_of_lt (by omega)
  simp [this]

theorem bs_of_nums (zs : List Int) (h : ∀ n ∈ zs, (Lit.int .u8 n).wf = true) : bs (zs.map byteOf) = zs.map (Value.int .u8) := by
  simp only [bs, List.map_map]
  apply List.map_congr_left
  intro n hn
  have hb := bounds_u8 (h n hn)
  exact bv_byteOf n hb.1 hb.2

theorem open_bytes {H : Type} {enc : TypeId × Value → H} {W : World} {ad : Option Addr} {len cap : Nat} {d : DataW H} {ps : List MemPlace}
    (h : DataW.Trod enc Try.prog W 0 (fun _ => true) true 23 (.slice ad len cap) d ps) (hw : ∀ n ∈ d.weights Try.prog 23, n ≤ reachBytes) :
    ∃ b : List UInt8, len = b.length ∧ b.length ≤ 140737488351232 ∧ Src W ad b ∧ b.length ≤ cap := by
  obtain ⟨fuel, hf⟩ := h
  rcases open_ints Try.underlying23 Try.underlying5 (by kernel_rfl) hf with ⟨hcs, _⟩ | ⟨x, l', c', zs, hcs, _, hl', hm', hz', hx, hcell, hwz⟩
  · simp [Value.cells] at hcs
    obtain ⟨rfl, rfl, rfl⟩ := hcs
    exact ⟨[], rfl, by simp, Src.nil _ _, by simp⟩
  · simp [Value.cells] at hcs
    obtain ⟨rfl, rfl, rfl⟩ := hcs
    have hzl : zs.length = cap := by simpa using hz'
    have hwt : ∀ q ∈ zs.take len, (Lit.int .u8 q).wf = true := fun q hq => hwz q (List.mem_of_mem_take hq)
    have hln : ((zs.take len).map byteOf).length = len := by simp [hzl, hl']
    have hd : d = .slice (lits .u8 (zs.take len)) (lits .u8 (zs.drop len)) := by
      have := congrArg Prod.fst hx
      simpa using this
    have hwz2 := hw (zs.length * 1) (by
      rw [hd]
      simp only [DataW.weights, Try.underlying23, bytes5, List.mem_cons]
      left
      simp [lits]
      omega)
    have hr : reachBytes = 140737488351232 := rfl
    refine ⟨(zs.take len).map byteOf, hln.symm, by rw [hln]; omega, fun hne => ?_, by rw [hln]; omega⟩
    have hl0 : 0 < len := by
      rcases Nat.eq_zero_or_pos len with h | h
      · subst h; simp at hne
      · exact h
    have hq0 := hcell 0 (by omega)
    obtain ⟨bb, bo, sp⟩ := x
    have hsp : sp = none := by
      have := World.cell?_spot hq0
      simpa [Addr.add] using this
    subst hsp
    refine ⟨bb, bo, rfl, ?_⟩
    rw [bs_of_nums _ hwt]
    intro j v hv
    have hj : j < len := by
      have := (List.getElem?_eq_some_iff.1 hv).1
      simp at this
      omega
    have := hcell j (by omega)
    rw [Addr.add_mid] at this
    rw [this, ← hv]
    simp [hj, List.getD_eq_getElem?_getD, List.getElem?_eq_getElem (show j < zs.length by omega)]

/-- A list of ints. -/
def ArgInts (W : World) (ad : Option Addr) (len : Nat) : Prop := ∀ k, k < len → ∃ bb bo n, ad = some ⟨bb, bo, none⟩ ∧ W.cell? ⟨bb, bo + k, none⟩ = some (.int .i64 n) ∧ -9223372036854775808 ≤ n ∧ n ≤ 9223372036854775807
theorem open_cuts {H : Type} {enc : TypeId × Value → H} {W : World} {ad : Option Addr} {len cap : Nat} {d : DataW H} {ps : List MemPlace}
    (h : DataW.Trod enc Try.prog W 0 (fun _ => true) true 32 (.slice ad len cap) d ps) : ArgInts W ad len ∧ len ≤ 9223372036854775807 := by
  obtain ⟨fuel, hf⟩ := h
  rcases open_ints Try.underlying32 Try.underlying3 (by kernel_rfl) hf with ⟨hcs, _⟩ | ⟨x, l', c', zs, hcs, _, hl', hm', hz', hx, hcell, hwz⟩
  · simp [Value.cells] at hcs
    obtain ⟨rfl, rfl, rfl⟩ := hcs
    exact ⟨fun k hk => absurd hk (by omega), by omega⟩
  · simp [Value.cells] at hcs
    obtain ⟨rfl, rfl, rfl⟩ := hcs
    have hzl : zs.length = cap := by simpa using hz'
    refine ⟨fun k hk => ?_, by unfold maxLen at hm'; omega⟩
    have hq := hcell k (by omega)
    have hq0 := hcell 0 (by omega)
    obtain ⟨bb, bo, sp⟩ := x
    have hsp : sp = none := by
      have := World.cell?_spot hq0
      simpa [Addr.add] using this
    subst hsp
    rw [Addr.add_mid] at hq
    have hb := bounds_i64 (hwz (zs.getD k 0) (by
      rw [List.getD_eq_getElem?_getD, List.getElem?_eq_getElem (show k < zs.length by omega)]
      exact List.getElem_mem _))
    exact ⟨bb, bo, _, rfl, hq, hb.1, hb.2⟩

theorem below_of_fr {w w' : World} (h : Fr (fun _ => False) w w') : Below w.heap.size w w' := h.below (Nat.le_refl _) (fun _ h => h.elim)

end Go.Proofs.Ytlgpojdkcbjkkaa.Sm
