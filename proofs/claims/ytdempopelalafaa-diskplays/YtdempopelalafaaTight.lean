/- How long the rows of bytes inside a list of ops are at most. -/
import Derived.Test.YtdempopelalafaaSized
namespace Go.Proofs.Ytdempopelalafaa.Dk
open Go.ChangeShapes Go.WideShapes Go.ChangeAt Go.RowKit Go.Deep

theorem ops_tight {H : Type} {enc : TypeId × Value → H} {W : World} {ad : Option Addr} {len cap : Nat} {d : DataW H} {ps : List MemPlace}
    (h : DataW.Trod enc Try.prog W 0 (fun _ => true) true 22 (.slice ad len cap) d ps) (hw : ∀ n ∈ d.weights Try.prog 22, n ≤ reachBytes)
    (k : Nat) (hk : k < len) (lb lo : Nat) (e : ad = some ⟨lb, lo, none⟩) (bad : Option Addr) (l' c' : Nat) (hc2 : W.cell? ⟨lb, lo + k * 6 + 2, none⟩ = some (.slice bad l' c')) : l' ≤ 140737488351232 := by
  obtain ⟨fuel, hf⟩ := h
  subst e
  rcases open_slice Try.underlying22 hf with ⟨hcs, _⟩ | ⟨a, l, c, m, n, D, Pl, hcs, hb, hl, hm, hmm, hx, hall⟩
  · simp [Value.cells] at hcs
  · simp [Value.cells] at hcs
    obtain ⟨rfl, rfl, rfl⟩ := hcs
    obtain ⟨cs, h1, h2⟩ := hall k (by simp at hmm; omega)
    rw [cells31] at h1
    obtain ⟨_, hlen, hc⟩ := World.cells?_some h1
    have hxd : d = .slice ((List.range len).map D) ((List.range (m - len)).map fun j => D (len + j)) := by
      have := congrArg Prod.fst hx
      simpa using this
    have hmem : ∀ n ∈ (D k).weights Try.prog 31, n ≤ reachBytes := fun n hn => hw n (by
      rw [hxd]
      simp only [DataW.weights, Try.underlying22, List.mem_cons, List.mem_append]
      exact .inr (.inl (weightsAll_mem (List.mem_map.2 ⟨k, List.mem_range.2 hk, rfl⟩) n hn)))
    obtain ⟨xs, n', _, hDk, _, hxl, hf⟩ := DataW.trod_struct Try.underlying31 h2
    have hDk1 : D k = .agg (xs.map (·.1)) := by
      have := congrArg Prod.fst hDk
      simpa using this
    obtain ⟨u0, u1, u2, u3, u4, u5, rfl⟩ : ∃ u0 u1 u2 u3 u4 u5, cs = [u0, u1, u2, u3, u4, u5] := by
      match cs, hlen with
      | [u0, u1, u2, u3, u4, u5], _ => exact ⟨_, _, _, _, _, _, rfl⟩
    obtain ⟨y0, y1, y2, y3, y4, y5, rfl⟩ : ∃ y0 y1 y2 y3 y4 y5, xs = [y0, y1, y2, y3, y4, y5] := by
      match xs, hxl with
      | [y0, y1, y2, y3, y4, y5], _ => exact ⟨_, _, _, _, _, _, rfl⟩
    have f2 := hf 2 _ rfl
    simp [cells28] at f2
    have hcc := hc 2 (by omega)
    simp only [Addr.add_mid] at hcc
    rw [hc2] at hcc
    simp at hcc
    subst hcc
    have hy : ∀ n ∈ (y2.1).weights Try.prog 28, n ≤ reachBytes := fun n hn => hmem n (by
      rw [hDk1]
      simp only [DataW.weights, Try.underlying31]
      exact DataW.weights_mem_each (j := 2) (t := 28) rfl rfl n hn)
    rcases open_ints Try.underlying28 Try.underlying5 (by kernel_rfl) f2 with ⟨hcs, _⟩ | ⟨x, l2, c2, zs, hcs, _, hl', hm', hz', hx2, hcell, hwz⟩
    · simp at hcs; omega
    · simp at hcs
      obtain ⟨rfl, rfl, rfl⟩ := hcs
      have hx3 : y2.1 = .slice (lits .u8 (zs.take l')) (lits .u8 (zs.drop l')) := by rw [hx2]
      have hlen : zs.length = c' := by simpa using hz'
      have := hy ((zs.length) * 1) (by
        rw [hx3]
        simp only [DataW.weights, Try.underlying28, bytes5, List.mem_cons]
        left
        simp [lits]
        omega)
      have hr : reachBytes = 140737488351232 := rfl
      omega

/-- A list of ops. -/
def ArgOpsT (w : World) (ad : Option Addr) (len : Nat) : Prop := ∀ k, k < len → ∃ lb lo x, ad = some ⟨lb, lo, none⟩ ∧ OpAt w lb (lo + k * 6) x ∧ x.bytes.length ≤ 140737488351232
theorem open_opsT {H : Type} {enc : TypeId × Value → H} {W : World} {ad : Option Addr} {len cap : Nat} {d : DataW H} {ps : List MemPlace}
    (h : DataW.Trod enc Try.prog W 0 (fun _ => true) true 22 (.slice ad len cap) d ps) (hw : ∀ n ∈ d.weights Try.prog 22, n ≤ reachBytes) : ArgOpsT W ad len := fun k hk => by
  obtain ⟨lb, lo, x, e, o⟩ := open_ops h k hk
  exact ⟨lb, lo, x, e, o, ops_tight h hw k hk lb lo e _ _ _ o.b⟩

end Go.Proofs.Ytdempopelalafaa.Dk
