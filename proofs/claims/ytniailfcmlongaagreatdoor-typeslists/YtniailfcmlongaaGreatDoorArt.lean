/- What arguments that are rows of rows of texts, and rows of numbers, are. -/
import Derived.Test.YtniailfcmlongaaGreatDoorArv
import Derived.Test.YtniailfcmlongaaGreatDoorTlp
import Derived.OpenShut
namespace Go.Proofs.YtniailfcmlongaaGreatDoor.Tr
open Go.RowKit Go.Deep

theorem bytesN : Tryz.prog.bytesOf 23 = 24 := by kernel_rfl
theorem bytes2 : Tryz.prog.bytesOf 2 = 8 := by kernel_rfl
/-- A row of rows of texts. -/
theorem open_texts {H : Type} {enc : TypeId × Value → H} {W : World} {fuel : Nat} {c : Value} {D : DataW H} {ps : List MemPlace}
    (h : DataW.trod enc Tryz.prog W 0 (fun _ => true) true fuel 43 [c] = some (D, ps)) (hw : ∀ n ∈ D.weights Tryz.prog 43, n ≤ reachBytes) :
    ∃ (T : List (List (List UInt8))) (ad : Option Addr) (cap : Nat), c = .slice ad T.length cap ∧ T.length ≤ lim ∧ Txs W ad T := by
  rcases open_slice1 Tryz.underlying43 cellsN h with ⟨hcs, _⟩ | ⟨a, l, cp, m, n, V, D', Pl, hcs, hb, hl, hm, hmm, hx, hall⟩
  · simp only [List.cons.injEq, and_true] at hcs
    subst hcs
    exact ⟨[], none, 0, rfl, by simp, fun h => absurd rfl h⟩
  · simp only [List.cons.injEq, and_true] at hcs
    subst hcs
    have hmc : m = cp := by simpa using hmm
    subst hmc
    have hd : D = .slice ((List.range l).map D') ((List.range (m - l)).map fun j => D' (l + j)) := congrArg Prod.fst hx
    have hw0 : m * 24 ≤ reachBytes := hw _ (by
      rw [hd]
      simp only [DataW.weights, Tryz.underlying43, bytesN, List.mem_cons, List.length_map, List.length_range]
      left; congr 1; omega)
    have hwe : ∀ i, i < l → ∀ q ∈ (D' i).weights Tryz.prog 23, q ≤ reachBytes := fun i hi q hq => hw q (by
      rw [hd]
      simp only [DataW.weights, Tryz.underlying43, List.mem_cons, List.mem_append]
      exact .inr (.inl (weightsAll_mem _ _ (D' i) q (List.mem_map.2 ⟨i, List.mem_range.2 hi, rfl⟩) hq)))
    have hr : reachBytes = 140737488351232 := rfl
    have hone : ∀ i, i < l → ∃ t : List (List UInt8), ∃ ai ci, W.cell? (a.add i) = some (.slice ai t.length ci) ∧ Strs W ai t ∧ t.length ≤ lim ∧ ∀ s ∈ t, s.length ≤ lim := by
      intro i hi
      obtain ⟨h1, h2⟩ := hall i (by omega)
      obtain ⟨ns, ad, cap, e, _, b2, b3, b4⟩ := open_names h2 (hwe i hi)
      rw [e] at h1
      exact ⟨ns, ad, cap, h1, b3, b2, b4⟩
    rcases Nat.eq_zero_or_pos l with h0 | hpos
    · subst h0
      exact ⟨[], some a, m, rfl, by simp, fun h => absurd rfl h⟩
    obtain ⟨bb, bo, sp⟩ := a
    have hsp : sp = none := by
      obtain ⟨_, _, _, g0, _⟩ := hone 0 hpos
      have := World.cell?_spot g0
      simpa [Addr.add] using this
    subst hsp
    obtain ⟨L, hL1, hL2⟩ := list_of _ l hone
    subst hL1
    refine ⟨L, _, m, rfl, by unfold lim; omega, fun _ => ⟨bb, bo, rfl, fun i hi => ?_⟩⟩
    obtain ⟨ai, ci, g1, g2, g3, g4⟩ := hL2 i hi
    rw [Addr.add_mid] at g1
    exact ⟨ai, ci, g1, g2, g3, g4⟩
/-- A row of numbers. -/
theorem open_nums {H : Type} {enc : TypeId × Value → H} {W : World} {fuel : Nat} {c : Value} {D : DataW H} {ps : List MemPlace}
    (h : DataW.trod enc Tryz.prog W 0 (fun _ => true) true fuel 44 [c] = some (D, ps)) (hw : ∀ n ∈ D.weights Tryz.prog 44, n ≤ reachBytes) :
    ∃ (O : List Int) (ad : Option Addr) (cap : Nat), c = .slice ad O.length cap ∧ O.length ≤ lim ∧ Ods W ad O := by
  rcases open_slice1 Tryz.underlying44 cells2 h with ⟨hcs, _⟩ | ⟨a, l, cp, m, n, V, D', Pl, hcs, hb, hl, hm, hmm, hx, hall⟩
  · simp only [List.cons.injEq, and_true] at hcs
    subst hcs
    exact ⟨[], none, 0, rfl, by simp, fun h => absurd rfl h⟩
  · simp only [List.cons.injEq, and_true] at hcs
    subst hcs
    have hmc : m = cp := by simpa using hmm
    subst hmc
    have hd : D = .slice ((List.range l).map D') ((List.range (m - l)).map fun j => D' (l + j)) := congrArg Prod.fst hx
    have hw0 : m * 8 ≤ reachBytes := hw _ (by
      rw [hd]
      simp only [DataW.weights, Tryz.underlying44, bytes2, List.mem_cons, List.length_map, List.length_range]
      left; congr 1; omega)
    have hr : reachBytes = 140737488351232 := rfl
    have hone : ∀ i, i < l → ∃ z : Int, W.cell? (a.add i) = some (.int .i64 z) ∧ I64 z := by
      intro i hi
      obtain ⟨h1, h2⟩ := hall i (by omega)
      obtain ⟨z, e, _, hz⟩ := DataW.trod_int Tryz.underlying2 h2
      simp only [List.cons.injEq, and_true] at e
      rw [e] at h1
      exact ⟨z, h1, bounds_i64 hz⟩
    rcases Nat.eq_zero_or_pos l with h0 | hpos
    · subst h0
      exact ⟨[], some a, m, rfl, by simp, fun h => absurd rfl h⟩
    obtain ⟨bb, bo, sp⟩ := a
    have hsp : sp = none := by
      obtain ⟨_, g0, _⟩ := hone 0 hpos
      have := World.cell?_spot g0
      simpa [Addr.add] using this
    subst hsp
    obtain ⟨L, hL1, hL2⟩ := list_of _ l hone
    subst hL1
    refine ⟨L, _, m, rfl, by unfold lim; omega, fun _ => ⟨bb, bo, rfl, fun i hi => ?_⟩⟩
    obtain ⟨g1, g2⟩ := hL2 i hi
    rw [Addr.add_mid] at g1
    exact ⟨g1, g2⟩
end Go.Proofs.YtniailfcmlongaaGreatDoor.Tr
