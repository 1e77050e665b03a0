/- Sorting and compacting rows of texts: plain facts, and the library's contracts in this place's words. -/
import Derived.Test.YtipppagkajcheaaGreatDoorSto
import Derived.Sort.OwnSorted
import Derived.Lib.OwnBridge
namespace Go.Proofs.YtipppagkajcheaaGreatDoor.Tr
open Go.RowKit

/-! ### Plain facts -/
def srt (R : List (List UInt8)) : List (List UInt8) := R.mergeSort fun x y => decide (x ≤ y)
theorem srt_length (R : List (List UInt8)) : (srt R).length = R.length := List.length_mergeSort ..
theorem srt_mem (R : List (List UInt8)) (x : List UInt8) : x ∈ srt R ↔ x ∈ R := List.mem_mergeSort
theorem le_of_not {x y : List UInt8} (h : ¬ y < x) : x ≤ y := h
theorem srt_sorted (R : List (List UInt8)) : (srt R).Pairwise (fun x y => ¬ y < x) := by
  have := List.pairwise_mergeSort (le := fun (x y : List UInt8) => decide (x ≤ y)) (fun a b c h1 h2 => by
    simp only [decide_eq_true_eq] at h1 h2 ⊢
    exact List.le_trans h1 h2) (fun a b => by
    simp only [Bool.or_eq_true, decide_eq_true_eq]
    exact List.le_total a b) R
  exact this.imp (fun h => by
    simp only [decide_eq_true_eq] at h
    exact h)
theorem comp_inv (d : Array (List UInt8)) (hs : ∀ i j, i < j → j < d.size → ¬ d[j]! < d[i]!) : ∀ m, m ≤ d.size → Rise (Lib.compactUpTo d m) ∧ ∀ x, x ∈ Lib.compactUpTo d m ↔ ∃ j, j < m ∧ d[j]! = x
  | 0, _ => ⟨List.Pairwise.nil, fun x => by simp [Lib.compactUpTo]⟩
  | m + 1, hm => by
    obtain ⟨h1, h2⟩ := comp_inv d hs m (by omega)
    rw [Lib.compactUpTo_succ]
    by_cases hk : Lib.keeps d m = true
    · rw [if_pos hk]
      refine ⟨?_, fun x => ?_⟩
      · unfold Rise at *
        rw [List.pairwise_append]
        refine ⟨h1, by simp, fun a ha b hb => ?_⟩
        simp at hb
        subst hb
        obtain ⟨j, hj, rfl⟩ := (h2 a).1 ha
        have hm0 : m ≠ 0 := by omega
        have hne : d[m]! ≠ d[m - 1]! := by
          have := hk
          simp only [Lib.keeps, decide_eq_true_eq] at this
          exact this.resolve_left hm0
        have l1 : d[m - 1]! < d[m]! := lt_tri _ _ (hs (m - 1) m (by omega) (by omega)) hne
        by_cases hjm : j = m - 1
        · rw [hjm]; exact l1
        · have l2 := hs j (m - 1) (by omega) (by omega)
          by_cases e : d[j]! = d[m - 1]!
          · rw [e]; exact l1
          · exact lt_tr (lt_tri _ _ l2 (fun h => e h.symm)) l1
      · rw [List.mem_append, h2]
        constructor
        · rintro (⟨j, hj, e⟩ | h)
          · exact ⟨j, by omega, e⟩
          · simp at h; exact ⟨m, by omega, h.symm⟩
        · rintro ⟨j, hj, e⟩
          rcases Nat.lt_or_ge j m with h | h
          · exact .inl ⟨j, h, e⟩
          · obtain rfl : j = m := by omega
            exact .inr (by simp [e])
    · rw [if_neg hk]
      have hk' : m ≠ 0 ∧ d[m]! = d[m - 1]! := by
        have := hk
        simp only [Lib.keeps, decide_eq_true_eq, not_or, Classical.not_not] at this
        exact this
      refine ⟨by simpa using h1, fun x => ?_⟩
      rw [List.append_nil, h2]
      constructor
      · rintro ⟨j, hj, e⟩; exact ⟨j, by omega, e⟩
      · rintro ⟨j, hj, e⟩
        rcases Nat.lt_or_ge j m with h | h
        · exact ⟨j, h, e⟩
        · obtain rfl : j = m := by omega
          exact ⟨j - 1, by omega, by rw [← hk'.2]; exact e⟩
theorem comp_spec (R : List (List UInt8)) (h : R.Pairwise (fun x y => ¬ y < x)) : Rise (Lib.compact R) ∧ ∀ x, x ∈ Lib.compact R ↔ x ∈ R := by
  obtain ⟨h1, h2⟩ := comp_inv R.toArray (fun i j hij hj => by
    have hj' : j < R.length := by simpa using hj
    have := (List.pairwise_iff_getElem.1 h) i j (by omega) hj' hij
    simpa [getElem!_pos, hj', show i < R.length by omega] using this) R.length (by simp)
  refine ⟨h1, fun x => ?_⟩
  unfold Lib.compact
  rw [h2]
  constructor
  · rintro ⟨j, hj, rfl⟩
    have : R.toArray[j]! = R[j] := by simp [getElem!_pos, hj]
    rw [this]; exact List.getElem_mem _
  · intro hx
    obtain ⟨j, hj, rfl⟩ := List.getElem_of_mem hx
    exact ⟨j, hj, by simp [getElem!_pos, hj]⟩

/-- All that is told, in the order in which it is met. -/
def rawD (d : List UInt8) : Nat → List (List UInt8)
  | 0 => []
  | k + 1 => if refAt (d.drop k) = [] then rawD d k else rawD d k ++ [refAt (d.drop k)]
def rawL (L : List Ent) : List (List UInt8) := L.flatMap fun x => rawD x.data x.data.length
theorem rawD_mem (d x : List UInt8) : ∀ k, x ∈ rawD d k ↔ ∃ j, j < k ∧ x = refAt (d.drop j) ∧ x ≠ []
  | 0 => by simp [rawD]
  | k + 1 => by
    unfold rawD
    have ih := rawD_mem d x k
    split
    · rename_i he
      rw [ih]
      constructor
      · rintro ⟨j, h1, h2⟩; exact ⟨j, by omega, h2⟩
      · rintro ⟨j, h1, h2, h3⟩
        rcases Nat.lt_or_ge j k with hj | hj
        · exact ⟨j, hj, h2, h3⟩
        · obtain rfl : j = k := by omega
          exact absurd (h2.trans he) h3
    · rename_i he
      rw [List.mem_append, ih]
      constructor
      · rintro (⟨j, h1, h2⟩ | h)
        · exact ⟨j, by omega, h2⟩
        · simp at h; exact ⟨k, by omega, h, by rw [h]; exact he⟩
      · rintro ⟨j, h1, h2, h3⟩
        rcases Nat.lt_or_ge j k with hj | hj
        · exact .inl ⟨j, hj, h2, h3⟩
        · obtain rfl : j = k := by omega
          exact .inr (by simp [h2])
theorem rawD_len (d : List UInt8) : ∀ k, (rawD d k).length ≤ k
  | 0 => by simp [rawD]
  | k + 1 => by
    have := rawD_len d k
    unfold rawD
    split
    · omega
    · simp; omega
theorem rawL_take (L : List Ent) (i : Nat) (h : i < L.length) : rawL (L.take (i + 1)) = rawL (L.take i) ++ rawD L[i].data L[i].data.length := by
  unfold rawL
  rw [List.take_succ_eq_append_getElem h, List.flatMap_append]; simp
/-- How many bytes there are in all. -/
def bulkD (L : List Ent) : Nat := (L.map (·.data.length)).sum
theorem bulkD_take (L : List Ent) (i : Nat) (h : i < L.length) : bulkD (L.take (i + 1)) = bulkD (L.take i) + L[i].data.length := by
  unfold bulkD
  rw [List.take_succ_eq_append_getElem h, List.map_append, List.sum_append]; simp
theorem bulkD_le (L : List Ent) (i : Nat) : bulkD (L.take i) ≤ bulkD L := by
  have : bulkD L = bulkD (L.take i) + bulkD (L.drop i) := by
    unfold bulkD
    rw [← List.sum_append, ← List.map_append, List.take_append_drop]
  omega
theorem rawL_len (L : List Ent) : (rawL L).length ≤ bulkD L := by
  unfold rawL bulkD
  induction L with
  | nil => simp
  | cons x r ih =>
    have := rawD_len x.data x.data.length
    simp only [List.flatMap_cons, List.length_append, List.map_cons, List.sum_cons]
    omega
theorem refs_eq (L : List Ent) : Lib.compact (srt (rawL L)) = refsB L := by
  obtain ⟨h1, h2⟩ := comp_spec (srt (rawL L)) (srt_sorted _)
  obtain ⟨h3, h4⟩ := refsB_spec L
  refine rise_one _ _ h1 h3 (fun x => ?_)
  rw [h2, srt_mem, h4]
  unfold rawL
  rw [List.mem_flatMap]
  constructor
  · rintro ⟨y, hy, hx⟩
    obtain ⟨j, _, e, hne⟩ := (rawD_mem _ _ _).1 hx
    exact ⟨y, hy, j, e, hne⟩
  · rintro ⟨y, hy, j, e, hne⟩
    refine ⟨y, hy, (rawD_mem _ _ _).2 ⟨j, ?_, e, hne⟩⟩
    rcases Nat.lt_or_ge j y.data.length with h | h
    · exact h
    · exact absurd (e.trans (refAt_short _ (by simp; omega))) hne

/-! ### The library's contracts -/
theorem sort_own (W : World) (base : Nat) (v : Value) (R : List (List UInt8)) (h : W.ownsRow base 9 1 v R.length (strs R)) (hb : R.length < 4611686018427387904) :
    Calls Tryz.prog 23 #[v] W fun e W' => e = .returned (.tuple #[]) ∧ W'.ownsRow base 9 1 v R.length (strs (srt R)) ∧ W.grownBy W' v.ownBlock := by
  rcases h.2 with ⟨rfl, h0⟩ | ⟨g, cap, cur, rfl, hbase, hg, hn, hm, hs, ht⟩
  · refine (Tryz.slices_Sort_string_none none 0 W).mono (fun e W' hh => ?_)
    obtain ⟨h1, rfl⟩ := hh
    obtain rfl : R = [] := List.eq_nil_of_length_eq_zero h0
    have e0 : srt [] = [] := List.eq_nil_of_length_eq_zero (srt_length [])
    exact ⟨h1, by rw [e0]; exact h, ⟨rfl, rfl, rfl, Nat.le_refl _, fun _ _ _ => rfl⟩⟩
  · have hlt : g < W.heap.size := by
      rcases Nat.lt_or_ge g W.heap.size with h | h
      · exact h
      · rw [Array.getElem?_eq_none h] at hg; cases hg
    rw [Nat.mul_one] at ht
    refine (Tryz.slices_Sort_string g 0 cap R W (holds_of_block hg ht) hlt hb).mono (fun e W' hh => ?_)
    obtain ⟨h1, n, os, rfl⟩ := hh
    exact ⟨h1, ownsRow_sorted (srt_length R) hbase hg hn hm hs, grownBy_sorted _⟩
theorem comp_own (W : World) (base : Nat) (v : Value) (R : List (List UInt8)) (h : W.ownsRow base 9 1 v R.length (strs R)) (hb : R.length < 4611686018427387904) :
    Calls Tryz.prog 24 #[v] W fun e W' => ∃ v', e = .returned v' ∧ W'.ownsRow base 9 1 v' (Lib.compact R).length (strs (Lib.compact R)) ∧ W.grownBy W' v.ownBlock := by
  rcases h.2 with ⟨rfl, h0⟩ | ⟨g, cap, cur, rfl, hbase, hg, hn, hm, hs, ht⟩
  · refine (Tryz.slices_Compact_string_empty none 0 W).mono (fun e W' hh => ?_)
    obtain ⟨h1, rfl⟩ := hh
    obtain rfl : R = [] := List.eq_nil_of_length_eq_zero h0
    exact ⟨_, h1, World.ownsRow_nil _ _ _ _, ⟨rfl, rfl, rfl, Nat.le_refl _, fun _ _ _ => rfl⟩⟩
  · rw [Nat.mul_one] at ht
    have hl := Lib.compact_length_le R
    refine (Tryz.slices_Compact_string g 0 cap R W (holds_of_block hg ht) (by omega) hn).mono (fun e W' hh => ?_)
    obtain ⟨h1, q, rfl⟩ := hh
    have ho := Lib.ownsRow_putRow (enc := encStr) (w := W) (base := base) (e := 9) (g := g) (n := R.length) (cap := cap) (q := q) (k := (Lib.compact R).length) (zs := R) (ys := Lib.compact R ++ List.replicate (R.length - (Lib.compact R).length) []) h (by simp; omega) hl
    rw [List.take_left] at ho
    have hbl := Lib.below_putRow (enc := encStr) (q := q) (d := (Lib.compact R ++ List.replicate (R.length - (Lib.compact R).length) []).toArray) (Below.refl g W) (Nat.le_refl g)
    refine ⟨_, h1, ho, ⟨hbl.os, hbl.tape, hbl.output, hbl.size, fun k hk hne => ?_⟩⟩
    have hkg : g ≠ k := fun e => hne (by rw [e]; rfl)
    simp [Sort.putRow, Sort.mapBlock, Sort.ahead, Array.getElem?_modify, hkg]

end Go.Proofs.YtipppagkajcheaaGreatDoor.Tr
