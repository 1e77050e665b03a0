/- The two abstract disks go together. Nothing here speaks of the Go text. -/
import Derived.Test.YtdempopelalafaaRef6
import Derived.Test.YtdempopelalafaaModel
namespace Go.Proofs.Ytdempopelalafaa.Dk
open Go.RowKit

def loose (q : Nat × List UInt8) : RW := ⟨q.1, q.2, false⟩
def lost (q : Nat × List UInt8) : RW := ⟨q.1, q.2, true⟩
def AllSafe (S : List RW) : Prop := ∀ x ∈ S, x.s = true

theorem sec_splice (L : List UInt8) (n a i : Nat) (b : List UInt8) (hL : L.length = n * 128) (ha : a < n) (hi : i < n) (hb : b.length = 128) : sec (splice L (a * 128) b) i = if a = i then b else sec L i := by
  unfold sec splice
  by_cases h : a = i
  · subst h
    rw [if_pos rfl, List.drop_append_of_le_length (by rw [List.length_take]; omega)]
    rw [show List.drop (a * 128) (List.take (a * 128) L) = [] from List.drop_eq_nil_of_le (by rw [List.length_take]; omega)]
    rw [List.nil_append, List.take_append_of_le_length (by omega), List.take_of_length_le (by omega)]
  · rw [if_neg h]
    rcases Nat.lt_or_gt_of_ne h with h1 | h1
    · have e1 : (List.take (a * 128) L).length = a * 128 := by rw [List.length_take]; omega
      rw [List.drop_append, e1, List.drop_eq_nil_of_le (by omega), List.nil_append, List.drop_append, hb, List.drop_eq_nil_of_le (by omega), List.nil_append, List.drop_drop]
      rw [show a * 128 + 128 + (i * 128 - a * 128 - 128) = i * 128 by omega]
    · have e1 : (List.take (a * 128) L).length = a * 128 := by rw [List.length_take]; omega
      rw [List.drop_append_of_le_length (by omega), List.take_append_of_le_length (by rw [List.length_drop]; omega), List.drop_take, List.take_take]
      rw [Nat.min_eq_left (by omega)]

/-! ### What a loss of power leaves -/
theorem cnt_safe (S T : List RW) (hS : AllSafe S) : ∀ k, k ≤ S.length → cntU (S ++ T) k = 0
  | 0, _ => rfl
  | k + 1, h => by
    have hk : (S ++ T)[k]? = some S[k] := by rw [List.getElem?_append_left (by omega), List.getElem?_eq_getElem (by omega)]
    rw [cntU_succ _ _ _ hk, if_pos (hS _ (List.getElem_mem _)), cnt_safe S T hS k (by omega)]
theorem cnt_loose (S : List RW) (hS : AllSafe S) (Q : List (Nat × List UInt8)) : ∀ j, j ≤ Q.length → cntU (S ++ Q.map loose) (S.length + j) = j
  | 0, _ => cnt_safe S _ hS _ (Nat.le_refl _)
  | j + 1, h => by
    have hk : (S ++ Q.map loose)[S.length + j]? = some (loose Q[j]) := by
      rw [List.getElem?_append_right (by omega), Nat.add_sub_cancel_left, List.getElem?_map, List.getElem?_eq_getElem (by omega)]; rfl
    rw [← Nat.add_assoc, cntU_succ _ _ _ hk, cnt_loose S hS Q j (by omega)]
    rfl
/-- Of the first j loose writes those that stay. -/
def keptTo (keep : Nat) (Q : List (Nat × List UInt8)) : Nat → List RW
  | 0 => []
  | j + 1 => match Q[j]? with
    | some q => if keep.testBit (j % 64) then keptTo keep Q j ++ [lost q] else keptTo keep Q j
    | none => keptTo keep Q j
theorem keptTo_succ (keep : Nat) (Q : List (Nat × List UInt8)) (j : Nat) (q : Nat × List UInt8) (h : Q[j]? = some q) : keptTo keep Q (j + 1) = if keep.testBit (j % 64) then keptTo keep Q j ++ [lost q] else keptTo keep Q j := by simp only [keptTo, h]
theorem keptTo_safe (keep : Nat) (Q : List (Nat × List UInt8)) : ∀ j, AllSafe (keptTo keep Q j)
  | 0 => fun x hx => by cases hx
  | j + 1 => by
    have ih := keptTo_safe keep Q j
    unfold keptTo
    split
    · split
      · intro x hx
        rcases List.mem_append.1 hx with h | h
        · exact ih x h
        · simp only [List.mem_singleton] at h; subst h; rfl
      · exact ih
    · exact ih
theorem st_safe (keep : Nat) (S T : List RW) (hS : AllSafe S) : ∀ k, k ≤ S.length → stTo keep (S ++ T) k = S.take k
  | 0, _ => by simp [stTo]
  | k + 1, h => by
    have hk : (S ++ T)[k]? = some S[k] := by rw [List.getElem?_append_left (by omega), List.getElem?_eq_getElem (by omega)]
    rw [stTo_succ _ _ _ _ hk, if_pos (hS _ (List.getElem_mem _)), st_safe keep S T hS k (by omega), List.take_succ_eq_append_getElem (by omega)]
theorem st_loose (keep : Nat) (S : List RW) (hS : AllSafe S) (Q : List (Nat × List UInt8)) : ∀ j, j ≤ Q.length → stTo keep (S ++ Q.map loose) (S.length + j) = S ++ keptTo keep Q j
  | 0, _ => by rw [Nat.add_zero, st_safe keep S _ hS _ (Nat.le_refl _), List.take_length]; simp [keptTo]
  | j + 1, h => by
    have hq : Q[j]? = some Q[j] := List.getElem?_eq_getElem (by omega)
    have hk : (S ++ Q.map loose)[S.length + j]? = some (loose Q[j]) := by
      rw [List.getElem?_append_right (by omega), Nat.add_sub_cancel_left, List.getElem?_map, hq]; rfl
    rw [← Nat.add_assoc, stTo_succ _ _ _ _ hk, st_loose keep S hS Q j (by omega), cnt_loose S hS Q j (by omega), keptTo_succ keep Q j _ hq]
    split
    · rename_i h'; cases h'
    · split
      · rw [List.append_assoc]; rfl
      · rfl
theorem settle_sec (keep : Nat) (S : List RW) (Q : List (Nat × List UInt8)) (L : List UInt8) (n : Nat) (hL : L.length = n * 128) (hQ : ∀ x ∈ Q, x.1 < n ∧ x.2.length = 128) (hs : ∀ i, i < n → sec L i = lastOf S i) :
    ∀ j, j ≤ Q.length → ∀ i, i < n → sec (settleTo keep Q L j) i = lastOf (S ++ keptTo keep Q j) i
  | 0, _, i, hi => by rw [settleTo, keptTo, List.append_nil]; exact hs i hi
  | j + 1, h, i, hi => by
    have hq : Q[j]? = some Q[j] := List.getElem?_eq_getElem (by omega)
    have ih := settle_sec keep S Q L n hL hQ hs j (by omega) i hi
    have hm := hQ _ (List.getElem_mem (show j < Q.length by omega))
    rw [settleTo_succ keep Q L j _ hq, keptTo_succ keep Q j _ hq]
    unfold settle1
    split
    · rw [sec_splice _ n _ i _ (settleTo_length keep Q L n hL hQ j) hm.1 hi hm.2, ← List.append_assoc, lastOf_snoc, ih]
      rfl
    · exact ih
theorem lastOf_map (f : Nat × List UInt8 → RW) (g : Nat × List UInt8 → RW) (hf : ∀ q, (f q).a = (g q).a ∧ (f q).b = (g q).b) (S : List RW) (i : Nat) (Q : List (Nat × List UInt8)) : lastOf (S ++ Q.map f) i = lastOf (S ++ Q.map g) i := by
  unfold lastOf
  rw [List.foldl_append, List.foldl_append]
  generalize List.foldl _ zeros S = acc
  induction Q generalizing acc with
  | nil => rfl
  | cons q r ih =>
    simp only [List.map_cons, List.foldl_cons, (hf q).1, (hf q).2]
    exact ih _
theorem kept_ones (Q : List (Nat × List UInt8)) : ∀ j, j ≤ Q.length → keptTo ones Q j = (Q.take j).map lost
  | 0, _ => by simp [keptTo]
  | j + 1, h => by
    have hq : Q[j]? = some Q[j] := List.getElem?_eq_getElem (by omega)
    rw [keptTo_succ _ _ _ _ hq, if_pos (ones_bit j), kept_ones Q j (by omega), List.take_succ_eq_append_getElem (by omega), List.map_append]
    rfl

/-! ### What a flush leaves -/
theorem again_iff (ws : List RW) (a i : Nat) : ∀ k, againTo ws a i k = true ↔ ∃ j y, i < j ∧ j < k ∧ ws[j]? = some y ∧ y.a = a
  | 0 => by simp [againTo]
  | k + 1 => by
    have ih := again_iff ws a i k
    unfold againTo
    split
    · rename_i hk
      simp only [Bool.false_eq_true, false_iff]
      rintro ⟨j, y, h1, h2, _⟩
      omega
    · rename_i hk
      rw [Bool.or_eq_true, ih]
      constructor
      · rintro (⟨j, y, h1, h2, h3⟩ | h)
        · exact ⟨j, y, h1, by omega, h3⟩
        · split at h
          · rename_i y hy
            exact ⟨k, y, by omega, by omega, hy, of_decide_eq_true h⟩
          · cases h
      · rintro ⟨j, y, h1, h2, h3, h4⟩
        by_cases hj : j = k
        · subst hj
          right
          rw [h3]
          simp [h4]
        · exact .inl ⟨j, y, h1, by omega, h3, h4⟩
theorem lasts_safe (ws : List RW) : ∀ k, AllSafe (lastsTo ws k)
  | 0 => fun x hx => by cases hx
  | k + 1 => by
    have ih := lasts_safe ws k
    unfold lastsTo
    split
    · split
      · exact ih
      · intro x hx
        rcases List.mem_append.1 hx with h | h
        · exact ih x h
        · simp only [List.mem_singleton] at h; subst h; rfl
    · exact ih
theorem lasts_of (ws : List RW) (i : Nat) : ∀ k, k ≤ ws.length →
    ((∃ j y, k ≤ j ∧ ws[j]? = some y ∧ y.a = i) → lastOf (lastsTo ws k) i = zeros) ∧ ((¬ ∃ j y, k ≤ j ∧ ws[j]? = some y ∧ y.a = i) → lastOf (lastsTo ws k) i = lastOf (ws.take k) i)
  | 0, _ => ⟨fun _ => by simp [lastsTo, lastOf], fun _ => by simp [lastsTo, lastOf]⟩
  | k + 1, h => by
    have ih := lasts_of ws i k (by omega)
    have hx : ws[k]? = some ws[k] := List.getElem?_eq_getElem (by omega)
    have ht : ws.take (k + 1) = ws.take k ++ [ws[k]] := List.take_succ_eq_append_getElem (by omega)
    have hag := again_iff ws (ws[k]).a k ws.length
    rw [lastsTo_succ ws k _ hx, ht, lastOf_snoc]
    by_cases ha : (ws[k]).a = i
    · refine ⟨fun hj => ?_, fun hj => ?_⟩
      · obtain ⟨j, y, h1, h2, h3⟩ := hj
        rw [if_pos (hag.2 ⟨j, y, by omega, (List.getElem?_eq_some_iff.1 h2).1, h2, by rw [h3, ha]⟩)]
        exact ih.1 ⟨j, y, by omega, h2, h3⟩
      · rw [if_pos ha, if_neg (fun hc => by
          obtain ⟨j, y, h1, _, h3, h4⟩ := hag.1 hc
          exact hj ⟨j, y, by omega, h3, by rw [h4, ha]⟩), lastOf_snoc]
        simp [ha]
    · have e : lastOf (if againTo ws (ws[k]).a k ws.length = true then lastsTo ws k else lastsTo ws k ++ [{ ws[k] with s := true }]) i = lastOf (lastsTo ws k) i := by
        split
        · rfl
        · rw [lastOf_snoc, if_neg ha]
      rw [e]
      refine ⟨fun hj => ?_, fun hj => ?_⟩
      · obtain ⟨j, y, h1, h2, h3⟩ := hj
        exact ih.1 ⟨j, y, by omega, h2, h3⟩
      · rw [if_neg ha]
        refine ih.2 (fun hc => ?_)
        obtain ⟨j, y, h1, h2, h3⟩ := hc
        by_cases hjk : j = k
        · subst hjk
          rw [hx] at h2
          exact ha (by rw [Option.some.inj h2]; exact h3)
        · exact hj ⟨j, y, by omega, h2, h3⟩
theorem lasts_all (ws : List RW) (i : Nat) : lastOf (lastsTo ws ws.length) i = lastOf ws i := by
  have h := (lasts_of ws i ws.length (Nat.le_refl _)).2 (by
    rintro ⟨j, y, h1, h2, _⟩
    have := (List.getElem?_eq_some_iff.1 h2).1
    omega)
  rwa [List.take_length] at h

end Go.Proofs.Ytdempopelalafaa.Dk
