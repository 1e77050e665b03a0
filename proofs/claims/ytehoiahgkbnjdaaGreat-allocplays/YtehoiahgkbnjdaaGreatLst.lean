
/- What a list of homes says: the plain side of homesOf. -/
import Derived.Test.YtehoiahgkbnjdaaGreatRow
namespace Go.Proofs.YtehoiahgkbnjdaaGreat.Wl
open Go.RowKit Dk

theorem fld_at (A v B : Sec) (o n : Nat) (ho : A.length = o) (hn : v.length = n) : fld (A ++ v ++ B) o n = num v := by
  subst ho hn
  simp [fld, List.append_assoc]
/-- The homes that a sector tells, as a list. -/
def homesIn (s : Sec) : List Nat := (List.range (fld s 0 2)).map fun k => fld s (2 + 2 * k) 2
theorem homesIn_length (s : Sec) : (homesIn s).length = fld s 0 2 := by simp [homesIn]
theorem homesIn_lt (s : Sec) : ∀ k ∈ homesIn s, k < 65536 := fun k hk => by
  obtain ⟨j, _, rfl⟩ := List.mem_map.1 hk
  exact fld_lt s (2 + 2 * j) 2
theorem homesIn_get (s : Sec) (k : Nat) (h : k < (homesIn s).length) : (homesIn s)[k] = fld s (2 + 2 * k) 2 := by simp [homesIn]
theorem homesIn_take (s : Sec) (k : Nat) (h : k < (homesIn s).length) : (homesIn s).take (k + 1) = (homesIn s).take k ++ [fld s (2 + 2 * k) 2] := by
  rw [List.take_succ_eq_append_getElem h, homesIn_get]

/-- Each is above the one ahead of it. -/
def risen : List Nat → Bool
  | a :: b :: r => decide (a < b) && risen (b :: r)
  | _ => true
theorem risen_snoc (l : List Nat) (a b : Nat) : risen (l ++ [a, b]) = (risen (l ++ [a]) && decide (a < b)) := by
  induction l with
  | nil => simp [risen]
  | cons x r ih =>
    cases r with
    | nil => simp [risen]
    | cons y r =>
      simp only [List.cons_append, risen] at ih ⊢
      rw [ih, Bool.and_assoc]
theorem risen_take_false (l : List Nat) (k : Nat) (h : risen (l.take k) = false) : risen l = false := by
  induction l generalizing k with
  | nil => simpa using h
  | cons x r ih =>
    cases k with
    | zero => simp [risen] at h
    | succ k =>
      cases r with
      | nil => simpa using h
      | cons y r =>
        cases k with
        | zero => simp [risen] at h
        | succ k =>
          simp only [List.take_succ_cons, risen] at h ⊢
          rcases Bool.and_eq_false_iff.1 h with h | h
          · rw [h]; rfl
          · rw [ih (k + 1) (by simpa using h), Bool.and_false]
theorem risen_of_pairwise (l : List Nat) (h : l.Pairwise (· < ·)) : risen l = true := by
  induction l with
  | nil => rfl
  | cons x r ih =>
    cases r with
    | nil => rfl
    | cons y r =>
      rw [List.pairwise_cons] at h
      simp only [risen, Bool.and_eq_true, decide_eq_true_eq]
      exact ⟨h.1 y (by simp), ih h.2⟩

/-- s is a list of homes. -/
def isLst (s : Sec) : Bool := decide (1 ≤ fld s 0 2) && decide (fld s 0 2 ≤ 60) && risen (homesIn s) && (lst (homesIn s) == s)

theorem homesB_at (ks : List Nat) (k : Nat) (h : k < ks.length) : homesB ks = homesB (ks.take k) ++ le 2 ks[k] ++ homesB (ks.drop (k + 1)) := by
  have e : ks = ks.take k ++ (ks[k] :: ks.drop (k + 1)) := by rw [← List.drop_eq_getElem_cons h, List.take_append_drop]
  have e2 : homesB ks = homesB (ks.take k ++ (ks[k] :: ks.drop (k + 1))) := by rw [← e]
  rw [e2, homesB, List.map_append, List.map_cons, List.flatten_append, List.flatten_cons, List.append_assoc]
  rfl
theorem lst_count (ks : List Nat) (h : ks.length ≤ 60) : fld (lst ks) 0 2 = ks.length := by
  have e : lst ks = [] ++ le 2 ks.length ++ (homesB ks ++ List.replicate (128 - (le 2 ks.length ++ homesB ks).length) 0) := by simp [lst, pad]
  rw [e, fld_at [] _ _ 0 2 rfl (le_length _ _), num_le _ _ (by simp; omega)]
theorem lst_home (ks : List Nat) (k : Nat) (hk : k < ks.length) (hlt : ks[k] < 65536) : fld (lst ks) (2 + 2 * k) 2 = ks[k] := by
  have e : lst ks = (le 2 ks.length ++ homesB (ks.take k)) ++ le 2 ks[k] ++ (homesB (ks.drop (k + 1)) ++ List.replicate (128 - (le 2 ks.length ++ homesB ks).length) 0) := by
    unfold lst pad
    generalize 128 - (le 2 ks.length ++ homesB ks).length = q
    rw [homesB_at ks k hk]
    simp only [List.append_assoc]
  rw [e, fld_at _ _ _ (2 + 2 * k) 2 (by rw [List.length_append, le_length, homesB_length, List.length_take]; omega) (le_length _ _), num_le _ _ (by simpa using hlt)]
theorem homesIn_lst (ks : List Nat) (h : ks.length ≤ 60) (hlt : ∀ k ∈ ks, k < 65536) : homesIn (lst ks) = ks := by
  apply List.ext_getElem
  · rw [homesIn_length, lst_count ks h]
  · intro k h1 h2
    rw [homesIn_get, lst_home ks k h2 (hlt _ (List.getElem_mem h2))]
theorem isLst_lst (ks : List Nat) (h0 : ks ≠ []) (h : ks.length ≤ 60) (hlt : ∀ k ∈ ks, k < 65536) (hr : ks.Pairwise (· < ·)) : isLst (lst ks) = true := by
  have hl := List.length_pos_iff.2 h0
  simp only [isLst, lst_count ks h, homesIn_lst ks h hlt, risen_of_pairwise ks hr, Bool.and_eq_true, decide_eq_true_eq, beq_self_eq_true, and_true]
  omega

end Go.Proofs.YtehoiahgkbnjdaaGreat.Wl
