/- Plain facts of names, paths, trees and their bytes. Nothing here speaks of the Go text. -/
import Derived.WalkKit
namespace Go.Proofs.Ytangnoicnogddaa.Tr

/-! ### Names and paths -/
def lets : List UInt8 := [97, 98, 99, 100, 101, 102, 103, 104, 105, 106, 107, 108, 109, 110, 111, 112, 113, 114, 115, 116, 117, 118, 119, 120, 121, 122, 65, 66, 67, 68, 69, 70, 71, 72, 73, 74, 75, 76, 77, 78, 79, 80, 81, 82, 83, 84, 85, 86, 87, 88, 89, 90, 48, 49, 50, 51, 52, 53, 54, 55, 56, 57, 46, 95, 45, 43]
theorem lets_length : lets.length = 66 := rfl
def mayB (c : UInt8) : Bool := lets.any (· == c)
def nameB (s : List UInt8) : Bool := decide (1 ≤ s.length) && decide (s.length ≤ 36) && !(s == [46]) && !(s == [46, 46]) && s.all mayB

theorem any_take_succ {α : Type} (p : α → Bool) (l : List α) (k : Nat) (h : k < l.length) : (l.take (k + 1)).any p = ((l.take k).any p || p l[k]) := by
  rw [List.take_succ_eq_append_getElem h, List.any_append]; simp
theorem all_take_succ {α : Type} (p : α → Bool) (l : List α) (k : Nat) (h : k < l.length) : (l.take (k + 1)).all p = ((l.take k).all p && p l[k]) := by
  rw [List.take_succ_eq_append_getElem h, List.all_append]; simp
theorem all_false_of {α : Type} (p : α → Bool) (l : List α) (k : Nat) (h : k < l.length) (e : p l[k] = false) : l.all p = false := by
  rw [List.all_eq_false]; exact ⟨l[k], List.getElem_mem _, by simp [e]⟩

/-- The bytes from a up to b. -/
def sub (s : List UInt8) (a b : Nat) : List UInt8 := (s.take b).drop a
theorem sub_length (s : List UInt8) (a b : Nat) (hb : b ≤ s.length) : (sub s a b).length = b - a := by simp [sub]; omega
theorem sub_self (s : List UInt8) (a : Nat) : sub s a a = [] := by
  unfold sub; exact List.drop_eq_nil_of_le (by simp; omega)
theorem sub_snoc (s : List UInt8) (a b : Nat) (h : a ≤ b) (hb : b < s.length) : sub s a (b + 1) = sub s a b ++ [s[b]] := by
  unfold sub
  rw [List.take_succ_eq_append_getElem hb, List.drop_append_of_le_length (by simp; omega)]
theorem sub_all (s : List UInt8) (a : Nat) : sub s a s.length = s.drop a := by simp [sub]
theorem ext_sub (s : List UInt8) (a b : Nat) : (ByteArray.mk s.toArray).extract a b = ⟨(sub s a b).toArray⟩ := by
  apply ByteArray.ext
  simp [sub, ByteArray.data_extract, List.extract_eq_take_drop, List.drop_take]

/-- What stands ahead of, between and behind the slashes. -/
def cutS : List UInt8 → List UInt8 → List (List UInt8)
  | cur, [] => [cur]
  | cur, c :: r => if c = 47 then cur :: cutS [] r else cutS (cur ++ [c]) r
theorem cutS_slash (cur s : List UInt8) (i : Nat) (h : i < s.length) (e : s[i] = 47) : cutS cur (s.drop i) = cur :: cutS [] (s.drop (i + 1)) := by
  rw [List.drop_eq_getElem_cons h, cutS, if_pos e]
theorem cutS_other (cur s : List UInt8) (i : Nat) (h : i < s.length) (e : s[i] ≠ 47) : cutS cur (s.drop i) = cutS (cur ++ [s[i]]) (s.drop (i + 1)) := by
  rw [List.drop_eq_getElem_cons h, cutS, if_neg e]
theorem cutS_end (cur s : List UInt8) (i : Nat) (h : s.length ≤ i) : cutS cur (s.drop i) = [cur] := by
  rw [List.drop_eq_nil_of_le h, cutS]
theorem cutS_ne (cur s : List UInt8) : cutS cur s ≠ [] := by
  induction s generalizing cur with
  | nil => simp [cutS]
  | cons c r ih => unfold cutS; split <;> simp [ih]

/-- A path's names, and whether it is one (the document's Path). -/
def pathN (s : List UInt8) : List (List UInt8) × Bool :=
  if s = [47] then ([], true)
  else if s.length = 0 ∨ 200 < s.length ∨ s.head? ≠ some 47 then ([], false)
  else if (cutS [] (s.drop 1)).all nameB then (cutS [] (s.drop 1), decide ((cutS [] (s.drop 1)).length ≤ 16)) else ([], false)

/-! ### Entries -/
structure Ent where
  path : List UInt8
  kind : Int
  data : List UInt8
deriving DecidableEq

def oneB (x : Ent) : Bool :=
  decide (x.path.length ≤ 120) && decide (x.data.length ≤ 2048) && (pathN (47 :: x.path)).2 && decide (1 ≤ (pathN (47 :: x.path)).1.length) && decide ((pathN (47 :: x.path)).1.length ≤ 4) && (if x.kind = 3 then (pathN x.data).2 else decide (x.kind = 1))

theorem path_bound (x : Ent) (h : oneB x = true) : x.path.length ≤ 120 ∧ x.data.length ≤ 2048 ∧ (x.kind = 1 ∨ x.kind = 3) := by
  unfold oneB at h
  simp only [Bool.and_eq_true, decide_eq_true_eq] at h
  refine ⟨h.1.1.1.1.1, h.1.1.1.1.2, ?_⟩
  have := h.2
  split at this
  · exact .inr (by assumption)
  · exact .inl (by simpa using this)

/-- May a path stand ahead of another one? -/
def clash (a b : List UInt8) : Bool := !(Op.bytesLess a b) || (decide (a.length < b.length) && (b.take (a.length + 1) == a ++ [47]))
def rightR : List Ent → List Ent → Bool
  | _, [] => true
  | pre, x :: r => oneB x && pre.all (fun y => !clash y.path x.path) && rightR (pre ++ [x]) r
def rightB (l : List Ent) : Bool := decide (l.length ≤ 24) && rightR [] l
theorem rightR_step (l : List Ent) (i : Nat) (h : i < l.length) : rightR (l.take i) (l.drop i) = (oneB l[i] && (l.take i).all (fun y => !clash y.path l[i].path) && rightR (l.take (i + 1)) (l.drop (i + 1))) := by
  rw [List.drop_eq_getElem_cons h, rightR, List.take_succ_eq_append_getElem h]
theorem rightR_end (l : List Ent) (i : Nat) (h : l.length ≤ i) : rightR (l.take i) (l.drop i) = true := by
  rw [List.drop_eq_nil_of_le h, rightR]
theorem rightR_one (pre l : List Ent) (h : rightR pre l = true) : ∀ x ∈ l, oneB x = true := by
  induction l generalizing pre with
  | nil => simp
  | cons y r ih =>
    simp only [rightR, Bool.and_eq_true] at h
    intro x hx
    rcases List.mem_cons.1 hx with rfl | hx
    · exact h.1.1
    · exact ih _ h.2 x hx
theorem right_one (l : List Ent) (h : rightB l = true) : l.length ≤ 24 ∧ ∀ x ∈ l, oneB x = true := by
  simp only [rightB, Bool.and_eq_true, decide_eq_true_eq] at h
  exact ⟨h.1, rightR_one [] l h.2⟩

/-! ### Digits -/
def decL (n : Nat) : List UInt8 := if n < 10 then [UInt8.ofNat (48 + n)] else decL (n / 10) ++ [UInt8.ofNat (48 + n % 10)]
termination_by n
decreasing_by omega
theorem decL_small (n : Nat) (h : n < 10) : decL n = [UInt8.ofNat (48 + n)] := by rw [decL, if_pos h]
theorem decL_great (n : Nat) (h : ¬ n < 10) : decL n = decL (n / 10) ++ [UInt8.ofNat (48 + n % 10)] := by rw [decL, if_neg h]
theorem decL_step (n : Nat) (h : n / 10 ≠ 0) : decL n = decL (n / 10) ++ [UInt8.ofNat (48 + n % 10)] := decL_great n (by omega)
theorem decL_last (n : Nat) (h : n / 10 = 0) : decL n = [UInt8.ofNat (48 + n % 10)] := by
  rw [decL_small n (by omega), Nat.mod_eq_of_lt (by omega)]
theorem decL_len : ∀ (k n : Nat), 1 ≤ k → n < 10 ^ k → (decL n).length ≤ k
  | 0, _, h, _ => absurd h (by omega)
  | k + 1, n, _, h => by
    by_cases h10 : n < 10
    · rw [decL_small n h10]; simp
    · rw [decL_great n h10]
      have hk : 1 ≤ k := by
        rcases Nat.eq_zero_or_pos k with rfl | h
        · simp at h; omega
        · exact h
      have := decL_len k (n / 10) hk (by rw [Nat.pow_succ] at h; omega)
      simp; omega

/-! ### A tree's bytes -/
def entL (x : Ent) : List UInt8 := (if x.kind = 1 then [102, 32] else [108, 32]) ++ x.path ++ ([32] ++ decL x.data.length ++ [10]) ++ x.data ++ [10]
def bodyL (l : List Ent) : List UInt8 := [116, 114, 101, 101, 10] ++ l.flatMap entL ++ [101, 110, 100, 10]
def bytesL (l : List Ent) : List UInt8 := if rightB l then bodyL l else []
theorem entL_length (x : Ent) (h : oneB x = true) : (entL x).length ≤ 2178 := by
  obtain ⟨h1, h2, _⟩ := path_bound x h
  have := decL_len 4 x.data.length (by decide) (by omega)
  unfold entL
  split <;> (simp; omega)
theorem flat_length (l : List Ent) (h : ∀ x ∈ l, oneB x = true) : (l.flatMap entL).length ≤ 2178 * l.length := by
  induction l with
  | nil => simp
  | cons x r ih =>
    have h1 := entL_length x (h x (by simp))
    have h2 := ih (fun y hy => h y (by simp [hy]))
    simp only [List.flatMap_cons, List.length_append, List.length_cons]
    omega
theorem flat_take (l : List Ent) (i : Nat) (h : i < l.length) : (l.take (i + 1)).flatMap entL = (l.take i).flatMap entL ++ entL l[i] := by
  rw [List.take_succ_eq_append_getElem h, List.flatMap_append]; simp

end Go.Proofs.Ytangnoicnogddaa.Tr
