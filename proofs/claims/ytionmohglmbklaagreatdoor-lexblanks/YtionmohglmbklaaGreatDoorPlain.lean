/- Plain facts of texts and their tokens. Nothing here speaks of the Go text. -/
import Derived.WalkKit
namespace Go.Proofs.YtionmohglmbklaaGreatDoor.Tr

/-! ### Bytes -/
def isBlank (c : UInt8) : Bool := c == 32 || c == 9 || c == 10 || c == 13
def inLine (c : UInt8) : Bool := c != 10
def isLet (c : UInt8) : Bool := (decide (97 ≤ c.toNat) && decide (c.toNat ≤ 122)) || (decide (65 ≤ c.toNat) && decide (c.toNat ≤ 90))
def isDig (c : UInt8) : Bool := decide (48 ≤ c.toNat) && decide (c.toNat ≤ 57)
def begN (c : UInt8) : Bool := isLet c || c == 95
def inN (c : UInt8) : Bool := begN c || isDig c || c == 39 || c == 45
def isPl (c : UInt8) : Bool := c == 9 || c == 10 || (c != 34 && c != 92 && c != 127 && decide (32 ≤ c.toNat))

theorem all_take_succ {α : Type} (p : α → Bool) (l : List α) (k : Nat) (h : k < l.length) : (l.take (k + 1)).all p = ((l.take k).all p && p l[k]) := by
  rw [List.take_succ_eq_append_getElem h, List.all_append]; simp

/-- The bytes from a up to b. -/
def sub (s : List UInt8) (a b : Nat) : List UInt8 := (s.take b).drop a
theorem sub_length (s : List UInt8) (a b : Nat) (hb : b ≤ s.length) : (sub s a b).length = b - a := by simp [sub]; omega
theorem sub_self (s : List UInt8) (a : Nat) : sub s a a = [] := by
  unfold sub; exact List.drop_eq_nil_of_le (by simp; omega)
theorem sub_snoc (s : List UInt8) (a b : Nat) (h : a ≤ b) (hb : b < s.length) : sub s a (b + 1) = sub s a b ++ [s[b]] := by
  unfold sub
  rw [List.take_succ_eq_append_getElem hb, List.drop_append_of_le_length (by simp; omega)]
theorem sub_all (s : List UInt8) (a : Nat) : sub s a s.length = s.drop a := by simp [sub]
theorem ext_sub (s : List UInt8) (a b : Nat) : (ByteArray.mk s.toArray).extract a b = ⟨(sub s a b).toArray⟩ := by
  apply ByteArray.ext
  simp [sub, ByteArray.data_extract, List.extract_eq_take_drop, List.drop_take]

/-- The byte at a place; behind the end a nought. -/
def at0 (t : List UInt8) (k : Nat) : UInt8 := if h : k < t.length then t[k] else 0
theorem at0_lt {t : List UInt8} {k : Nat} (h : k < t.length) : at0 t k = t[k] := by simp [at0, h]
theorem at0_ge {t : List UInt8} {k : Nat} (h : t.length ≤ k) : at0 t k = 0 := by simp [at0]; omega

/-- Where the run of such bytes that begins at a place ends. -/
def upto (p : UInt8 → Bool) (t : List UInt8) (k : Nat) : Nat := k + ((t.drop k).takeWhile p).length
theorem upto_stop {p : UInt8 → Bool} {t : List UInt8} {k : Nat} (h : k < t.length) (e : p t[k] = false) : upto p t k = k := by
  unfold upto
  rw [List.drop_eq_getElem_cons h, List.takeWhile_cons_of_neg (by simp [e])]
  rfl
theorem upto_end {p : UInt8 → Bool} {t : List UInt8} {k : Nat} (h : t.length ≤ k) : upto p t k = k := by
  unfold upto
  rw [List.drop_eq_nil_of_le h]; rfl
theorem upto_step {p : UInt8 → Bool} {t : List UInt8} {k : Nat} (h : k < t.length) (e : p t[k] = true) : upto p t k = upto p t (k + 1) := by
  unfold upto
  rw [List.drop_eq_getElem_cons h, List.takeWhile_cons_of_pos e, List.length_cons]
  omega
theorem upto_ge (p : UInt8 → Bool) (t : List UInt8) (k : Nat) : k ≤ upto p t k := Nat.le_add_right _ _
theorem upto_le {p : UInt8 → Bool} {t : List UInt8} {k : Nat} (h : k ≤ t.length) : upto p t k ≤ t.length := by
  unfold upto
  have := List.IsPrefix.length_le (List.takeWhile_prefix p (l := t.drop k))
  rw [List.length_drop] at this
  omega
theorem upto_gt {p : UInt8 → Bool} {t : List UInt8} {k : Nat} (h : k < t.length) (e : p t[k] = true) : k < upto p t k := by
  rw [upto_step h e]; exact upto_ge p t (k + 1)

/-! ### Tokens -/
structure Tok where
  kind : Int
  text : List UInt8
  int : Int
  flt : Nat
  at_ : Nat
deriving DecidableEq

/-- How a text is read on from a place that is behind blanks: past remarks. -/
inductive Skp (t : List UInt8) : Nat → Nat → Prop
  | done {k : Nat} : (at0 t k == 35) = false → Skp t k k
  | more {k k' : Nat} : (at0 t k == 35) = true → Skp t (upto isBlank t (upto inLine t k)) k' → Skp t k k'
theorem at0_pos {t : List UInt8} {k : Nat} {c : UInt8} (hc : c ≠ 0) (h : (at0 t k == c) = true) : k < t.length := by
  rcases Nat.lt_or_ge k t.length with hl | hl
  · exact hl
  · rw [at0_ge hl] at h; simp at h; exact absurd h.symm hc
theorem Skp.ge {t : List UInt8} {k k' : Nat} (h : Skp t k k') : k ≤ k' := by
  induction h with
  | done _ => exact Nat.le_refl _
  | more _ _ ih => exact Nat.le_trans (Nat.le_trans (upto_ge _ _ _) (upto_ge _ _ _)) ih
theorem Skp.le {t : List UInt8} {k k' : Nat} (h : Skp t k k') (hk : k ≤ t.length) : k' ≤ t.length := by
  induction h with
  | done _ => exact hk
  | more _ _ ih => exact ih (upto_le (upto_le hk))
theorem Skp.not {t : List UInt8} {k k' : Nat} (h : Skp t k k') : (at0 t k' == 35) = false := by
  induction h with
  | done h => exact h
  | more _ _ ih => exact ih

def signs : List UInt8 := [123, 125, 91, 93, 40, 41, 61, 59, 46, 58, 63, 33, 60, 62, 43, 45, 42, 47]
def twos : List (List UInt8) := [[43, 43], [47, 47], [61, 61], [33, 61], [60, 61], [62, 61], [38, 38], [124, 124]]
/-- How many bytes the sign has that stands at a place. -/
def signLen (t : List UInt8) (k : Nat) : Nat :=
  if twos.any (· == sub t k (k + 2)) then 2 else if signs.any (· == at0 t k) then 1 else 0

/-- Where an exponent's digits begin, from where the exponent may begin. -/
def expLen (t : List UInt8) (k : Nat) : Nat :=
  if at0 t k != 101 && at0 t k != 69 then 0
  else if at0 t (k + 1) == 43 || at0 t (k + 1) == 45 then (if isDig (at0 t (k + 2)) then 2 else 0)
  else (if isDig (at0 t (k + 1)) then 1 else 0)
/-- Where a float ends whose whole part ends at a place. -/
def fracEnd (t : List UInt8) (k : Nat) : Nat :=
  let i := upto isDig t (k + 1)
  if expLen t i = 0 then i else upto isDig t (i + expLen t i)

/-- What two bytes in a string stand for. -/
def meant (c : UInt8) : Option UInt8 := if c == 110 then some 10 else if c == 116 then some 9 else if c == 34 || c == 92 then some c else none

/-- What stands at a place, as two bytes that stand for one. -/
def escp (t : List UInt8) (k : Nat) : Option UInt8 := if at0 t k == 92 then meant (at0 t (k + 1)) else none
theorem escp_lt {t : List UInt8} {k : Nat} {c : UInt8} (h : escp t k = some c) : k + 2 ≤ t.length := by
  unfold escp at h
  split at h
  · rcases Nat.lt_or_ge (k + 1) t.length with hl | hl
    · omega
    · rw [at0_ge hl] at h; simp [meant] at h
  · cases h

/-- How a string ends: where, and what it stands for; or too late; or at a byte that may not be. -/
inductive Oc
  | fin (b : List UInt8) (k : Nat)
  | err
  | bad (k : Nat)
/-- How a string is read on from a place within it. -/
inductive StrO (t : List UInt8) : Nat → List UInt8 → Oc → Prop
  | err {k : Nat} {b : List UInt8} : (1024 < (b ++ sub t k (upto isPl t k)).length ∨ upto isPl t k = t.length) → StrO t k b .err
  | fin {k : Nat} {b : List UInt8} : (b ++ sub t k (upto isPl t k)).length ≤ 1024 → upto isPl t k < t.length → (at0 t (upto isPl t k) == 34) = true → StrO t k b (.fin (b ++ sub t k (upto isPl t k)) (upto isPl t k + 1))
  | bad {k : Nat} {b : List UInt8} : (b ++ sub t k (upto isPl t k)).length ≤ 1024 → upto isPl t k < t.length → (at0 t (upto isPl t k) == 34) = false → escp t (upto isPl t k) = none → StrO t k b (.bad (upto isPl t k))
  | esc {k : Nat} {b : List UInt8} {c : UInt8} {o : Oc} : (b ++ sub t k (upto isPl t k)).length ≤ 1024 → upto isPl t k < t.length → (at0 t (upto isPl t k) == 34) = false → escp t (upto isPl t k) = some c →
      StrO t (upto isPl t k + 2) (b ++ sub t k (upto isPl t k) ++ [c]) o → StrO t k b o

end Go.Proofs.YtionmohglmbklaaGreatDoor.Tr
