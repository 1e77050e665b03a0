/- Numbers in their order: the plain side of ValueOrders. -/
import Derived.Test.YtlepjghfcpgbcaaGreatDoorShn
import Derived.Test.YtlepjghfcpgbcaaGreatDoorHnd
namespace Go.Proofs.YtlepjghfcpgbcaaGreatDoor.Tr
open Go.RowKit

theorem and_seven (x : Int) : bits BinOp.and .i64 x 7 = x % 8 := by
  have h1 : (BitVec.ofInt 64 x).toNat = (x % 18446744073709551616).toNat := by rw [BitVec.toNat_ofInt]; rfl
  have h2 : (BitVec.ofInt 64 7).toNat = 7 := by decide
  have h3 : (BitVec.ofInt 64 x &&& BitVec.ofInt 64 7).toNat = (x % 18446744073709551616).toNat % 8 := by
    rw [BitVec.toNat_and, h1, h2]; exact Nat.and_two_pow_sub_one_eq_mod _ 3
  show IntKind.i64.wrap (((BitVec.ofInt 64 x &&& BitVec.ofInt 64 7).toNat : Nat) : Int) = _
  rw [h3, IntKind.wrap_i64]
  omega
theorem and_one (x : Int) : bits BinOp.and .i64 x 1 = x % 2 := by
  have h1 : (BitVec.ofInt 64 x).toNat = (x % 18446744073709551616).toNat := by rw [BitVec.toNat_ofInt]; rfl
  have h2 : (BitVec.ofInt 64 1).toNat = 1 := by decide
  have h3 : (BitVec.ofInt 64 x &&& BitVec.ofInt 64 1).toNat = (x % 18446744073709551616).toNat % 2 := by
    rw [BitVec.toNat_and, h1, h2]; exact Nat.and_two_pow_sub_one_eq_mod _ 1
  show IntKind.i64.wrap (((BitVec.ofInt 64 x &&& BitVec.ofInt 64 1).toNat : Nat) : Int) = _
  rw [h3, IntKind.wrap_i64]
  omega

/-- The number that a bit and an int make. -/
def mkN (q : Bool) (r : Int) : Vv := if q = true then vF (IntKind.u64.wrap r).toNat else vI r
def isNan (f : Nat) : Bool := FloatKind.f64.format.order f f != some Ordering.eq

theorem mkN_right (q : Bool) (r : Int) : rightS (mkN q r) = true := by cases q <;> rfl
theorem mkN_num (q : Bool) (r : Int) : numB (mkN q r) = true := by cases q <;> rfl
theorem mkN_k5 (q : Bool) (r : Int) : (mkN q r).k ≠ 5 := by cases q <;> (unfold mkN; simp)
theorem mkN_k6 (q : Bool) (r : Int) : (mkN q r).k ≠ 6 := by cases q <;> (unfold mkN; simp)
theorem mkN_right_of (w : World) (q : Bool) (r : Int) : RightOf w (mkN q r) true := by
  have h := right_of_sca w (mkN q r) (mkN_k5 q r) (mkN_k6 q r)
  rw [mkN_right] at h; exact h
theorem less_mk (q p : Bool) (r s : Int) : lessV true true (mkN q r) (mkN p s) = (ltN (mkN q r) (mkN p s), 0) := by
  unfold lessV ltN
  rw [mkN_num, mkN_num]
  simp only [Bool.and_self, Bool.true_eq_false, if_false, if_true]
  split <;> rfl

abbrev ordF (a b : Nat) : Option Ordering := FloatKind.f64.format.order a b
theorem ord_swap (a b : Nat) : ordF b a = (ordF a b).map Ordering.swap := order_swap _ _
theorem ord_none (a b : Nat) : ordF a b = none ↔ (Ieee.double.read a).isNaN = true ∨ (Ieee.double.read b).isNaN = true := order_none _ _
theorem ord_trans (a b c : Nat) (h1 : ordF a b = some .lt) (h2 : ordF b c = some .lt) : ordF a c = some .lt := order_trans _ _ _ h1 h2
theorem ord_self (a : Nat) : isNan a = (Ieee.double.read a).isNaN := by
  unfold isNan
  cases h : (Ieee.double.read a).isNaN with
  | true =>
    have := (ord_none a a).2 (.inl h)
    unfold ordF at this
    rw [this]; rfl
  | false =>
    have hn : ordF a a ≠ none := fun e => by
      rcases (ord_none a a).1 e with h' | h' <;> rw [h] at h' <;> cases h'
    have hs := ord_swap a a
    cases ho : ordF a a with
    | none => exact absurd ho hn
    | some o =>
      rw [ho] at hs
      unfold ordF at ho
      rw [ho]
      cases o
      · cases hs
      · rfl
      · cases hs

/-! An int made a float is no NaN. -/
theorem read_word {s : Bool} {r : Nat} (h : r ≤ Ieee.double.infRung) : (Ieee.double.read (Ieee.double.word s r)).isNaN = false := by
  have e1 : Ieee.double.signWeight = 9223372036854775808 := by decide +kernel
  have e2 : Ieee.double.infRung = 9218868437227405312 := by decide +kernel
  rw [e2] at h
  have e3 : Ieee.double.word s r % 9223372036854775808 = r := by
    unfold Ieee.Format.word
    rw [e1]
    cases s
    · rw [if_neg (by simp)]; omega
    · rw [if_pos rfl]; omega
  unfold Ieee.Format.read
  simp only [e1, e2, e3]
  split
  · rfl
  · split
    · rfl
    · split
      · rfl
      · rename_i a b c; omega
theorem nan_write {d : Ieee.Datum} (h : d.isNaN = false) : (Ieee.double.read (Ieee.double.write d)).isNaN = false := by
  cases d with
  | number s m i =>
    unfold Ieee.Format.write Ieee.Format.nearest
    simp only
    split
    · exact read_word (Nat.zero_le _)
    · exact read_word (Nat.min_le_right _ _)
  | infinity s => exact read_word (Nat.le_refl _)
  | nan s f => simp [Ieee.Datum.isNaN] at h
theorem fi_nan (n : Int) : (Ieee.double.read (floatOfInt .f64 n)).isNaN = false := nan_write (d := .number (n < 0) n.natAbs 0) rfl

theorem asF_nan (q : Bool) (r : Int) : (Ieee.double.read (asF (mkN q r))).isNaN = isNan (mkN q r).f := by
  cases q with
  | true => rw [ord_self]; rfl
  | false =>
    have e : isNan (mkN false r).f = false := by
      show isNan 0 = false
      decide +kernel
    rw [e]; exact fi_nan r

theorem eqN_swap (q p : Bool) (r s : Int) : eqN (mkN p s) (mkN q r) = eqN (mkN q r) (mkN p s) := by
  unfold eqN
  rw [Bool.and_comm]
  split
  · exact Bool.eq_iff_iff.2 (by simp only [beq_iff_eq]; exact ⟨Eq.symm, Eq.symm⟩)
  · have h := ord_swap (asF (mkN q r)) (asF (mkN p s))
    unfold ordF at h
    rw [h]
    cases FloatKind.f64.format.order (asF (mkN q r)) (asF (mkN p s)) with
    | none => rfl
    | some o => cases o <;> rfl

/-- Of two numbers just one of below, above, equal holds; none, if one is NaN. -/
theorem three_ways (q p : Bool) (r s : Int) :
    ((isNan (mkN q r).f || isNan (mkN p s).f) = true ∧ ltN (mkN q r) (mkN p s) = false ∧ ltN (mkN p s) (mkN q r) = false ∧ eqN (mkN q r) (mkN p s) = false) ∨
    ((isNan (mkN q r).f || isNan (mkN p s).f) = false ∧ ((ltN (mkN q r) (mkN p s) = true ∧ ltN (mkN p s) (mkN q r) = false ∧ eqN (mkN q r) (mkN p s) = false) ∨
      (ltN (mkN q r) (mkN p s) = false ∧ ltN (mkN p s) (mkN q r) = true ∧ eqN (mkN q r) (mkN p s) = false) ∨ (ltN (mkN q r) (mkN p s) = false ∧ ltN (mkN p s) (mkN q r) = false ∧ eqN (mkN q r) (mkN p s) = true))) := by
  have key : ∀ (hk : (decide ((mkN q r).k = 2) && decide ((mkN p s).k = 2)) = false),
      ((isNan (mkN q r).f || isNan (mkN p s).f) = true ∧ ltN (mkN q r) (mkN p s) = false ∧ ltN (mkN p s) (mkN q r) = false ∧ eqN (mkN q r) (mkN p s) = false) ∨
      ((isNan (mkN q r).f || isNan (mkN p s).f) = false ∧ ((ltN (mkN q r) (mkN p s) = true ∧ ltN (mkN p s) (mkN q r) = false ∧ eqN (mkN q r) (mkN p s) = false) ∨
        (ltN (mkN q r) (mkN p s) = false ∧ ltN (mkN p s) (mkN q r) = true ∧ eqN (mkN q r) (mkN p s) = false) ∨ (ltN (mkN q r) (mkN p s) = false ∧ ltN (mkN p s) (mkN q r) = false ∧ eqN (mkN q r) (mkN p s) = true))) := by
    intro hk
    have hk' : (decide ((mkN p s).k = 2) && decide ((mkN q r).k = 2)) = false := by rw [Bool.and_comm]; exact hk
    unfold ltN eqN
    rw [hk, hk']
    simp only [Bool.false_eq_true, if_false]
    have hs := ord_swap (asF (mkN q r)) (asF (mkN p s))
    have hn := ord_none (asF (mkN q r)) (asF (mkN p s))
    rw [asF_nan, asF_nan] at hn
    unfold ordF at hs hn
    rw [hs]
    cases ho : FloatKind.f64.format.order (asF (mkN q r)) (asF (mkN p s)) with
    | none =>
      left
      have := hn.1 ho
      exact ⟨by rcases this with h | h <;> simp [h], rfl, rfl, rfl⟩
    | some o =>
      right
      have hne : ¬ (isNan (mkN q r).f = true ∨ isNan (mkN p s).f = true) := fun h => by
        have := hn.2 h
        rw [ho] at this; cases this
      refine ⟨by simpa using hne, ?_⟩
      cases o
      · exact .inl ⟨rfl, rfl, rfl⟩
      · exact .inr (.inr ⟨rfl, rfl, rfl⟩)
      · exact .inr (.inl ⟨rfl, rfl, rfl⟩)
  cases q with
  | true => exact key rfl
  | false =>
    cases p with
    | true => exact key rfl
    | false =>
      right
      have z : (isNan (mkN false r).f || isNan (mkN false s).f) = false := by
        show (isNan 0 || isNan 0) = false
        decide +kernel
      refine ⟨z, ?_⟩
      have e1 : ltN (mkN false r) (mkN false s) = decide (r < s) := rfl
      have e2 : ltN (mkN false s) (mkN false r) = decide (s < r) := rfl
      have e3 : eqN (mkN false r) (mkN false s) = (r == s) := rfl
      rw [e1, e2, e3]
      rcases Int.lt_trichotomy r s with h | h | h
      · left; exact ⟨by simp [h], by simp; omega, by simp; omega⟩
      · right; right; subst h; simp
      · right; left; exact ⟨by simp; omega, by simp [h], by simp; omega⟩
/-- Of three numbers of one kind it goes on. -/
theorem goes_on (q : Bool) (r s t : Int) (h1 : ltN (mkN q r) (mkN q s) = true) (h2 : ltN (mkN q s) (mkN q t) = true) : ltN (mkN q r) (mkN q t) = true := by
  cases q with
  | false =>
    have e1 : ∀ a b, ltN (mkN false a) (mkN false b) = decide (a < b) := fun _ _ => rfl
    rw [e1] at h1 h2 ⊢
    simp only [decide_eq_true_eq] at h1 h2 ⊢
    omega
  | true =>
    have e1 : ∀ a b, ltN (mkN true a) (mkN true b) = (ordF (asF (mkN true a)) (asF (mkN true b)) == some Ordering.lt) := fun _ _ => rfl
    rw [e1] at h1 h2 ⊢
    rw [beq_iff_eq] at h1 h2 ⊢
    exact ord_trans _ _ _ h1 h2
end Go.Proofs.YtlepjghfcpgbcaaGreatDoor.Tr
