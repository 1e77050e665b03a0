/- Floats in their order, in plain words. Nothing here speaks of the Go text. -/
import Derived.Test.YtlepjghfcpgbcaaGreatDoorBase
namespace Go.Proofs.YtlepjghfcpgbcaaGreatDoor.Tr
open Ieee

theorem signed_up (s : Bool) (m a d : Nat) : signed s m (a + d) = signed s m a * 2 ^ d := by
  have h : m <<< (a + d) = (m <<< a) * 2 ^ d := by
    simp only [Nat.shiftLeft_eq, Nat.pow_add, Nat.mul_assoc]
  unfold signed
  rw [h]
  cases s
  · simp
  · simp [Int.neg_mul]
theorem cmp_int_mul (x y : Int) (d : Nat) : compare (x * 2 ^ d) (y * 2 ^ d) = compare x y := by
  have hp : (0 : Int) < 2 ^ d := Int.pow_pos (by decide)
  rcases Int.lt_trichotomy x y with h | h | h
  · have h2 : x * 2 ^ d < y * 2 ^ d := Int.mul_lt_mul_of_pos_right h hp
    rw [show compare x y = .lt from by simp [compare, compareOfLessAndEq, h], show compare (x * 2 ^ d) (y * 2 ^ d) = .lt from by simp [compare, compareOfLessAndEq, h2]]
  · subst h
    simp [compare, compareOfLessAndEq]
  · have h2 : y * 2 ^ d < x * 2 ^ d := Int.mul_lt_mul_of_pos_right h hp
    have e1 : ¬ x < y := by omega
    have e2 : ¬ x = y := by omega
    have e3 : ¬ x * 2 ^ d < y * 2 ^ d := by omega
    have e4 : ¬ x * 2 ^ d = y * 2 ^ d := by omega
    rw [show compare x y = .gt from by simp [compare, compareOfLessAndEq, e1, e2], show compare (x * 2 ^ d) (y * 2 ^ d) = .gt from by simp [compare, compareOfLessAndEq, e3, e4]]
/-- Two numbers stand to each other as at any base below both. -/
theorem order_base (s t : Bool) (m n : Nat) (i j b : Int) (hi : b ≤ i) (hj : b ≤ j) : Datum.order (.number s m i) (.number t n j) = some (compare (signed s m (i - b).toNat) (signed t n (j - b).toNat)) := by
  obtain ⟨d, hd⟩ : ∃ d : Nat, min i j - b = (d : Int) := ⟨(min i j - b).toNat, by omega⟩
  have e1 : (i - b).toNat = (i - min i j).toNat + d := by omega
  have e2 : (j - b).toNat = (j - min i j).toNat + d := by omega
  simp only [Datum.order]
  rw [e1, e2, signed_up, signed_up, cmp_int_mul]

theorem cmp_lt (x y : Int) : compare x y = .lt ↔ x < y := by
  simp only [compare, compareOfLessAndEq]; split <;> (try split) <;> simp <;> omega
theorem cmp_gt (x y : Int) : compare x y = .gt ↔ y < x := by
  simp only [compare, compareOfLessAndEq]; split <;> (try split) <;> simp <;> omega
theorem cmp_eq (x y : Int) : compare x y = .eq ↔ x = y := by
  simp only [compare, compareOfLessAndEq]; split <;> (try split) <;> simp <;> omega
theorem cmp_swap (x y : Int) : compare y x = (compare x y).swap := by
  rcases Int.lt_trichotomy x y with h | h | h
  · rw [(cmp_lt x y).2 h, (cmp_gt y x).2 h]; rfl
  · rw [(cmp_eq x y).2 h, (cmp_eq y x).2 h.symm]; rfl
  · rw [(cmp_gt x y).2 h, (cmp_lt y x).2 h]; rfl
theorem order_swap (a b : Datum) : Datum.order b a = (Datum.order a b).map Ordering.swap := by
  cases a <;> cases b
  case number.number s m i t n j =>
    rw [order_base _ _ _ _ _ _ (min i j) (by omega) (by omega), order_base _ _ _ _ _ _ (min i j) (by omega) (by omega), cmp_swap]
    rfl
  case number.infinity s m i t => cases t <;> rfl
  case infinity.number s t n j => cases s <;> rfl
  case infinity.infinity s t => cases s <;> cases t <;> rfl
  all_goals rfl
theorem order_none (a b : Datum) : Datum.order a b = none ↔ a.isNaN = true ∨ b.isNaN = true := by
  cases a <;> cases b <;> simp [Datum.order, Datum.isNaN]
theorem order_trans : ∀ (a b c : Datum), Datum.order a b = some .lt → Datum.order b c = some .lt → Datum.order a c = some .lt
  | .number s m i, .number t n j, .number u o k, h1, h2 => by
    rw [order_base _ _ _ _ _ _ (min i (min j k)) (by omega) (by omega), Option.some.injEq, cmp_lt] at h1 h2 ⊢
    omega
  | .number .., .number .., .infinity u, _, h2 => by revert h2; cases u <;> simp [Datum.order]
  | .number .., .infinity t, .number .., h1, h2 => by revert h1 h2; cases t <;> simp [Datum.order]
  | .number .., .infinity t, .infinity u, h1, h2 => by revert h1 h2; cases t <;> cases u <;> simp [Datum.order] <;> decide
  | .infinity s, .number .., .number .., h1, _ => by revert h1; cases s <;> simp [Datum.order]
  | .infinity s, .number .., .infinity u, h1, h2 => by revert h1 h2; cases s <;> cases u <;> simp [Datum.order] <;> decide
  | .infinity s, .infinity t, .number .., h1, h2 => by revert h1 h2; cases s <;> cases t <;> simp [Datum.order] <;> decide
  | .infinity s, .infinity t, .infinity u, h1, h2 => by revert h1 h2; cases s <;> cases t <;> cases u <;> simp [Datum.order] <;> decide
  | .nan .., b, _, h1, _ => by simp [Datum.order] at h1
  | .number .., .nan .., _, h1, _ => by simp [Datum.order] at h1
  | .infinity _, .nan .., _, h1, _ => by simp [Datum.order] at h1
  | .number .., .number .., .nan .., _, h2 => by simp [Datum.order] at h2
  | .number .., .infinity _, .nan .., _, h2 => by simp [Datum.order] at h2
  | .infinity _, .number .., .nan .., _, h2 => by simp [Datum.order] at h2
  | .infinity _, .infinity _, .nan .., _, h2 => by simp [Datum.order] at h2
end Go.Proofs.YtlepjghfcpgbcaaGreatDoor.Tr
