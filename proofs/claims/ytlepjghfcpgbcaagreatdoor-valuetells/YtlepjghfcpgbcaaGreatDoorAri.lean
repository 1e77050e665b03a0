/- Ints of 64 bits: what wraps round, in plain words. Nothing here speaks of the Go text. -/
import Derived.Test.YtlepjghfcpgbcaaGreatDoorBase
namespace Go.Proofs.YtlepjghfcpgbcaaGreatDoor.Tr
open Go.RowKit

/-- An int of 64 bits. -/
def I64 (x : Int) : Prop := -9223372036854775808 ≤ x ∧ x ≤ 9223372036854775807
instance (x : Int) : Decidable (I64 x) := by unfold I64; infer_instance
theorem I64.wrap (x : Int) : I64 (wrap64 x) := by
  unfold I64 wrap64; omega
theorem I64.same {x : Int} (h : I64 x) : wrap64 x = x := by
  unfold I64 at h; unfold wrap64; omega
theorem wrap_mul (x : Int) : ∃ k : Int, wrap64 x = x + k * 18446744073709551616 := by
  unfold wrap64
  exact ⟨-((x + 9223372036854775808) / 18446744073709551616), by omega⟩

theorem plus_fits {a b : Int} (ha : I64 a) (hb : I64 b) : (decide (wrap64 (a + b) > a) == decide (b > 0)) = decide (I64 (a + b)) := by
  unfold wrap64
  rw [Bool.eq_iff_iff]
  simp only [beq_iff_eq, decide_eq_decide, decide_eq_true_eq]
  unfold I64 at *
  omega
theorem minus_fits {a b : Int} (ha : I64 a) (hb : I64 b) : (decide (wrap64 (a - b) < a) == decide (b > 0)) = decide (I64 (a - b)) := by
  unfold wrap64
  rw [Bool.eq_iff_iff]
  simp only [beq_iff_eq, decide_eq_decide, decide_eq_true_eq]
  unfold I64 at *
  omega

/-- A quotient is an int, but for the lowest by -1. -/
theorem I64.tdiv {a b : Int} (ha : I64 a) (hb : I64 b) (hn : ¬ (a = -9223372036854775808 ∧ b = -1)) : I64 (a.tdiv b) := by
  unfold I64 at *
  have h : (a.tdiv b).natAbs = a.natAbs / b.natAbs := Int.natAbs_tdiv a b
  by_cases hb1 : b.natAbs ≤ 1
  · by_cases hb0 : b = 0
    · subst hb0; simp
    · by_cases h1 : b = 1
      · subst h1; simpa using ha
      · have h2 : b = -1 := by omega
        subst h2
        have e : a.tdiv (-1) = -a := by rw [Int.tdiv_neg, Int.tdiv_one]
        rw [e]; omega
  · have h2 : a.natAbs / b.natAbs ≤ a.natAbs / 2 := Nat.div_le_div_left (by omega) (by decide)
    omega
theorem times_fits {a b : Int} (ha : I64 a) (hb : I64 b) (hb0 : b ≠ 0) : (decide (wrap64 ((wrap64 (a * b)).tdiv b) = a) && !(decide (a = -9223372036854775808) && decide (b = -1))) = decide (I64 (a * b)) := by
  rw [Bool.eq_iff_iff]
  simp only [Bool.and_eq_true, decide_eq_true_eq, Bool.not_eq_true', Bool.and_eq_false_iff, decide_eq_false_iff_not]
  have hW := I64.wrap (a * b)
  obtain ⟨k, hk⟩ := wrap_mul (a * b)
  constructor
  · rintro ⟨h1, h2⟩
    generalize hn : wrap64 (a * b) = n at *
    have hnl : ¬ (n = -9223372036854775808 ∧ b = -1) := by
      rintro ⟨rfl, rfl⟩
      unfold I64 at *
      omega
    rw [(I64.tdiv hW hb hnl).same] at h1
    have hm := Int.mul_tdiv_add_tmod n b
    rw [h1] at hm
    have hr : (n.tmod b).natAbs < b.natAbs := by
      rw [Int.natAbs_tmod]
      exact Nat.mod_lt _ (by omega)
    have hc : b * a = a * b := Int.mul_comm b a
    have hk0 : k = 0 := by
      unfold I64 at *
      omega
    have : n = a * b := by rw [hk, hk0]; omega
    rw [← this]; exact hW
  · intro h
    rw [h.same]
    refine ⟨?_, ?_⟩
    · rw [Int.mul_tdiv_cancel a hb0, ha.same]
    · by_cases h1 : a = -9223372036854775808
      · right
        intro h2
        subst h1 h2
        exact absurd h (by decide)
      · exact .inl h1
/-- A quotient and its rest make the whole. -/
theorem quot_rest {a b : Int} (ha : I64 a) : wrap64 (wrap64 (a.tdiv b * b) + a.tmod b) = a := by
  obtain ⟨k, hk⟩ := wrap_mul (a.tdiv b * b)
  have hm := Int.mul_tdiv_add_tmod a b
  have hc : a.tdiv b * b = b * a.tdiv b := Int.mul_comm _ _
  unfold I64 at ha
  rw [hk]
  unfold wrap64
  omega
end Go.Proofs.YtlepjghfcpgbcaaGreatDoor.Tr
