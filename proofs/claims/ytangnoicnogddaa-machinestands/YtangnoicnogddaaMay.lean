/- The contracts of mayName and of the program's Name. -/
import Derived.Test.YtangnoicnogddaaNam
namespace Go.Proofs.Ytangnoicnogddaa.Tr
open Go.RowKit

theorem may_all : ∀ n : Fin 256, mayB (UInt8.ofNat n.val) = (decide (97 ≤ n.val ∧ n.val ≤ 122) || decide (65 ≤ n.val ∧ n.val ≤ 90) || decide (48 ≤ n.val ∧ n.val ≤ 57) || decide (n.val = 46) || decide (n.val = 95) || decide (n.val = 45) || decide (n.val = 43)) := by decide +kernel
theorem may_iff (c : UInt8) : mayB c = true ↔ (97 ≤ c.toNat ∧ c.toNat ≤ 122) ∨ (65 ≤ c.toNat ∧ c.toNat ≤ 90) ∨ (48 ≤ c.toNat ∧ c.toNat ≤ 57) ∨ c.toNat = 46 ∨ c.toNat = 95 ∨ c.toNat = 45 ∨ c.toNat = 43 := by
  have h := may_all ⟨c.toNat, UInt8.toNat_lt c⟩
  simp only [UInt8.ofNat_toNat] at h
  rw [h]
  simp only [Bool.or_eq_true, decide_eq_true_eq, or_assoc]

set_option maxRecDepth 100000 in
set_option maxHeartbeats 1000000 in
theorem may_any (w : World) (c : UInt8) : Calls Try.prog 68 #[.int .u8 (c.toNat : Int)] w fun e w' => e = .returned (.bool (mayB c)) ∧ w' = w := by
  have HM := hid (may_iff c)
  have hc := UInt8.toNat_lt c
  generalize c.toNat = n at *
  generalize mayB c = b at *
  go_enter Try.func68, Try.ntmps68
  go_wp2
  all_goals
    go_ret
    refine ⟨congrArg (fun x => Ending.returned (.bool x)) ((Bool.eq_iff_iff).2 (Iff.trans ?_ HM.out.symm)), rfl⟩
    clear HM
    first | omega | (simp; omega) | simp

set_option maxRecDepth 100000 in
set_option maxHeartbeats 1000000 in
theorem name_any (w : World) (l : List UInt8) : Calls Try.prog 46 #[.string ⟨l.toArray⟩] w fun e w' => e = .returned (.bool (nameB l)) ∧ w' = w := by
  by_cases h1 : l.length < 1
  · have hn : Hid (nameB l = false) := by unfold Hid nameB; simp; omega
    have h1' : ((l.length : Int) == 0) = true := by simp; exact List.length_eq_zero_iff.1 (by omega)
    go_enter Try.func46, Try.ntmps46
    go_wp2
    go_ret
    exact ⟨by rw [hn.out]; rfl, rfl⟩
  have h1' : ((l.length : Int) == 0) = false := by simp; intro h; simp [h] at h1
  by_cases h2 : 36 < l.length
  · have hn : Hid (nameB l = false) := by unfold Hid nameB; simp; omega
    have h2' : (36 : Int) < (l.length : Int) := by omega
    go_enter Try.func46, Try.ntmps46
    go_wp2
    go_ret
    exact ⟨by rw [hn.out]; rfl, rfl⟩
  have h2' : ¬ (36 : Int) < (l.length : Int) := by omega
  by_cases h3 : l = [46]
  · subst h3
    have hn : Hid (nameB [46] = false) := by unfold Hid; decide
    go_enter Try.func46, Try.ntmps46
    go_wp2
    go_ret
    exact ⟨by rw [hn.out]; rfl, rfl⟩
  by_cases h4 : l = [46, 46]
  · subst h4
    have hn : Hid (nameB [46, 46] = false) := by unfold Hid; decide
    go_enter Try.func46, Try.ntmps46
    go_wp2
    go_ret
    exact ⟨by rw [hn.out]; rfl, rfl⟩
  have h3' : (l == [46]) = false := by simpa using h3
  have h4' : (l == [46, 46]) = false := by simpa using h4
  have HN : Hid (nameB l = l.all mayB) := by
    unfold Hid nameB
    simp [h3, h4]
    intro _
    omega
  clear h3 h4
  go_enter Try.func46, Try.ntmps46
  go_wp2_with fail
  go_loopw [22] (fun i wr => ∃ k : Nat, k ≤ l.length ∧ i = .int .i64 (k : Int) ∧ (l.take k).all mayB = true ∧ wr = w) (fun i _ => l.length - (intOf i).toNat)
  case atStart => exact ⟨0, Nat.zero_le _, rfl, rfl, rfl⟩
  case round =>
    obtain ⟨k, hk, rfl, ha, rfl⟩ := hrel
    have HA := hid ha
    clear ha
    by_cases hlt : k < l.length
    · have hkl' : (k : Int) < ((l.length : Nat) : Int) := by omega
      have hk0 : (0 : Int) ≤ (k : Int) := Int.natCast_nonneg _
      have HSt := hid (all_take_succ mayB l k hlt)
      have HBad := hid (all_false_of mayB l k hlt)
      cases hb : mayB l[k] with
      | true =>
        rw [hb] at HSt
        go_wp2_with (go_at_call 68; refine (may_any _ l[k]).mono ?_; rintro e w' ⟨rfl, rfl⟩; rw [hb])
        exact ⟨⟨k + 1, by omega, by go_num, by rw [HSt.out, HA.out]; rfl, trivial⟩, by simp [intOf]; omega⟩
      | false =>
        have HB := hid (HBad.out hb)
        go_wp2_with (go_at_call 68; refine (may_any _ l[k]).mono ?_; rintro e w' ⟨rfl, rfl⟩; rw [hb])
        go_ret
        exact ⟨by rw [HN.out, HB.out]; rfl, rfl⟩
    · obtain rfl : k = l.length := by omega
      have hkn : ¬ ((l.length : Nat) : Int) < ((l.length : Nat) : Int) := by omega
      rw [List.take_length] at HA
      go_wp2
      go_ret
      exact ⟨by rw [HN.out, HA.out]; rfl, rfl⟩

end Go.Proofs.Ytangnoicnogddaa.Tr
