/- The contracts of the functions that tell a byte's class, the program's and the document's. -/
import Derived.Test.YtionmohglmbklaaGreatDoorBase
namespace Go.Proofs.YtionmohglmbklaaGreatDoor.Tr
open Go.RowKit

theorem u8n (c d : UInt8) : (c == d) = true ↔ c.toNat = d.toNat := by
  rw [beq_iff_eq]; exact ⟨fun h => by rw [h], fun h => UInt8.toNat_inj.1 h⟩
theorem blank_iff (c : UInt8) : isBlank c = true ↔ c.toNat = 32 ∨ c.toNat = 9 ∨ c.toNat = 10 ∨ c.toNat = 13 := by
  unfold isBlank; simp only [Bool.or_eq_true, u8n]; simp; omega
theorem line_iff (c : UInt8) : inLine c = true ↔ c.toNat ≠ 10 := by
  unfold inLine
  rw [bne_iff_ne]
  exact ⟨fun h e => h (UInt8.toNat_inj.1 e), fun h e => h (by rw [e]; rfl)⟩
theorem let_iff (c : UInt8) : isLet c = true ↔ (97 ≤ c.toNat ∧ c.toNat ≤ 122) ∨ (65 ≤ c.toNat ∧ c.toNat ≤ 90) := by
  unfold isLet; simp
theorem dig_iff (c : UInt8) : isDig c = true ↔ 48 ≤ c.toNat ∧ c.toNat ≤ 57 := by
  unfold isDig; simp
theorem pl_iff (c : UInt8) : isPl c = true ↔ c.toNat = 9 ∨ c.toNat = 10 ∨ (c.toNat ≠ 34 ∧ c.toNat ≠ 92 ∧ c.toNat ≠ 127 ∧ 32 ≤ c.toNat) := by
  unfold isPl
  simp only [Bool.or_eq_true, Bool.and_eq_true, u8n, bne_iff_ne, decide_eq_true_eq]
  have h : ∀ d : UInt8, c ≠ d ↔ c.toNat ≠ d.toNat := fun d => ⟨fun h e => h (UInt8.toNat_inj.1 e), fun h e => h (by rw [e])⟩
  rw [h, h, h]
  simp
  omega


set_option maxRecDepth 100000 in
set_option maxHeartbeats 1000000 in
theorem blank_any (w : World) (c : UInt8) : Calls Tryz.prog 72 #[.int .u8 (c.toNat : Int)] w fun e w' => e = .returned (.bool (isBlank c)) ∧ w' = w := by
  have HM := hid (blank_iff c)
  have hc := UInt8.toNat_lt c
  generalize c.toNat = n at *
  generalize isBlank c = b at *
  go_enter Tryz.func72, Tryz.ntmps72
  go_wp2
  all_goals
    go_ret
    refine ⟨congrArg (fun x => Ending.returned (.bool x)) ((Bool.eq_iff_iff).2 (Iff.trans ?_ HM.out.symm)), rfl⟩
    clear HM
    first | omega | (simp; omega) | simp

set_option maxRecDepth 100000 in
set_option maxHeartbeats 1000000 in
theorem line_any (w : World) (c : UInt8) : Calls Tryz.prog 73 #[.int .u8 (c.toNat : Int)] w fun e w' => e = .returned (.bool (inLine c)) ∧ w' = w := by
  have HM := hid (line_iff c)
  have hc := UInt8.toNat_lt c
  generalize c.toNat = n at *
  generalize inLine c = b at *
  go_enter Tryz.func73, Tryz.ntmps73
  go_wp2
  all_goals
    go_ret
    refine ⟨congrArg (fun x => Ending.returned (.bool x)) ((Bool.eq_iff_iff).2 (Iff.trans ?_ HM.out.symm)), rfl⟩
    clear HM
    first | omega | (simp; omega) | simp

set_option maxRecDepth 100000 in
set_option maxHeartbeats 1000000 in
theorem letter_any (w : World) (c : UInt8) : Calls Tryz.prog 74 #[.int .u8 (c.toNat : Int)] w fun e w' => e = .returned (.bool (isLet c)) ∧ w' = w := by
  have HM := hid (let_iff c)
  have hc := UInt8.toNat_lt c
  generalize c.toNat = n at *
  generalize isLet c = b at *
  go_enter Tryz.func74, Tryz.ntmps74
  go_wp2
  all_goals
    go_ret
    refine ⟨congrArg (fun x => Ending.returned (.bool x)) ((Bool.eq_iff_iff).2 (Iff.trans ?_ HM.out.symm)), rfl⟩
    clear HM
    first | omega | (simp; omega) | simp

set_option maxRecDepth 100000 in
set_option maxHeartbeats 1000000 in
theorem digit_any (w : World) (c : UInt8) : Calls Tryz.prog 54 #[.int .u8 (c.toNat : Int)] w fun e w' => e = .returned (.bool (isDig c)) ∧ w' = w := by
  have HM := hid (dig_iff c)
  have hc := UInt8.toNat_lt c
  generalize c.toNat = n at *
  generalize isDig c = b at *
  go_enter Tryz.func54, Tryz.ntmps54
  go_wp2
  all_goals
    go_ret
    refine ⟨congrArg (fun x => Ending.returned (.bool x)) ((Bool.eq_iff_iff).2 (Iff.trans ?_ HM.out.symm)), rfl⟩
    clear HM
    first | omega | (simp; omega) | simp

set_option maxRecDepth 100000 in
set_option maxHeartbeats 1000000 in
theorem plain_any (w : World) (c : UInt8) : Calls Tryz.prog 80 #[.int .u8 (c.toNat : Int)] w fun e w' => e = .returned (.bool (isPl c)) ∧ w' = w := by
  have HM := hid (pl_iff c)
  have hc := UInt8.toNat_lt c
  generalize c.toNat = n at *
  generalize isPl c = b at *
  have five : n = 9 ∨ n = 10 ∨ n = 34 ∨ n = 92 ∨ n = 127 ∨ (n ≠ 9 ∧ n ≠ 10 ∧ n ≠ 34 ∧ n ≠ 92 ∧ n ≠ 127) := by omega
  rcases five with rfl | rfl | rfl | rfl | rfl | ⟨h1, h2, h3, h4, h5⟩
  case inr.inr.inr.inr.inr =>
    have e1 : ((n : Int) == 9) = false := by simp; omega
    have e2 : ((n : Int) == 10) = false := by simp; omega
    have e3 : ((n : Int) == 34) = false := by simp; omega
    have e4 : ((n : Int) == 92) = false := by simp; omega
    have e5 : ((n : Int) == 127) = false := by simp; omega
    go_enter Tryz.func80, Tryz.ntmps80
    go_wp2
    all_goals
      go_ret
      refine ⟨congrArg (fun x => Ending.returned (.bool x)) ((Bool.eq_iff_iff).2 (Iff.trans ?_ HM.out.symm)), rfl⟩
      clear HM
      first | omega | (simp; omega) | simp
  all_goals
    go_enter Tryz.func80, Tryz.ntmps80
    go_wp2
    all_goals
      go_ret
      refine ⟨congrArg (fun x => Ending.returned (.bool x)) ((Bool.eq_iff_iff).2 (Iff.trans ?_ HM.out.symm)), rfl⟩
      clear HM
      first | omega | (simp; omega) | simp

set_option maxRecDepth 100000 in
set_option maxHeartbeats 1000000 in
theorem begins_any (w : World) (c : UInt8) : Calls Tryz.prog 52 #[.int .u8 (c.toNat : Int)] w fun e w' => e = .returned (.bool (begN c)) ∧ w' = w := by
  have HM : begN c = (isLet c || decide (c.toNat = 95)) := by
    unfold begN
    congr 1
    rw [Bool.eq_iff_iff, u8n]; simp
  have HC := hid (letter_any w c)
  have hc := UInt8.toNat_lt c
  rw [HM]
  clear HM
  generalize c.toNat = n at *
  generalize isLet c = l at *
  cases l
  all_goals
    go_enter Tryz.func52, Tryz.ntmps52
    go_wp2_with fail
    refine HC.out.mono ?_
    rintro e w' ⟨rfl, rfl⟩
    clear HC
    go_wp2
    all_goals
      go_ret
      refine ⟨congrArg (fun x => Ending.returned (.bool x)) ?_, rfl⟩
      first | rfl | (rw [Bool.eq_iff_iff]; simp; omega) | simp

set_option maxRecDepth 100000 in
set_option maxHeartbeats 1000000 in
theorem within_any (w : World) (c : UInt8) : Calls Tryz.prog 75 #[.int .u8 (c.toNat : Int)] w fun e w' => e = .returned (.bool (inN c)) ∧ w' = w := by
  have HM : inN c = (begN c || (isDig c || decide (c.toNat = 39 ∨ c.toNat = 45))) := by
    unfold inN
    rw [Bool.or_assoc, Bool.or_assoc]
    congr 2
    rw [Bool.eq_iff_iff, Bool.or_eq_true, u8n, u8n]; simp
  have HC := hid (begins_any w c)
  have HD := hid (digit_any w c)
  have hc := UInt8.toNat_lt c
  rw [HM]
  clear HM
  generalize c.toNat = n at *
  generalize begN c = l at *
  generalize isDig c = d at *
  cases l
  case true =>
    go_enter Tryz.func75, Tryz.ntmps75
    go_wp2_with fail
    refine HC.out.mono ?_
    rintro e w' ⟨rfl, rfl⟩
    clear HC HD
    go_wp2
    go_ret
    exact ⟨rfl, rfl⟩
  cases d
  all_goals
    go_enter Tryz.func75, Tryz.ntmps75
    go_wp2_with fail
    refine HC.out.mono ?_
    rintro e w' ⟨rfl, rfl⟩
    clear HC
    go_wp2_with fail
    refine HD.out.mono ?_
    rintro e w' ⟨rfl, rfl⟩
    clear HD
    go_wp2
    all_goals
      go_ret
      refine ⟨congrArg (fun x => Ending.returned (.bool x)) ?_, rfl⟩
      first | rfl | (rw [Bool.eq_iff_iff]; simp; omega) | simp

end Go.Proofs.YtionmohglmbklaaGreatDoor.Tr
