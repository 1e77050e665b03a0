/- ParseFloat takes 1.5e3 as 1500. -/
import Derived.Test.YtionmohglmbklaaGreatDoorFlo
import Derived.Test.YtionmohglmbklaaGreatDoorRfx
namespace Go.Proofs.YtionmohglmbklaaGreatDoor.Tr
open Go.RowKit

def t15 : List UInt8 := [49, 46, 53, 101, 51]
theorem ftx15 : FTx t15 1 3 := ⟨by decide, by decide, by decide, by decide, by decide, by decide⟩
theorem exx15 : EXx t15 3 4 1 := ⟨by decide, by decide, .inl ⟨rfl, rfl, by decide⟩, by decide, by decide⟩
theorem rfv15 : rfV (rfAt t15 3) t15 ((rfAt t15 3).dp + (exAt t15 4 t15.length : Int) * 1) = .tuple #[.int .u64 15, .int .i64 2, .bool false, .bool false, .bool false, .int .i64 5, .bool true] := by rfl
theorem read15 (w : World) : Calls Tryz.prog 141 #[.string ⟨t15.toArray⟩] w fun e w' => e = .returned (.tuple #[.int .u64 15, .int .i64 2, .bool false, .bool false, .bool false, .int .i64 5, .bool true]) ∧ w' = w := by
  have h := readFloat_exp w ftx15 exx15
  rw [rfv15] at h
  exact h

set_option maxRecDepth 100000 in
theorem bool2_false (w : World) : Calls Tryz.prog 149 #[.bool false] w fun e w' => e = .returned (.int .u64 0) ∧ w = w' := by
  go_enter Tryz.func149, Tryz.ntmps149
  go_wp2
  go_ret
  exact ⟨rfl, rfl⟩

set_option maxRecDepth 100000 in
set_option maxHeartbeats 1000000 in
theorem atof15 {w : World} (h : Tabs w) : Calls Tryz.prog 121 #[.string ⟨t15.toArray⟩] w fun e w' => e = .returned (.tuple #[.float .f64 4654311885213007872, .int .i64 5, .nilIface]) ∧ w' = w := by
  have hopt := h.opt
  have HR := hid (read15 w)
  have HS := hid (special_digit w (t := t15) (by decide) (by decide))
  have HX := hid (exact_15 h)
  clear h
  generalize t15 = t at *
  go_enter Tryz.func121, Tryz.ntmps121
  go_wp2_with fail
  refine HS.out.mono ?_
  rintro e w' ⟨rfl, rfl⟩
  clear HS
  go_wp2_with fail
  refine HR.out.mono ?_
  rintro e w' ⟨rfl, hw⟩
  rw [hw]
  clear HR hw
  go_wp2_with fail
  refine (bool2_false _).mono ?_
  rintro e w' ⟨rfl, rfl⟩
  go_wp2_with fail
  refine HX.out.mono ?_
  rintro e w' ⟨rfl, hw⟩
  rw [hw]
  clear HX hw
  go_wp2
  go_ret3
  exact ⟨rfl, rfl⟩

set_option maxRecDepth 100000 in
set_option maxHeartbeats 1000000 in
theorem pfp15 {w : World} (h : Tabs w) : Calls Tryz.prog 95 #[.string ⟨t15.toArray⟩, .int .i64 64] w fun e w' => e = .returned (.tuple #[.float .f64 4654311885213007872, .int .i64 5, .nilIface]) ∧ w' = w := by
  have HR := hid (atof15 h)
  clear h
  generalize t15 = t at *
  go_enter Tryz.func95, Tryz.ntmps95
  go_wp2_with fail
  refine HR.out.mono ?_
  rintro e w' ⟨rfl, hw⟩
  rw [hw]
  clear HR hw
  go_wp2
  go_ret3
  exact ⟨rfl, rfl⟩

set_option maxRecDepth 100000 in
set_option maxHeartbeats 1000000 in
theorem ipf15 {w : World} (h : Tabs w) : Calls Tryz.prog 69 #[.string ⟨t15.toArray⟩, .int .i64 64] w fun e w' => e = .returned (.tuple #[.float .f64 4654311885213007872, .nilIface]) ∧ w' = w := by
  have HR := hid (pfp15 h)
  clear h
  have hl : t15.length = 5 := rfl
  generalize t15 = t at *
  go_enter Tryz.func69, Tryz.ntmps69
  go_wp2_with fail
  refine HR.out.mono ?_
  rintro e w' ⟨rfl, hw⟩
  rw [hw]
  clear HR hw
  go_wp2
  go_ret2
  exact ⟨rfl, rfl⟩

set_option maxRecDepth 100000 in
set_option maxHeartbeats 1000000 in
theorem pf15 {w0 : World} (h : Tabs w0) : PFok w0 t15 4654311885213007872 := by
  intro w hE
  have HR := hid (ipf15 (h.env hE))
  clear h hE
  generalize t15 = t at *
  go_enter Tryz.func47, Tryz.ntmps47
  go_wp2_with fail
  refine HR.out.mono ?_
  rintro e w' ⟨rfl, hw⟩
  rw [hw]
  clear HR hw
  go_wp2
  go_ret2
  exact ⟨rfl, Fr.refl _ _⟩

end Go.Proofs.YtionmohglmbklaaGreatDoor.Tr
