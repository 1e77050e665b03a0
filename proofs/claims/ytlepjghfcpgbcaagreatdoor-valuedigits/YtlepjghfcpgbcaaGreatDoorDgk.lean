/- Closed facts of ValueDigits' row. -/
import Derived.Test.YtlepjghfcpgbcaaGreatDoorCards
import Derived.JoinedCond
import Derived.WalkKit
namespace Go.Proofs.YtlepjghfcpgbcaaGreatDoor.valueDigits
open Go.RowKit
theorem fa1 : laidOutB Tryz.prog = true := by kernel_rfl
theorem fa2 : mapsRowed Tryz.prog = true := by kernel_rfl
theorem fa3 : (Rows.valueDigitsRow.inPlace == Tryz.prog.inPlace 10) = true := by kernel_rfl
theorem fa4 : (Rows.valueDigitsRow.unfollowed == Tryz.prog.unfollowed 10) = true := by kernel_rfl
theorem fa5 : (Rows.valueDigitsRow.recurses == Tryz.prog.recurses 10) = true := by kernel_rfl
theorem fa6 : (Rows.valueDigitsRow.named == Tryz.prog.varsNamed 10) = true := by kernel_rfl
set_option maxRecDepth 100000 in
theorem closed : joinedFacts Tryz.prog 10 Tryz.f10 (OpenSpec.ofChange Rows.valueDigitsSpec).bare Rows.valueDigitsRow = true := by
  simp only [joinedFacts, Bool.and_eq_true]
  repeat' apply And.intro
  all_goals first | (with_reducible exact fa1) | (with_reducible exact fa2) | (with_reducible exact fa3) | (with_reducible exact fa4) | (with_reducible exact fa5) | (with_reducible exact fa6) | kernel_rfl
end Go.Proofs.YtlepjghfcpgbcaaGreatDoor.valueDigits
