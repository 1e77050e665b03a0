/- Closed facts of ValueStrings' row. -/
import Derived.Test.YtlepjghfcpgbcaaGreatDoorCards
import Derived.JoinedCond
import Derived.WalkKit
namespace Go.Proofs.YtlepjghfcpgbcaaGreatDoor.valueStrings
open Go.RowKit
theorem fa1 : laidOutB Tryz.prog = true := by kernel_rfl
theorem fa2 : mapsRowed Tryz.prog = true := by kernel_rfl
theorem fa3 : (Rows.valueStringsRow.inPlace == Tryz.prog.inPlace 11) = true := by kernel_rfl
theorem fa4 : (Rows.valueStringsRow.unfollowed == Tryz.prog.unfollowed 11) = true := by kernel_rfl
theorem fa5 : (Rows.valueStringsRow.recurses == Tryz.prog.recurses 11) = true := by kernel_rfl
theorem fa6 : (Rows.valueStringsRow.named == Tryz.prog.varsNamed 11) = true := by kernel_rfl
set_option maxRecDepth 100000 in
theorem closed : joinedFacts Tryz.prog 11 Tryz.f11 (OpenSpec.ofChange Rows.valueStringsSpec).bare Rows.valueStringsRow = true := by
  simp only [joinedFacts, Bool.and_eq_true]
  repeat' apply And.intro
  all_goals first | (with_reducible exact fa1) | (with_reducible exact fa2) | (with_reducible exact fa3) | (with_reducible exact fa4) | (with_reducible exact fa5) | (with_reducible exact fa6) | kernel_rfl
end Go.Proofs.YtlepjghfcpgbcaaGreatDoor.valueStrings
