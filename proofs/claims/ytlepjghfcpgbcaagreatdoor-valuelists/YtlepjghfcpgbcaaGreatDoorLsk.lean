/- Closed facts of ValueLists' row. -/
import Derived.Test.YtlepjghfcpgbcaaGreatDoorCards
import Derived.JoinedCond
import Derived.WalkKit
namespace Go.Proofs.YtlepjghfcpgbcaaGreatDoor.valueLists
open Go.RowKit
theorem fa1 : laidOutB Tryz.prog = true := by kernel_rfl
theorem fa2 : mapsRowed Tryz.prog = true := by kernel_rfl
theorem fa3 : (Rows.valueListsRow.inPlace == Tryz.prog.inPlace 12) = true := by kernel_rfl
theorem fa4 : (Rows.valueListsRow.unfollowed == Tryz.prog.unfollowed 12) = true := by kernel_rfl
theorem fa5 : (Rows.valueListsRow.recurses == Tryz.prog.recurses 12) = true := by kernel_rfl
theorem fa6 : (Rows.valueListsRow.named == Tryz.prog.varsNamed 12) = true := by kernel_rfl
set_option maxRecDepth 100000 in
theorem closed : joinedFacts Tryz.prog 12 Tryz.f12 (OpenSpec.ofChange Rows.valueListsSpec).bare Rows.valueListsRow = true := by
  simp only [joinedFacts, Bool.and_eq_true]
  repeat' apply And.intro
  all_goals first | (with_reducible exact fa1) | (with_reducible exact fa2) | (with_reducible exact fa3) | (with_reducible exact fa4) | (with_reducible exact fa5) | (with_reducible exact fa6) | kernel_rfl
end Go.Proofs.YtlepjghfcpgbcaaGreatDoor.valueLists
