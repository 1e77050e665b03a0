/- Closed facts of ValueCompares' row. -/
import Derived.Test.YtlepjghfcpgbcaaGreatDoorCards
import Derived.JoinedCond
import Derived.WalkKit
namespace Go.Proofs.YtlepjghfcpgbcaaGreatDoor.valueCompares
open Go.RowKit
theorem fa1 : laidOutB Tryz.prog = true := by kernel_rfl
theorem fa2 : mapsRowed Tryz.prog = true := by kernel_rfl
theorem fa3 : (Rows.valueComparesRow.inPlace == Tryz.prog.inPlace 4) = true := by kernel_rfl
theorem fa4 : (Rows.valueComparesRow.unfollowed == Tryz.prog.unfollowed 4) = true := by kernel_rfl
theorem fa5 : (Rows.valueComparesRow.recurses == Tryz.prog.recurses 4) = true := by kernel_rfl
theorem fa6 : (Rows.valueComparesRow.named == Tryz.prog.varsNamed 4) = true := by kernel_rfl
set_option maxRecDepth 100000 in
theorem closed : joinedFacts Tryz.prog 4 Tryz.f4 (OpenSpec.ofChange Rows.valueComparesSpec).bare Rows.valueComparesRow = true := by
  simp only [joinedFacts, Bool.and_eq_true]
  repeat' apply And.intro
  all_goals first | (with_reducible exact fa1) | (with_reducible exact fa2) | (with_reducible exact fa3) | (with_reducible exact fa4) | (with_reducible exact fa5) | (with_reducible exact fa6) | kernel_rfl
end Go.Proofs.YtlepjghfcpgbcaaGreatDoor.valueCompares
