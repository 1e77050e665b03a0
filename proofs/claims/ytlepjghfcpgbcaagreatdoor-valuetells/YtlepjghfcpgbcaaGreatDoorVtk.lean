/- Closed facts of ValueTells' row. -/
import Derived.Test.YtlepjghfcpgbcaaGreatDoorCards
import Derived.JoinedCond
import Derived.WalkKit
namespace Go.Proofs.YtlepjghfcpgbcaaGreatDoor.valueTells
open Go.RowKit
theorem fa1 : laidOutB Tryz.prog = true := by kernel_rfl
theorem fa2 : mapsRowed Tryz.prog = true := by kernel_rfl
theorem fa3 : (Rows.valueTellsRow.inPlace == Tryz.prog.inPlace 3) = true := by kernel_rfl
theorem fa4 : (Rows.valueTellsRow.unfollowed == Tryz.prog.unfollowed 3) = true := by kernel_rfl
theorem fa5 : (Rows.valueTellsRow.recurses == Tryz.prog.recurses 3) = true := by kernel_rfl
theorem fa6 : (Rows.valueTellsRow.named == Tryz.prog.varsNamed 3) = true := by kernel_rfl
set_option maxRecDepth 100000 in
theorem closed : joinedFacts Tryz.prog 3 Tryz.f3 (OpenSpec.ofChange Rows.valueTellsSpec).bare Rows.valueTellsRow = true := by
  simp only [joinedFacts, Bool.and_eq_true]
  repeat' apply And.intro
  all_goals first | (with_reducible exact fa1) | (with_reducible exact fa2) | (with_reducible exact fa3) | (with_reducible exact fa4) | (with_reducible exact fa5) | (with_reducible exact fa6) | kernel_rfl
end Go.Proofs.YtlepjghfcpgbcaaGreatDoor.valueTells
