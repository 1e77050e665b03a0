/- Closed facts of TypesNested' row. -/
import Derived.Test.YtniailfcmlongaaGreatDoorCards
import Derived.JoinedCond
import Derived.WalkKit
namespace Go.Proofs.YtniailfcmlongaaGreatDoor.typesNested
open Go.RowKit
theorem fa1 : laidOutB Tryz.prog = true := by kernel_rfl
theorem fa2 : mapsRowed Tryz.prog = true := by kernel_rfl
theorem fa3 : (Rows.typesNestedRow.inPlace == Tryz.prog.inPlace 9) = true := by kernel_rfl
theorem fa4 : (Rows.typesNestedRow.unfollowed == Tryz.prog.unfollowed 9) = true := by kernel_rfl
theorem fa5 : (Rows.typesNestedRow.recurses == Tryz.prog.recurses 9) = true := by kernel_rfl
theorem fa6 : (Rows.typesNestedRow.named == Tryz.prog.varsNamed 9) = true := by kernel_rfl
set_option maxRecDepth 100000 in
theorem closed : joinedFacts Tryz.prog 9 Tryz.f9 (OpenSpec.ofChange Rows.typesNestedSpec).bare Rows.typesNestedRow = true := by
  simp only [joinedFacts, Bool.and_eq_true]
  repeat' apply And.intro
  all_goals first | (with_reducible exact fa1) | (with_reducible exact fa2) | (with_reducible exact fa3) | (with_reducible exact fa4) | (with_reducible exact fa5) | (with_reducible exact fa6) | kernel_rfl
end Go.Proofs.YtniailfcmlongaaGreatDoor.typesNested
