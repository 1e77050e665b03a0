/- Closed facts of TypesInts' row. -/
import Derived.Test.YtniailfcmlongaaGreatDoorCards
import Derived.JoinedCond
import Derived.WalkKit
namespace Go.Proofs.YtniailfcmlongaaGreatDoor.typesInts
open Go.RowKit
theorem fa1 : laidOutB Tryz.prog = true := by kernel_rfl
theorem fa2 : mapsRowed Tryz.prog = true := by kernel_rfl
theorem fa3 : (Rows.typesIntsRow.inPlace == Tryz.prog.inPlace 8) = true := by kernel_rfl
theorem fa4 : (Rows.typesIntsRow.unfollowed == Tryz.prog.unfollowed 8) = true := by kernel_rfl
theorem fa5 : (Rows.typesIntsRow.recurses == Tryz.prog.recurses 8) = true := by kernel_rfl
theorem fa6 : (Rows.typesIntsRow.named == Tryz.prog.varsNamed 8) = true := by kernel_rfl
set_option maxRecDepth 100000 in
theorem closed : joinedFacts Tryz.prog 8 Tryz.f8 (OpenSpec.ofChange Rows.typesIntsSpec).bare Rows.typesIntsRow = true := by
  simp only [joinedFacts, Bool.and_eq_true]
  repeat' apply And.intro
  all_goals first | (with_reducible exact fa1) | (with_reducible exact fa2) | (with_reducible exact fa3) | (with_reducible exact fa4) | (with_reducible exact fa5) | (with_reducible exact fa6) | kernel_rfl
end Go.Proofs.YtniailfcmlongaaGreatDoor.typesInts
