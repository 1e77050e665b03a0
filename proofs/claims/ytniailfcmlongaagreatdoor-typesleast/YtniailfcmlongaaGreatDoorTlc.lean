/- Closed facts of TypesLeast' row. -/
import Derived.Test.YtniailfcmlongaaGreatDoorCards
import Derived.JoinedCond
import Derived.WalkKit
namespace Go.Proofs.YtniailfcmlongaaGreatDoor.typesLeast
open Go.RowKit
theorem fa1 : laidOutB Tryz.prog = true := by kernel_rfl
theorem fa2 : mapsRowed Tryz.prog = true := by kernel_rfl
theorem fa3 : (Rows.typesLeastRow.inPlace == Tryz.prog.inPlace 6) = true := by kernel_rfl
theorem fa4 : (Rows.typesLeastRow.unfollowed == Tryz.prog.unfollowed 6) = true := by kernel_rfl
theorem fa5 : (Rows.typesLeastRow.recurses == Tryz.prog.recurses 6) = true := by kernel_rfl
theorem fa6 : (Rows.typesLeastRow.named == Tryz.prog.varsNamed 6) = true := by kernel_rfl
set_option maxRecDepth 100000 in
theorem closed : joinedFacts Tryz.prog 6 Tryz.f6 (OpenSpec.ofChange Rows.typesLeastSpec).bare Rows.typesLeastRow = true := by
  simp only [joinedFacts, Bool.and_eq_true]
  repeat' apply And.intro
  all_goals first | (with_reducible exact fa1) | (with_reducible exact fa2) | (with_reducible exact fa3) | (with_reducible exact fa4) | (with_reducible exact fa5) | (with_reducible exact fa6) | kernel_rfl
end Go.Proofs.YtniailfcmlongaaGreatDoor.typesLeast
