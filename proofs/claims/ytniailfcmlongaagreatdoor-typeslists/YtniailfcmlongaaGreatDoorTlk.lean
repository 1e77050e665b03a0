/- Closed facts of TypesLists' row. -/
import Derived.Test.YtniailfcmlongaaGreatDoorCards
import Derived.JoinedCond
import Derived.WalkKit
namespace Go.Proofs.YtniailfcmlongaaGreatDoor.typesLists
open Go.RowKit
theorem fa1 : laidOutB Tryz.prog = true := by kernel_rfl
theorem fa2 : mapsRowed Tryz.prog = true := by kernel_rfl
theorem fa3 : (Rows.typesListsRow.inPlace == Tryz.prog.inPlace 7) = true := by kernel_rfl
theorem fa4 : (Rows.typesListsRow.unfollowed == Tryz.prog.unfollowed 7) = true := by kernel_rfl
theorem fa5 : (Rows.typesListsRow.recurses == Tryz.prog.recurses 7) = true := by kernel_rfl
theorem fa6 : (Rows.typesListsRow.named == Tryz.prog.varsNamed 7) = true := by kernel_rfl
set_option maxRecDepth 100000 in
theorem closed : joinedFacts Tryz.prog 7 Tryz.f7 (OpenSpec.ofChange Rows.typesListsSpec).bare Rows.typesListsRow = true := by
  simp only [joinedFacts, Bool.and_eq_true]
  repeat' apply And.intro
  all_goals first | (with_reducible exact fa1) | (with_reducible exact fa2) | (with_reducible exact fa3) | (with_reducible exact fa4) | (with_reducible exact fa5) | (with_reducible exact fa6) | kernel_rfl
end Go.Proofs.YtniailfcmlongaaGreatDoor.typesLists
