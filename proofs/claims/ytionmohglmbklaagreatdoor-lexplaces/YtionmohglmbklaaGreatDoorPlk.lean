/- Closed facts of LexPlaces' row. -/
import Derived.Test.YtionmohglmbklaaGreatDoorCards
import Derived.JoinedCond
import Derived.WalkKit
namespace Go.Proofs.YtionmohglmbklaaGreatDoor.lexPlaces
open Go.RowKit
theorem fa1 : laidOutB Tryz.prog = true := by kernel_rfl
theorem fa2 : mapsRowed Tryz.prog = true := by kernel_rfl
theorem fa3 : (Rows.lexPlacesRow.inPlace == Tryz.prog.inPlace 5) = true := by kernel_rfl
theorem fa4 : (Rows.lexPlacesRow.unfollowed == Tryz.prog.unfollowed 5) = true := by kernel_rfl
theorem fa5 : (Rows.lexPlacesRow.recurses == Tryz.prog.recurses 5) = true := by kernel_rfl
theorem fa6 : (Rows.lexPlacesRow.named == Tryz.prog.varsNamed 5) = true := by kernel_rfl
set_option maxRecDepth 100000 in
theorem closed : joinedFacts Tryz.prog 5 Tryz.f5 (OpenSpec.ofChange Rows.lexPlacesSpec).bare Rows.lexPlacesRow = true := by
  simp only [joinedFacts, Bool.and_eq_true]
  repeat' apply And.intro
  all_goals first | (with_reducible exact fa1) | (with_reducible exact fa2) | (with_reducible exact fa3) | (with_reducible exact fa4) | (with_reducible exact fa5) | (with_reducible exact fa6) | kernel_rfl
end Go.Proofs.YtionmohglmbklaaGreatDoor.lexPlaces
