/- Closed facts of UnitsOrders' row. -/
import Derived.Test.YtcpeebkfnnkjnaaDoorCards
import Derived.JoinedCond
import Derived.WalkKit
namespace Go.Proofs.YtcpeebkfnnkjnaaDoor.unitsOrders
open Go.RowKit
theorem fa1 : laidOutB Tryd.prog = true := by kernel_rfl
theorem fa2 : mapsRowed Tryd.prog = true := by kernel_rfl
theorem fa3 : (Rows.unitsOrdersRow.inPlace == Tryd.prog.inPlace 3) = true := by kernel_rfl
theorem fa4 : (Rows.unitsOrdersRow.unfollowed == Tryd.prog.unfollowed 3) = true := by kernel_rfl
theorem fa5 : (Rows.unitsOrdersRow.recurses == Tryd.prog.recurses 3) = true := by kernel_rfl
theorem fa6 : (Rows.unitsOrdersRow.named == Tryd.prog.varsNamed 3) = true := by kernel_rfl
set_option maxRecDepth 100000 in
theorem closed : joinedFacts Tryd.prog 3 Tryd.f3 (OpenSpec.ofChange Rows.unitsOrdersSpec).bare Rows.unitsOrdersRow = true := by
  simp only [joinedFacts, Bool.and_eq_true]
  repeat' apply And.intro
  all_goals first | (with_reducible exact fa1) | (with_reducible exact fa2) | (with_reducible exact fa3) | (with_reducible exact fa4) | (with_reducible exact fa5) | (with_reducible exact fa6) | kernel_rfl
end Go.Proofs.YtcpeebkfnnkjnaaDoor.unitsOrders
