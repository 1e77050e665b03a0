/- Closed facts of UnitsWait' row. -/
import Derived.Test.YtcpeebkfnnkjnaaDoorCards
import Derived.JoinedCond
import Derived.WalkKit
namespace Go.Proofs.YtcpeebkfnnkjnaaDoor.unitsWait
open Go.RowKit
theorem fa1 : laidOutB Tryd.prog = true := by kernel_rfl
theorem fa2 : mapsRowed Tryd.prog = true := by kernel_rfl
theorem fa3 : (Rows.unitsWaitRow.inPlace == Tryd.prog.inPlace 5) = true := by kernel_rfl
theorem fa4 : (Rows.unitsWaitRow.unfollowed == Tryd.prog.unfollowed 5) = true := by kernel_rfl
theorem fa5 : (Rows.unitsWaitRow.recurses == Tryd.prog.recurses 5) = true := by kernel_rfl
theorem fa6 : (Rows.unitsWaitRow.named == Tryd.prog.varsNamed 5) = true := by kernel_rfl
set_option maxRecDepth 100000 in
theorem closed : joinedFacts Tryd.prog 5 Tryd.f5 (OpenSpec.ofChange Rows.unitsWaitSpec).bare Rows.unitsWaitRow = true := by
  simp only [joinedFacts, Bool.and_eq_true]
  repeat' apply And.intro
  all_goals first | (with_reducible exact fa1) | (with_reducible exact fa2) | (with_reducible exact fa3) | (with_reducible exact fa4) | (with_reducible exact fa5) | (with_reducible exact fa6) | kernel_rfl
end Go.Proofs.YtcpeebkfnnkjnaaDoor.unitsWait
