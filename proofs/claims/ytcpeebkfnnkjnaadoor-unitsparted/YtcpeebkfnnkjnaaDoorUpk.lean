/- Closed facts of UnitsParted' row. -/
import Derived.Test.YtcpeebkfnnkjnaaDoorCards
import Derived.JoinedCond
import Derived.WalkKit
namespace Go.Proofs.YtcpeebkfnnkjnaaDoor.unitsParted
open Go.RowKit
theorem fa1 : laidOutB Tryd.prog = true := by kernel_rfl
theorem fa2 : mapsRowed Tryd.prog = true := by kernel_rfl
theorem fa3 : (Rows.unitsPartedRow.inPlace == Tryd.prog.inPlace 6) = true := by kernel_rfl
theorem fa4 : (Rows.unitsPartedRow.unfollowed == Tryd.prog.unfollowed 6) = true := by kernel_rfl
theorem fa5 : (Rows.unitsPartedRow.recurses == Tryd.prog.recurses 6) = true := by kernel_rfl
theorem fa6 : (Rows.unitsPartedRow.named == Tryd.prog.varsNamed 6) = true := by kernel_rfl
set_option maxRecDepth 100000 in
theorem closed : joinedFacts Tryd.prog 6 Tryd.f6 (OpenSpec.ofChange Rows.unitsPartedSpec).bare Rows.unitsPartedRow = true := by
  simp only [joinedFacts, Bool.and_eq_true]
  repeat' apply And.intro
  all_goals first | (with_reducible exact fa1) | (with_reducible exact fa2) | (with_reducible exact fa3) | (with_reducible exact fa4) | (with_reducible exact fa5) | (with_reducible exact fa6) | kernel_rfl
end Go.Proofs.YtcpeebkfnnkjnaaDoor.unitsParted
