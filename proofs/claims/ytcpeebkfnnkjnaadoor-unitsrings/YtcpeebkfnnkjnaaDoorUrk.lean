/- Closed facts of UnitsRings' row. -/
import Derived.Test.YtcpeebkfnnkjnaaDoorCards
import Derived.JoinedCond
import Derived.WalkKit
namespace Go.Proofs.YtcpeebkfnnkjnaaDoor.unitsRings
open Go.RowKit
theorem fa1 : laidOutB Tryd.prog = true := by kernel_rfl
theorem fa2 : mapsRowed Tryd.prog = true := by kernel_rfl
theorem fa3 : (Rows.unitsRingsRow.inPlace == Tryd.prog.inPlace 7) = true := by kernel_rfl
theorem fa4 : (Rows.unitsRingsRow.unfollowed == Tryd.prog.unfollowed 7) = true := by kernel_rfl
theorem fa5 : (Rows.unitsRingsRow.recurses == Tryd.prog.recurses 7) = true := by kernel_rfl
theorem fa6 : (Rows.unitsRingsRow.named == Tryd.prog.varsNamed 7) = true := by kernel_rfl
set_option maxRecDepth 100000 in
theorem closed : joinedFacts Tryd.prog 7 Tryd.f7 (OpenSpec.ofChange Rows.unitsRingsSpec).bare Rows.unitsRingsRow = true := by
  simp only [joinedFacts, Bool.and_eq_true]
  repeat' apply And.intro
  all_goals first | (with_reducible exact fa1) | (with_reducible exact fa2) | (with_reducible exact fa3) | (with_reducible exact fa4) | (with_reducible exact fa5) | (with_reducible exact fa6) | kernel_rfl
end Go.Proofs.YtcpeebkfnnkjnaaDoor.unitsRings
