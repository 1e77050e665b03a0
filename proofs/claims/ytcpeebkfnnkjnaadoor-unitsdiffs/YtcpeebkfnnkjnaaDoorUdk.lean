/- Closed facts of UnitsDiffs' row. -/
import Derived.Test.YtcpeebkfnnkjnaaDoorCards
import Derived.JoinedCond
import Derived.WalkKit
namespace Go.Proofs.YtcpeebkfnnkjnaaDoor.unitsDiffs
open Go.RowKit
theorem fa1 : laidOutB Tryd.prog = true := by kernel_rfl
theorem fa2 : mapsRowed Tryd.prog = true := by kernel_rfl
theorem fa3 : (Rows.unitsDiffsRow.inPlace == Tryd.prog.inPlace 4) = true := by kernel_rfl
theorem fa4 : (Rows.unitsDiffsRow.unfollowed == Tryd.prog.unfollowed 4) = true := by kernel_rfl
theorem fa5 : (Rows.unitsDiffsRow.recurses == Tryd.prog.recurses 4) = true := by kernel_rfl
theorem fa6 : (Rows.unitsDiffsRow.named == Tryd.prog.varsNamed 4) = true := by kernel_rfl
set_option maxRecDepth 100000 in
theorem closed : joinedFacts Tryd.prog 4 Tryd.f4 (OpenSpec.ofChange Rows.unitsDiffsSpec).bare Rows.unitsDiffsRow = true := by
  simp only [joinedFacts, Bool.and_eq_true]
  repeat' apply And.intro
  all_goals first | (with_reducible exact fa1) | (with_reducible exact fa2) | (with_reducible exact fa3) | (with_reducible exact fa4) | (with_reducible exact fa5) | (with_reducible exact fa6) | kernel_rfl
end Go.Proofs.YtcpeebkfnnkjnaaDoor.unitsDiffs
