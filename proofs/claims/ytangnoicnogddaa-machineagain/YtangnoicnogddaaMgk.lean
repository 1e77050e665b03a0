/- Closed facts of MachineAgain' row. -/
import Derived.Test.YtangnoicnogddaaRows
import Derived.Test.YtangnoicnogddaaChecked
import Derived.JoinedCond
import Derived.WalkKit
namespace Go.Proofs.Ytangnoicnogddaa.machineAgain
open Go.RowKit
theorem fa1 : laidOutB Try.prog = true := by kernel_rfl
theorem fa2 : mapsRowed Try.prog = true := by kernel_rfl
theorem fa3 : (Rows.machineAgainRow.inPlace == Try.prog.inPlace 4) = true := by kernel_rfl
theorem fa4 : (Rows.machineAgainRow.unfollowed == Try.prog.unfollowed 4) = true := by kernel_rfl
theorem fa5 : (Rows.machineAgainRow.recurses == Try.prog.recurses 4) = true := by kernel_rfl
theorem fa6 : (Rows.machineAgainRow.named == Try.prog.varsNamed 4) = true := by kernel_rfl
set_option maxRecDepth 100000 in
theorem closed : joinedFacts Try.prog 4 Try.f4 (OpenSpec.ofChange Rows.machineAgainSpec).bare Rows.machineAgainRow = true := by
  simp only [joinedFacts, Bool.and_eq_true]
  repeat' apply And.intro
  all_goals first | (with_reducible exact fa1) | (with_reducible exact fa2) | (with_reducible exact fa3) | (with_reducible exact fa4) | (with_reducible exact fa5) | (with_reducible exact fa6) | kernel_rfl
end Go.Proofs.Ytangnoicnogddaa.machineAgain
