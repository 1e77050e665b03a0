/- Closed facts of MachineStands' row. -/
import Derived.Test.YtangnoicnogddaaRows
import Derived.Test.YtangnoicnogddaaChecked
import Derived.JoinedCond
import Derived.WalkKit
namespace Go.Proofs.Ytangnoicnogddaa.machineStands
open Go.RowKit
theorem fa1 : laidOutB Try.prog = true := by kernel_rfl
theorem fa2 : mapsRowed Try.prog = true := by kernel_rfl
theorem fa3 : (Rows.machineStandsUptoRow.inPlace == Try.prog.inPlace 5) = true := by kernel_rfl
theorem fa4 : (Rows.machineStandsUptoRow.unfollowed == Try.prog.unfollowed 5) = true := by kernel_rfl
theorem fa5 : (Rows.machineStandsUptoRow.recurses == Try.prog.recurses 5) = true := by kernel_rfl
theorem fa6 : (Rows.machineStandsUptoRow.named == Try.prog.varsNamed 5) = true := by kernel_rfl
set_option maxRecDepth 100000 in
theorem closed : joinedFacts Try.prog 5 Try.f5 (Rows.OpenSpec.upto Rows.machineStandsSpec).bare Rows.machineStandsUptoRow = true := by
  simp only [joinedFacts, Bool.and_eq_true]
  repeat' apply And.intro
  all_goals first | (with_reducible exact fa1) | (with_reducible exact fa2) | (with_reducible exact fa3) | (with_reducible exact fa4) | (with_reducible exact fa5) | (with_reducible exact fa6) | kernel_rfl
end Go.Proofs.Ytangnoicnogddaa.machineStands
