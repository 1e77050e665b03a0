/- Closed facts of MachinePlays' row. -/
import Derived.Test.YtangnoicnogddaaRows
import Derived.Test.YtangnoicnogddaaChecked
import Derived.JoinedCond
import Derived.WalkKit
namespace Go.Proofs.Ytangnoicnogddaa.machinePlays
open Go.RowKit
theorem fa1 : laidOutB Try.prog = true := by kernel_rfl
theorem fa2 : mapsRowed Try.prog = true := by kernel_rfl
theorem fa3 : (Rows.machinePlaysUptoRow.inPlace == Try.prog.inPlace 3) = true := by kernel_rfl
theorem fa4 : (Rows.machinePlaysUptoRow.unfollowed == Try.prog.unfollowed 3) = true := by kernel_rfl
theorem fa5 : (Rows.machinePlaysUptoRow.recurses == Try.prog.recurses 3) = true := by kernel_rfl
theorem fa6 : (Rows.machinePlaysUptoRow.named == Try.prog.varsNamed 3) = true := by kernel_rfl
set_option maxRecDepth 100000 in
theorem closed : joinedFacts Try.prog 3 Try.f3 (Rows.OpenSpec.upto Rows.machinePlaysSpec).bare Rows.machinePlaysUptoRow = true := by
  simp only [joinedFacts, Bool.and_eq_true]
  repeat' apply And.intro
  all_goals first | (with_reducible exact fa1) | (with_reducible exact fa2) | (with_reducible exact fa3) | (with_reducible exact fa4) | (with_reducible exact fa5) | (with_reducible exact fa6) | kernel_rfl
end Go.Proofs.Ytangnoicnogddaa.machinePlays
