/- The contract of the document's file, whole; the document's Do. -/
import Derived.Test.YtangnoicnogddaaRfA
import Derived.Test.YtangnoicnogddaaRfB
import Derived.Test.YtangnoicnogddaaRdo
namespace Go.Proofs.Ytangnoicnogddaa.Tr
open Go.RowKit

theorem rfile_any {E : Nat → Prop} : FileC E := fun w rb s o pa pc XF XR h hs a z hz => by
  rcases e : o.fa with _ | ⟨ub, uo, up⟩
  · exact rfile_none h hs a z hz e
  · exact rfile_some h hs a z hz e
end Go.Proofs.Ytangnoicnogddaa.Tr
