/- MachinePlays' walk, whole. -/
import Derived.Test.YtangnoicnogddaaWpl
import Derived.Test.YtangnoicnogddaaRfz
namespace Go.Proofs.Ytangnoicnogddaa.Tr
open Go.RowKit

theorem doc_any : DocC := fun E w rb s h hs hpl a z hk hb => by
  obtain ⟨o, pa, pc, XF, XR, h⟩ := h
  exact rdo_any rfile_any h hs hpl a z hk hb
end Go.Proofs.Ytangnoicnogddaa.Tr
