/- Bytes of a slice: small facts. -/
import Derived.Test.YtipppagkajcheaaGreatDoorSPu
import Derived.Lib.SlBytesConst
namespace Go.Proofs.YtipppagkajcheaaGreatDoor.Tr
open Go.RowKit

theorem Src.nil (w : World) (ad : Option Addr) : Src w ad [] := fun h => absurd rfl h
theorem Src.fr {w w' : World} {ad : Option Addr} {b : List UInt8} (h : Src w ad b) (f : Fr (fun _ => False) w w') : Src w' ad b := by
  intro hb
  obtain ⟨bb, bo, e, hr⟩ := h hb
  refine ⟨bb, bo, e, fun j v hv => ?_⟩
  have hc := hr j v hv
  have hlt := World.block_lt_of_cell? w ⟨bb, bo + j, none⟩ hc
  rw [World.cell?_of_block (w := w) (f.block bb hlt (fun h => h))]
  exact hc

end Go.Proofs.YtipppagkajcheaaGreatDoor.Tr
