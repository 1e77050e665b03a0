/- The contracts of what reckons with ints. -/
import Derived.Test.YtniailfcmlongaaGreatDoorRgs
namespace Go.Proofs.YtniailfcmlongaaGreatDoor.Tr
open Go.RowKit

theorem sizeV : (Tryz.prog.info? 26).map (·.size) = some 6 := by kernel_rfl
theorem resV {fn : Func} {p : Tmp} (h : fn.results = #[.cell p 26]) {a : Act} {W : World} {b : Nat} {t : TypeId} {x : Vv} (ha : a.tmps.getD p undef = .pointer (some ⟨b, 0, none⟩)) (hb : Blk W b t x.cs) :
    (results fn a.tmps).run Tryz.prog W = .ok x.v W :=
  results_cell_row h a.tmps W b t x.cs.toArray (0, 0) _ ha hb Tryz.underlying26 rfl (by kernel_rfl)
theorem resVE {fn : Func} {p u : Tmp} (h : fn.results = #[.cell p 26, .tmp u]) {a : Act} {W : World} {b : Nat} {t : TypeId} {x : Vv} (ha : a.tmps.getD p undef = .pointer (some ⟨b, 0, none⟩)) (hb : Blk W b t x.cs) :
    (results fn a.tmps).run Tryz.prog W = .ok (.tuple #[x.v, a.tmps.getD u undef]) W := by
  rw [results_cell_tmp h a.tmps Tryz.prog W, ha]
  have e := run_loadVar_mid (P := Tryz.prog) W b 0 26 x.cs _ (hb.range 0 _ (by simp)) Tryz.underlying26 rfl (by rw [sizeV]; rfl)
  simp [asAddr, e, Result.andThen]

end Go.Proofs.YtniailfcmlongaaGreatDoor.Tr
