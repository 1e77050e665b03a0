
/- Lay, and what it is by: the layout's own functions. -/
import Derived.Test.YtehoiahgkbnjdaaGreatCtl
namespace Go.Proofs.YtehoiahgkbnjdaaGreat.Al
open Go.RowKit Dk Wl

/-- A layout. -/
structure Ly where
  s : Nat
  lg : Nat
  ll : Nat
  mp : Nat
  nd : Nat
  tb : Nat
  no : Nat
  da : Nat
def Ly.cells (y : Ly) : List Value := [.int .i64 (y.s : Int), .int .i64 (y.lg : Int), .int .i64 (y.ll : Int), .int .i64 (y.mp : Int), .int .i64 (y.nd : Int), .int .i64 (y.tb : Int), .int .i64 (y.no : Int), .int .i64 (y.da : Int)]
def Ly.v (y : Ly) : Value := .agg y.cells.toArray
def lay (n : Nat) : Ly :=
  { s := n, lg := 1, ll := max (n / 8) 16, mp := 1 + max (n / 8) 16, nd := 2 + max (n / 8) 16, tb := 3 + max (n / 8) 16, no := min (n / 4) 128, da := 3 + max (n / 8) 16 + (min (n / 4) 128 + 3) / 4 }
def noLay : Ly := ⟨0, 0, 0, 0, 0, 0, 0, 0⟩

theorem Blk.cast {w : World} {b : Nat} {t : TypeId} {xs ys : List Value} (h : Blk w b t xs) (e : xs = ys) : Blk w b t ys := e ▸ h
theorem size24 : (Tryz.prog.info? 38).map (·.size) = some 8 := by kernel_rfl
theorem load24 {W : World} {b : Nat} {t : TypeId} {y : Ly} (hb : Blk W b t y.cells) : (Instr.loadAt 38 (.pointer (some ⟨b, 0, none⟩))).run Tryz.prog W = .ok y.v W :=
  run_loadAt_mid W b 0 38 y.cells _ (hb.range 0 _ (by simp)) Tryz.underlying38 rfl (by rw [size24]; rfl)
theorem resY {fn : Func} {p u : Tmp} (h : fn.results = #[.cell p 38, .tmp u]) {a : Act} {W : World} {b : Nat} {t : TypeId} {y : Ly} (ha : a.tmps.getD p undef = .pointer (some ⟨b, 0, none⟩)) (hb : Blk W b t y.cells) :
    (results fn a.tmps).run Tryz.prog W = .ok (.tuple #[y.v, a.tmps.getD u undef]) W := by
  rw [results_cell_tmp h a.tmps Tryz.prog W, ha]
  have e := run_loadVar_mid (P := Tryz.prog) W b 0 38 y.cells _ (hb.range 0 _ (by simp)) Tryz.underlying38 rfl (by rw [size24]; rfl)
  simp [asAddr, e, Result.andThen, Ly.v]

set_option maxRecDepth 100000 in
set_option maxHeartbeats 1000000 in
theorem Lay_ok (w : World) (n : Nat) (h1 : 64 ≤ n) (h2 : n ≤ 1024) : Calls Tryz.prog 30 #[.int .i64 (n : Int)] w fun e w' => e = .returned (.tuple #[(lay n).v, .int .i64 0]) ∧ Nw w w' := by
  have hb1 : ¬ (n : Int) < 64 := by omega
  have hb2 : ¬ (n : Int) > 1024 := by omega
  go_enter Tryz.func30, Tryz.ntmps30
  go_wp2
  all_goals
    refine bodyPost_ret (resY (y := lay n) (b := w.heap.size) (t := 38) rfl rfl ?_) rfl ⟨rfl, ((Fr.refl _ w).alloc _).alloc _⟩
    refine Blk.cast ((Blk.new w 38 _).alloc _) ?_
    simp [lay, Ly.cells]
    omega

set_option maxRecDepth 100000 in
set_option maxHeartbeats 1000000 in
theorem Lay_no (w : World) (n : Int) (h : n < 64 ∨ 1024 < n) : Calls Tryz.prog 30 #[.int .i64 n] w fun e w' => e = .returned (.tuple #[noLay.v, .int .i64 50]) ∧ Nw w w' := by
  have HF : Hid (Nw w (w.alloc (.cells noLay.cells.toArray 38))) := (Fr.refl _ w).alloc _
  rcases Int.lt_or_le n 64 with h1 | h1
  · clear h
    go_enter Tryz.func30, Tryz.ntmps30
    go_wp2
    refine bodyPost_ret (resY (y := noLay) (b := w.heap.size) (t := 38) rfl rfl (Blk.new w 38 _)) rfl ⟨rfl, HF.out⟩
  · have h2 : ¬ n < 64 := by omega
    have h3 : n > 1024 := by omega
    clear h
    go_enter Tryz.func30, Tryz.ntmps30
    go_wp2
    refine bodyPost_ret (resY (y := noLay) (b := w.heap.size) (t := 38) rfl rfl (Blk.new w 38 _)) rfl ⟨rfl, HF.out⟩

end Go.Proofs.YtehoiahgkbnjdaaGreat.Al
