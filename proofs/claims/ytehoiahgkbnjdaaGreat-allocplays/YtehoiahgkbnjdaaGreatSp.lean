
/- The layout's method values, and where an inode stands. -/
import Derived.Test.YtehoiahgkbnjdaaGreatLy
namespace Go.Proofs.YtehoiahgkbnjdaaGreat.Al
open Go.RowKit Dk Wl

def spC (a z : Nat) (f l : Int) : List Value := [.int .i64 (a : Int), .int .i64 (z : Int), .int .i64 f, .int .i64 l]
theorem size91 : (Tryz.prog.info? 116).map (·.size) = some 4 := by kernel_rfl
theorem res91 {fn : Func} {p : Tmp} (h : fn.results = #[.cell p 116]) {a : Act} {W : World} {b : Nat} {t : TypeId} {cs : List Value} (ha : a.tmps.getD p undef = .pointer (some ⟨b, 0, none⟩)) (hb : Blk W b t cs) (hl : cs.length = 4) :
    (results fn a.tmps).run Tryz.prog W = .ok (.agg cs.toArray) W := by
  have ha' : a.tmps[p]?.getD undef = .pointer (some ⟨b, 0, none⟩) := by simpa using ha
  have e := run_loadVar_mid (P := Tryz.prog) W b 0 116 cs _ (hb.range 0 _ (by simp)) Tryz.underlying116 rfl (by rw [size91, hl])
  simp [results, h, ha', asAddr, e]

theorem Blk.new1 (w : World) (o : Obj) (t : TypeId) (xs : List Value) : Blk ((w.alloc o).alloc (.cells xs.toArray t)) (w.heap.size + 1) t xs := by
  have := Blk.new (w.alloc o) t xs
  rwa [World.size_alloc] at this

set_option maxRecDepth 100000 in
set_option maxHeartbeats 1000000 in
theorem blocks_any (w : World) (y : Ly) (f l : Int) (h1 : 1 ≤ y.s) (h2 : y.s ≤ 1024) :
    Calls Tryz.prog 49 #[y.v, .int .i64 f, .int .i64 l] w fun e w' => e = .returned (.agg (spC y.mp y.da (max f y.da) (min l ((y.s : Int) - 1))).toArray) ∧ Nw w w' := by
  have B0 := Blk.new w 38 y.cells
  have c0 := B0.cell 0
  have c3 := B0.cell 3
  have c7 := B0.cell 7
  unfold Ly.v Ly.cells
  unfold Ly.cells at c0 c3 c7
  have hw : IntKind.i64.wrap ((y.s : Int) - 1) = (y.s : Int) - 1 := by simp [IntKind.wrap, IntKind.bits, IntKind.signed]; omega
  clear B0
  go_enter Tryz.func49, Tryz.ntmps49
  go_wp2
  all_goals
    refine bodyPost_ret (res91 (b := w.heap.size + 1) (t := 116) rfl rfl ?_ rfl) rfl ⟨rfl, ((Fr.refl _ w).alloc _).alloc _⟩
    refine Blk.cast (Blk.new1 _ _ _ _) ?_
    simp [spC]
    omega

set_option maxRecDepth 100000 in
set_option maxHeartbeats 1000000 in
theorem inodes_any (w : World) (y : Ly) (f l : Int) (h1 : 1 ≤ y.no) (h2 : y.no ≤ 1024) :
    Calls Tryz.prog 60 #[y.v, .int .i64 f, .int .i64 l] w fun e w' => e = .returned (.agg (spC y.nd 0 (max f 1) (min l ((y.no : Int) - 1))).toArray) ∧ Nw w w' := by
  have B0 := Blk.new w 38 y.cells
  have c4 := B0.cell 4
  have c6 := B0.cell 6
  unfold Ly.v Ly.cells
  unfold Ly.cells at c4 c6
  have hw : IntKind.i64.wrap ((y.no : Int) - 1) = (y.no : Int) - 1 := by simp [IntKind.wrap, IntKind.bits, IntKind.signed]; omega
  clear B0
  go_enter Tryz.func60, Tryz.ntmps60
  go_wp2
  all_goals
    refine bodyPost_ret (res91 (b := w.heap.size + 1) (t := 116) rfl rfl ?_ rfl) rfl ⟨rfl, ((Fr.refl _ w).alloc _).alloc _⟩
    refine Blk.cast (Blk.new1 _ _ _ _) ?_
    simp [spC]
    omega

set_option maxRecDepth 100000 in
set_option maxHeartbeats 1000000 in
theorem inodeAt_any (w : World) (y : Ly) (i : Nat) (h1 : y.tb ≤ 1024) (h2 : i ≤ 1024) :
    Calls Tryz.prog 85 #[y.v, .int .i64 (i : Int)] w fun e w' => e = .returned (.tuple #[.int .i64 ((y.tb + i / 4 : Nat) : Int), .int .i64 ((i % 4 * 32 : Nat) : Int)]) ∧ Nw w w' := by
  have c5 := (Blk.new w 38 y.cells).cell 5
  unfold Ly.v Ly.cells
  unfold Ly.cells at c5
  go_enter Tryz.func85, Tryz.ntmps85
  go_wp2
  go_ret2
  exact ⟨by simp, (Fr.refl _ w).alloc _⟩

end Go.Proofs.YtehoiahgkbnjdaaGreat.Al
