/- The document's Less of any values: written by gen/gendle.py. -/
import Derived.Test.YtlepjghfcpgbcaaGreatDoorDeu
namespace Go.Proofs.YtlepjghfcpgbcaaGreatDoor.Tr
open Go.RowKit


set_option maxRecDepth 100000 in
set_option maxHeartbeats 4000000 in
set_option linter.unusedVariables false in
set_option linter.unusedSimpArgs false in
theorem rless_no (w : World) (x y : Vv) (r1 r2 : Bool) (hx : RRightOf w x r1) (hy : RRightOf w y r2) (hr : (r1 && r2) = false) : Calls Tryz.prog 28 #[x.v, y.v] w fun e w' => e = .returned (.tuple #[.bool (lessV r1 r2 x y).1, .int .i64 (lessV r1 r2 x y).2]) ∧ Fr (fun _ => False) w w' := by
  have HQ : Hid (lessV r1 r2 x y = (false, 1)) := by unfold Hid lessV; rw [if_pos hr]
  generalize lessV r1 r2 x y = R at *
  have HB := hid (two_blk w x y)
  have HF := hid (two_fr w x y)
  have HX := hid hx
  have HY := hid hy
  have HA1 := hid (fun W => number_any W x)
  have HA2 := hid (fun W => number_any W y)
  unfold RRightOf at HX HY
  clear hx hy
  obtain ⟨k, n, f, t, na, nl, nc, ia, il, ic⟩ := x
  obtain ⟨k', n', f', t', na', nl', nc', ia', il', ic'⟩ := y
  simp only [Vv.v] at *
  cases r1
  all_goals
    cases r2
    all_goals first
      | (exact absurd hr (by decide))
      | (clear hr
         go_enter Tryz.func28, Tryz.ntmps28
         go_wp2_with fail
         refine (HX.out _ (Env.of HF.out)).mono ?_
         rintro e w1 ⟨rfl, f1⟩
         have HB1 := hid (And.intro (f1.blk HB.out.1 (fun h => h)) (f1.blk HB.out.2 (fun h => h)))
         have HF1 := hid (HF.out.trans f1 (fun _ h => h.elim))
         clear f1 HB HF
         obtain ⟨c0, c1, c2, c3, c4, c5⟩ := HB1.out.1.six
         obtain ⟨d0, d1, d2, d3, d4, d5⟩ := HB1.out.2.six
         go_wp2_with fail
         refine (HY.out _ (Env.of HF1.out)).mono ?_
         rintro e w2 ⟨rfl, f1⟩
         have HB2 := hid (And.intro (f1.blk HB1.out.1 (fun h => h)) (f1.blk HB1.out.2 (fun h => h)))
         have HF2 := hid (HF1.out.trans f1 (fun _ h => h.elim))
         clear f1 HB1 HF1
         clear c0 c1 c2 c3 c4 c5 d0 d1 d2 d3 d4 d5
         obtain ⟨c0, c1, c2, c3, c4, c5⟩ := HB2.out.1.six
         obtain ⟨d0, d1, d2, d3, d4, d5⟩ := HB2.out.2.six
         go_wp2_with fail
         go_ret2
         exact ⟨by rw [HQ.out]; rfl, HF2.out⟩)

set_option maxRecDepth 100000 in
set_option maxHeartbeats 4000000 in
set_option linter.unusedVariables false in
set_option linter.unusedSimpArgs false in
theorem rless_22 (w : World) (x y : Vv) (r1 r2 : Bool) (hx : RRightOf w x r1) (hy : RRightOf w y r2) (hr1 : r1 = true) (hr2 : r2 = true) (h1 : x.k = 2) (h2 : y.k = 2) : Calls Tryz.prog 28 #[x.v, y.v] w fun e w' => e = .returned (.tuple #[.bool (lessV r1 r2 x y).1, .int .i64 (lessV r1 r2 x y).2]) ∧ Fr (fun _ => False) w w' := by
  have HQ : Hid (lessV r1 r2 x y = (decide (x.n < y.n), 0)) := by unfold Hid lessV; simp [hr1, hr2, numB, asF, h1, h2]
  generalize lessV r1 r2 x y = R at *
  have HB := hid (two_blk w x y)
  have HF := hid (two_fr w x y)
  have HX := hid hx
  have HY := hid hy
  have HA1 := hid (fun W => number_any W x)
  have HA2 := hid (fun W => number_any W y)
  unfold RRightOf at HX HY
  clear hx hy
  subst hr1 hr2
  obtain ⟨k, n, f, t, na, nl, nc, ia, il, ic⟩ := x
  obtain ⟨k', n', f', t', na', nl', nc', ia', il', ic'⟩ := y
  simp only at h1 h2
  subst h1 h2
  simp only [Vv.v] at *
  simp only [nuF, numB] at HA1 HA2
  go_enter Tryz.func28, Tryz.ntmps28
  go_wp2_with fail
  refine (HX.out _ (Env.of HF.out)).mono ?_
  rintro e w1 ⟨rfl, f1⟩
  have HB1 := hid (And.intro (f1.blk HB.out.1 (fun h => h)) (f1.blk HB.out.2 (fun h => h)))
  have HF1 := hid (HF.out.trans f1 (fun _ h => h.elim))
  clear f1 HB HF
  obtain ⟨c0, c1, c2, c3, c4, c5⟩ := HB1.out.1.six
  obtain ⟨d0, d1, d2, d3, d4, d5⟩ := HB1.out.2.six
  go_wp2_with fail
  refine (HY.out _ (Env.of HF1.out)).mono ?_
  rintro e w2 ⟨rfl, f1⟩
  have HB2 := hid (And.intro (f1.blk HB1.out.1 (fun h => h)) (f1.blk HB1.out.2 (fun h => h)))
  have HF2 := hid (HF1.out.trans f1 (fun _ h => h.elim))
  clear f1 HB1 HF1
  clear c0 c1 c2 c3 c4 c5 d0 d1 d2 d3 d4 d5
  obtain ⟨c0, c1, c2, c3, c4, c5⟩ := HB2.out.1.six
  obtain ⟨d0, d1, d2, d3, d4, d5⟩ := HB2.out.2.six
  go_wp2_with fail
  go_ret2
  exact ⟨by rw [HQ.out]; rfl, HF2.out⟩

set_option maxRecDepth 100000 in
set_option maxHeartbeats 4000000 in
set_option linter.unusedVariables false in
set_option linter.unusedSimpArgs false in
theorem rless_23 (w : World) (x y : Vv) (r1 r2 : Bool) (hx : RRightOf w x r1) (hy : RRightOf w y r2) (hr1 : r1 = true) (hr2 : r2 = true) (h1 : x.k = 2) (h2 : y.k = 3) : Calls Tryz.prog 28 #[x.v, y.v] w fun e w' => e = .returned (.tuple #[.bool (lessV r1 r2 x y).1, .int .i64 (lessV r1 r2 x y).2]) ∧ Fr (fun _ => False) w w' := by
  have HQ : Hid (lessV r1 r2 x y = (FloatKind.f64.format.order (floatOfInt .f64 x.n) (y.f) == some Ordering.lt, 0)) := by unfold Hid lessV; simp [hr1, hr2, numB, asF, h1, h2]
  generalize lessV r1 r2 x y = R at *
  have HB := hid (two_blk w x y)
  have HF := hid (two_fr w x y)
  have HX := hid hx
  have HY := hid hy
  have HA1 := hid (fun W => number_any W x)
  have HA2 := hid (fun W => number_any W y)
  unfold RRightOf at HX HY
  clear hx hy
  subst hr1 hr2
  obtain ⟨k, n, f, t, na, nl, nc, ia, il, ic⟩ := x
  obtain ⟨k', n', f', t', na', nl', nc', ia', il', ic'⟩ := y
  simp only at h1 h2
  subst h1 h2
  simp only [Vv.v] at *
  simp only [nuF, numB] at HA1 HA2
  go_enter Tryz.func28, Tryz.ntmps28
  go_wp2_with fail
  refine (HX.out _ (Env.of HF.out)).mono ?_
  rintro e w1 ⟨rfl, f1⟩
  have HB1 := hid (And.intro (f1.blk HB.out.1 (fun h => h)) (f1.blk HB.out.2 (fun h => h)))
  have HF1 := hid (HF.out.trans f1 (fun _ h => h.elim))
  clear f1 HB HF
  obtain ⟨c0, c1, c2, c3, c4, c5⟩ := HB1.out.1.six
  obtain ⟨d0, d1, d2, d3, d4, d5⟩ := HB1.out.2.six
  go_wp2_with fail
  refine (HY.out _ (Env.of HF1.out)).mono ?_
  rintro e w2 ⟨rfl, f1⟩
  have HB2 := hid (And.intro (f1.blk HB1.out.1 (fun h => h)) (f1.blk HB1.out.2 (fun h => h)))
  have HF2 := hid (HF1.out.trans f1 (fun _ h => h.elim))
  clear f1 HB1 HF1
  clear c0 c1 c2 c3 c4 c5 d0 d1 d2 d3 d4 d5
  obtain ⟨c0, c1, c2, c3, c4, c5⟩ := HB2.out.1.six
  obtain ⟨d0, d1, d2, d3, d4, d5⟩ := HB2.out.2.six
  go_wp2_with fail
  refine (HA1.out _).mono ?_
  rintro e w3 ⟨rfl, f1⟩
  have HB3 := hid (And.intro (f1.blk HB2.out.1 (fun h => h)) (f1.blk HB2.out.2 (fun h => h)))
  have HF3 := hid (HF2.out.trans f1 (fun _ h => h.elim))
  clear f1 HB2 HF2
  clear c0 c1 c2 c3 c4 c5 d0 d1 d2 d3 d4 d5
  obtain ⟨c0, c1, c2, c3, c4, c5⟩ := HB3.out.1.six
  obtain ⟨d0, d1, d2, d3, d4, d5⟩ := HB3.out.2.six
  go_wp2_with fail
  refine (HA2.out _).mono ?_
  rintro e w4 ⟨rfl, f1⟩
  have HB4 := hid (And.intro (f1.blk HB3.out.1 (fun h => h)) (f1.blk HB3.out.2 (fun h => h)))
  have HF4 := hid (HF3.out.trans f1 (fun _ h => h.elim))
  clear f1 HB3 HF3
  clear c0 c1 c2 c3 c4 c5 d0 d1 d2 d3 d4 d5
  obtain ⟨c0, c1, c2, c3, c4, c5⟩ := HB4.out.1.six
  obtain ⟨d0, d1, d2, d3, d4, d5⟩ := HB4.out.2.six
  go_wp2_with fail
  go_ret2
  exact ⟨by rw [HQ.out]; rfl, HF4.out⟩

set_option maxRecDepth 100000 in
set_option maxHeartbeats 4000000 in
set_option linter.unusedVariables false in
set_option linter.unusedSimpArgs false in
theorem rless_32 (w : World) (x y : Vv) (r1 r2 : Bool) (hx : RRightOf w x r1) (hy : RRightOf w y r2) (hr1 : r1 = true) (hr2 : r2 = true) (h1 : x.k = 3) (h2 : y.k = 2) : Calls Tryz.prog 28 #[x.v, y.v] w fun e w' => e = .returned (.tuple #[.bool (lessV r1 r2 x y).1, .int .i64 (lessV r1 r2 x y).2]) ∧ Fr (fun _ => False) w w' := by
  have HQ : Hid (lessV r1 r2 x y = (FloatKind.f64.format.order (x.f) (floatOfInt .f64 y.n) == some Ordering.lt, 0)) := by unfold Hid lessV; simp [hr1, hr2, numB, asF, h1, h2]
  generalize lessV r1 r2 x y = R at *
  have HB := hid (two_blk w x y)
  have HF := hid (two_fr w x y)
  have HX := hid hx
  have HY := hid hy
  have HA1 := hid (fun W => number_any W x)
  have HA2 := hid (fun W => number_any W y)
  unfold RRightOf at HX HY
  clear hx hy
  subst hr1 hr2
  obtain ⟨k, n, f, t, na, nl, nc, ia, il, ic⟩ := x
  obtain ⟨k', n', f', t', na', nl', nc', ia', il', ic'⟩ := y
  simp only at h1 h2
  subst h1 h2
  simp only [Vv.v] at *
  simp only [nuF, numB] at HA1 HA2
  go_enter Tryz.func28, Tryz.ntmps28
  go_wp2_with fail
  refine (HX.out _ (Env.of HF.out)).mono ?_
  rintro e w1 ⟨rfl, f1⟩
  have HB1 := hid (And.intro (f1.blk HB.out.1 (fun h => h)) (f1.blk HB.out.2 (fun h => h)))
  have HF1 := hid (HF.out.trans f1 (fun _ h => h.elim))
  clear f1 HB HF
  obtain ⟨c0, c1, c2, c3, c4, c5⟩ := HB1.out.1.six
  obtain ⟨d0, d1, d2, d3, d4, d5⟩ := HB1.out.2.six
  go_wp2_with fail
  refine (HY.out _ (Env.of HF1.out)).mono ?_
  rintro e w2 ⟨rfl, f1⟩
  have HB2 := hid (And.intro (f1.blk HB1.out.1 (fun h => h)) (f1.blk HB1.out.2 (fun h => h)))
  have HF2 := hid (HF1.out.trans f1 (fun _ h => h.elim))
  clear f1 HB1 HF1
  clear c0 c1 c2 c3 c4 c5 d0 d1 d2 d3 d4 d5
  obtain ⟨c0, c1, c2, c3, c4, c5⟩ := HB2.out.1.six
  obtain ⟨d0, d1, d2, d3, d4, d5⟩ := HB2.out.2.six
  go_wp2_with fail
  refine (HA1.out _).mono ?_
  rintro e w3 ⟨rfl, f1⟩
  have HB3 := hid (And.intro (f1.blk HB2.out.1 (fun h => h)) (f1.blk HB2.out.2 (fun h => h)))
  have HF3 := hid (HF2.out.trans f1 (fun _ h => h.elim))
  clear f1 HB2 HF2
  clear c0 c1 c2 c3 c4 c5 d0 d1 d2 d3 d4 d5
  obtain ⟨c0, c1, c2, c3, c4, c5⟩ := HB3.out.1.six
  obtain ⟨d0, d1, d2, d3, d4, d5⟩ := HB3.out.2.six
  go_wp2_with fail
  refine (HA2.out _).mono ?_
  rintro e w4 ⟨rfl, f1⟩
  have HB4 := hid (And.intro (f1.blk HB3.out.1 (fun h => h)) (f1.blk HB3.out.2 (fun h => h)))
  have HF4 := hid (HF3.out.trans f1 (fun _ h => h.elim))
  clear f1 HB3 HF3
  clear c0 c1 c2 c3 c4 c5 d0 d1 d2 d3 d4 d5
  obtain ⟨c0, c1, c2, c3, c4, c5⟩ := HB4.out.1.six
  obtain ⟨d0, d1, d2, d3, d4, d5⟩ := HB4.out.2.six
  go_wp2_with fail
  go_ret2
  exact ⟨by rw [HQ.out]; rfl, HF4.out⟩

set_option maxRecDepth 100000 in
set_option maxHeartbeats 4000000 in
set_option linter.unusedVariables false in
set_option linter.unusedSimpArgs false in
theorem rless_33 (w : World) (x y : Vv) (r1 r2 : Bool) (hx : RRightOf w x r1) (hy : RRightOf w y r2) (hr1 : r1 = true) (hr2 : r2 = true) (h1 : x.k = 3) (h2 : y.k = 3) : Calls Tryz.prog 28 #[x.v, y.v] w fun e w' => e = .returned (.tuple #[.bool (lessV r1 r2 x y).1, .int .i64 (lessV r1 r2 x y).2]) ∧ Fr (fun _ => False) w w' := by
  have HQ : Hid (lessV r1 r2 x y = (FloatKind.f64.format.order (x.f) (y.f) == some Ordering.lt, 0)) := by unfold Hid lessV; simp [hr1, hr2, numB, asF, h1, h2]
  generalize lessV r1 r2 x y = R at *
  have HB := hid (two_blk w x y)
  have HF := hid (two_fr w x y)
  have HX := hid hx
  have HY := hid hy
  have HA1 := hid (fun W => number_any W x)
  have HA2 := hid (fun W => number_any W y)
  unfold RRightOf at HX HY
  clear hx hy
  subst hr1 hr2
  obtain ⟨k, n, f, t, na, nl, nc, ia, il, ic⟩ := x
  obtain ⟨k', n', f', t', na', nl', nc', ia', il', ic'⟩ := y
  simp only at h1 h2
  subst h1 h2
  simp only [Vv.v] at *
  simp only [nuF, numB] at HA1 HA2
  go_enter Tryz.func28, Tryz.ntmps28
  go_wp2_with fail
  refine (HX.out _ (Env.of HF.out)).mono ?_
  rintro e w1 ⟨rfl, f1⟩
  have HB1 := hid (And.intro (f1.blk HB.out.1 (fun h => h)) (f1.blk HB.out.2 (fun h => h)))
  have HF1 := hid (HF.out.trans f1 (fun _ h => h.elim))
  clear f1 HB HF
  obtain ⟨c0, c1, c2, c3, c4, c5⟩ := HB1.out.1.six
  obtain ⟨d0, d1, d2, d3, d4, d5⟩ := HB1.out.2.six
  go_wp2_with fail
  refine (HY.out _ (Env.of HF1.out)).mono ?_
  rintro e w2 ⟨rfl, f1⟩
  have HB2 := hid (And.intro (f1.blk HB1.out.1 (fun h => h)) (f1.blk HB1.out.2 (fun h => h)))
  have HF2 := hid (HF1.out.trans f1 (fun _ h => h.elim))
  clear f1 HB1 HF1
  clear c0 c1 c2 c3 c4 c5 d0 d1 d2 d3 d4 d5
  obtain ⟨c0, c1, c2, c3, c4, c5⟩ := HB2.out.1.six
  obtain ⟨d0, d1, d2, d3, d4, d5⟩ := HB2.out.2.six
  go_wp2_with fail
  refine (HA1.out _).mono ?_
  rintro e w3 ⟨rfl, f1⟩
  have HB3 := hid (And.intro (f1.blk HB2.out.1 (fun h => h)) (f1.blk HB2.out.2 (fun h => h)))
  have HF3 := hid (HF2.out.trans f1 (fun _ h => h.elim))
  clear f1 HB2 HF2
  clear c0 c1 c2 c3 c4 c5 d0 d1 d2 d3 d4 d5
  obtain ⟨c0, c1, c2, c3, c4, c5⟩ := HB3.out.1.six
  obtain ⟨d0, d1, d2, d3, d4, d5⟩ := HB3.out.2.six
  go_wp2_with fail
  refine (HA2.out _).mono ?_
  rintro e w4 ⟨rfl, f1⟩
  have HB4 := hid (And.intro (f1.blk HB3.out.1 (fun h => h)) (f1.blk HB3.out.2 (fun h => h)))
  have HF4 := hid (HF3.out.trans f1 (fun _ h => h.elim))
  clear f1 HB3 HF3
  clear c0 c1 c2 c3 c4 c5 d0 d1 d2 d3 d4 d5
  obtain ⟨c0, c1, c2, c3, c4, c5⟩ := HB4.out.1.six
  obtain ⟨d0, d1, d2, d3, d4, d5⟩ := HB4.out.2.six
  go_wp2_with fail
  go_ret2
  exact ⟨by rw [HQ.out]; rfl, HF4.out⟩

set_option maxRecDepth 100000 in
set_option maxHeartbeats 4000000 in
set_option linter.unusedVariables false in
set_option linter.unusedSimpArgs false in
theorem rless_44 (w : World) (x y : Vv) (r1 r2 : Bool) (hx : RRightOf w x r1) (hy : RRightOf w y r2) (hr1 : r1 = true) (hr2 : r2 = true) (h1 : x.k = 4) (h2 : y.k = 4) : Calls Tryz.prog 28 #[x.v, y.v] w fun e w' => e = .returned (.tuple #[.bool (lessV r1 r2 x y).1, .int .i64 (lessV r1 r2 x y).2]) ∧ Fr (fun _ => False) w w' := by
  have HQ : Hid (lessV r1 r2 x y = (Op.bytesLess x.t y.t, 0)) := by unfold Hid lessV; simp [hr1, hr2, numB, asF, h1, h2]
  generalize lessV r1 r2 x y = R at *
  have HB := hid (two_blk w x y)
  have HF := hid (two_fr w x y)
  have HX := hid hx
  have HY := hid hy
  have HA1 := hid (fun W => number_any W x)
  have HA2 := hid (fun W => number_any W y)
  unfold RRightOf at HX HY
  clear hx hy
  subst hr1 hr2
  obtain ⟨k, n, f, t, na, nl, nc, ia, il, ic⟩ := x
  obtain ⟨k', n', f', t', na', nl', nc', ia', il', ic'⟩ := y
  simp only at h1 h2
  subst h1 h2
  simp only [Vv.v] at *
  simp only [nuF, numB] at HA1 HA2
  go_enter Tryz.func28, Tryz.ntmps28
  go_wp2_with fail
  refine (HX.out _ (Env.of HF.out)).mono ?_
  rintro e w1 ⟨rfl, f1⟩
  have HB1 := hid (And.intro (f1.blk HB.out.1 (fun h => h)) (f1.blk HB.out.2 (fun h => h)))
  have HF1 := hid (HF.out.trans f1 (fun _ h => h.elim))
  clear f1 HB HF
  obtain ⟨c0, c1, c2, c3, c4, c5⟩ := HB1.out.1.six
  obtain ⟨d0, d1, d2, d3, d4, d5⟩ := HB1.out.2.six
  go_wp2_with fail
  refine (HY.out _ (Env.of HF1.out)).mono ?_
  rintro e w2 ⟨rfl, f1⟩
  have HB2 := hid (And.intro (f1.blk HB1.out.1 (fun h => h)) (f1.blk HB1.out.2 (fun h => h)))
  have HF2 := hid (HF1.out.trans f1 (fun _ h => h.elim))
  clear f1 HB1 HF1
  clear c0 c1 c2 c3 c4 c5 d0 d1 d2 d3 d4 d5
  obtain ⟨c0, c1, c2, c3, c4, c5⟩ := HB2.out.1.six
  obtain ⟨d0, d1, d2, d3, d4, d5⟩ := HB2.out.2.six
  go_wp2_with fail
  refine (HA1.out _).mono ?_
  rintro e w3 ⟨rfl, f1⟩
  have HB3 := hid (And.intro (f1.blk HB2.out.1 (fun h => h)) (f1.blk HB2.out.2 (fun h => h)))
  have HF3 := hid (HF2.out.trans f1 (fun _ h => h.elim))
  clear f1 HB2 HF2
  clear c0 c1 c2 c3 c4 c5 d0 d1 d2 d3 d4 d5
  obtain ⟨c0, c1, c2, c3, c4, c5⟩ := HB3.out.1.six
  obtain ⟨d0, d1, d2, d3, d4, d5⟩ := HB3.out.2.six
  go_wp2_with fail
  refine (HA2.out _).mono ?_
  rintro e w4 ⟨rfl, f1⟩
  have HB4 := hid (And.intro (f1.blk HB3.out.1 (fun h => h)) (f1.blk HB3.out.2 (fun h => h)))
  have HF4 := hid (HF3.out.trans f1 (fun _ h => h.elim))
  clear f1 HB3 HF3
  clear c0 c1 c2 c3 c4 c5 d0 d1 d2 d3 d4 d5
  obtain ⟨c0, c1, c2, c3, c4, c5⟩ := HB4.out.1.six
  obtain ⟨d0, d1, d2, d3, d4, d5⟩ := HB4.out.2.six
  go_wp2_with fail
  go_ret2
  exact ⟨by rw [HQ.out]; rfl, HF4.out⟩

set_option maxRecDepth 100000 in
set_option maxHeartbeats 4000000 in
set_option linter.unusedVariables false in
set_option linter.unusedSimpArgs false in
theorem rless_else (w : World) (x y : Vv) (r1 r2 : Bool) (hx : RRightOf w x r1) (hy : RRightOf w y r2) (hr1 : r1 = true) (hr2 : r2 = true) (h2 : (decide (x.k = 2) && decide (y.k = 2)) = false) (hn : (numB x && numB y) = false) (h4 : (decide (x.k = 4) && decide (y.k = 4)) = false) : Calls Tryz.prog 28 #[x.v, y.v] w fun e w' => e = .returned (.tuple #[.bool (lessV r1 r2 x y).1, .int .i64 (lessV r1 r2 x y).2]) ∧ Fr (fun _ => False) w w' := by
  have HQ : Hid (lessV r1 r2 x y = (false, 11)) := by unfold Hid lessV; rw [if_neg (by rw [hr1, hr2]; decide), if_neg (by rw [h2]; decide), if_neg (by rw [hn]; decide), if_neg (by rw [h4]; decide)]
  generalize lessV r1 r2 x y = R at *
  have HB := hid (two_blk w x y)
  have HF := hid (two_fr w x y)
  have HX := hid hx
  have HY := hid hy
  have HA1 := hid (fun W => number_any W x)
  have HA2 := hid (fun W => number_any W y)
  unfold RRightOf at HX HY
  clear hx hy
  subst hr1 hr2
  generalize nuF x = g1 at *
  generalize nuF y = g2 at *
  generalize numB x = q1 at *
  generalize numB y = q2 at *
  obtain ⟨k, n, f, t, na, nl, nc, ia, il, ic⟩ := x
  obtain ⟨k', n', f', t', na', nl', nc', ia', il', ic'⟩ := y
  simp only [Vv.v] at *
  have h22 : ((k == 2) = true ∧ (k' == 2) = false) ∨ (k == 2) = false := by
    by_cases h : k = 2
    · left; subst h; exact ⟨rfl, by simpa using h2⟩
    · right; simpa using h
  have h44 : ((k == 4) = true ∧ (k' == 4) = false) ∨ (k == 4) = false := by
    by_cases h : k = 4
    · left; subst h; exact ⟨rfl, by simpa using h4⟩
    · right; simpa using h
  clear h2 h4
  rcases h22 with ⟨h2a, h2b⟩ | h2a
  all_goals
    rcases h44 with ⟨h4a, h4b⟩ | h4a
    all_goals
      cases q1
      all_goals
        cases q2
        all_goals first
          | (exact absurd hn (by decide))
          | (clear hn
             go_enter Tryz.func28, Tryz.ntmps28
             go_wp2_with fail
             refine (HX.out _ (Env.of HF.out)).mono ?_
             rintro e w1 ⟨rfl, f1⟩
             have HB1 := hid (And.intro (f1.blk HB.out.1 (fun h => h)) (f1.blk HB.out.2 (fun h => h)))
             have HF1 := hid (HF.out.trans f1 (fun _ h => h.elim))
             clear f1 HB HF
             obtain ⟨c0, c1, c2, c3, c4, c5⟩ := HB1.out.1.six
             obtain ⟨d0, d1, d2, d3, d4, d5⟩ := HB1.out.2.six
             go_wp2_with fail
             refine (HY.out _ (Env.of HF1.out)).mono ?_
             rintro e w2 ⟨rfl, f1⟩
             have HB2 := hid (And.intro (f1.blk HB1.out.1 (fun h => h)) (f1.blk HB1.out.2 (fun h => h)))
             have HF2 := hid (HF1.out.trans f1 (fun _ h => h.elim))
             clear f1 HB1 HF1
             clear c0 c1 c2 c3 c4 c5 d0 d1 d2 d3 d4 d5
             obtain ⟨c0, c1, c2, c3, c4, c5⟩ := HB2.out.1.six
             obtain ⟨d0, d1, d2, d3, d4, d5⟩ := HB2.out.2.six
             go_wp2_with fail
             refine (HA1.out _).mono ?_
             rintro e w3 ⟨rfl, f1⟩
             have HB3 := hid (And.intro (f1.blk HB2.out.1 (fun h => h)) (f1.blk HB2.out.2 (fun h => h)))
             have HF3 := hid (HF2.out.trans f1 (fun _ h => h.elim))
             clear f1 HB2 HF2
             clear c0 c1 c2 c3 c4 c5 d0 d1 d2 d3 d4 d5
             obtain ⟨c0, c1, c2, c3, c4, c5⟩ := HB3.out.1.six
             obtain ⟨d0, d1, d2, d3, d4, d5⟩ := HB3.out.2.six
             go_wp2_with fail
             refine (HA2.out _).mono ?_
             rintro e w4 ⟨rfl, f1⟩
             have HB4 := hid (And.intro (f1.blk HB3.out.1 (fun h => h)) (f1.blk HB3.out.2 (fun h => h)))
             have HF4 := hid (HF3.out.trans f1 (fun _ h => h.elim))
             clear f1 HB3 HF3
             clear c0 c1 c2 c3 c4 c5 d0 d1 d2 d3 d4 d5
             obtain ⟨c0, c1, c2, c3, c4, c5⟩ := HB4.out.1.six
             obtain ⟨d0, d1, d2, d3, d4, d5⟩ := HB4.out.2.six
             go_wp2_with fail
             go_ret2
             exact ⟨by rw [HQ.out]; rfl, HF4.out⟩)

theorem RLess_any (w : World) (x y : Vv) (r1 r2 : Bool) (hx : RRightOf w x r1) (hy : RRightOf w y r2) : Calls Tryz.prog 28 #[x.v, y.v] w fun e w' => e = .returned (.tuple #[.bool (lessV r1 r2 x y).1, .int .i64 (lessV r1 r2 x y).2]) ∧ Fr (fun _ => False) w w' := by
  cases hr : (r1 && r2) with
  | false => exact rless_no w x y r1 r2 hx hy hr
  | true =>
    rw [Bool.and_eq_true] at hr
    cases hn : (numB x && numB y) with
    | true =>
      have h : (x.k = 2 ∨ x.k = 3) ∧ (y.k = 2 ∨ y.k = 3) := by
        simp only [numB, Bool.and_eq_true, Bool.or_eq_true] at hn
        exact ⟨hn.1.imp of_decide_eq_true of_decide_eq_true, hn.2.imp of_decide_eq_true of_decide_eq_true⟩
      rcases h with ⟨h1 | h1, h2 | h2⟩
      · exact rless_22 w x y r1 r2 hx hy hr.1 hr.2 h1 h2
      · exact rless_23 w x y r1 r2 hx hy hr.1 hr.2 h1 h2
      · exact rless_32 w x y r1 r2 hx hy hr.1 hr.2 h1 h2
      · exact rless_33 w x y r1 r2 hx hy hr.1 hr.2 h1 h2
    | false =>
      by_cases h4 : x.k = 4 ∧ y.k = 4
      · exact rless_44 w x y r1 r2 hx hy hr.1 hr.2 h4.1 h4.2
      · refine rless_else w x y r1 r2 hx hy hr.1 hr.2 ?_ hn ?_
        · rw [← Bool.not_eq_true, Bool.and_eq_true]
          intro h
          rw [show numB x = true by unfold numB; rw [h.1]; rfl, show numB y = true by unfold numB; rw [h.2]; rfl] at hn
          cases hn
        · rw [← Bool.not_eq_true, Bool.and_eq_true]
          intro h
          exact h4 ⟨of_decide_eq_true h.1, of_decide_eq_true h.2⟩
end Go.Proofs.YtlepjghfcpgbcaaGreatDoor.Tr
