/- The contracts of equalNumbers, Less, and of equal and Equal of numbers. -/
import Derived.Test.YtlepjghfcpgbcaaGreatDoorEnv
namespace Go.Proofs.YtlepjghfcpgbcaaGreatDoor.Tr
open Go.RowKit

/-- A value's six cells. -/
abbrev six (W : World) (b : Nat) (x : Vv) : Prop := W.cell? ⟨b, 0, none⟩ = some (.int .i64 x.k) ∧ W.cell? ⟨b, 1, none⟩ = some (.int .i64 x.n) ∧ W.cell? ⟨b, 2, none⟩ = some (.float .f64 x.f) ∧ W.cell? ⟨b, 3, none⟩ = some (.string ⟨x.t.toArray⟩) ∧ W.cell? ⟨b, 4, none⟩ = some (.slice x.na x.nl x.nc) ∧ W.cell? ⟨b, 5, none⟩ = some (.slice x.ia x.il x.ic)
theorem Blk.six {W : World} {b : Nat} {t : TypeId} {x : Vv} (h : Blk W b t x.cs) : six W b x := ⟨h.cell 0, h.cell 1, h.cell 2, h.cell 3, h.cell 4, h.cell 5⟩
theorem two_blk (w : World) (x y : Vv) : Blk (vBox (vBox w x) y) w.heap.size 26 x.cs ∧ Blk (vBox (vBox w x) y) (w.heap.size + 1) 26 y.cs := by
  refine ⟨(vBlk w x).alloc _, ?_⟩
  have h := vBlk (vBox w x) y
  rw [World.size_alloc] at h
  exact h
theorem two_fr (w : World) (x y : Vv) : Fr (fun _ => False) w (vBox (vBox w x) y) := ((Fr.refl _ w).alloc _).alloc _

/-- Are two numbers equal? -/
def eqN (x y : Vv) : Bool := if (decide (x.k = 2) && decide (y.k = 2)) = true then x.n == y.n else FloatKind.f64.format.order (asF x) (asF y) == some Ordering.eq
/-- Is one number below another? -/
def ltN (x y : Vv) : Bool := if (decide (x.k = 2) && decide (y.k = 2)) = true then decide (x.n < y.n) else FloatKind.f64.format.order (asF x) (asF y) == some Ordering.lt

set_option maxRecDepth 100000 in
set_option maxHeartbeats 2000000 in
theorem equalNumbers_any (w : World) (x y : Vv) : Calls Tryz.prog 90 #[x.v, y.v] w fun e w' => e = .returned (.bool (eqN x y)) ∧ Fr (fun _ => False) w w' := by
  have HB := hid (two_blk w x y)
  have HF := hid (two_fr w x y)
  have HA := hid (fun W => areBoth_any W 2 x y)
  have HX := hid (fun W => asFloat_any W x)
  have HY := hid (fun W => asFloat_any W y)
  unfold eqN
  obtain ⟨k, n, f, t, na, nl, nc, ia, il, ic⟩ := x
  obtain ⟨k', n', f', t', na', nl', nc', ia', il', ic'⟩ := y
  simp only [Vv.v] at *
  generalize hq : (decide (k = 2) && decide (k' = 2)) = q at *
  generalize asF ⟨k, n, f, t, na, nl, nc, ia, il, ic⟩ = fx at *
  generalize asF ⟨k', n', f', t', na', nl', nc', ia', il', ic'⟩ = fy at *
  clear hq
  go_enter Tryz.func90, Tryz.ntmps90
  go_wp2_with fail
  refine (HA.out _).mono ?_
  rintro e w1 ⟨rfl, f1⟩
  have HB1 := hid (And.intro (f1.blk HB.out.1 (fun h => h)) (f1.blk HB.out.2 (fun h => h)))
  have HF1 := hid (HF.out.trans f1 (fun _ h => h.elim))
  clear f1 HB HF HA
  cases q with
  | true =>
    obtain ⟨c0, c1, c2, c3, c4, c5⟩ := HB1.out.1.six
    obtain ⟨d0, d1, d2, d3, d4, d5⟩ := HB1.out.2.six
    go_wp2_with fail
    go_ret
    exact ⟨by first | rfl | simp, HF1.out⟩
  | false =>
    have HK : Hid (∀ W', Fr (fun _ => False) w1 W' → six W' w.heap.size ⟨k, n, f, t, na, nl, nc, ia, il, ic⟩ ∧ six W' (w.heap.size + 1) ⟨k', n', f', t', na', nl', nc', ia', il', ic'⟩) := fun W' hf => ⟨(hf.blk HB1.out.1 (fun h => h)).six, (hf.blk HB1.out.2 (fun h => h)).six⟩
    go_wp2_with fail
    go_region_held3 (fun W' => six W' w.heap.size ⟨k, n, f, t, na, nl, nc, ia, il, ic⟩ ∧ six W' (w.heap.size + 1) ⟨k', n', f', t', na', nl', nc', ia', il', ic'⟩)
      (first | exact HK.out _ (Fr.refl _ _).drew | exact HK.out _ F1.out | exact HK.out _ F2.out)
      ((first
        | (go_at_call 58; have G1 := F1; clear G1; refine (HY.out _).mono ?_; rintro e w3 ⟨rfl, f3⟩; have F2 : Hid (Fr (fun _ => False) w1 w3) := F1.out.trans f3 (fun _ h => h.elim))
        | (go_at_call 58; refine (HX.out _).mono ?_; rintro e w2 ⟨rfl, f2⟩; have F1 : Hid (Fr (fun _ => False) w1 w2) := (Fr.refl _ w1).drew.trans f2 (fun _ h => h.elim))))
    have HF3 := hid (HF1.out.trans F2.out (fun _ h => h.elim))
    go_wp2_with fail
    go_ret
    exact ⟨rfl, HF3.out⟩

/-- What Right tells of a value, wherever what lay in memory still lies. -/
def RightOf (w : World) (x : Vv) (r : Bool) : Prop := ∀ W, Env w W → Calls Tryz.prog 21 #[x.v] W fun e w' => e = .returned (.bool r) ∧ Fr (fun _ => False) W w'
theorem RightOf.env {w W : World} {x : Vv} {r : Bool} (h : RightOf w x r) (e : Env w W) : RightOf W x r := fun W' e' => h W' (e.trans e')
theorem right_of_sca (w : World) (x : Vv) (h5 : x.k ≠ 5) (h6 : x.k ≠ 6) : RightOf w x (rightS x) := fun W _ => right_sca W x h5 h6

/-- What Less tells. -/
def lessV (rx ry : Bool) (x y : Vv) : Bool × Int :=
  if (rx && ry) = false then (false, 1)
  else if (decide (x.k = 2) && decide (y.k = 2)) = true then (decide (x.n < y.n), 0)
  else if (numB x && numB y) = true then (FloatKind.f64.format.order (asF x) (asF y) == some Ordering.lt, 0)
  else if (decide (x.k = 4) && decide (y.k = 4)) = true then (Op.bytesLess x.t y.t, 0)
  else (false, 11)

set_option maxRecDepth 100000 in
set_option maxHeartbeats 2000000 in
theorem less_any (w : World) (x y : Vv) (rx ry : Bool) (hx : RightOf w x rx) (hy : RightOf w y ry) : Calls Tryz.prog 27 #[x.v, y.v] w fun e w' => e = .returned (.tuple #[.bool (lessV rx ry x y).1, .int .i64 (lessV rx ry x y).2]) ∧ Fr (fun _ => False) w w' := by
  have HB := hid (two_blk w x y)
  have HF := hid (two_fr w x y)
  have HX := hid hx
  have HY := hid hy
  have HA2 := hid (fun W => areBoth_any W 2 x y)
  have HA4 := hid (fun W => areBoth_any W 4 x y)
  have HN := hid (fun W => areNumbers_any W x y)
  have HFx := hid (fun W => asFloat_any W x)
  have HFy := hid (fun W => asFloat_any W y)
  obtain ⟨R, hR⟩ : ∃ R, R = lessV rx ry x y := ⟨_, rfl⟩
  rw [← hR]
  unfold lessV at hR
  clear hx hy
  obtain ⟨k, n, f, t, na, nl, nc, ia, il, ic⟩ := x
  obtain ⟨k', n', f', t', na', nl', nc', ia', il', ic'⟩ := y
  simp only [Vv.v] at *
  generalize asF ⟨k, n, f, t, na, nl, nc, ia, il, ic⟩ = fx at *
  generalize asF ⟨k', n', f', t', na', nl', nc', ia', il', ic'⟩ = fy at *
  generalize hq2 : (decide (k = 2) && decide (k' = 2)) = q2 at *
  generalize hq4 : (decide (k = 4) && decide (k' = 4)) = q4 at *
  generalize (numB ⟨k, n, f, t, na, nl, nc, ia, il, ic⟩ && numB ⟨k', n', f', t', na', nl', nc', ia', il', ic'⟩) = qn at *
  clear hq2 hq4
  have HR := hid hR
  clear hR
  go_enter Tryz.func27, Tryz.ntmps27
  go_wp2_with fail
  refine (HX.out _ (Env.of HF.out)).mono ?_
  rintro e w1 ⟨rfl, f1⟩
  have HB1 := hid (And.intro (f1.blk HB.out.1 (fun h => h)) (f1.blk HB.out.2 (fun h => h)))
  have HF1 := hid (HF.out.trans f1 (fun _ h => h.elim))
  clear f1 HB HF HX
  cases rx with
  | false =>
    go_wp2_with fail
    go_ret2
    exact ⟨by rw [HR.out]; rfl, HF1.out⟩
  | true =>
  obtain ⟨d0, d1, d2, d3, d4, d5⟩ := HB1.out.2.six
  go_wp2_with fail
  refine (HY.out _ (Env.of HF1.out)).mono ?_
  rintro e w2 ⟨rfl, f2⟩
  have HB2 := hid (And.intro (f2.blk HB1.out.1 (fun h => h)) (f2.blk HB1.out.2 (fun h => h)))
  have HF2 := hid (HF1.out.trans f2 (fun _ h => h.elim))
  clear f2 HB1 HF1 HY d0 d1 d2 d3 d4 d5
  cases ry with
  | false =>
    go_wp2_with fail
    go_ret2
    exact ⟨by rw [HR.out]; rfl, HF2.out⟩
  | true =>
  obtain ⟨c0, c1, c2, c3, c4, c5⟩ := HB2.out.1.six
  obtain ⟨d0, d1, d2, d3, d4, d5⟩ := HB2.out.2.six
  go_wp2_with fail
  refine (HA2.out _).mono ?_
  rintro e w3 ⟨rfl, f3⟩
  have HB3 := hid (And.intro (f3.blk HB2.out.1 (fun h => h)) (f3.blk HB2.out.2 (fun h => h)))
  have HF3 := hid (HF2.out.trans f3 (fun _ h => h.elim))
  clear f3 HB2 HF2 HA2 c0 c1 c2 c3 c4 c5 d0 d1 d2 d3 d4 d5
  obtain ⟨c0, c1, c2, c3, c4, c5⟩ := HB3.out.1.six
  obtain ⟨d0, d1, d2, d3, d4, d5⟩ := HB3.out.2.six
  cases q2 with
  | true =>
    go_wp2_with fail
    go_ret2
    exact ⟨by rw [HR.out]; rfl, HF3.out⟩
  | false =>
  go_wp2_with fail
  refine (HN.out _).mono ?_
  rintro e w4 ⟨rfl, f4⟩
  have HB4 := hid (And.intro (f4.blk HB3.out.1 (fun h => h)) (f4.blk HB3.out.2 (fun h => h)))
  have HF4 := hid (HF3.out.trans f4 (fun _ h => h.elim))
  clear f4 HB3 HF3 HN c0 c1 c2 c3 c4 c5 d0 d1 d2 d3 d4 d5
  cases qn with
  | true =>
    have HK : Hid (∀ W', Fr (fun _ => False) w4 W' → six W' w.heap.size ⟨k, n, f, t, na, nl, nc, ia, il, ic⟩ ∧ six W' (w.heap.size + 1) ⟨k', n', f', t', na', nl', nc', ia', il', ic'⟩) := fun W' hf => ⟨(hf.blk HB4.out.1 (fun h => h)).six, (hf.blk HB4.out.2 (fun h => h)).six⟩
    go_wp2_with fail
    go_region_held3 (fun W' => six W' w.heap.size ⟨k, n, f, t, na, nl, nc, ia, il, ic⟩ ∧ six W' (w.heap.size + 1) ⟨k', n', f', t', na', nl', nc', ia', il', ic'⟩)
      (first | exact HK.out _ (Fr.refl _ _).drew | exact HK.out _ F1.out | exact HK.out _ F2.out)
      ((first
        | (go_at_call 58; have G1 := F1; clear G1; refine (HFy.out _).mono ?_; rintro e w6 ⟨rfl, f6⟩; have F2 : Hid (Fr (fun _ => False) w4 w6) := F1.out.trans f6 (fun _ h => h.elim))
        | (go_at_call 58; refine (HFx.out _).mono ?_; rintro e w5 ⟨rfl, f5⟩; have F1 : Hid (Fr (fun _ => False) w4 w5) := (Fr.refl _ w4).drew.trans f5 (fun _ h => h.elim))))
    have HF6 := hid (HF4.out.trans F2.out (fun _ h => h.elim))
    go_wp2_with fail
    go_ret2
    exact ⟨by rw [HR.out]; rfl, HF6.out⟩
  | false =>
  obtain ⟨c0, c1, c2, c3, c4, c5⟩ := HB4.out.1.six
  obtain ⟨d0, d1, d2, d3, d4, d5⟩ := HB4.out.2.six
  go_wp2_with fail
  refine (HA4.out _).mono ?_
  rintro e w5 ⟨rfl, f5⟩
  have HB5 := hid (And.intro (f5.blk HB4.out.1 (fun h => h)) (f5.blk HB4.out.2 (fun h => h)))
  have HF5 := hid (HF4.out.trans f5 (fun _ h => h.elim))
  clear f5 HB4 HF4 HA4 c0 c1 c2 c3 c4 c5 d0 d1 d2 d3 d4 d5
  cases q4 with
  | true =>
    obtain ⟨c0, c1, c2, c3, c4, c5⟩ := HB5.out.1.six
    obtain ⟨d0, d1, d2, d3, d4, d5⟩ := HB5.out.2.six
    go_wp2_with fail
    go_ret2
    exact ⟨by rw [HR.out]; rfl, HF5.out⟩
  | false =>
    go_wp2_with fail
    go_ret2
    exact ⟨by rw [HR.out]; rfl, HF5.out⟩

set_option maxRecDepth 100000 in
set_option maxHeartbeats 2000000 in
theorem equal_num (w : World) (x y : Vv) (hx : numB x = true) (hy : numB y = true) : Calls Tryz.prog 54 #[x.v, y.v] w fun e w' => e = .returned (.tuple #[.bool (eqN x y), .int .i64 0]) ∧ Fr (fun _ => False) w w' := by
  have HB := hid (two_blk w x y)
  have HF := hid (two_fr w x y)
  have HN := hid (fun W => areNumbers_any W x y)
  have HE := hid (fun W => equalNumbers_any W x y)
  rw [hx, hy] at HN
  clear hx hy
  simp only [Vv.v] at *
  go_enter Tryz.func54, Tryz.ntmps54
  go_wp2_with fail
  refine (HN.out _).mono ?_
  rintro e w1 ⟨rfl, f1⟩
  have HB1 := hid (And.intro (f1.blk HB.out.1 (fun h => h)) (f1.blk HB.out.2 (fun h => h)))
  have HF1 := hid (HF.out.trans f1 (fun _ h => h.elim))
  clear f1 HB HF HN
  obtain ⟨c0, c1, c2, c3, c4, c5⟩ := HB1.out.1.six
  obtain ⟨d0, d1, d2, d3, d4, d5⟩ := HB1.out.2.six
  go_wp2_with fail
  refine (HE.out _).mono ?_
  rintro e w2 ⟨rfl, f2⟩
  have HF2 := hid (HF1.out.trans f2 (fun _ h => h.elim))
  clear f2 HF1
  go_wp2_with fail
  go_ret2
  exact ⟨rfl, HF2.out⟩

/-- What equal tells of two values, wherever what lay in memory still lies. -/
def EqualOf (w : World) (x y : Vv) (r : Bool × Int) : Prop := ∀ W, Env w W → Calls Tryz.prog 54 #[x.v, y.v] W fun e w' => e = .returned (.tuple #[.bool r.1, .int .i64 r.2]) ∧ Fr (fun _ => False) W w'

set_option maxRecDepth 100000 in
set_option maxHeartbeats 2000000 in
theorem Equal_any (w : World) (x y : Vv) (rx ry : Bool) (r : Bool × Int) (hx : RightOf w x rx) (hy : RightOf w y ry) (he : rx = true → ry = true → EqualOf w x y r) : Calls Tryz.prog 25 #[x.v, y.v] w fun e w' => e = .returned (.tuple #[.bool (if (rx && ry) = true then r.1 else false), .int .i64 (if (rx && ry) = true then r.2 else 1)]) ∧ Fr (fun _ => False) w w' := by
  have HB := hid (two_blk w x y)
  have HF := hid (two_fr w x y)
  have HX := hid hx
  have HY := hid hy
  have HE := hid he
  clear hx hy he
  simp only [Vv.v] at *
  go_enter Tryz.func25, Tryz.ntmps25
  go_wp2_with fail
  refine (HX.out _ (Env.of HF.out)).mono ?_
  rintro e w1 ⟨rfl, f1⟩
  have HB1 := hid (And.intro (f1.blk HB.out.1 (fun h => h)) (f1.blk HB.out.2 (fun h => h)))
  have HF1 := hid (HF.out.trans f1 (fun _ h => h.elim))
  clear f1 HB HF HX
  cases rx with
  | false =>
    go_wp2_with fail
    go_ret2
    exact ⟨rfl, HF1.out⟩
  | true =>
  obtain ⟨d0, d1, d2, d3, d4, d5⟩ := HB1.out.2.six
  go_wp2_with fail
  refine (HY.out _ (Env.of HF1.out)).mono ?_
  rintro e w2 ⟨rfl, f2⟩
  have HB2 := hid (And.intro (f2.blk HB1.out.1 (fun h => h)) (f2.blk HB1.out.2 (fun h => h)))
  have HF2 := hid (HF1.out.trans f2 (fun _ h => h.elim))
  clear f2 HB1 HF1 HY d0 d1 d2 d3 d4 d5
  cases ry with
  | false =>
    go_wp2_with fail
    go_ret2
    exact ⟨rfl, HF2.out⟩
  | true =>
  obtain ⟨c0, c1, c2, c3, c4, c5⟩ := HB2.out.1.six
  obtain ⟨d0, d1, d2, d3, d4, d5⟩ := HB2.out.2.six
  go_wp2_with fail
  refine (HE.out (by first | rfl | trivial) (by first | rfl | trivial) _ (Env.of HF2.out)).mono ?_
  rintro e w3 ⟨rfl, f3⟩
  have HF3 := hid (HF2.out.trans f3 (fun _ h => h.elim))
  clear f3 HF2
  go_wp2_with fail
  go_ret2
  exact ⟨rfl, HF3.out⟩
end Go.Proofs.YtlepjghfcpgbcaaGreatDoor.Tr
