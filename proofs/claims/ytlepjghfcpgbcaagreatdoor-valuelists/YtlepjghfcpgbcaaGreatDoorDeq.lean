/- The contract of the document's equal, of right values: written by gen/gendeq.py. -/
import Derived.Test.YtlepjghfcpgbcaaGreatDoorDru
import Derived.Test.YtlepjghfcpgbcaaGreatDoorDnu
import Derived.Test.YtlepjghfcpgbcaaGreatDoorVeq
namespace Go.Proofs.YtlepjghfcpgbcaaGreatDoor.Tr
open Go.RowKit

theorem rg_parts {u : Vt} (h : rgB u = true) : rgS u.k u.n u.f u.t u.ns.length u.its.length = true ∧ rnB u.ns = true ∧ rgL u.its = true := by
  cases u
  rw [rgB] at h
  simp only [Bool.and_eq_true] at h
  exact ⟨h.1.1, h.1.2, h.2⟩
theorem rg_kind {u : Vt} (h : rgB u = true) : 0 ≤ u.k ∧ u.k ≤ 7 := by
  have h1 := (rg_parts h).1
  unfold rgS at h1
  split at h1
  · omega
  split at h1
  · omega
  unfold rightS at h1
  simp only at h1
  repeat' split at h1
  all_goals first
    | omega
    | (cases h1; done)
theorem samF_zero : samF 0 0 = true := by decide +kernel
theorem rg_bare {u : Vt} (h : rgB u = true) (hk : u.k = 0 ∨ u.k = 1 ∨ u.k = 4) : (u.k ≠ 1 → u.n = 0) ∧ u.f = 0 ∧ (u.k ≠ 4 → u.t = []) ∧ u.ns = [] ∧ u.its = [] := by
  have h1 := (rg_parts h).1
  unfold rgS at h1
  rw [if_neg (by omega), if_neg (by omega)] at h1
  have he := rightS_empty h1
  simp only at he
  have hn := List.length_eq_zero_iff.1 he.1
  have hi := List.length_eq_zero_iff.1 he.2
  unfold rightS at h1
  simp only at h1
  rcases hk with hk | hk | hk
  all_goals
    rw [hk] at h1 ⊢
    simp [bareB] at h1
    simp_all
theorem sam_null {u v : Vt} (h : rgB u = true) (h' : rgB v = true) (hk : u.k = 0) (hk' : v.k = 0) : samB u v = true := by
  obtain ⟨a1, a2, a3, a4, a5⟩ := rg_bare h (.inl hk)
  obtain ⟨b1, b2, b3, b4, b5⟩ := rg_bare h' (.inl hk')
  rw [samB_eq, hk, hk', a1 (by omega), b1 (by omega), a2, b2, a3 (by omega), b3 (by omega), a4, b4, a5, b5, samF_zero]
  simp [samL]
theorem sam_bool {u v : Vt} (h : rgB u = true) (h' : rgB v = true) (hk : u.k = 1) (hk' : v.k = 1) : samB u v = (u.n == v.n) := by
  obtain ⟨a1, a2, a3, a4, a5⟩ := rg_bare h (.inr (.inl hk))
  obtain ⟨b1, b2, b3, b4, b5⟩ := rg_bare h' (.inr (.inl hk'))
  rw [samB_eq, hk, hk', a2, b2, a3 (by omega), b3 (by omega), a4, b4, a5, b5, samF_zero]
  simp [samL]
  rfl
theorem sam_str {u v : Vt} (h : rgB u = true) (h' : rgB v = true) (hk : u.k = 4) (hk' : v.k = 4) : samB u v = (u.t == v.t) := by
  obtain ⟨a1, a2, a3, a4, a5⟩ := rg_bare h (.inr (.inr hk))
  obtain ⟨b1, b2, b3, b4, b5⟩ := rg_bare h' (.inr (.inr hk'))
  rw [samB_eq, hk, hk', a1 (by omega), b1 (by omega), a2, b2, a4, b4, a5, b5, samF_zero]
  by_cases e : u.t = v.t
  · rw [e]; simp [samL]
  · simp [samL, e]
theorem rg_list {u : Vt} (h : rgB u = true) (hk : u.k = 5) : u.ns.length = 0 := by
  have h1 := (rg_parts h).1
  unfold rgS at h1
  rw [if_pos hk] at h1
  simp [bareB] at h1
  simp [h1]
theorem rg_set {u : Vt} (h : rgB u = true) (hk : u.k = 6) : u.ns.length = u.its.length := by
  have h1 := (rg_parts h).1
  unfold rgS at h1
  rw [if_neg (by omega), if_pos hk] at h1
  simp [bareB] at h1
  omega
/-- What the document's equal tells of a right value. -/
def RqOf (u : Vt) : Prop := rgB u = true → ∀ (v : Vt) (x y : Vv) (w : World), rgB v = true → VIn w u x → VIn w v y → Calls Tryz.prog 55 #[x.v, y.v] w fun e w' => e = .returned (.tuple #[.bool (eqV u v).1, .int .i64 (eqV u v).2]) ∧ Fr (fun _ => False) w w'

set_option maxRecDepth 100000 in
set_option maxHeartbeats 4000000 in
set_option linter.unusedVariables false in
theorem rq_22 (u v : Vt) (x y : Vv) (w : World) (hu : rgB u = true) (hv : rgB v = true) (hx : VIn w u x) (hy : VIn w v y) (h1 : u.k = 2) (h2 : v.k = 2) : Calls Tryz.prog 55 #[x.v, y.v] w fun e w' => e = .returned (.tuple #[.bool (eqV u v).1, .int .i64 (eqV u v).2]) ∧ Fr (fun _ => False) w w' := by
  have HQ : Hid (eqV u v = (u.n == v.n, 0)) := by unfold Hid; rw [eqV_eq]; simp [numB, eqN, Vt.nv, h1, h2]
  obtain ⟨⟨p1, p2, p3, p4⟩, _, ⟨p5, _, hnl, hns⟩, ⟨p6, _, hil⟩, hit⟩ := hx.parts
  obtain ⟨⟨r1, r2, r3, r4⟩, _, ⟨r5, _, hnl', hns'⟩, ⟨r6, _, hil'⟩, hit'⟩ := hy.parts
  have hnl2 : u.ns.length ≤ 140737488351232 := hnl
  have hil2 : u.its.length ≤ 140737488351232 := hil
  have hnl2' : v.ns.length ≤ 140737488351232 := hnl'
  have hil2' : v.its.length ≤ 140737488351232 := hil'
  have HNs := hid hns
  have HNs' := hid hns'
  have HI := hid hit
  have HI' := hid hit'
  clear hnl hil hnl' hil' hns hns' hit hit' hx hy
  obtain ⟨k, n, f, t, na, nl, nc, ia, il, ic⟩ := x
  obtain ⟨k', n', f', t', na', nl', nc', ia', il', ic'⟩ := y
  simp only at p1 p2 p3 p4 p5 p6 r1 r2 r3 r4 r5 r6
  rw [h1] at p1
  rw [h2] at r1
  subst p1 p2 p3 p4 p5 p6 r1 r2 r3 r4 r5 r6
  have HB := hid (two_blk w ⟨2, u.n, u.f, u.t, na, u.ns.length, nc, ia, u.its.length, ic⟩ ⟨2, v.n, v.f, v.t, na', v.ns.length, nc', ia', v.its.length, ic'⟩)
  have HF := hid (two_fr w ⟨2, u.n, u.f, u.t, na, u.ns.length, nc, ia, u.its.length, ic⟩ ⟨2, v.n, v.f, v.t, na', v.ns.length, nc', ia', v.its.length, ic'⟩)
  have HA1 := hid (fun W => number_any W ⟨2, u.n, u.f, u.t, na, u.ns.length, nc, ia, u.its.length, ic⟩)
  have HA2 := hid (fun W => number_any W ⟨2, v.n, v.f, v.t, na', v.ns.length, nc', ia', v.its.length, ic'⟩)
  simp only [Vv.v] at *
  go_enter Tryz.func55, Tryz.ntmps55
  go_wp2_with fail
  go_ret2
  exact ⟨by rw [HQ.out]; rfl, HF.out⟩

set_option maxRecDepth 100000 in
set_option maxHeartbeats 4000000 in
set_option linter.unusedVariables false in
theorem rq_23 (u v : Vt) (x y : Vv) (w : World) (hu : rgB u = true) (hv : rgB v = true) (hx : VIn w u x) (hy : VIn w v y) (h1 : u.k = 2) (h2 : v.k = 3) : Calls Tryz.prog 55 #[x.v, y.v] w fun e w' => e = .returned (.tuple #[.bool (eqV u v).1, .int .i64 (eqV u v).2]) ∧ Fr (fun _ => False) w w' := by
  have HQ : Hid (eqV u v = (FloatKind.f64.format.order (floatOfInt .f64 u.n) (v.f) == some Ordering.eq, 0)) := by unfold Hid; rw [eqV_eq]; simp [numB, eqN, asF, Vt.nv, h1, h2]
  obtain ⟨⟨p1, p2, p3, p4⟩, _, ⟨p5, _, hnl, hns⟩, ⟨p6, _, hil⟩, hit⟩ := hx.parts
  obtain ⟨⟨r1, r2, r3, r4⟩, _, ⟨r5, _, hnl', hns'⟩, ⟨r6, _, hil'⟩, hit'⟩ := hy.parts
  have hnl2 : u.ns.length ≤ 140737488351232 := hnl
  have hil2 : u.its.length ≤ 140737488351232 := hil
  have hnl2' : v.ns.length ≤ 140737488351232 := hnl'
  have hil2' : v.its.length ≤ 140737488351232 := hil'
  have HNs := hid hns
  have HNs' := hid hns'
  have HI := hid hit
  have HI' := hid hit'
  clear hnl hil hnl' hil' hns hns' hit hit' hx hy
  obtain ⟨k, n, f, t, na, nl, nc, ia, il, ic⟩ := x
  obtain ⟨k', n', f', t', na', nl', nc', ia', il', ic'⟩ := y
  simp only at p1 p2 p3 p4 p5 p6 r1 r2 r3 r4 r5 r6
  rw [h1] at p1
  rw [h2] at r1
  subst p1 p2 p3 p4 p5 p6 r1 r2 r3 r4 r5 r6
  have HB := hid (two_blk w ⟨2, u.n, u.f, u.t, na, u.ns.length, nc, ia, u.its.length, ic⟩ ⟨3, v.n, v.f, v.t, na', v.ns.length, nc', ia', v.its.length, ic'⟩)
  have HF := hid (two_fr w ⟨2, u.n, u.f, u.t, na, u.ns.length, nc, ia, u.its.length, ic⟩ ⟨3, v.n, v.f, v.t, na', v.ns.length, nc', ia', v.its.length, ic'⟩)
  have HA1 := hid (fun W => number_any W ⟨2, u.n, u.f, u.t, na, u.ns.length, nc, ia, u.its.length, ic⟩)
  have HA2 := hid (fun W => number_any W ⟨3, v.n, v.f, v.t, na', v.ns.length, nc', ia', v.its.length, ic'⟩)
  simp only [Vv.v] at *
  simp only [nuF, numB] at HA1 HA2
  go_enter Tryz.func55, Tryz.ntmps55
  go_wp2_with fail
  refine (HA1.out _).mono ?_
  rintro e w1 ⟨rfl, f1⟩
  have HB1 := hid (And.intro (f1.blk HB.out.1 (fun h => h)) (f1.blk HB.out.2 (fun h => h)))
  have HF1 := hid (HF.out.trans f1 (fun _ h => h.elim))
  clear f1 HB HF HA1
  obtain ⟨c0, c1, c2, c3, c4, c5⟩ := HB1.out.1.six
  obtain ⟨d0, d1, d2, d3, d4, d5⟩ := HB1.out.2.six
  go_wp2_with fail
  refine (HA2.out _).mono ?_
  rintro e w2 ⟨rfl, f2⟩
  have HB2 := hid (And.intro (f2.blk HB1.out.1 (fun h => h)) (f2.blk HB1.out.2 (fun h => h)))
  have HF2 := hid (HF1.out.trans f2 (fun _ h => h.elim))
  clear f2 HB1 HF1 HA2 c0 c1 c2 c3 c4 c5 d0 d1 d2 d3 d4 d5
  obtain ⟨c0, c1, c2, c3, c4, c5⟩ := HB2.out.1.six
  obtain ⟨d0, d1, d2, d3, d4, d5⟩ := HB2.out.2.six
  go_wp2_with fail
  go_ret2
  exact ⟨by rw [HQ.out]; rfl, HF2.out⟩

set_option maxRecDepth 100000 in
set_option maxHeartbeats 4000000 in
set_option linter.unusedVariables false in
theorem rq_32 (u v : Vt) (x y : Vv) (w : World) (hu : rgB u = true) (hv : rgB v = true) (hx : VIn w u x) (hy : VIn w v y) (h1 : u.k = 3) (h2 : v.k = 2) : Calls Tryz.prog 55 #[x.v, y.v] w fun e w' => e = .returned (.tuple #[.bool (eqV u v).1, .int .i64 (eqV u v).2]) ∧ Fr (fun _ => False) w w' := by
  have HQ : Hid (eqV u v = (FloatKind.f64.format.order (u.f) (floatOfInt .f64 v.n) == some Ordering.eq, 0)) := by unfold Hid; rw [eqV_eq]; simp [numB, eqN, asF, Vt.nv, h1, h2]
  obtain ⟨⟨p1, p2, p3, p4⟩, _, ⟨p5, _, hnl, hns⟩, ⟨p6, _, hil⟩, hit⟩ := hx.parts
  obtain ⟨⟨r1, r2, r3, r4⟩, _, ⟨r5, _, hnl', hns'⟩, ⟨r6, _, hil'⟩, hit'⟩ := hy.parts
  have hnl2 : u.ns.length ≤ 140737488351232 := hnl
  have hil2 : u.its.length ≤ 140737488351232 := hil
  have hnl2' : v.ns.length ≤ 140737488351232 := hnl'
  have hil2' : v.its.length ≤ 140737488351232 := hil'
  have HNs := hid hns
  have HNs' := hid hns'
  have HI := hid hit
  have HI' := hid hit'
  clear hnl hil hnl' hil' hns hns' hit hit' hx hy
  obtain ⟨k, n, f, t, na, nl, nc, ia, il, ic⟩ := x
  obtain ⟨k', n', f', t', na', nl', nc', ia', il', ic'⟩ := y
  simp only at p1 p2 p3 p4 p5 p6 r1 r2 r3 r4 r5 r6
  rw [h1] at p1
  rw [h2] at r1
  subst p1 p2 p3 p4 p5 p6 r1 r2 r3 r4 r5 r6
  have HB := hid (two_blk w ⟨3, u.n, u.f, u.t, na, u.ns.length, nc, ia, u.its.length, ic⟩ ⟨2, v.n, v.f, v.t, na', v.ns.length, nc', ia', v.its.length, ic'⟩)
  have HF := hid (two_fr w ⟨3, u.n, u.f, u.t, na, u.ns.length, nc, ia, u.its.length, ic⟩ ⟨2, v.n, v.f, v.t, na', v.ns.length, nc', ia', v.its.length, ic'⟩)
  have HA1 := hid (fun W => number_any W ⟨3, u.n, u.f, u.t, na, u.ns.length, nc, ia, u.its.length, ic⟩)
  have HA2 := hid (fun W => number_any W ⟨2, v.n, v.f, v.t, na', v.ns.length, nc', ia', v.its.length, ic'⟩)
  simp only [Vv.v] at *
  simp only [nuF, numB] at HA1 HA2
  go_enter Tryz.func55, Tryz.ntmps55
  go_wp2_with fail
  refine (HA1.out _).mono ?_
  rintro e w1 ⟨rfl, f1⟩
  have HB1 := hid (And.intro (f1.blk HB.out.1 (fun h => h)) (f1.blk HB.out.2 (fun h => h)))
  have HF1 := hid (HF.out.trans f1 (fun _ h => h.elim))
  clear f1 HB HF HA1
  obtain ⟨c0, c1, c2, c3, c4, c5⟩ := HB1.out.1.six
  obtain ⟨d0, d1, d2, d3, d4, d5⟩ := HB1.out.2.six
  go_wp2_with fail
  refine (HA2.out _).mono ?_
  rintro e w2 ⟨rfl, f2⟩
  have HB2 := hid (And.intro (f2.blk HB1.out.1 (fun h => h)) (f2.blk HB1.out.2 (fun h => h)))
  have HF2 := hid (HF1.out.trans f2 (fun _ h => h.elim))
  clear f2 HB1 HF1 HA2 c0 c1 c2 c3 c4 c5 d0 d1 d2 d3 d4 d5
  obtain ⟨c0, c1, c2, c3, c4, c5⟩ := HB2.out.1.six
  obtain ⟨d0, d1, d2, d3, d4, d5⟩ := HB2.out.2.six
  go_wp2_with fail
  go_ret2
  exact ⟨by rw [HQ.out]; rfl, HF2.out⟩

set_option maxRecDepth 100000 in
set_option maxHeartbeats 4000000 in
set_option linter.unusedVariables false in
theorem rq_33 (u v : Vt) (x y : Vv) (w : World) (hu : rgB u = true) (hv : rgB v = true) (hx : VIn w u x) (hy : VIn w v y) (h1 : u.k = 3) (h2 : v.k = 3) : Calls Tryz.prog 55 #[x.v, y.v] w fun e w' => e = .returned (.tuple #[.bool (eqV u v).1, .int .i64 (eqV u v).2]) ∧ Fr (fun _ => False) w w' := by
  have HQ : Hid (eqV u v = (FloatKind.f64.format.order (u.f) (v.f) == some Ordering.eq, 0)) := by unfold Hid; rw [eqV_eq]; simp [numB, eqN, asF, Vt.nv, h1, h2]
  obtain ⟨⟨p1, p2, p3, p4⟩, _, ⟨p5, _, hnl, hns⟩, ⟨p6, _, hil⟩, hit⟩ := hx.parts
  obtain ⟨⟨r1, r2, r3, r4⟩, _, ⟨r5, _, hnl', hns'⟩, ⟨r6, _, hil'⟩, hit'⟩ := hy.parts
  have hnl2 : u.ns.length ≤ 140737488351232 := hnl
  have hil2 : u.its.length ≤ 140737488351232 := hil
  have hnl2' : v.ns.length ≤ 140737488351232 := hnl'
  have hil2' : v.its.length ≤ 140737488351232 := hil'
  have HNs := hid hns
  have HNs' := hid hns'
  have HI := hid hit
  have HI' := hid hit'
  clear hnl hil hnl' hil' hns hns' hit hit' hx hy
  obtain ⟨k, n, f, t, na, nl, nc, ia, il, ic⟩ := x
  obtain ⟨k', n', f', t', na', nl', nc', ia', il', ic'⟩ := y
  simp only at p1 p2 p3 p4 p5 p6 r1 r2 r3 r4 r5 r6
  rw [h1] at p1
  rw [h2] at r1
  subst p1 p2 p3 p4 p5 p6 r1 r2 r3 r4 r5 r6
  have HB := hid (two_blk w ⟨3, u.n, u.f, u.t, na, u.ns.length, nc, ia, u.its.length, ic⟩ ⟨3, v.n, v.f, v.t, na', v.ns.length, nc', ia', v.its.length, ic'⟩)
  have HF := hid (two_fr w ⟨3, u.n, u.f, u.t, na, u.ns.length, nc, ia, u.its.length, ic⟩ ⟨3, v.n, v.f, v.t, na', v.ns.length, nc', ia', v.its.length, ic'⟩)
  have HA1 := hid (fun W => number_any W ⟨3, u.n, u.f, u.t, na, u.ns.length, nc, ia, u.its.length, ic⟩)
  have HA2 := hid (fun W => number_any W ⟨3, v.n, v.f, v.t, na', v.ns.length, nc', ia', v.its.length, ic'⟩)
  simp only [Vv.v] at *
  simp only [nuF, numB] at HA1 HA2
  go_enter Tryz.func55, Tryz.ntmps55
  go_wp2_with fail
  refine (HA1.out _).mono ?_
  rintro e w1 ⟨rfl, f1⟩
  have HB1 := hid (And.intro (f1.blk HB.out.1 (fun h => h)) (f1.blk HB.out.2 (fun h => h)))
  have HF1 := hid (HF.out.trans f1 (fun _ h => h.elim))
  clear f1 HB HF HA1
  obtain ⟨c0, c1, c2, c3, c4, c5⟩ := HB1.out.1.six
  obtain ⟨d0, d1, d2, d3, d4, d5⟩ := HB1.out.2.six
  go_wp2_with fail
  refine (HA2.out _).mono ?_
  rintro e w2 ⟨rfl, f2⟩
  have HB2 := hid (And.intro (f2.blk HB1.out.1 (fun h => h)) (f2.blk HB1.out.2 (fun h => h)))
  have HF2 := hid (HF1.out.trans f2 (fun _ h => h.elim))
  clear f2 HB1 HF1 HA2 c0 c1 c2 c3 c4 c5 d0 d1 d2 d3 d4 d5
  obtain ⟨c0, c1, c2, c3, c4, c5⟩ := HB2.out.1.six
  obtain ⟨d0, d1, d2, d3, d4, d5⟩ := HB2.out.2.six
  go_wp2_with fail
  go_ret2
  exact ⟨by rw [HQ.out]; rfl, HF2.out⟩

set_option maxRecDepth 100000 in
set_option maxHeartbeats 4000000 in
set_option linter.unusedVariables false in
theorem rq_k0 (u v : Vt) (x y : Vv) (w : World) (hu : rgB u = true) (hv : rgB v = true) (hx : VIn w u x) (hy : VIn w v y) (h1 : u.k = 0) (h2 : v.k = 0) : Calls Tryz.prog 55 #[x.v, y.v] w fun e w' => e = .returned (.tuple #[.bool (eqV u v).1, .int .i64 (eqV u v).2]) ∧ Fr (fun _ => False) w w' := by
  have HQ : Hid (eqV u v = (true, 0)) := by unfold Hid; rw [eqV_eq, sam_null hu hv h1 h2]; simp [numB, Vt.nv, h1, h2]
  obtain ⟨⟨p1, p2, p3, p4⟩, _, ⟨p5, _, hnl, hns⟩, ⟨p6, _, hil⟩, hit⟩ := hx.parts
  obtain ⟨⟨r1, r2, r3, r4⟩, _, ⟨r5, _, hnl', hns'⟩, ⟨r6, _, hil'⟩, hit'⟩ := hy.parts
  have hnl2 : u.ns.length ≤ 140737488351232 := hnl
  have hil2 : u.its.length ≤ 140737488351232 := hil
  have hnl2' : v.ns.length ≤ 140737488351232 := hnl'
  have hil2' : v.its.length ≤ 140737488351232 := hil'
  have HNs := hid hns
  have HNs' := hid hns'
  have HI := hid hit
  have HI' := hid hit'
  clear hnl hil hnl' hil' hns hns' hit hit' hx hy
  obtain ⟨k, n, f, t, na, nl, nc, ia, il, ic⟩ := x
  obtain ⟨k', n', f', t', na', nl', nc', ia', il', ic'⟩ := y
  simp only at p1 p2 p3 p4 p5 p6 r1 r2 r3 r4 r5 r6
  rw [h1] at p1
  rw [h2] at r1
  subst p1 p2 p3 p4 p5 p6 r1 r2 r3 r4 r5 r6
  have HB := hid (two_blk w ⟨0, u.n, u.f, u.t, na, u.ns.length, nc, ia, u.its.length, ic⟩ ⟨0, v.n, v.f, v.t, na', v.ns.length, nc', ia', v.its.length, ic'⟩)
  have HF := hid (two_fr w ⟨0, u.n, u.f, u.t, na, u.ns.length, nc, ia, u.its.length, ic⟩ ⟨0, v.n, v.f, v.t, na', v.ns.length, nc', ia', v.its.length, ic'⟩)
  have HA1 := hid (fun W => number_any W ⟨0, u.n, u.f, u.t, na, u.ns.length, nc, ia, u.its.length, ic⟩)
  have HA2 := hid (fun W => number_any W ⟨0, v.n, v.f, v.t, na', v.ns.length, nc', ia', v.its.length, ic'⟩)
  simp only [Vv.v] at *
  simp only [nuF, numB] at HA1 HA2
  go_enter Tryz.func55, Tryz.ntmps55
  go_wp2_with fail
  refine (HA1.out _).mono ?_
  rintro e w1 ⟨rfl, f1⟩
  have HB1 := hid (And.intro (f1.blk HB.out.1 (fun h => h)) (f1.blk HB.out.2 (fun h => h)))
  have HF1 := hid (HF.out.trans f1 (fun _ h => h.elim))
  clear f1 HB HF HA1
  obtain ⟨c0, c1, c2, c3, c4, c5⟩ := HB1.out.1.six
  obtain ⟨d0, d1, d2, d3, d4, d5⟩ := HB1.out.2.six
  go_wp2_with fail
  refine (HA2.out _).mono ?_
  rintro e w2 ⟨rfl, f2⟩
  have HB2 := hid (And.intro (f2.blk HB1.out.1 (fun h => h)) (f2.blk HB1.out.2 (fun h => h)))
  have HF2 := hid (HF1.out.trans f2 (fun _ h => h.elim))
  clear f2 HB1 HF1 HA2 c0 c1 c2 c3 c4 c5 d0 d1 d2 d3 d4 d5
  obtain ⟨c0, c1, c2, c3, c4, c5⟩ := HB2.out.1.six
  obtain ⟨d0, d1, d2, d3, d4, d5⟩ := HB2.out.2.six
  go_wp2_with fail
  go_ret2
  exact ⟨by rw [HQ.out]; rfl, HF2.out⟩

set_option maxRecDepth 100000 in
set_option maxHeartbeats 4000000 in
set_option linter.unusedVariables false in
theorem rq_k1 (u v : Vt) (x y : Vv) (w : World) (hu : rgB u = true) (hv : rgB v = true) (hx : VIn w u x) (hy : VIn w v y) (h1 : u.k = 1) (h2 : v.k = 1) : Calls Tryz.prog 55 #[x.v, y.v] w fun e w' => e = .returned (.tuple #[.bool (eqV u v).1, .int .i64 (eqV u v).2]) ∧ Fr (fun _ => False) w w' := by
  have HQ : Hid (eqV u v = (u.n == v.n, 0)) := by unfold Hid; rw [eqV_eq, sam_bool hu hv h1 h2]; simp [numB, Vt.nv, h1, h2]
  obtain ⟨⟨p1, p2, p3, p4⟩, _, ⟨p5, _, hnl, hns⟩, ⟨p6, _, hil⟩, hit⟩ := hx.parts
  obtain ⟨⟨r1, r2, r3, r4⟩, _, ⟨r5, _, hnl', hns'⟩, ⟨r6, _, hil'⟩, hit'⟩ := hy.parts
  have hnl2 : u.ns.length ≤ 140737488351232 := hnl
  have hil2 : u.its.length ≤ 140737488351232 := hil
  have hnl2' : v.ns.length ≤ 140737488351232 := hnl'
  have hil2' : v.its.length ≤ 140737488351232 := hil'
  have HNs := hid hns
  have HNs' := hid hns'
  have HI := hid hit
  have HI' := hid hit'
  clear hnl hil hnl' hil' hns hns' hit hit' hx hy
  obtain ⟨k, n, f, t, na, nl, nc, ia, il, ic⟩ := x
  obtain ⟨k', n', f', t', na', nl', nc', ia', il', ic'⟩ := y
  simp only at p1 p2 p3 p4 p5 p6 r1 r2 r3 r4 r5 r6
  rw [h1] at p1
  rw [h2] at r1
  subst p1 p2 p3 p4 p5 p6 r1 r2 r3 r4 r5 r6
  have HB := hid (two_blk w ⟨1, u.n, u.f, u.t, na, u.ns.length, nc, ia, u.its.length, ic⟩ ⟨1, v.n, v.f, v.t, na', v.ns.length, nc', ia', v.its.length, ic'⟩)
  have HF := hid (two_fr w ⟨1, u.n, u.f, u.t, na, u.ns.length, nc, ia, u.its.length, ic⟩ ⟨1, v.n, v.f, v.t, na', v.ns.length, nc', ia', v.its.length, ic'⟩)
  have HA1 := hid (fun W => number_any W ⟨1, u.n, u.f, u.t, na, u.ns.length, nc, ia, u.its.length, ic⟩)
  have HA2 := hid (fun W => number_any W ⟨1, v.n, v.f, v.t, na', v.ns.length, nc', ia', v.its.length, ic'⟩)
  simp only [Vv.v] at *
  simp only [nuF, numB] at HA1 HA2
  go_enter Tryz.func55, Tryz.ntmps55
  go_wp2_with fail
  refine (HA1.out _).mono ?_
  rintro e w1 ⟨rfl, f1⟩
  have HB1 := hid (And.intro (f1.blk HB.out.1 (fun h => h)) (f1.blk HB.out.2 (fun h => h)))
  have HF1 := hid (HF.out.trans f1 (fun _ h => h.elim))
  clear f1 HB HF HA1
  obtain ⟨c0, c1, c2, c3, c4, c5⟩ := HB1.out.1.six
  obtain ⟨d0, d1, d2, d3, d4, d5⟩ := HB1.out.2.six
  go_wp2_with fail
  refine (HA2.out _).mono ?_
  rintro e w2 ⟨rfl, f2⟩
  have HB2 := hid (And.intro (f2.blk HB1.out.1 (fun h => h)) (f2.blk HB1.out.2 (fun h => h)))
  have HF2 := hid (HF1.out.trans f2 (fun _ h => h.elim))
  clear f2 HB1 HF1 HA2 c0 c1 c2 c3 c4 c5 d0 d1 d2 d3 d4 d5
  obtain ⟨c0, c1, c2, c3, c4, c5⟩ := HB2.out.1.six
  obtain ⟨d0, d1, d2, d3, d4, d5⟩ := HB2.out.2.six
  go_wp2_with fail
  go_ret2
  exact ⟨by rw [HQ.out]; rfl, HF2.out⟩

set_option maxRecDepth 100000 in
set_option maxHeartbeats 4000000 in
set_option linter.unusedVariables false in
theorem rq_k4 (u v : Vt) (x y : Vv) (w : World) (hu : rgB u = true) (hv : rgB v = true) (hx : VIn w u x) (hy : VIn w v y) (h1 : u.k = 4) (h2 : v.k = 4) : Calls Tryz.prog 55 #[x.v, y.v] w fun e w' => e = .returned (.tuple #[.bool (eqV u v).1, .int .i64 (eqV u v).2]) ∧ Fr (fun _ => False) w w' := by
  have HQ : Hid (eqV u v = (u.t == v.t, 0)) := by unfold Hid; rw [eqV_eq, sam_str hu hv h1 h2]; simp [numB, Vt.nv, h1, h2]
  obtain ⟨⟨p1, p2, p3, p4⟩, _, ⟨p5, _, hnl, hns⟩, ⟨p6, _, hil⟩, hit⟩ := hx.parts
  obtain ⟨⟨r1, r2, r3, r4⟩, _, ⟨r5, _, hnl', hns'⟩, ⟨r6, _, hil'⟩, hit'⟩ := hy.parts
  have hnl2 : u.ns.length ≤ 140737488351232 := hnl
  have hil2 : u.its.length ≤ 140737488351232 := hil
  have hnl2' : v.ns.length ≤ 140737488351232 := hnl'
  have hil2' : v.its.length ≤ 140737488351232 := hil'
  have HNs := hid hns
  have HNs' := hid hns'
  have HI := hid hit
  have HI' := hid hit'
  clear hnl hil hnl' hil' hns hns' hit hit' hx hy
  obtain ⟨k, n, f, t, na, nl, nc, ia, il, ic⟩ := x
  obtain ⟨k', n', f', t', na', nl', nc', ia', il', ic'⟩ := y
  simp only at p1 p2 p3 p4 p5 p6 r1 r2 r3 r4 r5 r6
  rw [h1] at p1
  rw [h2] at r1
  subst p1 p2 p3 p4 p5 p6 r1 r2 r3 r4 r5 r6
  have HB := hid (two_blk w ⟨4, u.n, u.f, u.t, na, u.ns.length, nc, ia, u.its.length, ic⟩ ⟨4, v.n, v.f, v.t, na', v.ns.length, nc', ia', v.its.length, ic'⟩)
  have HF := hid (two_fr w ⟨4, u.n, u.f, u.t, na, u.ns.length, nc, ia, u.its.length, ic⟩ ⟨4, v.n, v.f, v.t, na', v.ns.length, nc', ia', v.its.length, ic'⟩)
  have HA1 := hid (fun W => number_any W ⟨4, u.n, u.f, u.t, na, u.ns.length, nc, ia, u.its.length, ic⟩)
  have HA2 := hid (fun W => number_any W ⟨4, v.n, v.f, v.t, na', v.ns.length, nc', ia', v.its.length, ic'⟩)
  simp only [Vv.v] at *
  simp only [nuF, numB] at HA1 HA2
  go_enter Tryz.func55, Tryz.ntmps55
  go_wp2_with fail
  refine (HA1.out _).mono ?_
  rintro e w1 ⟨rfl, f1⟩
  have HB1 := hid (And.intro (f1.blk HB.out.1 (fun h => h)) (f1.blk HB.out.2 (fun h => h)))
  have HF1 := hid (HF.out.trans f1 (fun _ h => h.elim))
  clear f1 HB HF HA1
  obtain ⟨c0, c1, c2, c3, c4, c5⟩ := HB1.out.1.six
  obtain ⟨d0, d1, d2, d3, d4, d5⟩ := HB1.out.2.six
  go_wp2_with fail
  refine (HA2.out _).mono ?_
  rintro e w2 ⟨rfl, f2⟩
  have HB2 := hid (And.intro (f2.blk HB1.out.1 (fun h => h)) (f2.blk HB1.out.2 (fun h => h)))
  have HF2 := hid (HF1.out.trans f2 (fun _ h => h.elim))
  clear f2 HB1 HF1 HA2 c0 c1 c2 c3 c4 c5 d0 d1 d2 d3 d4 d5
  obtain ⟨c0, c1, c2, c3, c4, c5⟩ := HB2.out.1.six
  obtain ⟨d0, d1, d2, d3, d4, d5⟩ := HB2.out.2.six
  go_wp2_with fail
  go_ret2
  exact ⟨by rw [HQ.out]; rfl, HF2.out⟩

set_option maxRecDepth 100000 in
set_option maxHeartbeats 4000000 in
set_option linter.unusedVariables false in
theorem rq_k7 (u v : Vt) (x y : Vv) (w : World) (hu : rgB u = true) (hv : rgB v = true) (hx : VIn w u x) (hy : VIn w v y) (h1 : u.k = 7) (h2 : v.k = 7) : Calls Tryz.prog 55 #[x.v, y.v] w fun e w' => e = .returned (.tuple #[.bool (eqV u v).1, .int .i64 (eqV u v).2]) ∧ Fr (fun _ => False) w w' := by
  have HQ : Hid (eqV u v = (false, 11)) := by unfold Hid; rw [eqV_eq]; simp [numB, Vt.nv, h1, h2]
  obtain ⟨⟨p1, p2, p3, p4⟩, _, ⟨p5, _, hnl, hns⟩, ⟨p6, _, hil⟩, hit⟩ := hx.parts
  obtain ⟨⟨r1, r2, r3, r4⟩, _, ⟨r5, _, hnl', hns'⟩, ⟨r6, _, hil'⟩, hit'⟩ := hy.parts
  have hnl2 : u.ns.length ≤ 140737488351232 := hnl
  have hil2 : u.its.length ≤ 140737488351232 := hil
  have hnl2' : v.ns.length ≤ 140737488351232 := hnl'
  have hil2' : v.its.length ≤ 140737488351232 := hil'
  have HNs := hid hns
  have HNs' := hid hns'
  have HI := hid hit
  have HI' := hid hit'
  clear hnl hil hnl' hil' hns hns' hit hit' hx hy
  obtain ⟨k, n, f, t, na, nl, nc, ia, il, ic⟩ := x
  obtain ⟨k', n', f', t', na', nl', nc', ia', il', ic'⟩ := y
  simp only at p1 p2 p3 p4 p5 p6 r1 r2 r3 r4 r5 r6
  rw [h1] at p1
  rw [h2] at r1
  subst p1 p2 p3 p4 p5 p6 r1 r2 r3 r4 r5 r6
  have HB := hid (two_blk w ⟨7, u.n, u.f, u.t, na, u.ns.length, nc, ia, u.its.length, ic⟩ ⟨7, v.n, v.f, v.t, na', v.ns.length, nc', ia', v.its.length, ic'⟩)
  have HF := hid (two_fr w ⟨7, u.n, u.f, u.t, na, u.ns.length, nc, ia, u.its.length, ic⟩ ⟨7, v.n, v.f, v.t, na', v.ns.length, nc', ia', v.its.length, ic'⟩)
  have HA1 := hid (fun W => number_any W ⟨7, u.n, u.f, u.t, na, u.ns.length, nc, ia, u.its.length, ic⟩)
  have HA2 := hid (fun W => number_any W ⟨7, v.n, v.f, v.t, na', v.ns.length, nc', ia', v.its.length, ic'⟩)
  simp only [Vv.v] at *
  simp only [nuF, numB] at HA1 HA2
  go_enter Tryz.func55, Tryz.ntmps55
  go_wp2_with fail
  refine (HA1.out _).mono ?_
  rintro e w1 ⟨rfl, f1⟩
  have HB1 := hid (And.intro (f1.blk HB.out.1 (fun h => h)) (f1.blk HB.out.2 (fun h => h)))
  have HF1 := hid (HF.out.trans f1 (fun _ h => h.elim))
  clear f1 HB HF HA1
  obtain ⟨c0, c1, c2, c3, c4, c5⟩ := HB1.out.1.six
  obtain ⟨d0, d1, d2, d3, d4, d5⟩ := HB1.out.2.six
  go_wp2_with fail
  refine (HA2.out _).mono ?_
  rintro e w2 ⟨rfl, f2⟩
  have HB2 := hid (And.intro (f2.blk HB1.out.1 (fun h => h)) (f2.blk HB1.out.2 (fun h => h)))
  have HF2 := hid (HF1.out.trans f2 (fun _ h => h.elim))
  clear f2 HB1 HF1 HA2 c0 c1 c2 c3 c4 c5 d0 d1 d2 d3 d4 d5
  obtain ⟨c0, c1, c2, c3, c4, c5⟩ := HB2.out.1.six
  obtain ⟨d0, d1, d2, d3, d4, d5⟩ := HB2.out.2.six
  go_wp2_with fail
  go_ret2
  exact ⟨by rw [HQ.out]; rfl, HF2.out⟩

set_option maxRecDepth 100000 in
set_option maxHeartbeats 4000000 in
set_option linter.unusedVariables false in
theorem rq_diff (u v : Vt) (x y : Vv) (w : World) (hu : rgB u = true) (hv : rgB v = true) (hx : VIn w u x) (hy : VIn w v y) (hnb : (numB u.nv && numB v.nv) = false) (hd : u.k ≠ v.k) : Calls Tryz.prog 55 #[x.v, y.v] w fun e w' => e = .returned (.tuple #[.bool (eqV u v).1, .int .i64 (eqV u v).2]) ∧ Fr (fun _ => False) w w' := by
  have HQ : Hid (eqV u v = (false, 0)) := by unfold Hid; rw [eqV_eq, if_neg (by rw [hnb]; decide), if_pos hd]
  obtain ⟨⟨p1, p2, p3, p4⟩, _, ⟨p5, _, hnl, hns⟩, ⟨p6, _, hil⟩, hit⟩ := hx.parts
  obtain ⟨⟨r1, r2, r3, r4⟩, _, ⟨r5, _, hnl', hns'⟩, ⟨r6, _, hil'⟩, hit'⟩ := hy.parts
  have hnl2 : u.ns.length ≤ 140737488351232 := hnl
  have hil2 : u.its.length ≤ 140737488351232 := hil
  have hnl2' : v.ns.length ≤ 140737488351232 := hnl'
  have hil2' : v.its.length ≤ 140737488351232 := hil'
  have HNs := hid hns
  have HNs' := hid hns'
  have HI := hid hit
  have HI' := hid hit'
  clear hnl hil hnl' hil' hns hns' hit hit' hx hy
  obtain ⟨k, n, f, t, na, nl, nc, ia, il, ic⟩ := x
  obtain ⟨k', n', f', t', na', nl', nc', ia', il', ic'⟩ := y
  simp only at p1 p2 p3 p4 p5 p6 r1 r2 r3 r4 r5 r6
  subst p1 p2 p3 p4 p5 p6 r1 r2 r3 r4 r5 r6
  have HB := hid (two_blk w ⟨u.k, u.n, u.f, u.t, na, u.ns.length, nc, ia, u.its.length, ic⟩ ⟨v.k, v.n, v.f, v.t, na', v.ns.length, nc', ia', v.its.length, ic'⟩)
  have HF := hid (two_fr w ⟨u.k, u.n, u.f, u.t, na, u.ns.length, nc, ia, u.its.length, ic⟩ ⟨v.k, v.n, v.f, v.t, na', v.ns.length, nc', ia', v.its.length, ic'⟩)
  have HA1 := hid (fun W => number_any W ⟨u.k, u.n, u.f, u.t, na, u.ns.length, nc, ia, u.its.length, ic⟩)
  have HA2 := hid (fun W => number_any W ⟨v.k, v.n, v.f, v.t, na', v.ns.length, nc', ia', v.its.length, ic'⟩)
  simp only [Vv.v] at *
  have hd' : (u.k != v.k) = true := by simpa using hd
  have e1 : numB ⟨u.k, u.n, u.f, u.t, na, u.ns.length, nc, ia, u.its.length, ic⟩ = numB u.nv := rfl
  have e2 : numB ⟨v.k, v.n, v.f, v.t, na', v.ns.length, nc', ia', v.its.length, ic'⟩ = numB v.nv := rfl
  rw [e1] at HA1
  rw [e2] at HA2
  generalize nuF ⟨u.k, u.n, u.f, u.t, na, u.ns.length, nc, ia, u.its.length, ic⟩ = g1 at *
  generalize nuF ⟨v.k, v.n, v.f, v.t, na', v.ns.length, nc', ia', v.its.length, ic'⟩ = g2 at *
  clear e1 e2
  have h22 : ((u.k == 2) = true ∧ (v.k == 2) = false) ∨ (u.k == 2) = false := by
    by_cases h : u.k = 2
    · left; exact ⟨by simpa using h, by simp; intro h'; exact hd (by rw [h, h'])⟩
    · right; simpa using h
  clear hd
  generalize numB u.nv = q1 at *
  generalize numB v.nv = q2 at *
  rcases h22 with ⟨h2a, h2b⟩ | h2a
  all_goals
    cases q1
    all_goals
      cases q2
      all_goals first
        | (exact absurd hnb (by decide))
        | (clear hnb
           go_enter Tryz.func55, Tryz.ntmps55
           go_wp2_with fail
           refine (HA1.out _).mono ?_
           rintro e w1 ⟨rfl, f1⟩
           have HB1 := hid (And.intro (f1.blk HB.out.1 (fun h => h)) (f1.blk HB.out.2 (fun h => h)))
           have HF1 := hid (HF.out.trans f1 (fun _ h => h.elim))
           clear f1 HB HF HA1
           obtain ⟨c0, c1, c2, c3, c4, c5⟩ := HB1.out.1.six
           obtain ⟨d0, d1, d2, d3, d4, d5⟩ := HB1.out.2.six
           go_wp2_with fail
           refine (HA2.out _).mono ?_
           rintro e w2 ⟨rfl, f2⟩
           have HB2 := hid (And.intro (f2.blk HB1.out.1 (fun h => h)) (f2.blk HB1.out.2 (fun h => h)))
           have HF2 := hid (HF1.out.trans f2 (fun _ h => h.elim))
           clear f2 HB1 HF1 HA2 c0 c1 c2 c3 c4 c5 d0 d1 d2 d3 d4 d5
           obtain ⟨c0, c1, c2, c3, c4, c5⟩ := HB2.out.1.six
           obtain ⟨d0, d1, d2, d3, d4, d5⟩ := HB2.out.2.six
           go_wp2_with fail
           go_ret2
           exact ⟨by rw [HQ.out]; rfl, HF2.out⟩)
end Go.Proofs.YtlepjghfcpgbcaaGreatDoor.Tr
