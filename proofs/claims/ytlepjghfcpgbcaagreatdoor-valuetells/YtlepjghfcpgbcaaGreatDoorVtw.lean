/- The walk of ValueTells. -/
import Derived.Test.YtlepjghfcpgbcaaGreatDoorRsa
import Derived.Test.YtlepjghfcpgbcaaGreatDoorRshM
import Derived.Test.YtlepjghfcpgbcaaGreatDoorShzM
import Derived.Test.YtlepjghfcpgbcaaGreatDoorShn
namespace Go.Proofs.YtlepjghfcpgbcaaGreatDoor.Tr
open Go.RowKit

theorem box_fr2 {w1 w2 : World} (f2 : Fr (· = w1.heap.size) (vBox w1 vZ) w2) : Fr (fun _ => False) w1 w2 :=
  ((vFr w1 vZ).trans f2 (fun i hi => .inr (by omega)))
theorem fl_fld {w : World} {u : Vt} {x : Vv} (h : VIn w u x) (f : flV u) : x.f < 18446744073709551616 := by
  rw [h.parts.1.2.2.1]
  cases u
  rw [flV] at f
  exact f.1
theorem I64_fld {w : World} {u : Vt} {x : Vv} (h : VIn w u x) : I64 x.n := by
  rw [h.parts.1.2.1]
  exact h.parts.2.1.2.1

set_option maxRecDepth 100000 in
set_option maxHeartbeats 4000000 in
theorem tells_walk (w : World) (u v : Vt) (x y : Vv) (hx : VIn w u x) (hy : VIn w v y) (hfu : flV u) (hnu : nmV u) (hT : Tw w) {T : Nat → Nat × Nat} (hU : TwU w T) : Calls Tryz.prog 3 #[x.v, y.v] w fun e w' => e = .returned (.bool true) ∧ Fr (fun _ => False) w w' := by
  have HB := hid (two_blk w x y)
  have HF := hid (two_fr w x y)
  have HS := hid (shown_any _ (hT.env (Env.of (two_fr w x y))))
  have HSa : Hid (∀ W, Env w W → Calls Tryz.prog 15 #[x.v, .int .i64 5000] W fun e w' => e = .returned (.int .i64 (smF u 5000)) ∧ Fr (fun _ => False) W w') := fun W e => small_any _ u (Nat.le_refl _) x W 5000 (VIn.env e _ _ hx) (by omega) (by omega)
  have HSb : Hid (∀ W, Env w W → Calls Tryz.prog 15 #[y.v, .int .i64 5000] W fun e w' => e = .returned (.int .i64 (smF v 5000)) ∧ Fr (fun _ => False) W w') := fun W e => small_any _ v (Nat.le_refl _) y W 5000 (VIn.env e _ _ hy) (by omega) (by omega)
  have HC : Hid (∀ W, Env w W → Calls Tryz.prog 16 #[x.v] W fun e w' => ∃ x' : Vv, e = .returned x'.v ∧ VNew W.heap.size w' u x' ∧ Fr (fun _ => False) W w') := fun W e => copied_of u x W (VIn.env e _ _ hx) hnu
  have HRr : Hid (∀ W, Env w W → Calls Tryz.prog 22 #[x.v] W fun e w' => e = .returned (.bool (rtB u 32)) ∧ Fr (fun _ => False) W w') := fun W e => rright_any hx W e
  have HRs : Hid (∀ W, Env w W → Calls Tryz.prog 20 #[x.v, y.v] W fun e w' => e = .returned (.bool (samB u v)) ∧ Fr (fun _ => False) W w') := fun W e => rsm_any u v x y W (VIn.env e _ _ hx) (VIn.env e _ _ hy)
  have HRt : Hid (∀ W, Env w W → Calls Tryz.prog 18 #[x.v] W fun e w' => e = .returned (.tuple #[.string ⟨(txX T x (rtB u 32)).1.toArray⟩, .int .i64 (txX T x (rtB u 32)).2]) ∧ Fr (fun _ => False) W w') := fun W e => rtext_any hU x _ (rright_any hx) (fl_fld hx hfu) (I64_fld hx) e
  have HRw : Hid (smF u 5000 ≠ 0 → ∀ W, Env w W → Calls Tryz.prog 24 #[x.v] W fun e w' => e = .returned (.string ⟨(shW T u).toArray⟩) ∧ Fr (fun _ => False) W w') := fun h W e => RShow_any hU hx hfu (sh_small T h hnu) e
  have HO : Hid (∀ (W : World) (x' : Vv), Env w W → VIn W u x' → smF u 5000 ≠ 0 → x'.k = x.k ∧ x'.n = x.n ∧ x'.f = x.f ∧ x'.t = x.t ∧
      (∀ W', Env W W' → Calls Tryz.prog 21 #[x'.v] W' fun e w' => e = .returned (.bool (rtB u 32)) ∧ Fr (fun _ => False) W' w') ∧
      (∀ W', Env W W' → Calls Tryz.prog 23 #[x'.v, y.v] W' fun e w' => e = .returned (.bool (samB u v)) ∧ Fr (fun _ => False) W' w') ∧
      (∀ W', Env W W' → Calls Tryz.prog 20 #[x'.v, x.v] W' fun e w' => e = .returned (.bool true) ∧ Fr (fun _ => False) W' w') ∧
      (∀ W', Env W W' → Calls Tryz.prog 17 #[x'.v] W' fun e w' => e = .returned (.tuple #[.string ⟨(txX T x (rtB u 32)).1.toArray⟩, .int .i64 (txX T x (rtB u 32)).2]) ∧ Fr (fun _ => False) W' w') ∧
      (∀ W', Env W W' → Calls Tryz.prog 19 #[x'.v] W' fun e w' => e = .returned (.string ⟨(shW T u).toArray⟩) ∧ Fr (fun _ => False) W' w')) := fun W x' e hO hs => by
    have p := hO.parts.1
    have q := hx.parts.1
    have e4 : x'.k = x.k ∧ x'.n = x.n ∧ x'.f = x.f ∧ x'.t = x.t := ⟨p.1.trans q.1.symm, p.2.1.trans q.2.1.symm, p.2.2.1.trans q.2.2.1.symm, p.2.2.2.trans q.2.2.2.symm⟩
    have et : txX T x' (rtB u 32) = txX T x (rtB u 32) := by
      unfold txX
      rw [e4.1, e4.2.1, e4.2.2.1, e4.2.2.2]
    refine ⟨e4.1, e4.2.1, e4.2.2.1, e4.2.2.2, fun W' e' => right_any hO W' e', fun W' e' => sm_of u v x' y W' (VIn.env e' _ _ hO) (VIn.env (e.trans e') _ _ hy), fun W' e' => ?_, fun W' e' => ?_, fun W' e' => Show_any (hU.env e) hO hfu (sh_small T hs hnu) e'⟩
    · have h := rsm_any u u x' x W' (VIn.env e' _ _ hO) (VIn.env (e.trans e') _ _ hx)
      rw [sam_refl] at h
      exact h
    · have h := text_any (hU.env e) x' _ (right_any hO) (fl_fld hO hfu) (I64_fld hO) e'
      rw [et] at h
      exact h
  clear hx hy hfu hnu hT hU
  generalize smF u 5000 = m1 at *
  generalize smF v 5000 = m2 at *
  generalize txX T x (rtB u 32) = TX at *
  obtain ⟨t1, n1⟩ := TX
  generalize shW T u = s1 at *
  generalize rtB u 32 = q1 at *
  generalize samB u v = q2 at *
  obtain ⟨k, n, f, t, na, nl, nc, ia, il, ic⟩ := x
  obtain ⟨k', n', f', t', na', nl', nc', ia', il', ic'⟩ := y
  simp only [Vv.v] at *
  go_enter Tryz.func3, Tryz.ntmps3
  go_wp2_with fail
  refine HS.out.mono ?_
  rintro e w1 ⟨rfl, f1⟩
  have HB1 := hid (And.intro (f1.blk HB.out.1 (fun h => h)) (f1.blk HB.out.2 (fun h => h)))
  have HF1 := hid (HF.out.trans f1 (fun _ h => h.elim))
  clear f1 HB HF HS
  obtain ⟨c0, c1, c2, c3, c4, c5⟩ := HB1.out.1.six
  obtain ⟨d0, d1, d2, d3, d4, d5⟩ := HB1.out.2.six
  go_wp2_with fail
  refine (HSa.out _ (Env.of HF1.out)).mono ?_
  rintro e w2 ⟨rfl, f2⟩
  have HB2 := hid (And.intro (f2.blk HB1.out.1 (fun h => h)) (f2.blk HB1.out.2 (fun h => h)))
  have HF2 := hid (HF1.out.trans f2 (fun _ h => h.elim))
  clear f2 HB1 HF1 HSa c0 c1 c2 c3 c4 c5 d0 d1 d2 d3 d4 d5
  by_cases h1 : m1 = 0
  · subst h1
    go_wp2_with fail
    go_ret
    exact ⟨rfl, HF2.out⟩
  have h1' : (m1 == 0) = false := by simpa using h1
  have HM := hid h1
  clear h1
  obtain ⟨c0, c1, c2, c3, c4, c5⟩ := HB2.out.1.six
  obtain ⟨d0, d1, d2, d3, d4, d5⟩ := HB2.out.2.six
  go_wp2_with fail
  refine (HSb.out _ (Env.of HF2.out)).mono ?_
  rintro e w3 ⟨rfl, f3⟩
  have HB3 := hid (And.intro (f3.blk HB2.out.1 (fun h => h)) (f3.blk HB2.out.2 (fun h => h)))
  have HF3 := hid (HF2.out.trans f3 (fun _ h => h.elim))
  clear f3 HB2 HF2 HSb c0 c1 c2 c3 c4 c5 d0 d1 d2 d3 d4 d5
  by_cases h2 : m2 = 0
  · subst h2
    go_wp2_with fail
    go_ret
    exact ⟨rfl, HF3.out⟩
  have h2' : (m2 == 0) = false := by simpa using h2
  clear h2
  obtain ⟨c0, c1, c2, c3, c4, c5⟩ := HB3.out.1.six
  obtain ⟨d0, d1, d2, d3, d4, d5⟩ := HB3.out.2.six
  go_wp2_with fail
  refine (HC.out _ (Env.of HF3.out)).mono ?_
  rintro e w4 ⟨x', rfl, hN, f4⟩
  have HB4 := hid (And.intro (f4.blk HB3.out.1 (fun h => h)) (f4.blk HB3.out.2 (fun h => h)))
  have HF4 := hid (HF3.out.trans f4 (fun _ h => h.elim))
  have HO4 := hid (HO.out w4 x' (Env.of HF4.out) hN.now HM.out)
  clear f4 HB3 HF3 HC HO hN c0 c1 c2 c3 c4 c5 d0 d1 d2 d3 d4 d5
  obtain ⟨k'', n'', f'', t'', na'', nl'', nc'', ia'', il'', ic''⟩ := x'
  simp only at *
  obtain ⟨rfl, rfl, rfl, rfl, hq⟩ := HO4.out
  clear HO4
  obtain ⟨HOr, HOs, HOm, HOt, HOw⟩ := hq
  have HOr := hid HOr
  have HOs := hid HOs
  have HOm := hid HOm
  have HOt := hid HOt
  have HOw := hid HOw
  have HBz := hid (vBlk w4 vZ)
  have HBz := hid (vBlk w4 vZ)
  have HBz := hid (vBlk w4 vZ)
  have HBz := hid (vBlk w4 vZ)
  obtain ⟨c0, c1, c2, c3, c4, c5⟩ := HB4.out.1.six
  obtain ⟨d0, d1, d2, d3, d4, d5⟩ := HB4.out.2.six
  go_wp2_with (refine wpList_storeV ⟨k'', n'', f'', t'', na'', nl'', nc'', ia'', il'', ic''⟩ (by rfl) _ _ (by rfl) HBz.out (by rfl) (by rfl) ?_; intro w5 b5 f5; have HF5 := hid (box_fr2 f5); have HB5 := hid (And.intro (HF5.out.blk HB4.out.1 (fun h => h)) (HF5.out.blk HB4.out.2 (fun h => h))); have HV5 := hid b5; clear b5 f5 c0 c1 c2 c3 c4 c5 d0 d1 d2 d3 d4 d5; obtain ⟨c0, c1, c2, c3, c4, c5⟩ := HB5.out.1.six; obtain ⟨d0, d1, d2, d3, d4, d5⟩ := HB5.out.2.six; obtain ⟨g0, g1, g2, g3, g4, g5⟩ := HV5.out.six)
  have HG5 := hid (HF4.out.trans HF5.out (fun _ h => h.elim))
  clear HBz HB4
  refine (HOt.out _ (Env.of HF5.out)).mono ?_
  rintro e w6 ⟨rfl, f6⟩
  have HB6 := hid (And.intro (f6.blk HB5.out.1 (fun h => h)) (f6.blk HB5.out.2 (fun h => h)))
  have HV6 := hid (f6.blk HV5.out (fun h => h))
  have HF6 := hid (HF5.out.trans f6 (fun _ h => h.elim))
  have HG6 := hid (HG5.out.trans f6 (fun _ h => h.elim))
  clear f6 HB5 HV5 HF5 HG5 c0 c1 c2 c3 c4 c5 d0 d1 d2 d3 d4 d5 g0 g1 g2 g3 g4 g5
  obtain ⟨c0, c1, c2, c3, c4, c5⟩ := HB6.out.1.six
  obtain ⟨d0, d1, d2, d3, d4, d5⟩ := HB6.out.2.six
  obtain ⟨g0, g1, g2, g3, g4, g5⟩ := HV6.out.six
  go_wp2_with fail
  refine (HRt.out _ (Env.of HG6.out)).mono ?_
  rintro e w7 ⟨rfl, f7⟩
  have HB7 := hid (And.intro (f7.blk HB6.out.1 (fun h => h)) (f7.blk HB6.out.2 (fun h => h)))
  have HV7 := hid (f7.blk HV6.out (fun h => h))
  have HF7 := hid (HF6.out.trans f7 (fun _ h => h.elim))
  have HG7 := hid (HG6.out.trans f7 (fun _ h => h.elim))
  clear f7 HB6 HV6 HF6 HG6 c0 c1 c2 c3 c4 c5 d0 d1 d2 d3 d4 d5 g0 g1 g2 g3 g4 g5
  obtain ⟨c0, c1, c2, c3, c4, c5⟩ := HB7.out.1.six
  obtain ⟨d0, d1, d2, d3, d4, d5⟩ := HB7.out.2.six
  obtain ⟨g0, g1, g2, g3, g4, g5⟩ := HV7.out.six
  go_wp2_with fail
  refine (HOw.out _ (Env.of HF7.out)).mono ?_
  rintro e w8 ⟨rfl, f8⟩
  have HB8 := hid (And.intro (f8.blk HB7.out.1 (fun h => h)) (f8.blk HB7.out.2 (fun h => h)))
  have HV8 := hid (f8.blk HV7.out (fun h => h))
  have HF8 := hid (HF7.out.trans f8 (fun _ h => h.elim))
  have HG8 := hid (HG7.out.trans f8 (fun _ h => h.elim))
  clear f8 HB7 HV7 HF7 HG7 c0 c1 c2 c3 c4 c5 d0 d1 d2 d3 d4 d5 g0 g1 g2 g3 g4 g5
  obtain ⟨c0, c1, c2, c3, c4, c5⟩ := HB8.out.1.six
  obtain ⟨d0, d1, d2, d3, d4, d5⟩ := HB8.out.2.six
  obtain ⟨g0, g1, g2, g3, g4, g5⟩ := HV8.out.six
  go_wp2_with fail
  refine (HOm.out _ (Env.of HF8.out)).mono ?_
  rintro e w9 ⟨rfl, f9⟩
  have HB9 := hid (And.intro (f9.blk HB8.out.1 (fun h => h)) (f9.blk HB8.out.2 (fun h => h)))
  have HV9 := hid (f9.blk HV8.out (fun h => h))
  have HF9 := hid (HF8.out.trans f9 (fun _ h => h.elim))
  have HG9 := hid (HG8.out.trans f9 (fun _ h => h.elim))
  clear f9 HB8 HV8 HF8 HG8 c0 c1 c2 c3 c4 c5 d0 d1 d2 d3 d4 d5 g0 g1 g2 g3 g4 g5
  obtain ⟨c0, c1, c2, c3, c4, c5⟩ := HB9.out.1.six
  obtain ⟨d0, d1, d2, d3, d4, d5⟩ := HB9.out.2.six
  obtain ⟨g0, g1, g2, g3, g4, g5⟩ := HV9.out.six
  go_wp2_with fail
  have HK : Hid (∀ W', Fr (fun _ => False) w9 W' → six W' w.heap.size ⟨k'', n'', f'', t'', na, nl, nc, ia, il, ic⟩ ∧ six W' (w.heap.size + 1) ⟨k', n', f', t', na', nl', nc', ia', il', ic'⟩ ∧ six W' w4.heap.size ⟨k'', n'', f'', t'', na'', nl'', nc'', ia'', il'', ic''⟩) := fun W' hf => ⟨(hf.blk HB9.out.1 (fun h => h)).six, (hf.blk HB9.out.2 (fun h => h)).six, (hf.blk HV9.out (fun h => h)).six⟩
  have H0 : Hid (Fr (fun _ => False) w9 w9.drew) := (Fr.refl _ w9).drew
  clear HB9 HV9 c0 c1 c2 c3 c4 c5 d0 d1 d2 d3 d4 d5 g0 g1 g2 g3 g4 g5
  cases q1 <;> cases q2
  all_goals
    go_region_held3 (fun W' => six W' w.heap.size ⟨k'', n'', f'', t'', na, nl, nc, ia, il, ic⟩ ∧ six W' (w.heap.size + 1) ⟨k', n', f', t', na', nl', nc', ia', il', ic'⟩ ∧ six W' w4.heap.size ⟨k'', n'', f'', t'', na'', nl'', nc'', ia'', il'', ic''⟩)
      (first | exact HK.out _ H0.out | exact HK.out _ FA.out | exact HK.out _ FB.out | exact HK.out _ FC.out | exact HK.out _ FD.out | exact HK.out _ FE.out)
      ((first
        | (go_at_call 21; refine (HOr.out _ (Env.of (HF9.out.trans H0.out (fun _ h => h.elim)))).mono ?_; rintro e wa ⟨rfl, fa⟩; have FA : Hid (Fr (fun _ => False) w9 wa) := H0.out.trans fa (fun _ h => h.elim); clear fa)
        | (go_at_call 22; refine (HRr.out _ (Env.of (HG9.out.trans FA.out (fun _ h => h.elim)))).mono ?_; rintro e wb ⟨rfl, fa⟩; have FB : Hid (Fr (fun _ => False) w9 wb) := FA.out.trans fa (fun _ h => h.elim); clear fa)
        | (go_at_call 23; refine (HOs.out _ (Env.of (HF9.out.trans FB.out (fun _ h => h.elim)))).mono ?_; rintro e wc ⟨rfl, fa⟩; have FC : Hid (Fr (fun _ => False) w9 wc) := FB.out.trans fa (fun _ h => h.elim); clear fa)
        | (go_at_call 20; refine (HRs.out _ (Env.of (HG9.out.trans FC.out (fun _ h => h.elim)))).mono ?_; rintro e wd ⟨rfl, fa⟩; have FD : Hid (Fr (fun _ => False) w9 wd) := FC.out.trans fa (fun _ h => h.elim); clear fa)
        | (go_at_call 24; refine (HRw.out HM.out _ (Env.of (HG9.out.trans FD.out (fun _ h => h.elim)))).mono ?_; rintro e we ⟨rfl, fa⟩; have FE : Hid (Fr (fun _ => False) w9 we) := FD.out.trans fa (fun _ h => h.elim); clear fa)))
    have HZ := hid (HG9.out.trans FE.out (fun _ h => h.elim))
    go_wp2_with fail
    go_ret
    first | exact ⟨rfl, HZ.out⟩ | exact ⟨by simp, HZ.out⟩
end Go.Proofs.YtlepjghfcpgbcaaGreatDoor.Tr
