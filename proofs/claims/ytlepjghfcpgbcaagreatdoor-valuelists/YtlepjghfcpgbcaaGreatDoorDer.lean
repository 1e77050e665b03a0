/- The document's equal at lists and sets: written by gen/gender.py. -/
import Derived.Test.YtlepjghfcpgbcaaGreatDoorDeq
namespace Go.Proofs.YtlepjghfcpgbcaaGreatDoor.Tr
open Go.RowKit


mutual
theorem eqV_zero : ∀ (u v : Vt), (eqV u v).1 = true → (eqV u v).2 = 0
  | .mk k n f t ns its, v => by
    rw [eqV]
    have h := eqI_zero its v.its
    repeat' split
    all_goals first
      | (intro _; rfl)
      | exact h
      | (intro h; cases h)
theorem eqI_zero : ∀ (l m : List Vt), (eqI l m).1 = true → (eqI l m).2 = 0
  | [], _ => by rw [eqI]; intro _; rfl
  | _ :: _, [] => by rw [eqI]; intro _; rfl
  | a :: r, b :: s => by
    rw [eqI]
    have h := eqI_zero r s
    split
    · exact h
    · intro h; cases h
end

set_option maxRecDepth 100000 in
set_option maxHeartbeats 4000000 in
set_option linter.unusedVariables false in
theorem rq_k5 (u v : Vt) (x y : Vv) (w : World) (hu : rgB u = true) (hv : rgB v = true) (hx : VIn w u x) (hy : VIn w v y) (h1 : u.k = 5) (h2 : v.k = 5) (IH : ∀ z ∈ u.its, RqOf z) : Calls Tryz.prog 55 #[x.v, y.v] w fun e w' => e = .returned (.tuple #[.bool (eqV u v).1, .int .i64 (eqV u v).2]) ∧ Fr (fun _ => False) w w' := by
  have HIH : Hid (∀ z ∈ u.its, ∀ z' ∈ v.its, ∀ (x y : Vv) (W : World), VIn W z x → VIn W z' y → Calls Tryz.prog 55 #[x.v, y.v] W fun e w' => e = .returned (.tuple #[.bool (eqV z z').1, .int .i64 (eqV z z').2]) ∧ Fr (fun _ => False) W w') := fun z hz z' hz' x y W hx hy => IH z hz ((rgL_all _).1 (rg_parts hu).2.2 z hz) z' x y W ((rgL_all _).1 (rg_parts hv).2.2 z' hz') hx hy
  have HQ : Hid (eqV u v = eqLs u.its v.its) := by unfold Hid; rw [eqV_eq]; simp [numB, Vt.nv, h1, h2]
  have hz1 := rg_list hu h1
  have hz2 := rg_list hv h2
  obtain ⟨⟨p1, p2, p3, p4⟩, _, ⟨p5, _, hnl, hns⟩, ⟨p6, _, hil⟩, hit⟩ := hx.parts
  obtain ⟨⟨r1, r2, r3, r4⟩, _, ⟨r5, _, hnl', hns'⟩, ⟨r6, _, hil'⟩, hit'⟩ := hy.parts
  have hnl2 : u.ns.length ≤ 140737488351232 := hnl
  have hil2 : u.its.length ≤ 140737488351232 := hil
  have hnl2' : v.ns.length ≤ 140737488351232 := hnl'
  have hil2' : v.its.length ≤ 140737488351232 := hil'
  have HNs := hid hns
  have HNs' := hid hns'
  have HI := hid hit
  have HI' := hid hit'
  clear hnl hil hnl' hil' hns hns' hit hit' hx hy
  obtain ⟨k, n, f, t, na, nl, nc, ia, il, ic⟩ := x
  obtain ⟨k', n', f', t', na', nl', nc', ia', il', ic'⟩ := y
  simp only at p1 p2 p3 p4 p5 p6 r1 r2 r3 r4 r5 r6
  rw [hz1] at p5
  rw [hz2] at r5
  clear hz1 hz2
  rw [h1] at p1
  rw [h2] at r1
  subst p1 p2 p3 p4 p5 p6 r1 r2 r3 r4 r5 r6
  have HB := hid (two_blk w ⟨5, u.n, u.f, u.t, na, 0, nc, ia, u.its.length, ic⟩ ⟨5, v.n, v.f, v.t, na', 0, nc', ia', v.its.length, ic'⟩)
  have HF := hid (two_fr w ⟨5, u.n, u.f, u.t, na, 0, nc, ia, u.its.length, ic⟩ ⟨5, v.n, v.f, v.t, na', 0, nc', ia', v.its.length, ic'⟩)
  have HA1 := hid (fun W => number_any W ⟨5, u.n, u.f, u.t, na, 0, nc, ia, u.its.length, ic⟩)
  have HA2 := hid (fun W => number_any W ⟨5, v.n, v.f, v.t, na', 0, nc', ia', v.its.length, ic'⟩)
  simp only [Vv.v] at *
  clear IH hu hv h1 h2
  simp only [nuF, numB] at HA1 HA2
  generalize eqV u v = R at *
  by_cases hq : u.its.length = v.its.length
  · have hls : eqLs u.its v.its = eqI u.its v.its := by unfold eqLs; rw [if_neg (fun h => h hq)]
    rw [hls] at HQ
    clear hls
    have hq' : (((u.its.length : Nat) : Int) != ((v.its.length : Nat) : Int)) = false := by simp; omega
    have HQl := hid hq
    clear hq
    go_enter Tryz.func55, Tryz.ntmps55
    go_wp2_with fail
    refine (HA1.out _).mono ?_
    rintro e w1 ⟨rfl, f1⟩
    have HB1 := hid (And.intro (f1.blk HB.out.1 (fun h => h)) (f1.blk HB.out.2 (fun h => h)))
    have HF1 := hid (HF.out.trans f1 (fun _ h => h.elim))
    clear f1 HB HF HA1
    obtain ⟨c0, c1, c2, c3, c4, c5⟩ := HB1.out.1.six
    obtain ⟨d0, d1, d2, d3, d4, d5⟩ := HB1.out.2.six
    go_wp2_with fail
    refine (HA2.out _).mono ?_
    rintro e w2 ⟨rfl, f2⟩
    have HB2 := hid (And.intro (f2.blk HB1.out.1 (fun h => h)) (f2.blk HB1.out.2 (fun h => h)))
    have HF2 := hid (HF1.out.trans f2 (fun _ h => h.elim))
    clear f2 HB1 HF1 HA2 c0 c1 c2 c3 c4 c5 d0 d1 d2 d3 d4 d5
    obtain ⟨c0, c1, c2, c3, c4, c5⟩ := HB2.out.1.six
    obtain ⟨d0, d1, d2, d3, d4, d5⟩ := HB2.out.2.six
    go_wp2_with fail
    go_loopw [10] (fun iv wr => ∃ i : Nat, i ≤ 0 ∧ iv = .int .i64 (i : Int) ∧ u.ns.take i = v.ns.take i ∧ Fr (fun _ => False) w wr ∧ (Blk wr w.heap.size 26 (Vv.cs ⟨5, u.n, u.f, u.t, na, 0, nc, ia, u.its.length, ic⟩) ∧ Blk wr (w.heap.size + 1) 26 (Vv.cs ⟨5, v.n, v.f, v.t, na', 0, nc', ia', v.its.length, ic'⟩))) (fun iv _ => 0 - (intOf iv).toNat)
    case atStart => exact ⟨0, Nat.zero_le _, rfl, rfl, HF2.out, HB2.out⟩
    case round =>
      obtain ⟨i, hi, rfl, hA, hF, hB⟩ := hrel
      clear HB2 HF2 c0 c1 c2 c3 c4 c5 d0 d1 d2 d3 d4 d5
      have HA := hid hA
      have HB := hid hB
      have HF := hid hF
      clear hA hB hF
      obtain ⟨c0, c1, c2, c3, c4, c5⟩ := HB.out.1.six
      obtain ⟨d0, d1, d2, d3, d4, d5⟩ := HB.out.2.six
      by_cases hlt : i < 0
      · exfalso; omega
      · have hlt' : ¬ (i : Int) < ((0 : Nat) : Int) := by omega
        have HR0 : Hid (eqI u.its v.its = R) := HQ.out.symm
        clear HA HQ
        go_wp2_with fail
        rename World => wq
        clear c0 c1 c2 c3 c4 c5 d0 d1 d2 d3 d4 d5 hlt hlt' hi
        go_loopw [11, 12, 13] (fun iv _ _ wr => ∃ i : Nat, i ≤ u.its.length ∧ iv = .int .i64 (i : Int) ∧ eqI (u.its.drop i) (v.its.drop i) = R ∧ Fr (fun _ => False) w wr ∧ (Blk wr w.heap.size 26 (Vv.cs ⟨5, u.n, u.f, u.t, na, 0, nc, ia, u.its.length, ic⟩) ∧ Blk wr (w.heap.size + 1) 26 (Vv.cs ⟨5, v.n, v.f, v.t, na', 0, nc', ia', v.its.length, ic'⟩))) (fun iv _ _ _ => u.its.length - (intOf iv).toNat)
        case atStart => exact ⟨0, Nat.zero_le _, rfl, by simpa using HR0.out, HF.out, HB.out⟩
        case round =>
          obtain ⟨i, hi, rfl, hS, hF, hB⟩ := hrel
          clear HB HF HR0
          have HS := hid hS
          have HB := hid hB
          have HF := hid hF
          clear hS hB hF
          obtain ⟨c0, c1, c2, c3, c4, c5⟩ := HB.out.1.six
          obtain ⟨d0, d1, d2, d3, d4, d5⟩ := HB.out.2.six
          by_cases hlt : i < u.its.length
          · have hlt' : (i : Int) < ((u.its.length : Nat) : Int) := by omega
            have hlm : i < v.its.length := by have := HQl.out; omega
            have hltm : (i : Int) < ((v.its.length : Nat) : Int) := by omega
            obtain ⟨b, o, e1⟩ := HI.out.some (fun e => by rw [e] at hlt; simp at hlt)
            obtain ⟨b', o', e1'⟩ := HI'.out.some (fun e => by rw [e] at hlm; simp at hlm)
            subst e1 e1'
            obtain ⟨x, e2, e3⟩ := HI.out.get i hlt
            obtain ⟨y, g2, g3⟩ := HI'.out.get i hlm
            have HN : Hid (R = if (eqV (u.its[i]'hlt) (v.its[i]'hlm)).1 = true then eqI (u.its.drop (i + 1)) (v.its.drop (i + 1)) else (false, (eqV (u.its[i]'hlt) (v.its[i]'hlm)).2)) := by
              unfold Hid; rw [← HS.out, eqI_step _ _ i hlt hlm]
            have HZ := hid (eqV_zero (u.its[i]'hlt) (v.its[i]'hlm))
            have HK : Hid (∀ W', Fr (fun _ => False) wr W' → (sixB W' b (o + i * 6) x ∧ sixB W' b' (o' + i * 6) y) ∧ W'.cell? ⟨w.heap.size, 5, none⟩ = some (.slice (some ⟨b, o, none⟩) u.its.length ic) ∧ W'.cell? ⟨w.heap.size + 1, 5, none⟩ = some (.slice (some ⟨b', o', none⟩) v.its.length ic')) := fun W' hf => ⟨⟨(e2.env (Env.of (HF.out.trans hf (fun _ h => h.elim)))).six, (g2.env (Env.of (HF.out.trans hf (fun _ h => h.elim)))).six⟩, (hf.blk HB.out.1 (fun h => h)).six.2.2.2.2.2, (hf.blk HB.out.2 (fun h => h)).six.2.2.2.2.2⟩
            have HC2 : Hid (Calls Tryz.prog 55 #[x.v, y.v] wr.drew fun e w' => e = .returned (.tuple #[.bool (eqV (u.its[i]'hlt) (v.its[i]'hlm)).1, .int .i64 (eqV (u.its[i]'hlt) (v.its[i]'hlm)).2]) ∧ Fr (fun _ => False) wr.drew w') := HIH.out _ (List.getElem_mem hlt) _ (List.getElem_mem hlm) x y wr.drew (VIn.env (Env.of HF.out.drew) _ _ e3) (VIn.env (Env.of HF.out.drew) _ _ g3)
            generalize eqV (u.its[i]'hlt) (v.its[i]'hlm) = q at *
            obtain ⟨q, qe⟩ := q
            clear e2 e3 g2 g3 HS
            go_wp2_with fail
            go_region_held3 (fun W' => (sixB W' b (o + i * 6) x ∧ sixB W' b' (o' + i * 6) y) ∧ W'.cell? ⟨w.heap.size, 5, none⟩ = some (.slice (some ⟨b, o, none⟩) u.its.length ic) ∧ W'.cell? ⟨w.heap.size + 1, 5, none⟩ = some (.slice (some ⟨b', o', none⟩) v.its.length ic'))
              (first | exact HK.out _ (Fr.refl _ _).drew | exact HK.out _ F1.out)
              ((go_at_call 55; refine HC2.out.mono ?_; rintro e w2 ⟨rfl, f2⟩; have F1 : Hid (Fr (fun _ => False) wr w2) := (Fr.refl _ wr).drew.trans f2 (fun _ h => h.elim)))
            have HF2 := hid (HF.out.trans F1.out (fun _ h => h.elim))
            have HB2 := hid (And.intro (F1.out.blk HB.out.1 (fun h => h)) (F1.out.blk HB.out.2 (fun h => h)))
            cases q with
            | false =>
              by_cases hqe : qe = 0
              · have hqe' : (qe != 0) = false := by simpa using hqe
                clear hqe
                go_wp2_with fail
                go_ret2
                exact ⟨by rw [HN.out]; rfl, HF2.out⟩
              · have hqe' : (qe != 0) = true := by simpa using hqe
                clear hqe
                go_wp2_with fail
                go_ret2
                exact ⟨by rw [HN.out]; rfl, HF2.out⟩
            | true =>
              obtain rfl : qe = 0 := HZ.out rfl
              go_wp2_with fail
              exact ⟨⟨i + 1, by omega, by first | rfl | (congr 1), by rw [HN.out]; rfl, HF2.out, HB2.out⟩, by simp [intOf]; omega⟩
          · have hlt' : ¬ (i : Int) < ((u.its.length : Nat) : Int) := by omega
            have HE : Hid (R = (true, 0)) := by
              unfold Hid
              rw [← HS.out, List.drop_eq_nil_of_le (by omega), eqI]
            go_wp2_with fail
            go_ret2
            exact ⟨by rw [HE.out]; rfl, HF.out⟩
  · have HQ2 : Hid (R = (false, 0)) := by unfold Hid; rw [HQ.out]; unfold eqLs; simp [hq]
    clear HQ HIH
    have hq' : (((u.its.length : Nat) : Int) != ((v.its.length : Nat) : Int)) = true := by simp; omega
    go_enter Tryz.func55, Tryz.ntmps55
    go_wp2_with fail
    refine (HA1.out _).mono ?_
    rintro e w1 ⟨rfl, f1⟩
    have HB1 := hid (And.intro (f1.blk HB.out.1 (fun h => h)) (f1.blk HB.out.2 (fun h => h)))
    have HF1 := hid (HF.out.trans f1 (fun _ h => h.elim))
    clear f1 HB HF HA1
    obtain ⟨c0, c1, c2, c3, c4, c5⟩ := HB1.out.1.six
    obtain ⟨d0, d1, d2, d3, d4, d5⟩ := HB1.out.2.six
    go_wp2_with fail
    refine (HA2.out _).mono ?_
    rintro e w2 ⟨rfl, f2⟩
    have HB2 := hid (And.intro (f2.blk HB1.out.1 (fun h => h)) (f2.blk HB1.out.2 (fun h => h)))
    have HF2 := hid (HF1.out.trans f2 (fun _ h => h.elim))
    clear f2 HB1 HF1 HA2 c0 c1 c2 c3 c4 c5 d0 d1 d2 d3 d4 d5
    obtain ⟨c0, c1, c2, c3, c4, c5⟩ := HB2.out.1.six
    obtain ⟨d0, d1, d2, d3, d4, d5⟩ := HB2.out.2.six
    go_wp2_with fail
    go_ret2
    exact ⟨by rw [HQ2.out]; rfl, HF2.out⟩

set_option maxRecDepth 100000 in
set_option maxHeartbeats 4000000 in
set_option linter.unusedVariables false in
theorem rq_k6 (u v : Vt) (x y : Vv) (w : World) (hu : rgB u = true) (hv : rgB v = true) (hx : VIn w u x) (hy : VIn w v y) (h1 : u.k = 6) (h2 : v.k = 6) (IH : ∀ z ∈ u.its, RqOf z) : Calls Tryz.prog 55 #[x.v, y.v] w fun e w' => e = .returned (.tuple #[.bool (eqV u v).1, .int .i64 (eqV u v).2]) ∧ Fr (fun _ => False) w w' := by
  have HIH : Hid (∀ z ∈ u.its, ∀ z' ∈ v.its, ∀ (x y : Vv) (W : World), VIn W z x → VIn W z' y → Calls Tryz.prog 55 #[x.v, y.v] W fun e w' => e = .returned (.tuple #[.bool (eqV z z').1, .int .i64 (eqV z z').2]) ∧ Fr (fun _ => False) W w') := fun z hz z' hz' x y W hx hy => IH z hz ((rgL_all _).1 (rg_parts hu).2.2 z hz) z' x y W ((rgL_all _).1 (rg_parts hv).2.2 z' hz') hx hy
  have HQ : Hid (eqV u v = if u.ns = v.ns then eqLs u.its v.its else (false, 0)) := by unfold Hid; rw [eqV_eq]; simp [numB, Vt.nv, h1, h2]
  have HL2 := hid (And.intro (rg_set hu h1) (rg_set hv h2))
  obtain ⟨⟨p1, p2, p3, p4⟩, _, ⟨p5, _, hnl, hns⟩, ⟨p6, _, hil⟩, hit⟩ := hx.parts
  obtain ⟨⟨r1, r2, r3, r4⟩, _, ⟨r5, _, hnl', hns'⟩, ⟨r6, _, hil'⟩, hit'⟩ := hy.parts
  have hnl2 : u.ns.length ≤ 140737488351232 := hnl
  have hil2 : u.its.length ≤ 140737488351232 := hil
  have hnl2' : v.ns.length ≤ 140737488351232 := hnl'
  have hil2' : v.its.length ≤ 140737488351232 := hil'
  have HNs := hid hns
  have HNs' := hid hns'
  have HI := hid hit
  have HI' := hid hit'
  clear hnl hil hnl' hil' hns hns' hit hit' hx hy
  obtain ⟨k, n, f, t, na, nl, nc, ia, il, ic⟩ := x
  obtain ⟨k', n', f', t', na', nl', nc', ia', il', ic'⟩ := y
  simp only at p1 p2 p3 p4 p5 p6 r1 r2 r3 r4 r5 r6
  rw [h1] at p1
  rw [h2] at r1
  subst p1 p2 p3 p4 p5 p6 r1 r2 r3 r4 r5 r6
  have HB := hid (two_blk w ⟨6, u.n, u.f, u.t, na, u.ns.length, nc, ia, u.its.length, ic⟩ ⟨6, v.n, v.f, v.t, na', v.ns.length, nc', ia', v.its.length, ic'⟩)
  have HF := hid (two_fr w ⟨6, u.n, u.f, u.t, na, u.ns.length, nc, ia, u.its.length, ic⟩ ⟨6, v.n, v.f, v.t, na', v.ns.length, nc', ia', v.its.length, ic'⟩)
  have HA1 := hid (fun W => number_any W ⟨6, u.n, u.f, u.t, na, u.ns.length, nc, ia, u.its.length, ic⟩)
  have HA2 := hid (fun W => number_any W ⟨6, v.n, v.f, v.t, na', v.ns.length, nc', ia', v.its.length, ic'⟩)
  simp only [Vv.v] at *
  clear IH hu hv h1 h2
  simp only [nuF, numB] at HA1 HA2
  generalize eqV u v = R at *
  by_cases hq : u.its.length = v.its.length
  · have hls : eqLs u.its v.its = eqI u.its v.its := by unfold eqLs; rw [if_neg (fun h => h hq)]
    rw [hls] at HQ
    clear hls
    have HL1 : Hid (u.ns.length = v.ns.length) := by have := HL2.out; unfold Hid; omega
    clear HL2
    have hq' : (((u.its.length : Nat) : Int) != ((v.its.length : Nat) : Int)) = false := by simp; omega
    have HQl := hid hq
    clear hq
    go_enter Tryz.func55, Tryz.ntmps55
    go_wp2_with fail
    refine (HA1.out _).mono ?_
    rintro e w1 ⟨rfl, f1⟩
    have HB1 := hid (And.intro (f1.blk HB.out.1 (fun h => h)) (f1.blk HB.out.2 (fun h => h)))
    have HF1 := hid (HF.out.trans f1 (fun _ h => h.elim))
    clear f1 HB HF HA1
    obtain ⟨c0, c1, c2, c3, c4, c5⟩ := HB1.out.1.six
    obtain ⟨d0, d1, d2, d3, d4, d5⟩ := HB1.out.2.six
    go_wp2_with fail
    refine (HA2.out _).mono ?_
    rintro e w2 ⟨rfl, f2⟩
    have HB2 := hid (And.intro (f2.blk HB1.out.1 (fun h => h)) (f2.blk HB1.out.2 (fun h => h)))
    have HF2 := hid (HF1.out.trans f2 (fun _ h => h.elim))
    clear f2 HB1 HF1 HA2 c0 c1 c2 c3 c4 c5 d0 d1 d2 d3 d4 d5
    obtain ⟨c0, c1, c2, c3, c4, c5⟩ := HB2.out.1.six
    obtain ⟨d0, d1, d2, d3, d4, d5⟩ := HB2.out.2.six
    go_wp2_with fail
    go_loopw [10] (fun iv wr => ∃ i : Nat, i ≤ u.ns.length ∧ iv = .int .i64 (i : Int) ∧ u.ns.take i = v.ns.take i ∧ Fr (fun _ => False) w wr ∧ (Blk wr w.heap.size 26 (Vv.cs ⟨6, u.n, u.f, u.t, na, u.ns.length, nc, ia, u.its.length, ic⟩) ∧ Blk wr (w.heap.size + 1) 26 (Vv.cs ⟨6, v.n, v.f, v.t, na', v.ns.length, nc', ia', v.its.length, ic'⟩))) (fun iv _ => u.ns.length - (intOf iv).toNat)
    case atStart => exact ⟨0, Nat.zero_le _, rfl, rfl, HF2.out, HB2.out⟩
    case round =>
      obtain ⟨i, hi, rfl, hA, hF, hB⟩ := hrel
      clear HB2 HF2 c0 c1 c2 c3 c4 c5 d0 d1 d2 d3 d4 d5
      have HA := hid hA
      have HB := hid hB
      have HF := hid hF
      clear hA hB hF
      obtain ⟨c0, c1, c2, c3, c4, c5⟩ := HB.out.1.six
      obtain ⟨d0, d1, d2, d3, d4, d5⟩ := HB.out.2.six
      by_cases hlt : i < u.ns.length
      · have hi1 : (i : Int) < ((u.ns.length : Nat) : Int) := by omega
        have hltv : i < v.ns.length := by have := HL1.out; omega
        have hi2 : (i : Int) < ((v.ns.length : Nat) : Int) := by omega
        obtain ⟨b, o, e1, hc⟩ := (HNs.out.env (Env.of HF.out)) (fun e => by rw [e] at hlt; simp at hlt)
        obtain ⟨b', o', e1', hc'⟩ := (HNs'.out.env (Env.of HF.out)) (fun e => by rw [e] at hltv; simp at hltv)
        subst e1 e1'
        have k0 := hc i hlt
        have k1 := hc' i hltv
        have HT : Hid (u.ns[i]'hlt = v.ns[i]'hltv → u.ns.take (i + 1) = v.ns.take (i + 1)) := fun e => by rw [List.take_succ_eq_append_getElem hlt, List.take_succ_eq_append_getElem hltv, HA.out, e]
        have HD : Hid (u.ns[i]'hlt ≠ v.ns[i]'hltv → R = (false, 0)) := fun e => by
          rw [HQ.out, if_neg (fun h => e (by simp only [h]))]
        clear hc hc'
        generalize u.ns[i]'hlt = s at *
        generalize v.ns[i]'hltv = s' at *
        by_cases e : s = s'
        · subst e
          have HT2 := hid (HT.out rfl)
          have hs : (s != s) = false := by simp
          have hs2 : (s == s) = true := by simp
          go_wp2_with fail
          go_quiet (fail)
          have HF2 := hid (HF.out.drewN nq)
          have HB2 := hid (And.intro (show Blk (wr.drewN nq) w.heap.size 26 _ from HB.out.1) (show Blk (wr.drewN nq) (w.heap.size + 1) 26 _ from HB.out.2))
          go_wp2_with fail
          exact ⟨⟨i + 1, by omega, by first | rfl | (congr 1), HT2.out, HF2.out, HB2.out⟩, by simp [intOf]; omega⟩
        · have HD2 := hid (HD.out e)
          have hs2 : (s == s') = false := by simpa using e
          go_wp2_with fail
          go_quiet (fail)
          have HF2 := hid (HF.out.drewN nq)
          go_wp2_with fail
          go_ret2
          exact ⟨by rw [HD2.out]; rfl, HF2.out⟩
      · have hlt' : ¬ (i : Int) < ((u.ns.length : Nat) : Int) := by omega
        have HR0 : Hid (eqI u.its v.its = R) := by
          unfold Hid
          have hnn : u.ns = v.ns := by
            have h := HA.out
            rw [List.take_of_length_le (by omega), List.take_of_length_le (by have := HL1.out; omega)] at h
            exact h
          rw [HQ.out, if_pos hnn]
        clear HA HQ
        go_wp2_with fail
        rename World => wq
        clear c0 c1 c2 c3 c4 c5 d0 d1 d2 d3 d4 d5 hlt hlt' hi
        go_loopw [11, 12, 13] (fun iv _ _ wr => ∃ i : Nat, i ≤ u.its.length ∧ iv = .int .i64 (i : Int) ∧ eqI (u.its.drop i) (v.its.drop i) = R ∧ Fr (fun _ => False) w wr ∧ (Blk wr w.heap.size 26 (Vv.cs ⟨6, u.n, u.f, u.t, na, u.ns.length, nc, ia, u.its.length, ic⟩) ∧ Blk wr (w.heap.size + 1) 26 (Vv.cs ⟨6, v.n, v.f, v.t, na', v.ns.length, nc', ia', v.its.length, ic'⟩))) (fun iv _ _ _ => u.its.length - (intOf iv).toNat)
        case atStart => exact ⟨0, Nat.zero_le _, rfl, by simpa using HR0.out, HF.out, HB.out⟩
        case round =>
          obtain ⟨i, hi, rfl, hS, hF, hB⟩ := hrel
          clear HB HF HR0
          have HS := hid hS
          have HB := hid hB
          have HF := hid hF
          clear hS hB hF
          obtain ⟨c0, c1, c2, c3, c4, c5⟩ := HB.out.1.six
          obtain ⟨d0, d1, d2, d3, d4, d5⟩ := HB.out.2.six
          by_cases hlt : i < u.its.length
          · have hlt' : (i : Int) < ((u.its.length : Nat) : Int) := by omega
            have hlm : i < v.its.length := by have := HQl.out; omega
            have hltm : (i : Int) < ((v.its.length : Nat) : Int) := by omega
            obtain ⟨b, o, e1⟩ := HI.out.some (fun e => by rw [e] at hlt; simp at hlt)
            obtain ⟨b', o', e1'⟩ := HI'.out.some (fun e => by rw [e] at hlm; simp at hlm)
            subst e1 e1'
            obtain ⟨x, e2, e3⟩ := HI.out.get i hlt
            obtain ⟨y, g2, g3⟩ := HI'.out.get i hlm
            have HN : Hid (R = if (eqV (u.its[i]'hlt) (v.its[i]'hlm)).1 = true then eqI (u.its.drop (i + 1)) (v.its.drop (i + 1)) else (false, (eqV (u.its[i]'hlt) (v.its[i]'hlm)).2)) := by
              unfold Hid; rw [← HS.out, eqI_step _ _ i hlt hlm]
            have HZ := hid (eqV_zero (u.its[i]'hlt) (v.its[i]'hlm))
            have HK : Hid (∀ W', Fr (fun _ => False) wr W' → (sixB W' b (o + i * 6) x ∧ sixB W' b' (o' + i * 6) y) ∧ W'.cell? ⟨w.heap.size, 5, none⟩ = some (.slice (some ⟨b, o, none⟩) u.its.length ic) ∧ W'.cell? ⟨w.heap.size + 1, 5, none⟩ = some (.slice (some ⟨b', o', none⟩) v.its.length ic')) := fun W' hf => ⟨⟨(e2.env (Env.of (HF.out.trans hf (fun _ h => h.elim)))).six, (g2.env (Env.of (HF.out.trans hf (fun _ h => h.elim)))).six⟩, (hf.blk HB.out.1 (fun h => h)).six.2.2.2.2.2, (hf.blk HB.out.2 (fun h => h)).six.2.2.2.2.2⟩
            have HC2 : Hid (Calls Tryz.prog 55 #[x.v, y.v] wr.drew fun e w' => e = .returned (.tuple #[.bool (eqV (u.its[i]'hlt) (v.its[i]'hlm)).1, .int .i64 (eqV (u.its[i]'hlt) (v.its[i]'hlm)).2]) ∧ Fr (fun _ => False) wr.drew w') := HIH.out _ (List.getElem_mem hlt) _ (List.getElem_mem hlm) x y wr.drew (VIn.env (Env.of HF.out.drew) _ _ e3) (VIn.env (Env.of HF.out.drew) _ _ g3)
            generalize eqV (u.its[i]'hlt) (v.its[i]'hlm) = q at *
            obtain ⟨q, qe⟩ := q
            clear e2 e3 g2 g3 HS
            go_wp2_with fail
            go_region_held3 (fun W' => (sixB W' b (o + i * 6) x ∧ sixB W' b' (o' + i * 6) y) ∧ W'.cell? ⟨w.heap.size, 5, none⟩ = some (.slice (some ⟨b, o, none⟩) u.its.length ic) ∧ W'.cell? ⟨w.heap.size + 1, 5, none⟩ = some (.slice (some ⟨b', o', none⟩) v.its.length ic'))
              (first | exact HK.out _ (Fr.refl _ _).drew | exact HK.out _ F1.out)
              ((go_at_call 55; refine HC2.out.mono ?_; rintro e w2 ⟨rfl, f2⟩; have F1 : Hid (Fr (fun _ => False) wr w2) := (Fr.refl _ wr).drew.trans f2 (fun _ h => h.elim)))
            have HF2 := hid (HF.out.trans F1.out (fun _ h => h.elim))
            have HB2 := hid (And.intro (F1.out.blk HB.out.1 (fun h => h)) (F1.out.blk HB.out.2 (fun h => h)))
            cases q with
            | false =>
              by_cases hqe : qe = 0
              · have hqe' : (qe != 0) = false := by simpa using hqe
                clear hqe
                go_wp2_with fail
                go_ret2
                exact ⟨by rw [HN.out]; rfl, HF2.out⟩
              · have hqe' : (qe != 0) = true := by simpa using hqe
                clear hqe
                go_wp2_with fail
                go_ret2
                exact ⟨by rw [HN.out]; rfl, HF2.out⟩
            | true =>
              obtain rfl : qe = 0 := HZ.out rfl
              go_wp2_with fail
              exact ⟨⟨i + 1, by omega, by first | rfl | (congr 1), by rw [HN.out]; rfl, HF2.out, HB2.out⟩, by simp [intOf]; omega⟩
          · have hlt' : ¬ (i : Int) < ((u.its.length : Nat) : Int) := by omega
            have HE : Hid (R = (true, 0)) := by
              unfold Hid
              rw [← HS.out, List.drop_eq_nil_of_le (by omega), eqI]
            go_wp2_with fail
            go_ret2
            exact ⟨by rw [HE.out]; rfl, HF.out⟩
  · have HQ2 : Hid (R = (false, 0)) := by unfold Hid; rw [HQ.out]; unfold eqLs; simp [hq]
    clear HQ HIH
    have hq' : (((u.its.length : Nat) : Int) != ((v.its.length : Nat) : Int)) = true := by simp; omega
    go_enter Tryz.func55, Tryz.ntmps55
    go_wp2_with fail
    refine (HA1.out _).mono ?_
    rintro e w1 ⟨rfl, f1⟩
    have HB1 := hid (And.intro (f1.blk HB.out.1 (fun h => h)) (f1.blk HB.out.2 (fun h => h)))
    have HF1 := hid (HF.out.trans f1 (fun _ h => h.elim))
    clear f1 HB HF HA1
    obtain ⟨c0, c1, c2, c3, c4, c5⟩ := HB1.out.1.six
    obtain ⟨d0, d1, d2, d3, d4, d5⟩ := HB1.out.2.six
    go_wp2_with fail
    refine (HA2.out _).mono ?_
    rintro e w2 ⟨rfl, f2⟩
    have HB2 := hid (And.intro (f2.blk HB1.out.1 (fun h => h)) (f2.blk HB1.out.2 (fun h => h)))
    have HF2 := hid (HF1.out.trans f2 (fun _ h => h.elim))
    clear f2 HB1 HF1 HA2 c0 c1 c2 c3 c4 c5 d0 d1 d2 d3 d4 d5
    obtain ⟨c0, c1, c2, c3, c4, c5⟩ := HB2.out.1.six
    obtain ⟨d0, d1, d2, d3, d4, d5⟩ := HB2.out.2.six
    go_wp2_with fail
    go_ret2
    exact ⟨by rw [HQ2.out]; rfl, HF2.out⟩
end Go.Proofs.YtlepjghfcpgbcaaGreatDoor.Tr
