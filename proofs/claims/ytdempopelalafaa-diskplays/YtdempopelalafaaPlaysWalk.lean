/- The walk of DiskPlays. -/
import Derived.Test.YtdempopelalafaaPlays
namespace Go.Proofs.Ytdempopelalafaa.Dk
open Go.RowKit

set_option maxRecDepth 100000 in
set_option maxHeartbeats 2000000 in
theorem plays_walk (w : World) (n : Int) (ad : Option Addr) (len cap : Nat) (hL : ArgOpsT w ad len) :
    Calls Try.prog 3 #[.int .i64 n, .slice ad len cap] w fun e w' => e = .returned (.bool true) ∧ Kp (GW w) w w' := by
  have HL := hid hL
  clear hL
  by_cases hn : n < 1 ∨ 1024 < n
  · have HN1 := hid (fun w => new_no w n hn)
    have HN2 := hid (fun w => rnew_no w n hn)
    clear hn
    go_enter Try.func3, Try.ntmps3
    go_wp2_with fail
    refine (shown_any (GW w) w (fun _ h => h)).mono ?_
    rintro e w1 ⟨rfl, f1⟩
    have F1 := hid f1
    clear f1
    go_wp2_with (first
      | (go_at_call 8; refine (HN1.out w1).mono ?_; rintro e w2 ⟨rfl, rfl⟩)
      | (go_at_call 9; refine (HN2.out w2).mono ?_; rintro e w3 ⟨rfl, rfl⟩))
    go_ret
    exact ⟨rfl, F1.out⟩
  · obtain ⟨n0, rfl⟩ : ∃ m : Nat, n = (m : Int) := Int.eq_ofNat_of_zero_le (by omega)
    have hn1 : 1 ≤ n0 := by omega
    have hn2 : n0 ≤ 1024 := by omega
    clear hn
    go_enter Try.func3, Try.ntmps3
    go_wp2_with fail
    refine (shown_any (GW w) w (fun _ h => h)).mono ?_
    rintro e w1 ⟨rfl, f1⟩
    have F1 := hid f1
    clear f1
    go_wp2_with (first
      | (go_at_call 8
         refine (own_new (GW w) w1 (fun j hj => Nat.lt_of_lt_of_le hj F1.out.size) n0 hn1 hn2).mono ?_
         rintro e w2 ⟨p0, rfl, o2, k2⟩
         have O2 := hid o2
         have F2 := hid (F1.out.trans k2)
         clear o2 k2)
      | (go_at_call 9
         refine (rnew_ok w2 n0 hn1 hn2).mono ?_
         rintro e w3 ⟨rfl, r3, f3⟩
         have D3 := hid (Duo.made O2.out r3 f3)
         have F3 := hid (Kp.trans F2.out (Kp.fr0 f3))
         clear r3 f3))
    go_loopw [6, 8] (fun dv iv wr => ∃ (m p : Nat) (D : Dsk) (R : RDk), m ≤ 300 ∧ iv = .int .i64 (m : Int) ∧ dv = pv p ∧ Duo (GW w) wr p D w2.heap.size R m ∧ Kp (GW w) w wr) (fun _ iv _ => 300 - (intOf iv).toNat)
    case atStart => exact ⟨0, p0, _, _, by omega, rfl, rfl, D3.out, F3.out⟩
    case round =>
      obtain ⟨m, p, D, R, hm, rfl, rfl, hD, hF⟩ := hrel
      have HD := hid hD
      have HF := hid hF
      clear hD hF
      by_cases hg : m < len ∧ m < 300
      · obtain ⟨hg1, hg2⟩ := hg
        obtain ⟨lb, lo, x, rfl, hx, hxs⟩ := HL.out m hg1
        have OA := hx.kept HF.out
        have hm0 : (0 : Int) ≤ (m : Int) := Int.natCast_nonneg _
        have hm1 : (m : Int) < (len : Int) := by omega
        have hm2 : (m : Int) < 300 := by omega
        have q0 := OA.kind
        by_cases h6 : x.kind = 6
        · have hkb : (x.kind == 6) = true := by simp [h6]
          clear OA h6
          obtain ⟨Fo, oo, back⟩ := HD.out.pr.other
          have sQ := HD.out.sQ (by omega)
          have sD := HD.out.sD (by omega)
          have sQ3 : D.Q.length < 1000 := by have := HD.out.sim.qlen; have := HD.out.len.w; omega
          have sD3 : D.deeds < 1000 := by have := HD.out.sim.done; have := HD.out.len.d; omega
          have HC1 := hid (clone_any oo sQ)
          have HBk := hid back
          clear oo back
          go_wp2_with fail
          refine HC1.out.mono ?_
          rintro e w5 ⟨p2, cl, cn, zl, zn, rfl, h5, f5⟩
          have K5 := hid f5
          have H5 := hid h5
          clear f5 h5 HC1
          obtain ⟨Fa, oa, ka⟩ := H5.out.first
          have HC2 := hid (own_arm oa (-1) 0 (by omega) (by omega))
          have KA := hid ka
          clear oa ka H5
          go_wp2_with fail
          refine HC2.out.mono ?_
          rintro e w6 ⟨rfl, o6, k6⟩
          have H6 := hid (KA.out _ _ o6 k6).1
          have K6 := hid (Kp.trans K5.out (KA.out _ _ o6 k6).2)
          have hA := arm_len D (-1) 0
          generalize D.arm (-1) 0 = D6 at *
          have sQ6 : D6.Q.length < 1000 := by rw [hA.1]; exact sQ3
          have sD6 : D6.deeds < 1000 := by rw [hA.2]; exact sD3
          clear o6 k6 KA HC2 K5 hA
          obtain ⟨Fb, ob, kb⟩ := H6.out.first
          have HC3 := hid (own_write_new ob (by omega) (by omega) 0 (fullB 99) 5 128 128 (fullB_length 99))
          have HFu := hid (full_any w6 99 (by omega) (by omega))
          have KB := hid kb
          clear ob kb H6
          go_wp2_with (first
            | (go_at_call 13; refine HFu.out.mono ?_; rintro e w7 ⟨rfl, rfl⟩)
            | (go_at_call 12; refine HC3.out.mono ?_; rintro e w7 ⟨rfl, o7, k7⟩
               have H7 := hid (KB.out _ _ o7 k7).1
               have K7 := hid (Kp.trans K6.out (KB.out _ _ o7 k7).2)
               have hW := write_len D6 0 (fullB 99)
               generalize D6.write 0 (fullB 99) = D7 at *
               have sQ7 : D7.Q.length < 1073741824 := by omega
               have sD7 : D7.deeds < 1073741824 := by omega
               clear o7 k7 KB HC3 K6 hW
               obtain ⟨Fc, oc, kc⟩ := H7.out.first
               have HC4 := hid (own_flush oc sQ7 sD7)
               have KC := hid kc
               clear oc kc H7)
            | (go_at_call 14; refine HC4.out.mono ?_; rintro e w8 ⟨rfl, o8, k8⟩
               have H8 := hid (KC.out _ _ o8 k8).1
               have K8 := hid (Kp.trans K7.out (KC.out _ _ o8 k8).2)
               have hW := flush_len D7
               generalize D7.flush = D8 at *
               have sQ8 : D8.Q.length < 1073741824 := by omega
               clear o8 k8 KC HC4 K7 hW
               obtain ⟨Fd, od, kd⟩ := H8.out.first
               have HC5 := hid (own_crash od sQ8 1 (by omega))
               have KD := hid kd
               clear od kd H8)
            | (go_at_call 15; refine HC5.out.mono ?_; rintro e w9 ⟨rfl, o9, k9⟩
               have H9 := hid (KD.out _ _ o9 k9).1
               have K9 := hid (Kp.trans K8.out (KD.out _ _ o9 k9).2)
               clear o9 k9 KD HC5 K8
               obtain ⟨pr9, kp9⟩ := HBk.out _ _ _ H9.out.swap.one K9.out
               have D9 : Hid (Duo (GW w) w9 p2 _ w2.heap.size R m) := ⟨pr9, HD.out.sim.clone cl cn zl zn, HD.out.len⟩
               have F9 := hid (Kp.trans HF.out kp9)
               clear pr9 kp9 H9 K9 HBk
               have OA2 := hx.kept F9.out
               obtain ⟨q1, q2, q3, q4, q5, q6⟩ := OA2.cells
               have HSt := hid (step_any D9.out (by omega) OA2 hxs)
               unfold OpR.val at HSt
               have HX := hid hx
               clear OA2 hx))
          refine HSt.out.mono ?_
          rintro e w20 ⟨D20, R20, rfl, d20, k20⟩
          have D20h := hid d20
          have K20 := hid (Kp.trans F9.out k20)
          clear d20 k20 HSt
          go_wp2
          exact ⟨⟨m + 1, p2, D20, R20, by omega, by go_num, rfl, D20h.out, K20.out⟩, by simp [intOf]; omega⟩
        · have hkb : (x.kind == 6) = false := beq_eq_false_iff_ne.2 h6
          clear OA h6
          have OA2 := hx.kept HF.out
          obtain ⟨q1, q2, q3, q4, q5, q6⟩ := OA2.cells
          have HSt := hid (step_any HD.out (by omega) OA2 hxs)
          unfold OpR.val at HSt
          have HX := hid hx
          clear OA2 hx
          go_wp2_with fail
          refine HSt.out.mono ?_
          rintro e w20 ⟨D20, R20, rfl, d20, k20⟩
          have D20h := hid d20
          have K20 := hid (Kp.trans HF.out k20)
          clear d20 k20 HSt
          go_wp2
          exact ⟨⟨m + 1, p, D20, R20, by omega, by go_num, rfl, D20h.out, K20.out⟩, by simp [intOf]; omega⟩
      · rcases (show ¬ (m : Int) < (len : Int) ∨ ((m : Int) < (len : Int) ∧ ¬ (m : Int) < 300) by omega) with hg1 | ⟨hg1, hg2⟩
        all_goals
          obtain ⟨Fo, oo, back⟩ := HD.out.pr.disk
          have HC1 := hid (own_start oo)
          have HBk := hid back
          have HS := hid HD.out.sim.start
          have HLn := hid HD.out.len.start
          generalize (if D.up = true then (42 : Int) else 0) = ev1 at HC1
          generalize D.start = D5 at *
          clear oo back hg
          go_wp2_with (first
            | (go_at_call 17; refine HC1.out.mono ?_; rintro e w5 ⟨rfl, o5, k5⟩
               obtain ⟨pr5, kp5⟩ := HBk.out _ _ o5 k5
               have K5 := hid (Kp.trans HF.out kp5)
               obtain ⟨wv, r5, _, back5⟩ := pr5.ref
               have HC2 := hid (rstart_any r5)
               have HB5 := hid back5
               generalize (if R.off = true then (0 : Int) else 42) = ev2 at HC2
               clear o5 k5 pr5 kp5 r5 back5 HC1 HBk)
            | (go_at_call 18; refine HC2.out.mono ?_; rintro e w6 ⟨rfl, r6, f6⟩
               obtain ⟨pr6, kp6⟩ := HB5.out _ _ (RDid.of r6 f6)
               have K6 := hid (Kp.trans K5.out kp6)
               have D6 : Hid (Duo (GW w) w6 p D5 w2.heap.size _ m) := ⟨pr6, HS.out, HLn.out⟩
               clear r6 f6 pr6 kp6 HC2 HB5))
          generalize ({ R with off := false } : RDk) = R5 at *
          obtain ⟨wz, hwz⟩ : ∃ wz, wz = wr := ⟨_, rfl⟩
          subst hwz
          go_loopw [11] (fun iv wl => ∃ i : Nat, i ≤ n0 ∧ iv = .int .i64 (i : Int) ∧ Duo (GW w) wl p D5 w2.heap.size R5 m ∧ Kp (GW w) w wl) (fun iv _ => n0 - (intOf iv).toNat)
          case atStart => exact ⟨0, Nat.zero_le _, rfl, D6.out, K6.out⟩
          case round =>
            obtain ⟨i, hi, rfl, hD, hF⟩ := hrel
            have D7 := hid hD
            have K7 := hid hF
            clear hD hF
            by_cases hlt : i < n0
            · have hi1 : (i : Int) < (n0 : Int) := by omega
              have hrE := D7.out.sim.reach (i : Int)
              by_cases hr : D5.reach (i : Int) = 0
              · have hup : D5.up = true ∧ i < D5.n := by
                  unfold Dsk.reach at hr
                  split at hr
                  · cases hr
                  · rename_i hu
                    split at hr
                    · cases hr
                    · exact ⟨by simpa using hu, by omega⟩
                have hsec := D7.out.sim.read (i : Int) hr
                have hln := sec_length D5.N D5.n i D7.out.pr.ok.lN hup.2
                simp only [Int.toNat_natCast] at hsec
                obtain ⟨F, o, back⟩ := D7.out.pr.disk
                have HC := hid (own_read o i hup.1 hup.2)
                have D8 := hid (D7.out.fr0 ((Fr.refl _ wr).alloc (.cells (bs (sec D5.N i)).toArray 59)))
                have hr' : R5.reach (i : Int) = 0 := by rw [← hrE]; exact hr
                obtain ⟨wv, r1, _, _⟩ := D8.out.pr.ref
                have HC2 := hid (rread_any r1 (i : Int) (D8.out.sW (by omega)))
                rw [hr', ← hsec] at HC2
                generalize sec D5.N i = l at *
                have HB : Hid (Blk (wr.alloc (.cells (bs l).toArray 59)) wr.heap.size 59 (bs l)) := Blk.new wr 59 (bs l)
                have HLn := hid hln
                clear hr hup hsec hln hrE o back r1 hr' 
                go_wp2_with fail
                refine HC.out.mono ?_
                rintro e w8 ⟨rfl, rfl⟩
                go_wp2_with fail
                refine HC2.out.mono ?_
                rintro e w9 ⟨ad9, cap9, rfl, f9, g9⟩
                obtain ⟨g, rfl, hg1, hg2⟩ := g9 (by intro e; have := HLn.out; rw [e] at this; cases this)
                have D9 := hid (D8.out.fr0 f9)
                have HB9 : Hid (Blk w9 wr.heap.size 59 (bs l)) := Fr.blk f9 HB.out (fun h => h)
                have K9 : Hid (Kp (GW w) w w9) := Kp.trans K7.out (Kp.fr0 (((Fr.refl _ wr).alloc _).trans f9 (fun _ h => h.elim)))
                have cv1 := conv_any (w := w9) (b := wr.heap.size) (o := 0) l (HB9.out.range 0 (bs l) (by simp)) 128 128 HLn.out
                have cv2 := conv_any (w := w9) (b := g) (o := 0) l hg2 cap9 l.length rfl
                clear f9 hg1 hg2 g9 D8 HC HC2 HB
                go_wp2
                exact ⟨⟨i + 1, by omega, by go_num, D9.out, K9.out⟩, by simp [intOf]; omega⟩
              · obtain ⟨F, o, back⟩ := D7.out.pr.disk
                have HC := hid (own_read_no o (i : Int) hr)
                obtain ⟨wv, r1, _, _⟩ := D7.out.pr.ref
                have HC2 := hid (rread_any r1 (i : Int) (D7.out.sW (by omega)))
                have hr' : ¬ R5.reach (i : Int) = 0 := by rw [← hrE]; exact hr
                have hrd : R5.read (i : Int) = [] := by unfold RDk.read; rw [if_neg hr']
                rw [hrd, ← hrE] at HC2
                generalize D5.reach (i : Int) = ev at *
                clear hr hrE o back r1 hr' hrd
                go_wp2_with fail
                refine HC.out.mono ?_
                rintro e w8 ⟨rfl, rfl⟩
                go_wp2_with fail
                refine HC2.out.mono ?_
                rintro e w9 ⟨ad9, cap9, rfl, f9, _⟩
                have D9 := hid (D7.out.fr0 f9)
                have K9 : Hid (Kp (GW w) w w9) := Kp.trans K7.out (Kp.fr0 f9)
                have cv1 := conv_nil w9 none 0
                have cv2 := conv_nil w9 ad9 cap9
                clear f9 HC HC2
                go_wp2
                exact ⟨⟨i + 1, by omega, by go_num, D9.out, K9.out⟩, by simp [intOf]; omega⟩
            · have hi1 : ¬ (i : Int) < (n0 : Int) := by omega
              have HA := hid (D7.out.asks (by omega))
              have c3 := HA.out.c3
              go_wp2_with fail
              go_quiet (first
                | (go_at_call 21; exact Calls.quiet_of (HA.out.dirty _))
                | (go_at_call 22; exact Calls.quiet_of (HA.out.rdirty _))
                | (go_at_call 23; exact Calls.quiet_of (HA.out.deeds _)))
              go_wp2
              go_ret
              exact ⟨rfl, Fr.drewN K7.out nq⟩

end Go.Proofs.Ytdempopelalafaa.Dk
