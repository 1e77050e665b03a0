/- UnitsDiffs, walked. -/
import Derived.Test.YtcpeebkfnnkjnaaDoorUdr
import Derived.Test.YtcpeebkfnnkjnaaDoorUpw
import Derived.Test.YtcpeebkfnnkjnaaDoorUco
namespace Go.Proofs.YtcpeebkfnnkjnaaDoor.Tr
open Go.RowKit Go.Maps

set_option maxRecDepth 100000 in
set_option maxHeartbeats 16000000 in
theorem unitsDiffs_walk (w : World) (O F : List Ut) (ad bd : Option Addr) (co cf : Nat) (hO : Us w w O ad) (hF : Us w w F bd) (hOl : O.length ≤ lim) (hFl : F.length ≤ lim) (hT : TabAt 1 Lib.deBruijn32tab w) :
    Calls Tryd.prog 4 #[.slice ad O.length co, .slice bd F.length cf] w fun e w' => e = .returned (.bool true) ∧ Fr (fun _ => False) w w' := by
  have HO := hid hO
  have HF := hid hF
  have HSh := hid (shown_any w hT)
  have HLo := hid hOl
  have HLf := hid hFl
  clear hO hF hT hOl hFl
  go_enter Tryd.func4, Tryd.ntmps4
  go_wp2_with fail
  refine HSh.out.mono ?_
  rintro e w1 ⟨rfl, f1⟩
  have HF1 := hid f1
  have HL1 := hid (large_any w w1 O ad co (HO.out.env (Env.of f1)) HLo.out)
  clear f1 HSh
  go_wp2_with fail
  refine HL1.out.mono ?_
  rintro e w2 ⟨rfl, f2⟩
  have HF2 := hid (HF1.out.trans f2 (fun _ h => h.elim))
  have HL2 := hid (large_any w w2 F bd cf (HF.out.env (Env.of HF2.out)) HLf.out)
  clear f2 HL1 HF1
  obtain ⟨b1, hb1⟩ : ∃ b, b = decide (2000 < O.length + tot O) := ⟨_, rfl⟩
  obtain ⟨b2, hb2⟩ : ∃ b, b = decide (2000 < F.length + tot F) := ⟨_, rfl⟩
  rw [← hb1]
  rw [← hb2] at HL2
  have HB := hid (And.intro hb1 hb2)
  clear hb1 hb2
  go_wp2_with fail
  refine HL2.out.mono ?_
  rintro e w3 ⟨rfl, f3⟩
  have HF3 := hid (HF2.out.trans f3 (fun _ h => h.elim))
  clear f3 HL2 HF2
  cases b1 with
  | true =>
    go_wp2_with fail
    go_ret
    exact ⟨rfl, HF3.out⟩
  | false =>
    cases b2 with
    | true =>
      go_wp2_with fail
      go_ret
      exact ⟨rfl, HF3.out⟩
    | false =>
      obtain ⟨hb1, hb2⟩ := HB.out
      have ho2 : O.length + tot O ≤ 2000 := by have := of_decide_eq_false hb1.symm; omega
      have hf2 : F.length + tot F ≤ 2000 := by have := of_decide_eq_false hb2.symm; omega
      have HSo : Hid (∀ u ∈ O, u.r.length ≤ 2000 ∧ u.a.length ≤ 2000) := fun u hu => by have := tot_mem O u hu; omega
      have HSf : Hid (∀ u ∈ F, u.r.length ≤ 2000 ∧ u.a.length ≤ 2000) := fun u hu => by have := tot_mem F u hu; omega
      have hOl : O.length ≤ 2000 := by omega
      have hFl : F.length ≤ 2000 := by omega
      have HRq : Hid (rqs O O.length ≤ 2000) := by have := rqs_all O; unfold Hid; omega
      clear hb1 hb2 HB HLo HLf ho2 hf2
      have HC1 := hid (copied_any w w3 (Env.of HF3.out) O ad co (HO.out.env (Env.of HF3.out)) hOl HSo.out)
      clear HSo
      go_wp2_with fail
      refine HC1.out.mono ?_
      rintro e w4 ⟨f4, v4, X4, rfl, hOt4⟩
      obtain ⟨va4, vc4, hv4⟩ := own_len hOt4.own
      subst hv4
      rw [hOt4.row.1]
      have HF4 := hid (HF3.out.trans f4 (fun _ h => h.elim))
      have HU4 := hid (us_own (w0 := w4) hOt4.own hOt4.row)
      have HC2 := hid (copied_any w w4 (Env.of HF4.out) F bd cf (HF.out.env (Env.of HF4.out)) hFl HSf.out)
      clear f4 hOt4 HC1 HF3 HSf
      go_wp2_with fail
      refine HC2.out.mono ?_
      rintro e w5 ⟨f5, v5, X5, rfl, hOt5⟩
      obtain ⟨va5, vc5, hv5⟩ := own_len hOt5.own
      subst hv5
      rw [hOt5.row.1]
      have HF5 := hid (HF4.out.trans f5 (fun _ h => h.elim))
      have HP5 := hid (us_own (w0 := w5) hOt5.own hOt5.row)
      have HU5 := hid ((HU4.out.env (Env.of f5)).up (Env.of f5))
      have HDf := hid (diff_any w5 w5 (Env.refl _) O F va4 va5 vc4 vc5 HU5.out HP5.out hOl hFl HRq.out)
      clear f5 hOt5 HC2 HF4 HU4
      go_wp2_with fail
      refine HDf.out.mono ?_
      rintro e w6 ⟨f6, G, hG, a1, c1, a2, c2, a3, c3, rfl, hs1, hs2, hs3⟩
      have HF6 := hid (HF5.out.trans f6 (fun _ h => h.elim))
      have HE6 := hid (Env.of f6)
      have HRd := hid (rdiff_any w w6 (Env.of HF6.out) O F ad bd co cf (HO.out.env (Env.of HF6.out)) (HF.out.env (Env.of HF6.out)) hOl hFl)
      have HSs := hid (And.intro hs1 (And.intro hs2 hs3))
      have HG := hid hG
      have hK1 := stp_len O G (bhd O)
      have hK2 := kp_len F G F.length
      have hK3 := sa_len F G F.length
      have hbl : (bhd O).length = O.length := by simp [bhd]
      clear f6 hs1 hs2 hs3 hG HDf HF5
      generalize hst : stp O G (bhd O) = S at *
      generalize hkp : kp F G F.length = K at *
      generalize hsa : sa F G F.length = T at *
      have HEq : Hid (∀ G', (∀ x, x ∈ G' ↔ Gone O F x) → stp O G' (bhd O) = S ∧ kp F G' F.length = K ∧ sa F G' F.length = T) := fun G' h =>
        ⟨(stp_same (fun x => (h x).trans (HG.out x).symm) _).trans hst, (kp_same (fun x => (h x).trans (HG.out x).symm) _).trans hkp, (sa_same (fun x => (h x).trans (HG.out x).symm) _).trans hsa⟩
      clear hst hkp hsa HG
      go_wp2_with fail
      refine HRd.out.mono ?_
      rintro e w7 ⟨f7, G', hG', d1, e1, d2, e2, d3, e3, rfl, hs1, hs2, hs3⟩
      obtain ⟨q1, q2, q3⟩ := HEq.out G' hG'
      rw [q1] at hs1 ⊢
      rw [q2] at hs2 ⊢
      rw [q3] at hs3 ⊢
      have HTs := hid (And.intro hs1 (And.intro hs2 hs3))
      have HF7 := hid (HF6.out.trans f7 (fun _ h => h.elim))
      have HE7 := hid (HE6.out.trans (Env.of f7))
      have HY7 := hid (Env.of f7)
      have HA1 := hid (sameAll_any w7 w7 (Env.refl _) O O va4 ad vc4 co ((HU5.out.env HE7.out).up HE7.out) ((HO.out.env (Env.of HF7.out)).up (Env.of HF7.out)) (by unfold lim; omega))
      rw [decide_eq_true (rfl : O = O)] at HA1
      clear f7 hG' hs1 hs2 hs3 q1 q2 q3 HEq HRd HF6 HE6
      go_wp2_with fail
      refine HA1.out.mono ?_
      rintro e w8 ⟨rfl, f8⟩
      have HF8 := hid (HF7.out.trans f8 (fun _ h => h.elim))
      have HE8 := hid (HE7.out.trans (Env.of f8))
      have HY8 := hid (HY7.out.trans (Env.of f8))
      have HZ8 := hid (Env.of f8)
      have HA2 := hid (sameAll_any w8 w8 (Env.refl _) F F va5 bd vc5 cf ((HP5.out.env HE8.out).up HE8.out) ((HF.out.env (Env.of HF8.out)).up (Env.of HF8.out)) (by unfold lim; omega))
      rw [decide_eq_true (rfl : F = F)] at HA2
      clear f8 HA1 HF7 HE7 HY7
      go_wp2_with fail
      refine HA2.out.mono ?_
      rintro e w9 ⟨rfl, f9⟩
      have HF9 := hid (HF8.out.trans f9 (fun _ h => h.elim))
      have HY9 := hid (HY8.out.trans (Env.of f9))
      have HZ9 := hid (HZ8.out.trans (Env.of f9))
      have HN1 := hid (fun (W : World) (f : Fr (fun _ => False) w9 W) => names_any W a1 d1 S S c1 e1 ((HSs.out.1.env HY9.out).env (Env.of f)) ((HTs.out.1.env HZ9.out).env (Env.of f)) (by unfold lim; omega))
      have HN2 := hid (fun (W : World) (f : Fr (fun _ => False) w9 W) => names_any W a2 d2 K K c2 e2 ((HSs.out.2.1.env HY9.out).env (Env.of f)) ((HTs.out.2.1.env HZ9.out).env (Env.of f)) (by unfold lim; omega))
      have HN3 := hid (fun (W : World) (f : Fr (fun _ => False) w9 W) => names_any W a3 d3 T T c3 e3 ((HSs.out.2.2.env HY9.out).env (Env.of f)) ((HTs.out.2.2.env HZ9.out).env (Env.of f)) (by unfold lim; omega))
      rw [decide_eq_true (rfl : S = S)] at HN1
      rw [decide_eq_true (rfl : K = K)] at HN2
      rw [decide_eq_true (rfl : T = T)] at HN3
      have HM1 := hid (HN1.out w9 (Fr.refl _ _))
      clear f9 HA2 HF8 HY8 HZ8 HSs HTs HN1
      go_wp2_with fail
      refine HM1.out.mono ?_
      rintro e w10 ⟨rfl, f10⟩
      have HF10 := hid (HF9.out.trans f10 (fun _ h => h.elim))
      have HM2 := hid (HN2.out w10 f10)
      have HX10 := hid f10
      clear f10 HM1 HN2 HF9
      go_wp2_with fail
      refine HM2.out.mono ?_
      rintro e w11 ⟨rfl, f11⟩
      have HF11 := hid (HF10.out.trans f11 (fun _ h => h.elim))
      have HM3 := hid (HN3.out w11 (HX10.out.trans f11 (fun _ h => h.elim)))
      clear f11 HM2 HN3 HF10 HX10
      go_wp2_with fail
      refine HM3.out.mono ?_
      rintro e w12 ⟨rfl, f12⟩
      have HF12 := hid (HF11.out.trans f12 (fun _ h => h.elim))
      clear f12 HM3 HF11
      go_wp2_with fail
      go_ret
      exact ⟨rfl, HF12.out⟩
end Go.Proofs.YtcpeebkfnnkjnaaDoor.Tr
