/- UnitsParted, walked. -/
import Derived.Test.YtcpeebkfnnkjnaaDoorUpt
import Derived.Test.YtcpeebkfnnkjnaaDoorUww
namespace Go.Proofs.YtcpeebkfnnkjnaaDoor.Tr
open Go.RowKit Go.Maps

theorem take_mem_next {K : List Nm} {q : Nat} {y : Nm} (h : q < K.length) : decide (y ∈ K.take (q + 1)) = (decide (y ∈ K.take q) || (K[q] == y)) := by
  rw [List.take_succ_eq_append_getElem h, Bool.eq_iff_iff]
  simp only [decide_eq_true_eq, List.mem_append, List.mem_singleton, Bool.or_eq_true, beq_iff_eq]
  constructor
  · rintro (h | h)
    · exact .inl h
    · exact .inr h.symm
  · rintro (h | h)
    · exact .inl h
    · exact .inr h.symm

set_option maxRecDepth 100000 in
set_option maxHeartbeats 16000000 in
theorem unitsParted_walk (w : World) (O F : List Ut) (ad bd : Option Addr) (co cf : Nat) (hO : Us w w O ad) (hF : Us w w F bd) (hOl : O.length ≤ lim) (hFl : F.length ≤ lim) (hT : TabAt 1 Lib.deBruijn32tab w) :
    Calls Tryd.prog 6 #[.slice ad O.length co, .slice bd F.length cf] w fun e w' => e = .returned (.bool true) ∧ Fr (fun _ => False) w w' := by
  have HO := hid hO
  have HF := hid hF
  have HT := hid hT
  have HSh := hid (shown_any w hT)
  have HLo := hid hOl
  have HLf := hid hFl
  clear hO hF hT hOl hFl
  go_enter Tryd.func6, Tryd.ntmps6
  go_wp2_with fail
  refine HSh.out.mono ?_
  rintro e w1 ⟨rfl, f1⟩
  have HF1 := hid f1
  have HL1 := hid (large_any w w1 O ad co (HO.out.env (Env.of f1)) HLo.out)
  clear f1 HSh
  go_wp2_with fail
  refine HL1.out.mono ?_
  rintro e w2 ⟨rfl, f2⟩
  have HF2 := hid (HF1.out.trans f2 (fun _ h => h.elim))
  have HL2 := hid (large_any w w2 F bd cf (HF.out.env (Env.of HF2.out)) HLf.out)
  clear f2 HL1 HF1
  obtain ⟨b1, hb1⟩ : ∃ b, b = decide (2000 < O.length + tot O) := ⟨_, rfl⟩
  obtain ⟨b2, hb2⟩ : ∃ b, b = decide (2000 < F.length + tot F) := ⟨_, rfl⟩
  rw [← hb1]
  rw [← hb2] at HL2
  have HB := hid (And.intro hb1 hb2)
  clear hb1 hb2
  go_wp2_with fail
  refine HL2.out.mono ?_
  rintro e w3 ⟨rfl, f3⟩
  have HF3 := hid (HF2.out.trans f3 (fun _ h => h.elim))
  clear f3 HL2 HF2
  cases b1 with
  | true =>
    go_wp2_with fail
    go_ret
    exact ⟨rfl, HF3.out⟩
  | false =>
    cases b2 with
    | true =>
      go_wp2_with fail
      go_ret
      exact ⟨rfl, HF3.out⟩
    | false =>
      obtain ⟨hb1, hb2⟩ := HB.out
      have ho2 : O.length + tot O ≤ 2000 := by have := of_decide_eq_false hb1.symm; omega
      have hf2 : F.length + tot F ≤ 2000 := by have := of_decide_eq_false hb2.symm; omega
      have HSo : Hid (∀ u ∈ O, u.r.length ≤ 1000000 ∧ u.a.length ≤ 1000000) := fun u hu => by have := tot_mem O u hu; omega
      have HSf : Hid (∀ u ∈ F, u.r.length ≤ 1000000 ∧ u.a.length ≤ 1000000) := fun u hu => by have := tot_mem F u hu; omega
      have hOl : O.length ≤ 2000 := by omega
      have hFl : F.length ≤ 2000 := by omega
      have HRq : Hid (rqs O O.length ≤ 2000) := by have := rqs_all O; unfold Hid; omega
      clear hb1 hb2 HB HLo HLf ho2 hf2
      obtain ⟨x1, n, e1, ho1⟩ : ∃ x n e, ordF O = (x, n, e) := ⟨_, _, _, rfl⟩
      obtain ⟨x2, m, e2, ho2⟩ : ∃ x n e, ordF F = (x, n, e) := ⟨_, _, _, rfl⟩
      have HO1 := hid ho1
      have HO2 := hid ho2
      have HC1 := hid (order_any w w3 (Env.of HF3.out) O ad co (HO.out.env (Env.of HF3.out)) (by omega) HSo.out (tab_fr HT.out HF3.out))
      rw [ho1] at HC1
      clear ho1 ho2 HSo
      go_wp2_with fail
      refine HC1.out.mono ?_
      rintro e w4 ⟨f4, v4, X4, rfl, hOt4⟩
      obtain ⟨va4, vc4, hv4⟩ := own_len hOt4.own
      subst hv4
      have HF4 := hid (HF3.out.trans f4 (fun _ h => h.elim))
      have HC2 := hid (order_any w w4 (Env.of HF4.out) F bd cf (HF.out.env (Env.of HF4.out)) (by omega) HSf.out (tab_fr HT.out HF4.out))
      rw [HO2.out] at HC2
      clear f4 hOt4 HC1 HF3 HSf
      generalize X4.length = l4 at *
      go_wp2_with fail
      refine HC2.out.mono ?_
      rintro e w5 ⟨f5, v5, X5, rfl, hOt5⟩
      obtain ⟨va5, vc5, hv5⟩ := own_len hOt5.own
      subst hv5
      have HF5 := hid (HF4.out.trans f5 (fun _ h => h.elim))
      clear f5 hOt5 HC2 HF4 HT
      generalize X5.length = l5 at *
      have HN1 : Hid (e1 = 0 → n = []) := fun h => by subst h; exact (ord_ok HO1.out).2.2.2.2.1
      have HN2 : Hid (e2 = 0 → m = []) := fun h => by subst h; exact (ord_ok HO2.out).2.2.2.2.1
      by_cases h1 : e1 = 0
      · have hn := HN1.out h1
        subst h1 hn
        have g1 : ((0 : Int) != 0) = false := rfl
        by_cases h2 : e2 = 0
        · have hm := HN2.out h2
          subst h2 hm
          have HDf := hid (diff_any w w5 (Env.of HF5.out) O F ad bd co cf (HO.out.env (Env.of HF5.out)) (HF.out.env (Env.of HF5.out)) hOl hFl HRq.out)
          go_wp2_with fail
          refine HDf.out.mono ?_
          rintro e w6 ⟨f6, G, hG, a1, c1, a2, c2, a3, c3, rfl, hs1, hs2, hs3⟩
          have hOn := (ord_ok HO1.out).2.2.2.2.2
          have hFn := (ord_ok HO2.out).2.2.2.2.2
          have hPt := part_of hOn hFn (ord_reqs HO2.out) hG
          have hPo := hPt.old
          have hPn := hPt.new
          have HBoth := hid hPt.both
          have HF6 := hid (HF5.out.trans f6 (fun _ h => h.elim))
          have HS2 := hid hs2
          have HOn := hid hOn
          have HDs := hid (fun (W : World) (f : Fr (fun _ => False) w W) => diff_any w W (Env.of f) O O ad ad co co (HO.out.env (Env.of f)) (HO.out.env (Env.of f)) hOl hOl HRq.out)
          clear hOn hFn hPt f6 hs1 hs2 hs3 hG HN1 HN2 HDf HF5 HO1 HO2
          generalize stp O G (bhd O) = S at *
          generalize kp F G F.length = K at *
          generalize sa F G F.length = T at *
          have q1 : (((S.length : Nat) : Int) + ((K.length : Nat) : Int) != ((O.length : Nat) : Int)) = false := by simp; omega
          have q2 : (((K.length : Nat) : Int) + ((T.length : Nat) : Int) != ((F.length : Nat) : Int)) = false := by simp; omega
          have hKl : K.length ≤ 2000 := by omega
          have hSl : S.length ≤ 2000 := by omega
          have hTl : T.length ≤ 2000 := by omega
          clear hPo hPn
          go_wp2_with fail
          clear q1 q2 hSl hTl g1
          go_loopw [17] (fun iv wr => ∃ i : Nat, i ≤ K.length ∧ iv = .int .i64 (i : Int) ∧ Fr (fun _ => False) w6 wr) (fun iv _ => K.length - (intOf iv).toNat)
          case atStart => exact ⟨0, Nat.zero_le _, rfl, Fr.refl _ _⟩
          case round =>
            obtain ⟨i, hi, rfl, hFr⟩ := hrel
            have HFr := hid hFr
            have HFw := hid (HF6.out.trans hFr (fun _ h => h.elim))
            have HSk := hid (HS2.out.env (Env.of hFr))
            clear hFr
            by_cases hlt : i < K.length
            · have hi1 : (i : Int) < ((K.length : Nat) : Int) := by omega
              have hi0 : (0 : Int) ≤ (i : Int) := Int.natCast_nonneg _
              obtain ⟨nb, no, rfl, kn⟩ := HSk.out.at i hlt
              obtain ⟨a, b, ha, hb, hab, hreq⟩ := HBoth.out K[i] (List.getElem_mem hlt)
              have HReq := hid hreq
              obtain ⟨hal, -⟩ := fi_at ha
              obtain ⟨hbl, -⟩ := fi_at hb
              have HC1 := hid (find_any w wr O ad co K[i] (HO.out.env (Env.of HFw.out)) (by unfold lim; omega))
              have HC2 := hid (find_any w wr F bd cf K[i] (HF.out.env (Env.of HFw.out)) (by unfold lim; omega))
              rw [fiI_some ha] at HC1
              rw [fiI_some hb] at HC2
              have hE : O[a] = F[b] := by rw [atU_lt hal, atU_lt hbl] at hab; exact hab
              rw [atU_lt hbl] at HReq
              have ha1 : (a : Int) < ((O.length : Nat) : Int) := by omega
              have hb1 : (b : Int) < ((F.length : Nat) : Int) := by omega
              have ha0 : (0 : Int) ≤ (a : Int) := Int.natCast_nonneg _
              have hb0 : (0 : Int) ≤ (b : Int) := Int.natCast_nonneg _
              have ha2 : decide ((a : Int) < 0) = false := decide_eq_false (by omega)
              have hb2 : decide ((b : Int) < 0) = false := decide_eq_false (by omega)
              obtain ⟨ob, oo, rfl⟩ := HO.out.some hal
              obtain ⟨fb, fo, rfl⟩ := HF.out.some hbl
              obtain ⟨y, y1, y2⟩ := HO.out.get a hal
              obtain ⟨z, z1, z2⟩ := HF.out.get b hbl
              have HK : Hid (∀ W', Fr (fun _ => False) wr W' → fourB W' ob (oo + a * 4) y ∧ fourB W' fb (fo + b * 4) z) := fun W' hf => ⟨(y1.env (Env.of (HFw.out.trans hf (fun _ h => h.elim)))).all, (z1.env (Env.of (HFw.out.trans hf (fun _ h => h.elim)))).all⟩
              have HSm := hid (same_any wr.drew O[a] F[b] y z (y2.env (Env.of HFw.out.drew)) (z2.env (Env.of HFw.out.drew)))
              rw [decide_eq_true hE] at HSm
              have HSr := hid z2.r
              have HRl := hid z2.rl
              have hrl : F[b].r.length ≤ 140737488351232 := z2.ok.r
              clear ha hb hab hE hreq y1 y2 z1 z2
              generalize K[i] = nm at *
              go_wp2_with fail
              refine HC1.out.mono ?_
              rintro e wa ⟨rfl, hwa⟩
              subst hwa
              go_wp2_with fail
              refine HC2.out.mono ?_
              rintro e wb ⟨rfl, hwb⟩
              subst hwb
              clear HC1 HC2
              go_wp2_with fail
              go_region_held3 (fun W' => fourB W' ob (oo + a * 4) y ∧ fourB W' fb (fo + b * 4) z)
                (first | exact HK.out _ (Fr.refl _ _).drew | exact HK.out _ F1.out)
                ((go_at_call 18; refine HSm.out.mono ?_; rintro e w8 ⟨rfl, f8⟩; have F1 : Hid (Fr (fun _ => False) wr w8) := (Fr.refl _ wr).drew.trans f8 (fun _ h => h.elim)))
              have HF8 := hid (HFr.out.trans F1.out (fun _ h => h.elim))
              have HSk8 := hid (HSk.out.env (Env.of F1.out))
              have HSr8 := hid (HSr.out.env (Env.of (HFw.out.trans F1.out (fun _ h => h.elim))))
              have HZ8 : Hid (∀ W', Fr (fun _ => False) w8 W' → W'.cell? ⟨fb, fo + b * 4 + 2, none⟩ = some (.slice z.ra z.rl z.rc)) := fun W' hf => (HK.out W' (F1.out.trans hf (fun _ h => h.elim))).2.2.2.1
              rename_i hHd
              clear hHd f8 F1 HK HSm HSk HSr HFr kn
              have hzl := HRl.out
              clear HRl
              generalize F[b].r = rs at *
              obtain ⟨zn, zs, zra, zrl, zrc, zaa, zal, zac⟩ := z
              simp only at hzl HZ8 HSr8
              subst hzl
              go_wp2_with fail
              go_loopw [20] (fun kv wr => ∃ k : Nat, k ≤ rs.length ∧ kv = .int .i64 (k : Int) ∧ Fr (fun _ => False) w8 wr) (fun kv _ => rs.length - (intOf kv).toNat)
              case atStart => exact ⟨0, Nat.zero_le _, rfl, Fr.refl _ _⟩
              case round =>
                obtain ⟨k, hk, rfl, hFk⟩ := hrel
                have HFk := hid hFk
                have kz := HZ8.out _ hFk
                clear hFk
                by_cases hkl : k < rs.length
                · have hkl' : (k : Int) < ((rs.length : Nat) : Int) := by omega
                  have hk0 : (0 : Int) ≤ (k : Int) := Int.natCast_nonneg _
                  have hmem := HReq.out rs[k] (List.getElem_mem hkl)
                  have HMem : Hid (decide (rs[k] ∈ K) = true) := decide_eq_true hmem
                  have HStr := hid (HSr8.out.env (Env.of HFk.out))
                  obtain ⟨rb, ro, rfl, kr⟩ := HStr.out.at k hkl
                  clear hmem HStr
                  generalize rs[k] = yk at *
                  go_wp2_with fail
                  go_loopw [21, 22] (fun bv qv wr => ∃ q : Nat, q ≤ K.length ∧ qv = .int .i64 (q : Int) ∧ bv = .bool (decide (yk ∈ K.take q)) ∧ Fr (fun _ => False) w8 wr ∧ wr.cell? ⟨rb, ro + k, none⟩ = some (.string ⟨yk.toArray⟩)) (fun _ qv _ => K.length - (intOf qv).toNat)
                  case atStart => exact ⟨0, Nat.zero_le _, rfl, by simp, HFk.out, kr⟩
                  case round =>
                    obtain ⟨q, hq, rfl, rfl, hFq, kr⟩ := hrel
                    have HFq := hid hFq
                    have kz := HZ8.out _ hFq
                    by_cases hql : q < K.length
                    · have hql' : (q : Int) < ((K.length : Nat) : Int) := by omega
                      have hq0 : (0 : Int) ≤ (q : Int) := Int.natCast_nonneg _
                      obtain ⟨nb', no', hnb, kq⟩ := (HSk8.out.env (Env.of hFq)).at q hql
                      simp only [Option.some.injEq, Addr.mk.injEq, and_true] at hnb
                      obtain ⟨rfl, rfl⟩ := hnb
                      have HNx := hid (take_mem_next (y := yk) hql)
                      clear hFq
                      generalize K[q] = kx at *
                      generalize decide (yk ∈ K.take q) = bq at *
                      have HKr := hid (fun n => (show (World.drewN wr n).cell? ⟨rb, ro + k, none⟩ = some (.string ⟨yk.toArray⟩) from kr))
                      cases bq with
                      | true =>
                        rw [Bool.true_or] at HNx
                        go_wp2_with fail
                        go_quiet (fail)
                        go_wp2_with fail
                        exact ⟨⟨q + 1, by omega, by go_num, by rw [HNx.out], HFq.out.drewN nq, HKr.out nq⟩, by simp [intOf]; omega⟩
                      | false =>
                        rw [Bool.false_or] at HNx
                        go_wp2_with fail
                        go_quiet (fail)
                        go_wp2_with fail
                        exact ⟨⟨q + 1, by omega, by go_num, by rw [HNx.out], HFq.out.drewN nq, HKr.out nq⟩, by simp [intOf]; omega⟩
                    · have hql' : ¬ ((q : Int) < ((K.length : Nat) : Int)) := by omega
                      have HB2 : Hid (decide (yk ∈ K.take q) = true) := by unfold Hid; rw [List.take_of_length_le (by omega)]; exact HMem.out
                      generalize decide (yk ∈ K.take q) = bq at *
                      have hbq := HB2.out
                      clear HB2 HMem hFq
                      subst hbq
                      go_wp2_with fail
                      exact ⟨⟨k + 1, by omega, by go_num, HFq.out⟩, by simp [intOf]; omega⟩
                · have hkl' : ¬ ((k : Int) < ((rs.length : Nat) : Int)) := by omega
                  have HF9 := hid (HF8.out.trans HFk.out (fun _ h => h.elim))
                  go_wp2_with fail
                  exact ⟨⟨i + 1, by omega, by go_num, HF9.out⟩, by simp [intOf]; omega⟩
            · have hi1 : ¬ ((i : Int) < ((K.length : Nat) : Int)) := by omega
              have HDw := hid (HDs.out wr HFw.out)
              clear HDs HBoth HSk HFr HS2
              go_wp2_with fail
              refine HDw.out.mono ?_
              rintro e w9 ⟨f9, G9, hG9, a4, c4, a5, c5, a6, c6, rfl, -, -, -⟩
              obtain ⟨s1, s2, s3⟩ := part_self HOn.out hG9
              have HF9 := hid (HFw.out.trans f9 (fun _ h => h.elim))
              clear f9 hG9 HDw
              rw [s1, s2]
              generalize hkk : kp O G9 O.length = K9 at *
              have r1 : (((K9.length : Nat) : Int) == ((O.length : Nat) : Int)) = true := by rw [s3]; simp
              clear s1 s2 s3 hkk
              simp only [List.length_nil]
              go_wp2_with fail
              go_ret
              exact ⟨rfl, HF9.out⟩
        · have g2 : (e2 != 0) = true := by simpa using h2
          clear h2
          go_wp2_with fail
          go_ret
          exact ⟨rfl, HF5.out⟩
      · have g1 : (e1 != 0) = true := by simpa using h1
        clear h1
        by_cases h2 : e2 = 0
        · have hm := HN2.out h2
          subst h2 hm
          have g2 : ((0 : Int) != 0) = false := rfl
          go_wp2_with fail
          go_ret
          exact ⟨rfl, HF5.out⟩
        · have g2 : (e2 != 0) = true := by simpa using h2
          clear h2
          go_wp2_with fail
          go_ret
          exact ⟨rfl, HF5.out⟩
end Go.Proofs.YtcpeebkfnnkjnaaDoor.Tr
