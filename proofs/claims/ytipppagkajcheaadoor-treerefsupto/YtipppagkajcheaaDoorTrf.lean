/- The walk of the law TreeRefs. -/
import Derived.Test.YtipppagkajcheaaDoorTrp
import Derived.Test.YtipppagkajcheaaDoorTfd
namespace Go.Proofs.YtipppagkajcheaaDoor.Tr
open Go.RowKit

set_option maxRecDepth 100000 in
set_option maxHeartbeats 4000000 in
theorem trf_walk (w : World) (a0 a1 : Option Addr) (A B : List UInt8) (ca cb n : Nat) (E : List UInt8) (hA : Src w a0 A) (hB : Src w a1 B) (hlen : A.length + B.length ≤ 1048576) (hn : n < 18446744073709551616) (hT : Tab w) :
    Calls Tryd.prog 5 #[.slice a0 A.length ca, .slice a1 B.length cb, .int .u64 (n : Int), .string ⟨E.toArray⟩] w fun e w' => e = .returned (.bool true) ∧ Fr (fun _ => False) w w' := by
  have HA := hid hA
  have HB := hid hB
  have HSh := hid (shown_any w hT)
  clear hA hB hT
  go_enter Tryd.func5, Tryd.ntmps5
  go_wp2_with (go_at_call 6; refine HSh.out.mono ?_; rintro e w1 ⟨rfl, f1⟩; have F1 := hid f1; clear f1)
  clear HSh
  go_loopw [2, 10, 11] (fun v t i wr => ∃ k : Nat, k ≤ 16 ∧ i = .int .i64 (k : Int) ∧ v = .int .u64 (n / 16 ^ k : Nat) ∧ t = .string ⟨(low n k).toArray⟩ ∧ wr = w1) (fun _ _ i _ => 16 - (intOf i).toNat)
  case atStart => exact ⟨0, Nat.zero_le _, rfl, by simp, rfl, rfl⟩
  case round =>
    obtain ⟨k, hk, rfl, rfl, rfl, rfl⟩ := hrel
    have hu : n / 16 ^ k < 18446744073709551616 := Nat.lt_of_le_of_lt (Nat.div_le_self _ _) hn
    by_cases hlt : k < 16
    · have hq : n / 16 ^ (k + 1) = n / 16 ^ k / 16 := by rw [Nat.pow_succ, Nat.div_div_eq_div_mul]
      have hlow : low n (k + 1) = hexd (n / 16 ^ k % 16) :: low n k := rfl
      have hand := and15 _ hu
      have hd : n / 16 ^ k % 16 < 16 := Nat.mod_lt _ (by decide)
      have HD := hid (dig_ex _ hd)
      have hk16 : (k : Int) < 16 := by omega
      have hll : (low n k).length ≤ 16 := by rw [low_length]; omega
      have hm : (0 : Int) ≤ ((n / 16 ^ k : Nat) : Int) % 16 ∧ ((n / 16 ^ k : Nat) : Int) % 16 < 16 := by omega
      have HQ := hid hq
      have HLw := hid hlow
      generalize n / 16 ^ k = S at *
      generalize low n k = l at *
      clear hq hlow
      go_wp2_with fail
      refine ⟨⟨k + 1, by omega, by simp, ?_, ?_, trivial⟩, ?_⟩
      · rw [HQ.out]; simp
      · rw [HD.out, HLw.out, ByteArray.mk_append_mk]; rfl
      · simp [intOf]; omega
    · obtain rfl : k = 16 := by omega
      have hll : (low n 16).length = 16 := low_length n 16
      have HP : Hid ((ByteArray.mk #[47, 115, 116, 111, 114, 101, 47] ++ ByteArray.mk (low n 16).toArray) ++ ByteArray.mk #[45] = ⟨(preL n ++ tailL E 0).toArray⟩) := by
        unfold Hid preL
        have e1 : (ByteArray.mk #[47, 115, 116, 111, 114, 101, 47] ++ ByteArray.mk (low n 16).toArray) = ⟨(storeL ++ low n 16).toArray⟩ := str_cat storeL (low n 16)
        have e2 : ByteArray.mk (storeL ++ low n 16).toArray ++ ByteArray.mk #[45] = ⟨(storeL ++ low n 16 ++ [45]).toArray⟩ := str_cat (storeL ++ low n 16) [45]
        rw [e1, e2]; simp [tailL]
      go_wp2_with fail
      have hpl := preL_len n
      clear hk hu hlt
      go_loopw [12, 13] (fun pv iv wr => ∃ j : Nat, j ≤ tailN' E ∧ iv = .int .i64 (j : Int) ∧ pv = .string ⟨(preL n ++ tailL E j).toArray⟩ ∧ Fr (fun _ => False) w wr) (fun _ iv _ => 19 - (intOf iv).toNat)
      case atStart => exact ⟨0, Nat.zero_le _, rfl, by rw [HP.out], F1.out⟩
      case round =>
        obtain ⟨j, hj, rfl, rfl, hF⟩ := hrel
        have HF := hid hF
        clear hF F1 HP
        have hjm : j ≤ 19 := by unfold tailN' at hj; omega
        have htl := tailL_len E j
        have HTs := hid (tailL_succ E j)
        have HSc : Hid (ByteArray.mk (preL n ++ tailL E j).toArray ++ ByteArray.mk #[tch E j] = ⟨(preL n ++ tailL E (j + 1)).toArray⟩) := by
          unfold Hid
          rw [HTs.out, ← List.append_assoc]; exact str_cat (preL n ++ tailL E j) [tch E j]
        have hpt : (preL n ++ tailL E j).length ≤ 43 := by rw [List.length_append]; omega
        have hj0 : (0 : Int) ≤ (j : Int) := Int.natCast_nonneg _
        by_cases hgo : j < E.length ∧ j < 19
        · obtain ⟨g1, g2⟩ := hgo
          have g1' : (j : Int) < ((E.length : Nat) : Int) := by omega
          have g2' : (j : Int) < 19 := by omega
          have hat := str_at E j g1
          have hd : E[j].toNat % 13 < 13 := Nat.mod_lt _ (by decide)
          have hmm : (0 : Int) ≤ ((E[j].toNat : Nat) : Int) % 13 ∧ ((E[j].toNat : Nat) : Int) % 13 < 13 := by omega
          have HAl := hid (alph_at _ hd)
          have HCh : Hid (tch E j = alph (E[j].toNat % 13)) := by unfold Hid tch; rw [dif_pos g1]
          rw [HCh.out] at HSc
          have hcv := conv_one wr ((ByteArray.mk #[97, 98, 99, 88, 89, 90, 48, 49, 57, 46, 95, 45, 43])[E[j].toNat % 13]'(by simpa [ByteArray.size] using hd))
          have HF' : Hid (∀ o, Fr (fun _ => False) w (wr.alloc o)) := fun o => HF.out.alloc o
          have hmt : j + 1 ≤ tailN' E := by unfold tailN'; omega
          have hcb : E[j].toNat < 256 := UInt8.toNat_lt _
          unfold bv at hcv
          clear HCh HTs HF
          generalize preL n ++ tailL E j = pp at *
          go_wp2_with fail
          refine ⟨⟨j + 1, hmt, by simp, ?_, HF'.out _⟩, by simp [intOf]; omega⟩
          rw [← HSc.out, ← HAl.out]
        by_cases hz : j < 1
        · have hz' : (j : Int) < 1 := by omega
          have hze : E.length = 0 := by omega
          have g1' : ¬ (j : Int) < ((E.length : Nat) : Int) := by omega
          have HCh : Hid (tch E j = 101) := by unfold Hid tch; rw [dif_neg (by omega)]
          rw [HCh.out] at HSc
          have hcv : (convert 26 9 (.slice (some ⟨wr.heap.size, 0, none⟩) 1 1)).run Tryd.prog (wr.alloc (.cells #[.int .u8 101] 5)) = .ok (.string ⟨#[101]⟩) (wr.alloc (.cells #[.int .u8 101] 5)) := conv_one wr 101
          have HF' : Hid (∀ o, Fr (fun _ => False) w (wr.alloc o)) := fun o => HF.out.alloc o
          have hmt : j + 1 ≤ tailN' E := by unfold tailN'; omega
          clear HCh HTs HF hze
          generalize preL n ++ tailL E j = pp at *
          go_wp2_with fail
          refine ⟨⟨j + 1, hmt, by simp, ?_, HF'.out _⟩, by simp [intOf]; omega⟩
          rw [← HSc.out]
        · have hz' : ¬ (j : Int) < 1 := by omega
          have hje : j = tailN' E := by unfold tailN' at hj ⊢; omega
          have hfork : ¬ (j : Int) < ((E.length : Nat) : Int) ∨ ((j : Int) < ((E.length : Nat) : Int) ∧ ¬ (j : Int) < 19) := by omega
          have HPe : Hid (preL n ++ tailL E j = pathL n E) := by unfold Hid pathL; rw [hje]
          have HIs := hid (pathL_is n E)
          rw [HPe.out] at hpt ⊢
          clear HSc HTs HPe hje
          generalize pathL n E = P at *
          have HO0 := hid (Ob.new HF.out [] (by simp))
          rcases hfork with g1 | ⟨g1, g2⟩
          all_goals
            go_wp2_with (at_builtin; refine wpList_append_ob (by rfl) _ _ 26 (by rfl) (.slice a0 A.length ca) A (by rfl) (by rfl) HO0.out (srcBytes (HA.out.fr HO0.out.f) ca) (by simp; omega) ?_; intro v1 W1 hO1; refine Hid.out ?_)
            refine hid ?_
            have HO1 := hid hO1
            clear hO1 HO0 HF
            go_wp2_with (at_builtin; refine wpList_append_ob (by rfl) _ _ 9 (by rfl) (.string ⟨P.toArray⟩) P (by rfl) (by rfl) HO1.out (srcStr _ P) (by simp; omega) ?_; intro v2 W2 hO2; refine Hid.out ?_)
            refine hid ?_
            have HO2 := hid (hO2.fr ((Fr.refl _ W2).alloc (.cells #[.int .u8 32] 5)))
            have HSp : Hid (Go.Src Tryd.prog 1 26 (.slice (some ⟨W2.heap.size, 0, none⟩) 1 1) [(32 : UInt8)].length (bs [32]) (W2.alloc (.cells #[.int .u8 32] 5))) := srcBytes (src_new W2 32) 1
            clear hO2 HO1
            go_wp2_with (at_builtin; refine wpList_append_ob (by rfl) _ _ 26 (by rfl) (.slice (some ⟨W2.heap.size, 0, none⟩) 1 1) [32] (by rfl) (by rfl) HO2.out HSp.out (by simp; omega) ?_; intro v3 W3 hO3; refine Hid.out ?_)
            refine hid ?_
            have HO3 := hid hO3
            clear hO3 HO2 HSp
            go_wp2_with (at_builtin; refine wpList_append_ob (by rfl) _ _ 26 (by rfl) (.slice a1 B.length cb) B (by rfl) (by rfl) HO3.out (srcBytes (HB.out.fr HO3.out.f) cb) (by simp; omega) ?_; intro v4 W4 hO4; refine Hid.out ?_)
            refine hid ?_
            obtain ⟨va, vc, rfl⟩ := own_len hO4.own
            have hDl : ([] ++ A ++ P ++ [32] ++ B).length ≤ 1048620 := by simp; omega
            have HRf : Hid (RefIn ([] ++ A ++ P ++ [32] ++ B) P) := path_ref A B P HIs.out
            have HO4 := hid hO4
            clear hO4 HO3 HA HB HIs
            generalize [] ++ A ++ P ++ [32] ++ B = D at *
            have HEn : Hid (Ents (W4.alloc (.cells #[.string ⟨#[120]⟩, .int .i64 1, .slice va D.length vc] 31)) (some ⟨W4.heap.size, 0, none⟩) (oneL D)) :=
              ents_one (x := ⟨[120], 1, D⟩) (Blk.new W4 31 [.string ⟨#[120]⟩, .int .i64 1, .slice va D.length vc]) (EntV.fr ⟨src_own HO4.out.own, own_cap HO4.out.own, by show D.length ≤ _; omega, by simp, by simp, by simp⟩ ((Fr.refl _ W4).alloc _))
            have HRe := hid (refs_any _ _ (oneL D) 1 HEn.out (by rw [oneL_bulk]; omega) (by simp [oneL]))
            have hvc := own_cap HO4.out.own
            obtain ⟨R, hR⟩ : ∃ R, R = refsB (oneL D) := ⟨_, rfl⟩
            have HMem : Hid (∀ i (h : i < R.length), RefIn D R[i]) := by subst hR; exact fun i h => (oneL_mem D _).1 (List.getElem_mem h)
            have HRi : Hid (∀ i (h : i + 1 < R.length), Op.bytesLess (R[i]'(by omega)) R[i + 1] = true) := by subst hR; exact ref_rise D
            have HPin : Hid (P ∈ R) := by subst hR; exact (oneL_mem D P).2 HRf.out
            rw [← hR] at HRe
            have hrl : R.length ≤ 1048620 := by
              subst hR
              have h := refsB_len (oneL D) 1 (by simp [oneL])
              have e : (oneL D).take 1 = oneL D := rfl
              rw [e, oneL_bulk] at h; omega
            have HFa : Hid (Fr (fun _ => False) W4 (W4.alloc (.cells #[.string ⟨#[120]⟩, .int .i64 1, .slice va D.length vc] 31))) := (Fr.refl _ W4).alloc _
            clear HEn HRf hR
            go_wp2_with (go_at_call 17; refine HRe.out.mono ?_; rintro e w5 ⟨v5, rfl, ho5, f5⟩; obtain ⟨ra, rc, rfl⟩ := own_len ho5; have S5 := hid (sts_own ho5); have FA5 := hid (HFa.out.trans f5 (fun _ h => h.elim)); have D5 := hid ((src_own HO4.out.own).fr FA5.out); have F5 := hid (HO4.out.f.trans FA5.out (fun _ h => h.elim)); clear ho5 f5 FA5)
            clear HRe HO4 HFa
            go_loopw [17, 18] (fun fv iv wr => ∃ i : Nat, i ≤ R.length ∧ iv = .int .i64 (i : Int) ∧ fv = .bool (hasB R P i) ∧ Fr (fun _ => False) w5 wr) (fun _ iv _ => R.length - (intOf iv).toNat)
            case atStart => exact ⟨0, Nat.zero_le _, rfl, rfl, Fr.refl _ _⟩
            case round =>
              obtain ⟨i, hi, rfl, rfl, hF⟩ := hrel
              have HF := hid hF
              clear hF
              have hi0 : (0 : Int) ≤ (i : Int) := Int.natCast_nonneg _
              by_cases hlt : i < R.length
              · have hi1 : (i : Int) < ((R.length : Nat) : Int) := by omega
                obtain ⟨rb, ro, rfl, c0'⟩ := S5.out.at i hlt
                have HHs := hid (hasB_succ R P i hlt)
                have HMi := hid (HMem.out i hlt)
                have HRs : Hid (∀ (h : 0 < i), Op.bytesLess (R[i - 1]'(Nat.lt_of_le_of_lt (Nat.sub_le i 1) hlt)) R[i] = true) := fun h => by
                  have h2 := HRi.out (i - 1) (by omega)
                  have e : i - 1 + 1 = i := by omega
                  simp only [e] at h2
                  exact h2
                have hmk := ref_in HMi.out
                have HIs := hid (isPath_any · R[i])
                rw [hmk.1] at HIs
                have hrp : 25 ≤ R[i].length ∧ R[i].length ≤ 1048620 := by
                  obtain ⟨j1, j2, j3⟩ := hmk
                  unfold isPathB at j1
                  simp only [Bool.and_eq_true, decide_eq_true_eq] at j1
                  omega
                clear hmk
                generalize hr : R[i] = r at *
                have HRr := hid hr
                clear hr
                go_wp2_with fail
                go_loopw [19, 20] (fun bv kv wr => ∃ k : Nat, k + r.length ≤ D.length + 1 ∧ kv = .int .i64 (k : Int) ∧ bv = .bool (metB D r k) ∧ Fr (fun _ => False) w5 wr) (fun _ kv _ => D.length + 1 - (intOf kv).toNat)
                case atStart =>
                  refine ⟨0, ?_, rfl, rfl, HF.out⟩
                  obtain ⟨_, j, h1, _⟩ := ref_in HMi.out
                  omega
                case round =>
                  obtain ⟨k, hk, rfl, rfl, hF2⟩ := hrel
                  have HF2 := hid hF2
                  have c0 := cell_fr hF2 c0'
                  clear hF2 HF
                  have hk0 : (0 : Int) ≤ (k : Int) := Int.natCast_nonneg _
                  by_cases hkl : k + r.length ≤ D.length
                  · have hk1 : (k : Int) + ((r.length : Nat) : Int) ≤ ((D.length : Nat) : Int) := by omega
                    have hk2 : (k : Int) ≤ (k : Int) + ((r.length : Nat) : Int) := by omega
                    have hk3 : (k : Int) + ((r.length : Nat) : Int) ≤ ((vc : Nat) : Int) := by omega
                    have hdk : ¬ vc = k := by omega
                    have HMs := hid (metB_succ D r k)
                    cases hm : metB D r k with
                    | true =>
                      rw [hm, Bool.true_or] at HMs
                      clear HMem HRi HPin HIs HRs HHs
                      go_wp2_with fail
                      go_quiet (fail)
                      have HF3 := hid (HF2.out.drewN nq)
                      go_wp2
                      exact ⟨⟨k + 1, by omega, by go_num, by rw [HMs.out], HF3.out⟩, by simp [intOf]; omega⟩
                    | false =>
                      rw [hm, Bool.false_or] at HMs
                      obtain ⟨db, dbo, rfl, _⟩ := D5.out (fun e => by have h := congrArg List.length e; rw [List.length_nil] at h; omega)
                      have hcv := fun n => conv_bytes ((((D5.out.fr HF2.out).drop' k).take' r.length).fr ((Fr.refl _ wr).drewN n)) (vc - k)
                      rw [show ((D.drop k).take r.length).length = r.length by rw [List.length_take, List.length_drop]; omega] at hcv
                      clear HMem HRi HPin HIs HRs HHs
                      generalize (D.drop k).take r.length = s at *
                      cases hs : (s == r) with
                      | true =>
                        rw [hs] at HMs
                        go_wp2_with fail
                        go_quiet (fail)
                        have HF3 := hid (HF2.out.drewN nq)
                        go_wp2
                        exact ⟨⟨k + 1, by omega, by go_num, by rw [HMs.out], HF3.out⟩, by simp [intOf]; omega⟩
                      | false =>
                        rw [hs] at HMs
                        go_wp2_with fail
                        go_quiet (fail)
                        have HF3 := hid (HF2.out.drewN nq)
                        go_wp2
                        exact ⟨⟨k + 1, by omega, by go_num, by rw [HMs.out], HF3.out⟩, by simp [intOf]; omega⟩
                  · have hkn : ¬ (k : Int) + ((r.length : Nat) : Int) ≤ ((D.length : Nat) : Int) := by omega
                    rw [metB_all HMi.out k (by omega)]
                    have HFd : Hid (Fr (fun _ => False) w5 wr.drew) := HF2.out.drew
                    by_cases hip : 0 < i
                    · have hip' : (0 : Int) < (i : Int) := by omega
                      have hrs := HRs.out hip
                      obtain ⟨rb2, ro2, e2, c1'⟩ := S5.out.at (i - 1) (by omega)
                      cases e2
                      obtain ⟨q, hq⟩ : ∃ q, q = i - 1 := ⟨_, rfl⟩
                      have hqs : (i : Int) - 1 = (q : Int) := by omega
                      have hq0 : (0 : Int) ≤ (q : Int) := Int.natCast_nonneg _
                      have hq1 : (q : Int) < ((R.length : Nat) : Int) := by omega
                      generalize R[i - 1] = r1 at *
                      rw [← hq] at c1'
                      have HK : Hid (∀ W, Fr (fun _ => False) w5 W → W.cell? ⟨rb, ro + i, none⟩ = some (.string ⟨r.toArray⟩) ∧ W.cell? ⟨rb, ro + q, none⟩ = some (.string ⟨r1.toArray⟩)) := fun W f => ⟨cell_fr f c0', cell_fr f c1'⟩
                      clear hq HMem HRi HMi HRs D5
                      go_wp2_with fail
                      refine wp_region_noPanic ?_
                      refine wp_region_held_drew (S := (fun w' => w'.cell? ⟨rb, ro + i, none⟩ = some (.string ⟨r.toArray⟩) ∧ w'.cell? ⟨rb, ro + q, none⟩ = some (.string ⟨r1.toArray⟩))) (by kernel_rfl) (HK.out _ HFd.out) (fun _ => ?_)
                      refine takeH (i := 0) (d := some 119) (.bool true) rfl (by kernel_rfl) (by kernel_rfl) (by kernel_rfl) (fun _ _ _ _ h => h) (HK.out _ HFd.out) (fun o ho => by cases ho; exact .inl ⟨by rfl, fun w hSw => by (obtain ⟨hs1, hs2⟩ := hSw; go_simp)⟩) ?_
                      simp only [Act.put, List.setIfInBounds_toArray, List.set_cons_zero, List.set_cons_succ]
                      refine takeH (i := 1) (d := some 120) (.bool false) rfl (by kernel_rfl) (by kernel_rfl) (by kernel_rfl) (fun _ _ _ _ h => h) (HK.out _ HFd.out) (fun o ho => by cases ho; exact .inl ⟨by rfl, fun w hSw => by (obtain ⟨hs1, hs2⟩ := hSw; go_simp)⟩) ?_
                      simp only [Act.put, List.setIfInBounds_toArray, List.set_cons_zero, List.set_cons_succ]
                      refine takeH (i := 2) (d := some 121) (.bool false) rfl (by kernel_rfl) (by kernel_rfl) (by kernel_rfl) (fun _ _ _ _ h => h) (HK.out _ HFd.out) (fun o ho => by cases ho; exact .inl ⟨by rfl, fun w hSw => by (obtain ⟨hs1, hs2⟩ := hSw; go_simp)⟩) ?_
                      simp only [Act.put, List.setIfInBounds_toArray, List.set_cons_zero, List.set_cons_succ]
                      refine takeH (i := 3) (d := some 122) (.int .i64 (i : Int)) rfl (by kernel_rfl) (by kernel_rfl) (by kernel_rfl) (fun _ _ _ _ h => h) (HK.out _ HFd.out) (fun o ho => by cases ho; exact .inl ⟨by rfl, fun w hSw => by (obtain ⟨hs1, hs2⟩ := hSw; go_simp)⟩) ?_
                      simp only [Act.put, List.setIfInBounds_toArray, List.set_cons_zero, List.set_cons_succ]
                      refine takeH (i := 4) (d := some 123) (.bool true) rfl (by kernel_rfl) (by kernel_rfl) (by kernel_rfl) (fun _ _ _ _ h => h) (HK.out _ HFd.out) (fun o ho => by cases ho; exact .inl ⟨by rfl, fun w hSw => by (obtain ⟨hs1, hs2⟩ := hSw; go_simp)⟩) ?_
                      simp only [Act.put, List.setIfInBounds_toArray, List.set_cons_zero, List.set_cons_succ]
                      refine takeH (i := 5) (d := some 124) (.bool true) rfl (by kernel_rfl) (by kernel_rfl) (by kernel_rfl) (fun _ _ _ _ h => h) (HK.out _ HFd.out) (fun o ho => by cases ho; exact .inl ⟨by rfl, fun w hSw => by (obtain ⟨hs1, hs2⟩ := hSw; go_simp)⟩) ?_
                      simp only [Act.put, List.setIfInBounds_toArray, List.set_cons_zero, List.set_cons_succ]
                      refine takeH (i := 6) (d := some 125) (.slice (some ⟨rb, ro, none⟩) R.length rc) rfl (by kernel_rfl) (by kernel_rfl) (by kernel_rfl) (fun _ _ _ _ h => h) (HK.out _ HFd.out) (fun o ho => by cases ho; exact .inl ⟨by rfl, fun w hSw => by (obtain ⟨hs1, hs2⟩ := hSw; go_simp)⟩) ?_
                      simp only [Act.put, List.setIfInBounds_toArray, List.set_cons_zero, List.set_cons_succ]
                      refine takeH (i := 7) (d := some 126) (.int .i64 (i : Int)) rfl (by kernel_rfl) (by kernel_rfl) (by kernel_rfl) (fun _ _ _ _ h => h) (HK.out _ HFd.out) (fun o ho => by cases ho; exact .inl ⟨by rfl, fun w hSw => by (obtain ⟨hs1, hs2⟩ := hSw; go_simp)⟩) ?_
                      simp only [Act.put, List.setIfInBounds_toArray, List.set_cons_zero, List.set_cons_succ]
                      refine takeH (i := 8) (d := some 127) (.int .i64 (q : Int)) rfl (by kernel_rfl) (by kernel_rfl) (by kernel_rfl) (fun _ _ _ _ h => h) (HK.out _ HFd.out) (fun o ho => by cases ho; exact .inl ⟨by rfl, fun w hSw => by (obtain ⟨hs1, hs2⟩ := hSw; go_simp; rw [IntWalk.i64_left, IntWalk.wrap64_in _ (by omega)])⟩) ?_
                      simp only [Act.put, List.setIfInBounds_toArray, List.set_cons_zero, List.set_cons_succ]
                      refine takeH (i := 9) (d := some 128) (.pointer (some ⟨rb, ro + q, none⟩)) rfl (by kernel_rfl) (by kernel_rfl) (by kernel_rfl) (fun _ _ _ _ h => h) (HK.out _ HFd.out) (fun o ho => by cases ho; exact .inl ⟨by rfl, fun w hSw => by (obtain ⟨hs1, hs2⟩ := hSw; go_simp)⟩) ?_
                      simp only [Act.put, List.setIfInBounds_toArray, List.set_cons_zero, List.set_cons_succ]
                      refine takeH (i := 10) (d := some 129) (.string ⟨r1.toArray⟩) rfl (by kernel_rfl) (by kernel_rfl) (by kernel_rfl) (fun _ _ _ _ h => h) (HK.out _ HFd.out) (fun o ho => by cases ho; exact .inl ⟨by rfl, fun w hSw => by (obtain ⟨hs1, hs2⟩ := hSw; go_simp)⟩) ?_
                      simp only [Act.put, List.setIfInBounds_toArray, List.set_cons_zero, List.set_cons_succ]
                      refine takeH (i := 11) (d := some 130) (.slice (some ⟨rb, ro, none⟩) R.length rc) rfl (by kernel_rfl) (by kernel_rfl) (by kernel_rfl) (fun _ _ _ _ h => h) (HK.out _ HFd.out) (fun o ho => by cases ho; exact .inl ⟨by rfl, fun w hSw => by (obtain ⟨hs1, hs2⟩ := hSw; go_simp)⟩) ?_
                      simp only [Act.put, List.setIfInBounds_toArray, List.set_cons_zero, List.set_cons_succ]
                      refine takeH (i := 12) (d := some 131) (.int .i64 (i : Int)) rfl (by kernel_rfl) (by kernel_rfl) (by kernel_rfl) (fun _ _ _ _ h => h) (HK.out _ HFd.out) (fun o ho => by cases ho; exact .inl ⟨by rfl, fun w hSw => by (obtain ⟨hs1, hs2⟩ := hSw; go_simp)⟩) ?_
                      simp only [Act.put, List.setIfInBounds_toArray, List.set_cons_zero, List.set_cons_succ]
                      refine takeH (i := 13) (d := some 132) (.pointer (some ⟨rb, ro + i, none⟩)) rfl (by kernel_rfl) (by kernel_rfl) (by kernel_rfl) (fun _ _ _ _ h => h) (HK.out _ HFd.out) (fun o ho => by cases ho; exact .inl ⟨by rfl, fun w hSw => by (obtain ⟨hs1, hs2⟩ := hSw; go_simp)⟩) ?_
                      simp only [Act.put, List.setIfInBounds_toArray, List.set_cons_zero, List.set_cons_succ]
                      refine takeH (i := 14) (d := some 133) (.string ⟨r.toArray⟩) rfl (by kernel_rfl) (by kernel_rfl) (by kernel_rfl) (fun _ _ _ _ h => h) (HK.out _ HFd.out) (fun o ho => by cases ho; exact .inl ⟨by rfl, fun w hSw => by (obtain ⟨hs1, hs2⟩ := hSw; go_simp)⟩) ?_
                      simp only [Act.put, List.setIfInBounds_toArray, List.set_cons_zero, List.set_cons_succ]
                      refine takeH (i := 15) (d := some 134) (.bool false) rfl (by kernel_rfl) (by kernel_rfl) (by kernel_rfl) (fun _ _ _ _ h => h) (HK.out _ HFd.out) (fun o ho => by cases ho; exact .inl ⟨by rfl, fun w hSw => by (obtain ⟨hs1, hs2⟩ := hSw; go_simp)⟩) ?_
                      simp only [Act.put, List.setIfInBounds_toArray, List.set_cons_zero, List.set_cons_succ]
                      refine takeH (i := 16) (d := some 135) (.bool false) rfl (by kernel_rfl) (by kernel_rfl) (by kernel_rfl) (fun _ _ _ _ h => h) (HK.out _ HFd.out) (fun o ho => by cases ho; exact .inl ⟨by rfl, fun w hSw => by (obtain ⟨hs1, hs2⟩ := hSw; go_simp)⟩) ?_
                      simp only [Act.put, List.setIfInBounds_toArray, List.set_cons_zero, List.set_cons_succ]
                      refine takeH (i := 17) (d := some 136) (.bool false) rfl (by kernel_rfl) (by kernel_rfl) (by kernel_rfl) (fun _ _ _ _ h => h) (HK.out _ HFd.out) (fun o ho => by cases ho; exact .inl ⟨by rfl, fun w hSw => by (obtain ⟨hs1, hs2⟩ := hSw; go_simp)⟩) ?_
                      simp only [Act.put, List.setIfInBounds_toArray, List.set_cons_zero, List.set_cons_succ]
                      refine takeH (i := 18) (d := some 137) (.bool false) rfl (by kernel_rfl) (by kernel_rfl) (by kernel_rfl) (fun _ _ _ _ h => h) (HK.out _ HFd.out) (fun o ho => by cases ho; exact .inl ⟨by rfl, fun w hSw => by (obtain ⟨hs1, hs2⟩ := hSw; go_simp)⟩) ?_
                      simp only [Act.put, List.setIfInBounds_toArray, List.set_cons_zero, List.set_cons_succ]
                      refine takeH (i := 19) (d := some 138) (.slice (some ⟨rb, ro, none⟩) R.length rc) rfl (by kernel_rfl) (by kernel_rfl) (by kernel_rfl) (fun _ _ _ _ h => h) (HK.out _ HFd.out) (fun o ho => by cases ho; exact .inl ⟨by rfl, fun w hSw => by (obtain ⟨hs1, hs2⟩ := hSw; go_simp)⟩) ?_
                      simp only [Act.put, List.setIfInBounds_toArray, List.set_cons_zero, List.set_cons_succ]
                      refine takeH (i := 20) (d := some 139) (.int .i64 (i : Int)) rfl (by kernel_rfl) (by kernel_rfl) (by kernel_rfl) (fun _ _ _ _ h => h) (HK.out _ HFd.out) (fun o ho => by cases ho; exact .inl ⟨by rfl, fun w hSw => by (obtain ⟨hs1, hs2⟩ := hSw; go_simp)⟩) ?_
                      simp only [Act.put, List.setIfInBounds_toArray, List.set_cons_zero, List.set_cons_succ]
                      refine takeH (i := 21) (d := some 140) (.pointer (some ⟨rb, ro + i, none⟩)) rfl (by kernel_rfl) (by kernel_rfl) (by kernel_rfl) (fun _ _ _ _ h => h) (HK.out _ HFd.out) (fun o ho => by cases ho; exact .inl ⟨by rfl, fun w hSw => by (obtain ⟨hs1, hs2⟩ := hSw; go_simp)⟩) ?_
                      simp only [Act.put, List.setIfInBounds_toArray, List.set_cons_zero, List.set_cons_succ]
                      refine takeH (i := 22) (d := some 141) (.string ⟨r.toArray⟩) rfl (by kernel_rfl) (by kernel_rfl) (by kernel_rfl) (fun _ _ _ _ h => h) (HK.out _ HFd.out) (fun o ho => by cases ho; exact .inl ⟨by rfl, fun w hSw => by (obtain ⟨hs1, hs2⟩ := hSw; go_simp)⟩) ?_
                      simp only [Act.put, List.setIfInBounds_toArray, List.set_cons_zero, List.set_cons_succ]
                      refine oneH (i := 23) (by kernel_rfl) (fun o ho K' hK => ?_) (by decide)
                      cases ho
                      rw [if_pos (by rfl)]
                      go_simp
                      refine (HIs.out _).mono ?_
                      rintro e w7 ⟨rfl, f7⟩
                      have F7 : Hid (Fr (fun _ => False) w5 w7) := HFd.out.trans f7 (fun _ h => h.elim)
                      have c7 := cell_fr F7.out c0'
                      clear f7
                      refine hK.out _ _ (HK.out _ F7.out) ?_
                      clear hK K'
                      try simp only [Act.put, List.setIfInBounds_toArray, List.set_cons_zero, List.set_cons_succ]
                      refine takeH (i := 24) (d := some 143) (.bool false) rfl (by kernel_rfl) (by kernel_rfl) (by kernel_rfl) (fun _ _ _ _ h => h) (HK.out _ F7.out) (fun o ho => by cases ho; exact .inl ⟨by rfl, fun w hSw => by (obtain ⟨hs1, hs2⟩ := hSw; go_simp)⟩) ?_
                      simp only [Act.put, List.setIfInBounds_toArray, List.set_cons_zero, List.set_cons_succ]
                      refine takeH (i := 25) (d := some 144) (.bool false) rfl (by kernel_rfl) (by kernel_rfl) (by kernel_rfl) (fun _ _ _ _ h => h) (HK.out _ F7.out) (fun o ho => by cases ho; exact .inl ⟨by rfl, fun w hSw => by (obtain ⟨hs1, hs2⟩ := hSw; go_simp)⟩) ?_
                      simp only [Act.put, List.setIfInBounds_toArray, List.set_cons_zero, List.set_cons_succ]
                      refine wpAnyH_done (by kernel_rfl) (NoPanic.normal ?_) _
                      generalize hasB R P i = fb at *
                      cases fb with
                      | true =>
                        rw [Bool.true_or] at HHs
                        go_wp2
                        exact ⟨⟨i + 1, by omega, by go_num, by rw [HHs.out], F7.out⟩, by simp [intOf]; omega⟩
                      | false =>
                        rw [Bool.false_or] at HHs
                        cases hrP : (r == P) with
                        | true =>
                          rw [hrP] at HHs
                          go_wp2
                          exact ⟨⟨i + 1, by omega, by go_num, by rw [HHs.out], F7.out⟩, by simp [intOf]; omega⟩
                        | false =>
                          rw [hrP] at HHs
                          go_wp2
                          exact ⟨⟨i + 1, by omega, by go_num, by rw [HHs.out], F7.out⟩, by simp [intOf]; omega⟩
                    · have hip' : ¬ (0 : Int) < (i : Int) := by omega
                      have HK : Hid (∀ W, Fr (fun _ => False) w5 W → W.cell? ⟨rb, ro + i, none⟩ = some (.string ⟨r.toArray⟩)) := fun W f => cell_fr f c0'
                      clear HMem HRi HMi HRs D5
                      go_wp2_with fail
                      refine wp_region_noPanic ?_
                      refine wp_region_held_drew (S := (fun w' => w'.cell? ⟨rb, ro + i, none⟩ = some (.string ⟨r.toArray⟩))) (by kernel_rfl) (HK.out _ HFd.out) (fun _ => ?_)
                      refine takeH (i := 0) (d := some 119) (.bool true) rfl (by kernel_rfl) (by kernel_rfl) (by kernel_rfl) (fun _ _ _ _ h => h) (HK.out _ HFd.out) (fun o ho => by cases ho; exact .inl ⟨by rfl, fun w hSw => by (have hs1 := hSw; go_simp)⟩) ?_
                      simp only [Act.put, List.setIfInBounds_toArray, List.set_cons_zero, List.set_cons_succ]
                      refine takeH (i := 1) (d := some 120) (.bool false) rfl (by kernel_rfl) (by kernel_rfl) (by kernel_rfl) (fun _ _ _ _ h => h) (HK.out _ HFd.out) (fun o ho => by cases ho; exact .inl ⟨by rfl, fun w hSw => by (have hs1 := hSw; go_simp)⟩) ?_
                      simp only [Act.put, List.setIfInBounds_toArray, List.set_cons_zero, List.set_cons_succ]
                      refine takeH (i := 2) (d := some 121) (.bool false) rfl (by kernel_rfl) (by kernel_rfl) (by kernel_rfl) (fun _ _ _ _ h => h) (HK.out _ HFd.out) (fun o ho => by cases ho; exact .inl ⟨by rfl, fun w hSw => by (have hs1 := hSw; go_simp)⟩) ?_
                      simp only [Act.put, List.setIfInBounds_toArray, List.set_cons_zero, List.set_cons_succ]
                      refine takeH (i := 3) (d := some 122) (.int .i64 (i : Int)) rfl (by kernel_rfl) (by kernel_rfl) (by kernel_rfl) (fun _ _ _ _ h => h) (HK.out _ HFd.out) (fun o ho => by cases ho; exact .inl ⟨by rfl, fun w hSw => by (have hs1 := hSw; go_simp)⟩) ?_
                      simp only [Act.put, List.setIfInBounds_toArray, List.set_cons_zero, List.set_cons_succ]
                      refine takeH (i := 4) (d := some 123) (.bool false) rfl (by kernel_rfl) (by kernel_rfl) (by kernel_rfl) (fun _ _ _ _ h => h) (HK.out _ HFd.out) (fun o ho => by cases ho; exact .inl ⟨by rfl, fun w hSw => by (have hs1 := hSw; go_simp)⟩) ?_
                      simp only [Act.put, List.setIfInBounds_toArray, List.set_cons_zero, List.set_cons_succ]
                      refine takeH (i := 5) (d := some 124) (.bool false) rfl (by kernel_rfl) (by kernel_rfl) (by kernel_rfl) (fun _ _ _ _ h => h) (HK.out _ HFd.out) (fun o ho => by cases ho; exact .inl ⟨by rfl, fun w hSw => by (have hs1 := hSw; go_simp)⟩) ?_
                      simp only [Act.put, List.setIfInBounds_toArray, List.set_cons_zero, List.set_cons_succ]
                      refine takeH (i := 6) (d := some 125) undef rfl (by kernel_rfl) (by kernel_rfl) (by kernel_rfl) (fun _ _ _ _ h => h) (HK.out _ HFd.out) (fun o ho => by cases ho; exact .inr ⟨by rfl, rfl⟩) ?_
                      simp only [Act.put, List.setIfInBounds_toArray, List.set_cons_zero, List.set_cons_succ]
                      refine takeH (i := 7) (d := some 126) undef rfl (by kernel_rfl) (by kernel_rfl) (by kernel_rfl) (fun _ _ _ _ h => h) (HK.out _ HFd.out) (fun o ho => by cases ho; exact .inr ⟨by rfl, rfl⟩) ?_
                      simp only [Act.put, List.setIfInBounds_toArray, List.set_cons_zero, List.set_cons_succ]
                      refine takeH (i := 8) (d := some 127) undef rfl (by kernel_rfl) (by kernel_rfl) (by kernel_rfl) (fun _ _ _ _ h => h) (HK.out _ HFd.out) (fun o ho => by cases ho; exact .inr ⟨by rfl, rfl⟩) ?_
                      simp only [Act.put, List.setIfInBounds_toArray, List.set_cons_zero, List.set_cons_succ]
                      refine takeH (i := 9) (d := some 128) undef rfl (by kernel_rfl) (by kernel_rfl) (by kernel_rfl) (fun _ _ _ _ h => h) (HK.out _ HFd.out) (fun o ho => by cases ho; exact .inr ⟨by rfl, rfl⟩) ?_
                      simp only [Act.put, List.setIfInBounds_toArray, List.set_cons_zero, List.set_cons_succ]
                      refine takeH (i := 10) (d := some 129) undef rfl (by kernel_rfl) (by kernel_rfl) (by kernel_rfl) (fun _ _ _ _ h => h) (HK.out _ HFd.out) (fun o ho => by cases ho; exact .inr ⟨by rfl, rfl⟩) ?_
                      simp only [Act.put, List.setIfInBounds_toArray, List.set_cons_zero, List.set_cons_succ]
                      refine takeH (i := 11) (d := some 130) undef rfl (by kernel_rfl) (by kernel_rfl) (by kernel_rfl) (fun _ _ _ _ h => h) (HK.out _ HFd.out) (fun o ho => by cases ho; exact .inr ⟨by rfl, rfl⟩) ?_
                      simp only [Act.put, List.setIfInBounds_toArray, List.set_cons_zero, List.set_cons_succ]
                      refine takeH (i := 12) (d := some 131) undef rfl (by kernel_rfl) (by kernel_rfl) (by kernel_rfl) (fun _ _ _ _ h => h) (HK.out _ HFd.out) (fun o ho => by cases ho; exact .inr ⟨by rfl, rfl⟩) ?_
                      simp only [Act.put, List.setIfInBounds_toArray, List.set_cons_zero, List.set_cons_succ]
                      refine takeH (i := 13) (d := some 132) undef rfl (by kernel_rfl) (by kernel_rfl) (by kernel_rfl) (fun _ _ _ _ h => h) (HK.out _ HFd.out) (fun o ho => by cases ho; exact .inr ⟨by rfl, rfl⟩) ?_
                      simp only [Act.put, List.setIfInBounds_toArray, List.set_cons_zero, List.set_cons_succ]
                      refine takeH (i := 14) (d := some 133) undef rfl (by kernel_rfl) (by kernel_rfl) (by kernel_rfl) (fun _ _ _ _ h => h) (HK.out _ HFd.out) (fun o ho => by cases ho; exact .inr ⟨by rfl, rfl⟩) ?_
                      simp only [Act.put, List.setIfInBounds_toArray, List.set_cons_zero, List.set_cons_succ]
                      refine takeH (i := 15) (d := some 134) undef rfl (by kernel_rfl) (by kernel_rfl) (by kernel_rfl) (fun _ _ _ _ h => h) (HK.out _ HFd.out) (fun o ho => by cases ho; exact .inr ⟨by rfl, rfl⟩) ?_
                      simp only [Act.put, List.setIfInBounds_toArray, List.set_cons_zero, List.set_cons_succ]
                      refine takeH (i := 16) (d := some 135) (.bool false) rfl (by kernel_rfl) (by kernel_rfl) (by kernel_rfl) (fun _ _ _ _ h => h) (HK.out _ HFd.out) (fun o ho => by cases ho; exact .inl ⟨by rfl, fun w hSw => by (have hs1 := hSw; go_simp)⟩) ?_
                      simp only [Act.put, List.setIfInBounds_toArray, List.set_cons_zero, List.set_cons_succ]
                      refine takeH (i := 17) (d := some 136) (.bool false) rfl (by kernel_rfl) (by kernel_rfl) (by kernel_rfl) (fun _ _ _ _ h => h) (HK.out _ HFd.out) (fun o ho => by cases ho; exact .inl ⟨by rfl, fun w hSw => by (have hs1 := hSw; go_simp)⟩) ?_
                      simp only [Act.put, List.setIfInBounds_toArray, List.set_cons_zero, List.set_cons_succ]
                      refine takeH (i := 18) (d := some 137) (.bool false) rfl (by kernel_rfl) (by kernel_rfl) (by kernel_rfl) (fun _ _ _ _ h => h) (HK.out _ HFd.out) (fun o ho => by cases ho; exact .inl ⟨by rfl, fun w hSw => by (have hs1 := hSw; go_simp)⟩) ?_
                      simp only [Act.put, List.setIfInBounds_toArray, List.set_cons_zero, List.set_cons_succ]
                      refine takeH (i := 19) (d := some 138) (.slice (some ⟨rb, ro, none⟩) R.length rc) rfl (by kernel_rfl) (by kernel_rfl) (by kernel_rfl) (fun _ _ _ _ h => h) (HK.out _ HFd.out) (fun o ho => by cases ho; exact .inl ⟨by rfl, fun w hSw => by (have hs1 := hSw; go_simp)⟩) ?_
                      simp only [Act.put, List.setIfInBounds_toArray, List.set_cons_zero, List.set_cons_succ]
                      refine takeH (i := 20) (d := some 139) (.int .i64 (i : Int)) rfl (by kernel_rfl) (by kernel_rfl) (by kernel_rfl) (fun _ _ _ _ h => h) (HK.out _ HFd.out) (fun o ho => by cases ho; exact .inl ⟨by rfl, fun w hSw => by (have hs1 := hSw; go_simp)⟩) ?_
                      simp only [Act.put, List.setIfInBounds_toArray, List.set_cons_zero, List.set_cons_succ]
                      refine takeH (i := 21) (d := some 140) (.pointer (some ⟨rb, ro + i, none⟩)) rfl (by kernel_rfl) (by kernel_rfl) (by kernel_rfl) (fun _ _ _ _ h => h) (HK.out _ HFd.out) (fun o ho => by cases ho; exact .inl ⟨by rfl, fun w hSw => by (have hs1 := hSw; go_simp)⟩) ?_
                      simp only [Act.put, List.setIfInBounds_toArray, List.set_cons_zero, List.set_cons_succ]
                      refine takeH (i := 22) (d := some 141) (.string ⟨r.toArray⟩) rfl (by kernel_rfl) (by kernel_rfl) (by kernel_rfl) (fun _ _ _ _ h => h) (HK.out _ HFd.out) (fun o ho => by cases ho; exact .inl ⟨by rfl, fun w hSw => by (have hs1 := hSw; go_simp)⟩) ?_
                      simp only [Act.put, List.setIfInBounds_toArray, List.set_cons_zero, List.set_cons_succ]
                      refine oneH (i := 23) (by kernel_rfl) (fun o ho K' hK => ?_) (by decide)
                      cases ho
                      rw [if_pos (by rfl)]
                      go_simp
                      refine (HIs.out _).mono ?_
                      rintro e w7 ⟨rfl, f7⟩
                      have F7 : Hid (Fr (fun _ => False) w5 w7) := HFd.out.trans f7 (fun _ h => h.elim)
                      have c7 := cell_fr F7.out c0'
                      clear f7
                      refine hK.out _ _ (HK.out _ F7.out) ?_
                      clear hK K'
                      try simp only [Act.put, List.setIfInBounds_toArray, List.set_cons_zero, List.set_cons_succ]
                      refine takeH (i := 24) (d := some 143) (.bool false) rfl (by kernel_rfl) (by kernel_rfl) (by kernel_rfl) (fun _ _ _ _ h => h) (HK.out _ F7.out) (fun o ho => by cases ho; exact .inl ⟨by rfl, fun w hSw => by (have hs1 := hSw; go_simp)⟩) ?_
                      simp only [Act.put, List.setIfInBounds_toArray, List.set_cons_zero, List.set_cons_succ]
                      refine takeH (i := 25) (d := some 144) (.bool false) rfl (by kernel_rfl) (by kernel_rfl) (by kernel_rfl) (fun _ _ _ _ h => h) (HK.out _ F7.out) (fun o ho => by cases ho; exact .inl ⟨by rfl, fun w hSw => by (have hs1 := hSw; go_simp)⟩) ?_
                      simp only [Act.put, List.setIfInBounds_toArray, List.set_cons_zero, List.set_cons_succ]
                      refine wpAnyH_done (by kernel_rfl) (NoPanic.normal ?_) _
                      generalize hasB R P i = fb at *
                      cases fb with
                      | true =>
                        rw [Bool.true_or] at HHs
                        go_wp2
                        exact ⟨⟨i + 1, by omega, by go_num, by rw [HHs.out], F7.out⟩, by simp [intOf]; omega⟩
                      | false =>
                        rw [Bool.false_or] at HHs
                        cases hrP : (r == P) with
                        | true =>
                          rw [hrP] at HHs
                          go_wp2
                          exact ⟨⟨i + 1, by omega, by go_num, by rw [HHs.out], F7.out⟩, by simp [intOf]; omega⟩
                        | false =>
                          rw [hrP] at HHs
                          go_wp2
                          exact ⟨⟨i + 1, by omega, by go_num, by rw [HHs.out], F7.out⟩, by simp [intOf]; omega⟩
              · obtain rfl : i = R.length := by omega
                have hkn : ¬ ((R.length : Nat) : Int) < ((R.length : Nat) : Int) := by omega
                rw [hasB_all HPin.out]
                go_wp2
                go_ret
                exact ⟨rfl, F5.out.trans HF.out (fun _ h => h.elim)⟩

end Go.Proofs.YtipppagkajcheaaDoor.Tr
