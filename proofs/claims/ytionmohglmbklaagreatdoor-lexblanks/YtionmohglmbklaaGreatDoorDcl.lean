/- The contract of leftShift. -/
import Derived.Test.YtionmohglmbklaaGreatDoorDct
namespace Go.Proofs.YtionmohglmbklaaGreatDoor.Tr
open Go.RowKit

theorem Fr.same' {F : Nat → Prop} {a b c : World} (h : Fr F a b) (k : Fr F b c) : Fr F a c := h.trans k (fun _ h => .inl h)
/-- A decimal in block b. -/
def Dc (w : World) (b : Nat) (s : DC) : Prop := ∃ A, Dm w b A s.L.length s.dp s.tr ∧ A.take s.L.length = s.L

theorem u64w {x : Int} (h0 : 0 ≤ x) (h1 : x < 18446744073709551616) : IntKind.u64.wrap x = x := by
  unfold IntKind.wrap
  simp [IntKind.signed, IntKind.bits]
  omega
/-- A quotient and its rest, as words. -/
theorem quo_rem (N : Nat) (h : N < 18446744073709551616) : ∃ Q T R : Nat, Q = N / 10 ∧ R = N % 10 ∧ IntKind.u64.wrap ((N : Int) / 10) = (Q : Int) ∧ IntKind.u64.wrap (10 * (Q : Int)) = (T : Int) ∧ IntKind.u64.wrap ((N : Int) - (T : Int)) = (R : Int) ∧ IntKind.u64.wrap ((R : Int) + 48) % 256 = ((dig N).toNat : Int) := by
  refine ⟨N / 10, 10 * (N / 10), N % 10, rfl, rfl, ?_, ?_, ?_, ?_⟩
  · rw [u64w (by omega) (by omega)]; omega
  · rw [u64w (by omega) (by omega)]; omega
  · rw [u64w (by omega) (by omega)]; omega
  · rw [u64w (by omega) (by omega), dig_toNat]; omega

/-- The first loop's state: j digits are to be read. -/
def LS1 (w : World) (b nd : Nat) (dp : Int) (tr : Bool) (k : Nat) (L : List UInt8) (δ P : Nat) (G : List UInt8) (rv wv nv : Value) (wr : World) : Prop := ∃ (j n : Nat) (A' : List UInt8) (tr' : Bool), rv = .int .i64 ((j : Int) - 1) ∧ wv = .int .i64 ((j : Int) + (δ : Int)) ∧ nv = .int .u64 (n : Int) ∧ j ≤ nd ∧ Dm wr b A' nd dp tr' ∧ Fr (· = b) w wr ∧ n < 2 ^ k ∧ n + dval (L.take j) * 2 ^ k = P / 10 ^ (nd - j) ∧ (∀ i, i < j → A'[i]? = L[i]?) ∧ Wrt G tr A' tr' (j + δ)

/-- The second loop's state: so many digits are still to be put down. -/
def LS2 (w : World) (b nd : Nat) (dp : Int) (tr : Bool) (δ P : Nat) (G : List UInt8) (wv nv : Value) (wr : World) : Prop := ∃ (q n : Nat) (A' : List UInt8) (tr' : Bool), wv = .int .i64 (q : Int) ∧ nv = .int .u64 (n : Int) ∧ q ≤ δ ∧ Dm wr b A' nd dp tr' ∧ Fr (· = b) w wr ∧ n < 18446744073709551616 ∧ n = P / 10 ^ (nd + δ - q) ∧ Wrt G tr A' tr' q
theorem dc_end {w' : World} {b : Nat} {S : DC} {G A' : List UInt8} {tr tr' : Bool} {dp : Int} (hS : S = ⟨trimL (G.take 800), dp, tr || (G.drop 800).any (· != 48)⟩) (hW : Wrt G tr A' tr' 0) (hA : A'.length = 800) (hG : DOk (trimL (G.take 800)))
    (h : Dm w' b A' (trimN A' (min G.length 800)) (if trimN A' (min G.length 800) = 0 then 0 else dp) tr') : Dc w' b S := by
  obtain ⟨e1, e2⟩ := hW.fin
  have e3 := trimL_eq A' (min G.length 800) (by omega)
  have e4 := trimL_length A' (min G.length 800) (by omega)
  rw [e1] at e3 e4
  obtain ⟨c, r, e, _⟩ := hG.hd
  have e5 : trimN A' (min G.length 800) ≠ 0 := by
    rw [← e4, e]; simp
  subst hS
  refine ⟨A', ?_, ?_⟩
  · simp only
    rw [if_neg e5, e2, ← e4] at h
    exact h
  · simp only
    rw [e4]; exact e3

set_option maxRecDepth 100000 in
set_option maxHeartbeats 2000000 in
theorem left_any {w : World} {b : Nat} {s : DC} (h : Dc w b s) (hs : DOk s.L) (k D : Nat) (C : List UInt8) (hk : k ≤ 60) (hC : Cheat k D C) {ab ao cap : Nat} (hg : w.cell? ⟨12, 0, none⟩ = some (.slice (some ⟨ab, ao, none⟩) 61 cap))
    (hcd : w.cell? ⟨ab, ao + k * 2, none⟩ = some (.int .i64 (D : Int))) (hcc : w.cell? ⟨ab, ao + k * 2 + 1, none⟩ = some (.string ⟨C.toArray⟩)) (hdp0 : -1000000000000 ≤ s.dp) (hdp1 : s.dp ≤ 1000000000000) :
    Calls Tryz.prog 190 #[pd b, .int .u64 (k : Int)] w fun e w' => e = .returned (.tuple #[]) ∧ Fr (· = b) w w' ∧ Dc w' b (lsh k D C s) := by
  obtain ⟨A, hD, hA⟩ := h
  obtain ⟨L, dp, tr⟩ := s
  simp only at hD hA hs hdp0 hdp1 ⊢
  obtain ⟨nd, hnd⟩ : ∃ nd, nd = L.length := ⟨_, rfl⟩
  rw [← hnd] at hD hA
  have hnd8 : nd ≤ 800 := by rw [hnd]; exact hs.le
  have c0 := hD.c0
  have HPl := hid (fun m => pless_any (hD.drewN m) hnd8 C (by have := hC.cl; omega))
  rw [hA] at HPl
  have hk61 : (k : Int) < 61 := by omega
  have hk0 : (0 : Int) ≤ (k : Int) := by omega
  have hnd0 : (nd : Int) ≤ 800 := by omega
  have hnd1 : (0 : Int) ≤ (nd : Int) := by omega
  obtain ⟨δ, hδ⟩ : ∃ δ, δ = more D C L := ⟨_, rfl⟩
  obtain ⟨P, hP⟩ : ∃ P, P = dval L * 2 ^ k := ⟨_, rfl⟩
  obtain ⟨G, hG⟩ : ∃ G, G = dgs (nd + δ) P := ⟨_, rfl⟩
  have hGl : G.length = nd + δ := by rw [hG, dgs_length]
  have HUp := hid (cheat_up hC hs.dg)
  have HLo : Hid (10 ^ (nd + δ - 1) ≤ P) := by
    obtain ⟨c, r, e, hc⟩ := hs.hd
    have := cheat_lo hC (e ▸ hs.dg) hc
    rw [← e, ← hδ, ← hP] at this
    rw [e, List.length_cons] at hnd
    unfold Hid
    rw [show nd + δ - 1 = r.length + δ by omega]
    exact this
  rw [← hδ, ← hP, ← hnd] at HUp
  have HS : Hid (lsh k D C ⟨L, dp, tr⟩ = ⟨trimL (G.take 800), dp + (δ : Int), tr || (G.drop 800).any (· != 48)⟩) := by
    unfold Hid lsh lshG
    simp only
    rw [hG, hP, hδ, hnd]
  have HOk : Hid (DOk (trimL (G.take 800))) := by
    have h1 := (lsh_ok (s := ⟨L, dp, tr⟩) hC hs).1
    rw [HS.out] at h1; exact h1
  obtain ⟨S, hS⟩ : ∃ S, S = lsh k D C ⟨L, dp, tr⟩ := ⟨_, rfl⟩
  rw [← hS] at HS ⊢
  have hδ19 : δ ≤ 19 := by
    have := hC.le
    rw [hδ]; unfold more; split <;> omega
  have hpos : 1 ≤ nd := by
    obtain ⟨c, r, e, _⟩ := hs.hd
    rw [hnd, e]; simp
  have HD := hid hD
  have HN := hid hnd
  have HA := hid hA
  have HP := hid hP
  have HG := hid hG
  have HGl := hid hGl
  have HIs := hid hs.dg
  have HV := hid (val_lt hs.dg)
  have hKb : 2 ^ k ≤ 1152921504606846976 := Nat.pow_le_pow_right (n := 2) (by decide) hk
  have hDδ : (pless L C = true → D = δ + 1) ∧ (pless L C = false → D = δ) := by
    have := hC.pos
    unfold more at hδ
    refine ⟨fun e => ?_, fun e => ?_⟩
    · rw [e, if_pos rfl] at hδ; omega
    · rw [e, if_neg (by decide)] at hδ; omega
  clear hD hnd hA hP hG hGl hs hS hδ hC
  obtain ⟨K, hK⟩ : ∃ K, K = 2 ^ k := ⟨_, rfl⟩
  have HK := hid hK
  rw [← hK] at hKb
  clear hK
  cases hpl : pless L C
  all_goals
    rw [hpl] at HPl hDδ
    first
      | (have e := hDδ.1 rfl; subst e)
      | (have e := (hDδ.2 rfl).symm; subst e)
    clear hDδ hpl
    try rw [show ((δ + 1 : Nat) : Int) = (δ : Int) + 1 by omega] at hcd
    go_enter Tryz.func190, Tryz.ntmps190
    go_wp2_with fail
    go_quiet (first | (go_at_call 201; exact Calls.quiet_of (HPl.out _)))
    go_wp2_with fail
    go_loopw [5, 6, 7] (fun rv wv nv wr => LS1 w b nd dp tr k L _ P G rv wv nv wr) (fun rv _ _ _ => (intOf rv + 1).toNat)
    case atStart =>
      refine ⟨nd, 0, A, tr, rfl, rfl, rfl, Nat.le_refl _, HD.out.drewN _, (Fr.refl _ _).drewN _, Nat.pow_pos (by decide), ?_, ?_, ?_⟩
      · rw [Nat.sub_self, Nat.pow_zero, Nat.div_one, Nat.zero_add, HP.out, HN.out, List.take_length]
      · intro i hi
        rw [← HA.out, List.getElem?_take, if_pos hi]
      · rw [← HGl.out]; exact Wrt.start G tr A
    case round =>
      obtain ⟨j, n, A', tr', rfl, rfl, rfl, hj, hDm, hF, hnK, hNj, hAj, hW⟩ := hrel
      cases j with
      | zero =>
        have e1 : ((0 : Nat) : Int) - 1 = -1 := by omega
        have e2 : ((0 : Nat) : Int) + (δ : Int) = (δ : Int) := by omega
        rw [e1]
        try rw [e2]
        have HSt : Hid (LS2 w b nd dp tr δ P G (.int .i64 (δ : Int)) (.int .u64 (n : Int)) wr) := by
          refine ⟨δ, n, A', tr', rfl, rfl, Nat.le_refl _, hDm, hF, by rw [← HK.out] at hnK; omega, ?_, ?_⟩
          · rw [Nat.add_sub_cancel]
            simpa [dval] using hNj
          · rw [Nat.zero_add] at hW; exact hW
        clear hDm hF hnK hNj hAj hW hj e1 e2
        go_wp2_with fail
        have hwo : ∃ wo, wo = wr := ⟨_, rfl⟩
        obtain ⟨wo, hwo⟩ := hwo
        rw [← hwo] at HSt ⊢
        clear hwo
        go_loopw [6, 7] (fun wv nv wr => LS2 w b nd dp tr δ P G wv nv wr) (fun wv _ _ => (intOf wv).toNat)
        case atStart => exact HSt.out
        case round =>
          obtain ⟨q, n2, A2, tr2, rfl, rfl, hq, hDm, hF, hn64, hNj, hW⟩ := hrel
          by_cases hn0 : n2 = 0
          · have hq0 : q = 0 := by
              rcases Nat.eq_zero_or_pos q with e | e
              · exact e
              · exfalso
                have h1 : 10 ^ (nd + δ - q) ≤ P := Nat.le_trans (Nat.pow_le_pow_right (by decide) (by omega)) HLo.out
                have := Nat.div_pos h1 (Nat.pow_pos (by decide))
                omega
            subst hq0 hn0
            have c0 := hDm.c0
            have f0 := hDm.fz 800
            have HW := hid hW
            have HAl := hid hDm.len
            have HF := hid hF
            have HDm := hid hDm
            clear hDm hF hNj hW hq hn64 HSt
            have hEnd : ∀ W, Fr (· = b) w W → Dm W b A2 (min G.length 800) (dp + (δ : Int)) tr2 → Calls Tryz.prog 202 #[pd b] W fun e w' => e = .returned (.tuple #[]) ∧ Fr (· = b) w w' ∧ Dc w' b S := by
              intro W f1 d1
              refine (trim_any d1 (by omega)).mono ?_
              rintro e w' ⟨h1, h2, h3⟩
              exact ⟨h1, f1.same' h2, dc_end HS.out HW.out HAl.out HOk.out h3⟩
            have HEnd := hid hEnd
            clear hEnd
            have en : ((nd + δ : Nat) : Int) = (nd : Int) + (δ : Int) := by omega
            have c1 := (HDm.out.setN (nd + δ)).c1
            have f1 := (HDm.out.setN (nd + δ)).fz 801
            have c0' := (HDm.out.setN (nd + δ)).c0
            have f0' := (HDm.out.setN (nd + δ)).fz 800
            by_cases hm : nd + δ < 800
            · have hm1 : decide ((nd : Int) + (δ : Int) ≥ 800) = false := decide_eq_false (by omega)
              have hm2 : ¬ (nd : Int) + (δ : Int) ≥ 800 := by omega
              have HX : Hid (Dm ((wr.setCell ⟨b, 800, none⟩ (.int .i64 ((nd + δ : Nat) : Int))).setCell ⟨b, 801, none⟩ (.int .i64 (dp + (δ : Int)))) b A2 (min G.length 800) (dp + (δ : Int)) tr2 ∧ Fr (· = b) w ((wr.setCell ⟨b, 800, none⟩ (.int .i64 ((nd + δ : Nat) : Int))).setCell ⟨b, 801, none⟩ (.int .i64 (dp + (δ : Int))))) := by
                refine ⟨?_, (HF.out.setCell (.inl rfl) _).setCell (.inl rfl) _⟩
                have := (HDm.out.setN (nd + δ)).setP (dp + (δ : Int))
                rw [show min G.length 800 = nd + δ by have := HGl.out; omega]
                exact this
              rw [en] at HX c1 f1 c0' f0'
              clear en HDm hm
              go_wp2_with fail
              generalize (wr.setCell ⟨b, 800, none⟩ (.int .i64 ((nd : Int) + (δ : Int)))).setCell ⟨b, 801, none⟩ (.int .i64 (dp + (δ : Int))) = W at *
              refine (HEnd.out W HX.out.2 HX.out.1).mono ?_
              rintro e w' ⟨rfl, h⟩
              have HE := hid h
              clear h HEnd HX
              go_wp2
              go_end0
              exact ⟨rfl, HE.out⟩
            · have hm1 : decide ((nd : Int) + (δ : Int) ≥ 800) = true := decide_eq_true (by omega)
              have hm2 : (nd : Int) + (δ : Int) ≥ 800 := by omega
              have c2 := ((HDm.out.setN (nd + δ)).setN 800).c1
              have f2 := ((HDm.out.setN (nd + δ)).setN 800).fz 801
              have HX : Hid (Dm (((wr.setCell ⟨b, 800, none⟩ (.int .i64 ((nd + δ : Nat) : Int))).setCell ⟨b, 800, none⟩ (.int .i64 800)).setCell ⟨b, 801, none⟩ (.int .i64 (dp + (δ : Int)))) b A2 (min G.length 800) (dp + (δ : Int)) tr2 ∧ Fr (· = b) w (((wr.setCell ⟨b, 800, none⟩ (.int .i64 ((nd + δ : Nat) : Int))).setCell ⟨b, 800, none⟩ (.int .i64 800)).setCell ⟨b, 801, none⟩ (.int .i64 (dp + (δ : Int))))) := by
                refine ⟨?_, ((HF.out.setCell (.inl rfl) _).setCell (.inl rfl) _).setCell (.inl rfl) _⟩
                have := ((HDm.out.setN (nd + δ)).setN 800).setP (dp + (δ : Int))
                rw [show min G.length 800 = 800 by have := HGl.out; omega]
                exact this
              have e8 : ((800 : Nat) : Int) = 800 := rfl
              rw [e8] at c2 f2
              rw [en] at HX c1 f1 c0' f0' c2 f2
              clear en HDm hm e8
              go_wp2_with fail
              generalize ((wr.setCell ⟨b, 800, none⟩ (.int .i64 ((nd : Int) + (δ : Int)))).setCell ⟨b, 800, none⟩ (.int .i64 800)).setCell ⟨b, 801, none⟩ (.int .i64 (dp + (δ : Int))) = W at *
              refine (HEnd.out W HX.out.2 HX.out.1).mono ?_
              rintro e w' ⟨rfl, h⟩
              have HE := hid h
              clear h HEnd HX
              go_wp2
              go_end0
              exact ⟨rfl, HE.out⟩
          · obtain ⟨q, rfl⟩ : ∃ q', q = q' + 1 := by
              rcases Nat.eq_zero_or_pos q with e | e
              · exfalso
                subst e
                rw [Nat.sub_zero, Nat.div_eq_of_lt HUp.out] at hNj
                exact hn0 hNj
              · exact ⟨q - 1, by omega⟩
            obtain ⟨Q, T, R, hQ, hR, q4, q5, q6, q7⟩ := quo_rem n2 hn64
            have hdig : G[q]? = some (dig n2) := by
              rw [HG.out, dgs_get _ _ _ (by omega), show nd + δ - 1 - q = nd + δ - (q + 1) by omega, ← hNj]
            have HNext : Hid (∀ A'' tr'' W, Dm W b A'' nd dp tr'' → Fr (· = b) w W → Wrt G tr A'' tr'' q → LS2 w b nd dp tr δ P G (.int .i64 (q : Int)) (.int .u64 (Q : Int)) W) := by
              intro A'' tr'' W a1 a2 a4
              refine ⟨q, Q, A'', tr'', rfl, rfl, by omega, a1, a2, by omega, ?_, a4⟩
              rw [hQ, hNj, Nat.div_div_eq_div_mul, ← Nat.pow_succ]
              congr 2; omega
            have HDm := hid hDm
            have HFr := hid hF
            have HW := hid hW
            have HDg := hid hdig
            generalize hdN : dig n2 = xN at *
            have hxN : (xN = 48) ↔ R = 0 := by
              rw [← hdN, hR]
              constructor
              · intro e
                have := dig_toNat n2
                rw [e] at this
                have e2 : (48 : UInt8).toNat = 48 := rfl
                omega
              · intro e
                apply UInt8.toNat_inj.1
                rw [dig_toNat, e]; rfl
            have HXN := hid hxN
            have e2 : ((q + 1 : Nat) : Int) = (q : Int) + 1 := by omega
            rw [e2]
            have hn1 : (n2 : Int) > 0 := by omega
            have hn2 : decide ((n2 : Int) > 0) = true := decide_eq_true hn1
            have hq19 : (q : Int) < 20 := by omega
            have hq00 : (0 : Int) ≤ (q : Int) := by omega
            have hq8 : (q : Int) < 800 := by omega
            obtain ⟨ov, cw⟩ : ∃ ov, wr.cell? ⟨b, q, none⟩ = some ov := ⟨_, HDm.out.c q (by omega)⟩
            have fw := HDm.out.fz q
            have Hq : Hid (q < 800) := by unfold Hid; omega
            clear hDm hF hW hNj e2 hQ hR hdN hxN hdig hn0 hq hn64 HSt
            go_wp2_with fail
            refine ⟨HNext.out (A2.set q xN) tr2 _ (HDm.out.setD _ Hq.out xN) (HFr.out.setCell (.inl rfl) _) (HW.out.low HDg.out Hq.out HDm.out.len), by simp [intOf]⟩
      | succ j =>
        have e1 : ((j + 1 : Nat) : Int) - 1 = (j : Int) := by omega
        rw [e1]
        have hjl : j < L.length := by have := HN.out; omega
        have hA'l := hDm.len
        have ck : wr.cell? ⟨b, j, none⟩ = some (bv (A'[j]'(by omega))) := hDm.c j (by omega)
        have hxe : A'[j]'(by omega) = L[j] := by
          have := hAj j (by omega)
          rw [List.getElem?_eq_getElem (by omega), List.getElem?_eq_getElem hjl] at this
          exact Option.some.inj this
        rw [hxe] at ck
        have hx := HIs.out L[j] (List.getElem_mem hjl)
        have hy9 := dv_lt hx
        have hyx : (L[j].toNat : Int) = (dv L[j] : Int) + 48 := by unfold dv; omega
        unfold bv at ck
        rw [hyx] at ck
        have hst := carry_step (P := P) (X := dval (L.take j)) (n := n) (y := dv L[j]) (K := 2 ^ k) (e := nd - (j + 1)) (by
          rw [← val_snoc, ← List.take_succ_eq_append_getElem hjl]; exact hNj)
        obtain ⟨z, hzd⟩ : ∃ z, z = dv L[j] * 2 ^ k := ⟨_, rfl⟩
        have hzb : z ≤ 9 * K := by rw [hzd, HK.out]; exact Nat.mul_le_mul_right _ hy9
        have hz : IntKind.u64.wrap ((dv L[j] : Int) * 2 ^ k) = (z : Int) := by
          rw [show ((dv L[j] : Int) * 2 ^ k) = (z : Int) by rw [hzd]; simp]
          unfold IntKind.wrap
          simp [IntKind.signed, IntKind.bits]
          omega
        rw [← hzd] at hst
        rw [← HK.out] at hnK
        clear hxe hx hyx hzd
        generalize dv L[j] = y at *
        obtain ⟨N, hN⟩ : ∃ N, N = n + z := ⟨_, rfl⟩
        obtain ⟨Q, T, R, hQ, hR, q4, q5, q6, q7⟩ := quo_rem N (by omega)
        have q1 : IntKind.u64.wrap ((y : Int) + 48) = (y : Int) + 48 := u64w (by omega) (by omega)
        have q2 : IntKind.u64.wrap (y : Int) = (y : Int) := u64w (by omega) (by omega)
        have q3 : IntKind.u64.wrap ((n : Int) + (z : Int)) = (N : Int) := by rw [u64w (by omega) (by omega)]; omega
        rw [← hN] at hst
        have hdig : G[j + δ]? = some (dig N) := by
          rw [HG.out, dgs_get _ _ _ (by omega), show nd + δ - 1 - (j + δ) = nd - (j + 1) by omega]
          unfold dig
          rw [← hst.1]
        have HNext : Hid (∀ A'' tr'' W, Dm W b A'' nd dp tr'' → Fr (· = b) w W → (∀ i, i < j → A''[i]? = L[i]?) → Wrt G tr A'' tr'' (j + δ) → LS1 w b nd dp tr k L δ P G (.int .i64 ((j : Int) - 1)) (.int .i64 ((j : Int) + (δ : Int))) (.int .u64 (Q : Int)) W) := by
          intro A'' tr'' W a1 a2 a3 a4
          refine ⟨j, Q, A'', tr'', rfl, rfl, rfl, by omega, a1, a2, ?_, ?_, a3, a4⟩
          · rw [← HK.out]; omega
          · rw [hQ, show nd - j = nd - (j + 1) + 1 by omega]; exact hst.2
        have HW : Hid (Wrt G tr A' tr' (j + δ + 1)) := by
          have e : j + 1 + δ = j + δ + 1 := by omega
          rw [e] at hW; exact hW
        have HDm := hid hDm
        have HFr := hid hF
        have HAj := hid hAj
        have HDg := hid hdig
        generalize hdN : dig N = xN at *
        have hxN : (xN = 48) ↔ R = 0 := by
          rw [← hdN, hR]
          constructor
          · intro e
            have := dig_toNat N
            rw [e] at this
            have e2 : (48 : UInt8).toNat = 48 := rfl
            omega
          · intro e
            apply UInt8.toNat_inj.1
            rw [dig_toNat, e]; rfl
        have HXN := hid hxN
        have hj0 : (0 : Int) ≤ (j : Int) := by omega
        have hj8 : (j : Int) < 800 := by omega
        have e2 : ((j + 1 : Nat) : Int) + (δ : Int) = (j : Int) + (δ : Int) + 1 := by omega
        try rw [e2]
        clear hDm hF hst hAj hW hNj e1 e2 hnK hKb hy9 hzb hQ hR hdN hxN hN hdig
        by_cases hw : j + δ < 800
        · have hw1 : (j : Int) + (δ : Int) < 800 := by omega
          have hw0 : (0 : Int) ≤ (j : Int) + (δ : Int) := by omega
          obtain ⟨ov, cw⟩ : ∃ ov, wr.cell? ⟨b, j + δ, none⟩ = some ov := ⟨_, HDm.out.c (j + δ) hw⟩
          have Hw := hid hw
          have fw := HDm.out.fz (j + δ)
          have hjnd := hj
          clear hA'l hjl hj hw
          go_wp2_with fail
          refine ⟨HNext.out (A'.set (j + δ) xN) tr' _ (HDm.out.setD _ Hw.out xN) (HFr.out.setCell (.inl rfl) _) ?_ (HW.out.low HDg.out Hw.out HDm.out.len), by simp [intOf]⟩
          intro i hi
          rw [List.getElem?_set, if_neg (by omega)]
          exact HAj.out i (by omega)
        · have hw1 : ¬ (j : Int) + (δ : Int) < 800 := by omega
          have Hw := hid hw
          clear hA'l hjl hj hw
          by_cases hR0 : R = 0
          · have hR1 : ((R : Int) != 0) = false := by simp; omega
            have HT : Hid ((tr' || xN != 48) = tr') := by
              unfold Hid
              rw [HXN.out.2 hR0]; simp
            go_wp2_with fail
            refine ⟨HNext.out A' tr' _ HDm.out HFr.out (fun i hi => HAj.out i (by omega)) (by rw [← HT.out]; exact HW.out.high HDg.out (by have := Hw.out; omega)), by simp [intOf]⟩
          · have hR1 : ((R : Int) != 0) = true := by simp; omega
            have HT : Hid ((tr' || xN != 48) = true) := by
              unfold Hid
              have : xN ≠ 48 := fun e => hR0 (HXN.out.1 e)
              simp [this]
            have cw := HDm.out.c3
            have fw := HDm.out.fz 803
            go_wp2_with fail
            refine ⟨HNext.out A' true _ (HDm.out.setT true) (HFr.out.setCell (.inl rfl) _) (fun i hi => HAj.out i (by omega)) (by rw [← HT.out]; exact HW.out.high HDg.out (by have := Hw.out; omega)), by simp [intOf]⟩

end Go.Proofs.YtionmohglmbklaaGreatDoor.Tr
