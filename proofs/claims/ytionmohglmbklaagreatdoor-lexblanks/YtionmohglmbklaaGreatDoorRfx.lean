/- The contract of readFloat over a float's text with an exponent. -/
import Derived.Test.YtionmohglmbklaaGreatDoorRfl
namespace Go.Proofs.YtionmohglmbklaaGreatDoor.Tr
open Go.RowKit

set_option maxRecDepth 100000 in
set_option maxHeartbeats 4000000 in
theorem readFloat_exp (w : World) {t : List UInt8} {p q r : Nat} {sg : Int} (h : FTx t p q) (hx : EXx t q r sg) : Calls Tryz.prog 141 #[.string ⟨t.toArray⟩] w fun e w' => e = .returned (rfV (rfAt t q) t ((rfAt t q).dp + (exAt t r t.length : Int) * sg)) ∧ w' = w := by
  have HXx := hid hx
  clear hx
  have HT := hid h
  have htl := h.len
  have h0 : 0 < t.length := by have := h.pq; have := h.ql; omega
  have h1 : 1 < t.length := by have := h.pq; have := h.ql; omega
  have h2 : (2 : Int) < (t.length : Int) := by have := h.pq; have := h.ql; have := h.pos; omega
  have h2b : decide ((2 : Int) < (t.length : Int)) = true := decide_eq_true h2
  have h01 : (0 : Int) < (t.length : Int) := by omega
  have h11 : (1 : Int) < (t.length : Int) := by omega
  have hge : decide ((0 : Int) ≥ (t.length : Int)) = false := decide_eq_false (by omega)
  have hnil : decide (t = []) = false := decide_eq_false (fun e => by subst e; simp at h0)
  have hd0 := h.dg 0 h0 (by have := h.pq; omega) (by have := h.pos; omega)
  rw [dig_iff] at hd0
  have e43 : ((((ByteArray.mk t.toArray)[0]'(by simpa [ByteArray.size] using h0)).toNat : Int) == 43) = false := by rw [str_at t 0 h0]; simp; omega
  have e45 : ((((ByteArray.mk t.toArray)[0]'(by simpa [ByteArray.size] using h0)).toNat : Int) == 45) = false := by rw [str_at t 0 h0]; simp; omega
  have elo : (bits BinOp.or .u8 (((ByteArray.mk t.toArray)[1]'(by simpa [ByteArray.size] using h1)).toNat : Int) 32 == 120) = false := by
    rw [str_at t 1 h1]
    refine low_digit ?_
    by_cases e : p = 1
    · subst e; exact .inl (h.pt h1)
    · have := h.dg 1 h1 (by have := h.pq; have := h.pos; omega) (fun e' => e e'.symm)
      rw [dig_iff] at this; exact .inr this
  clear h hd0
  cases e48 : ((((ByteArray.mk t.toArray)[0]'(by simpa [ByteArray.size] using h0)).toNat : Int) == 48)
  all_goals
    go_enter Tryz.func141, Tryz.ntmps141
    go_wp2_with fail
    go_step3
    go_wp2_with (first | (go_at_call 168; refine (lower_any _ _).mono ?_; rintro e w' ⟨rfl, rfl⟩) | fail)
    go_step3
    go_wp2_with fail
    clear e43 e45 elo e48 hge hnil
    go_loopw [2, 5, 7, 9, 13, 14, 15, 16, 17] (fun mv trv iv usv dotv digv ndv nmv dpv wr => RfSt w t q mv trv iv usv dotv digv ndv nmv dpv wr) (fun _ _ iv _ _ _ _ _ _ _ => t.length + 1 - (intOf iv).toNat)
    case atStart => exact ⟨0, Nat.zero_le _, rfl, rfl, by rw [rfAt_zero]; rfl, by rw [rfAt_zero]; rfl, by rw [rfAt_zero]; rfl, by rw [rfAt_zero]; rfl, by rw [rfAt_zero]; rfl, by rw [rfAt_zero]; rfl, by rw [rfAt_zero]; rfl, rfl⟩
    case round =>
      obtain ⟨k, hk, rfl, rfl, rfl, rfl, rfl, rfl, rfl, rfl, rfl, rfl⟩ := hrel
      have hI := RI.at HT.out k hk
      by_cases hlt : k < q
      · have hkl : k < t.length := by have := HT.out.ql; omega
        have HSu := hid (rfAt_succ t k hkl)
        have hk1 : (k : Int) < (t.length : Int) := by omega
        have hk0 : (0 : Int) ≤ (k : Int) := Int.natCast_nonneg _
        have HSt := hid (str_at t k hkl)
        have hcc : (k = p ∧ t[k].toNat = 46) ∨ (k ≠ p ∧ isDig t[k] = true) := by
          by_cases e : k = p
          · subst e; exact .inl ⟨rfl, HT.out.pt hkl⟩
          · exact .inr ⟨e, HT.out.dg k hkl hlt e⟩
        obtain ⟨n1, n2, n3, n4, n5, n6, n7⟩ := hI
        generalize hsx : rfAt t k = s at *
        obtain ⟨m, tr, dot, dig, nd, nm, dp⟩ := s
        simp only at n1 n2 n3 n4 n5 n6 n7
        have HEnd : Hid (∀ mv trv dotv digv ndv nmv dpv, mv = .int .u64 ((rfAt t (k + 1)).m : Int) → trv = .bool (rfAt t (k + 1)).tr → dotv = .bool (rfAt t (k + 1)).dot → digv = .bool (rfAt t (k + 1)).dig → ndv = .int .i64 ((rfAt t (k + 1)).nd : Int) → nmv = .int .i64 ((rfAt t (k + 1)).nm : Int) → dpv = .int .i64 (rfAt t (k + 1)).dp → RfSt w t q mv trv (.int .i64 ((k : Int) + 1)) (.bool false) dotv digv ndv nmv dpv w) := by
          intro mv trv dotv digv ndv nmv dpv a1 a2 a3 a4 a5 a6 a7
          exact ⟨k + 1, hlt, rfl, rfl, a1, a2, a3, a4, a5, a6, a7, rfl⟩
        rw [HSu.out] at HEnd
        clear HSu hsx
        generalize t[k] = c at *
        rcases hcc with ⟨rfl, hc⟩ | ⟨hne, hc⟩
        · have ed : dot = false := by rw [n6]; simp
          subst ed
          have e95 : ((((ByteArray.mk t.toArray)[k]'(by simpa [ByteArray.size] using hkl)).toNat : Int) == 95) = false := by rw [HSt.out, hc]; decide
          have e46 : ((((ByteArray.mk t.toArray)[k]'(by simpa [ByteArray.size] using hkl)).toNat : Int) == 46) = true := by rw [HSt.out, hc]; decide
          clear n6
          have hst : rfStep ⟨m, tr, false, dig, nd, nm, dp⟩ c = rfP ⟨m, tr, false, dig, nd, nm, dp⟩ := by
            unfold rfStep; rw [if_pos hc]
          rw [hst] at HEnd
          clear hst
          go_wp2_with fail
          exact ⟨HEnd.out _ _ _ _ _ _ _ rfl rfl rfl rfl rfl rfl rfl, by simp [intOf]; omega⟩
        · rw [dig_iff] at hc
          have e95 : ((((ByteArray.mk t.toArray)[k]'(by simpa [ByteArray.size] using hkl)).toNat : Int) == 95) = false := by rw [HSt.out]; simp; omega
          have e46 : ((((ByteArray.mk t.toArray)[k]'(by simpa [ByteArray.size] using hkl)).toNat : Int) == 46) = false := by rw [HSt.out]; simp; omega
          have d48 : (48 : Int) ≤ (((ByteArray.mk t.toArray)[k]'(by simpa [ByteArray.size] using hkl)).toNat : Int) := by rw [HSt.out]; omega
          have d57 : (((ByteArray.mk t.toArray)[k]'(by simpa [ByteArray.size] using hkl)).toNat : Int) ≤ 57 := by rw [HSt.out]; omega
          have hm19 := fun h => pow_le18 n3 h
          clear n3 n6 n7 hne
          by_cases hz : c.toNat = 48 ∧ nd = 0
          · obtain ⟨hz1, rfl⟩ := hz
            have e48 : ((((ByteArray.mk t.toArray)[k]'(by simpa [ByteArray.size] using hkl)).toNat : Int) == 48) = true := by rw [HSt.out, hz1]; decide
            have hst : rfStep ⟨m, tr, dot, dig, 0, nm, dp⟩ c = rfZ ⟨m, tr, dot, dig, 0, nm, dp⟩ := by
              unfold rfStep
              rw [if_neg (by omega)]
              unfold rfD
              rw [if_pos ⟨hz1, rfl⟩]
            rw [hst] at HEnd
            clear hst hm19
            go_wp2_with fail
            exact ⟨HEnd.out _ _ _ _ _ _ _ rfl rfl rfl rfl rfl rfl rfl, by simp [intOf]; omega⟩
          by_cases hnm : nm < 19
          · have hmm := hm19 hnm
            have hnm' : decide ((nm : Int) < 19) = true := decide_eq_true (by omega)
            have hnm2 : (nm : Int) < 19 := by omega
            have hst : rfStep ⟨m, tr, dot, dig, nd, nm, dp⟩ c = rfM ⟨m, tr, dot, dig, nd, nm, dp⟩ c := by
              unfold rfStep
              rw [if_neg (by omega)]
              unfold rfD
              rw [if_neg hz, if_pos hnm]
            rw [hst] at HEnd
            clear hst hm19
            have HC := hid HSt.out
            by_cases h48 : c.toNat = 48
            · have e48 : ((((ByteArray.mk t.toArray)[k]'(by simpa [ByteArray.size] using hkl)).toNat : Int) == 48) = true := by rw [HSt.out, h48]; decide
              have nd0 : ((nd : Int) == 0) = false := by simp; omega
              have nd1 : ¬ nd = 0 := by omega
              clear hz
              go_wp2_with fail
              refine ⟨HEnd.out _ _ _ _ _ _ _ ?_ rfl rfl rfl rfl rfl rfl, by simp [intOf]; omega⟩
              rw [HC.out]; simp only [rfM]; congr 1; omega
            · have e48 : ((((ByteArray.mk t.toArray)[k]'(by simpa [ByteArray.size] using hkl)).toNat : Int) == 48) = false := by rw [HSt.out]; simp; omega
              clear hz
              go_wp2_with fail
              refine ⟨HEnd.out _ _ _ _ _ _ _ ?_ rfl rfl rfl rfl rfl rfl, by simp [intOf]; omega⟩
              rw [HC.out]; simp only [rfM]; congr 1; omega
          · have hnm' : decide ((nm : Int) < 19) = false := decide_eq_false (by omega)
            have hnm2 : ¬ (nm : Int) < 19 := by omega
            have hst : rfStep ⟨m, tr, dot, dig, nd, nm, dp⟩ c = rfT ⟨m, tr, dot, dig, nd, nm, dp⟩ c := by
              unfold rfStep
              rw [if_neg (by omega)]
              unfold rfD
              rw [if_neg hz, if_neg hnm]
            rw [hst] at HEnd
            clear hst hm19
            by_cases h48 : c.toNat = 48
            · have e48 : ((((ByteArray.mk t.toArray)[k]'(by simpa [ByteArray.size] using hkl)).toNat : Int) == 48) = true := by rw [HSt.out, h48]; decide
              have e48' : ((((ByteArray.mk t.toArray)[k]'(by simpa [ByteArray.size] using hkl)).toNat : Int) != 48) = false := by rw [HSt.out, h48]; decide
              have nd0 : ((nd : Int) == 0) = false := by simp; omega
              have nd1 : ¬ nd = 0 := by omega
              clear hz
              go_wp2_with fail
              refine ⟨HEnd.out _ _ _ _ _ _ _ rfl ?_ rfl rfl rfl rfl rfl, by simp [intOf]; omega⟩
              have : c = 48 := UInt8.toNat_inj.1 h48
              simp [rfT, this]
            · have e48 : ((((ByteArray.mk t.toArray)[k]'(by simpa [ByteArray.size] using hkl)).toNat : Int) == 48) = false := by rw [HSt.out]; simp; omega
              have e48' : ((((ByteArray.mk t.toArray)[k]'(by simpa [ByteArray.size] using hkl)).toNat : Int) != 48) = true := by rw [HSt.out]; simp; omega
              clear hz
              go_wp2_with fail
              refine ⟨HEnd.out _ _ _ _ _ _ _ rfl ?_ rfl rfl rfl rfl rfl, by simp [intOf]; omega⟩
              have : c ≠ 48 := fun e => h48 (by rw [e]; rfl)
              simp [rfT, this]
      · obtain rfl : k = q := by omega
        obtain ⟨n1, n2, n3, n4, n5, n6, n7⟩ := hI
        have hpq := HT.out.pq
        have hdig : (rfAt t k).dig = true := by rw [n7]; simp; omega
        have hdot : (rfAt t k).dot = true := by rw [n6]; simp; omega
        generalize hsx : rfAt t k = s at *
        have HSx := hid hsx
        clear hsx
        obtain ⟨m, tr, dot, dig, nd, nm, dp⟩ := s
        simp only at n1 n2 n3 n4 n5 hdig hdot
        subst hdig hdot
        have hmm := pow_le19 n3 n1
        clear n3 n6 n7 hlt hpq
        have hql : k < t.length := HXx.out.ql
        have hk1 : (k : Int) < (t.length : Int) := by omega
        have hk0 : (0 : Int) ≤ (k : Int) := Int.natCast_nonneg _
        have e95 : ((((ByteArray.mk t.toArray)[k]'(by simpa [ByteArray.size] using hql)).toNat : Int) == 95) = false := by rw [str_at t k hql]; have := HXx.out.e hql; simp; omega
        have e46 : ((((ByteArray.mk t.toArray)[k]'(by simpa [ByteArray.size] using hql)).toNat : Int) == 46) = false := by rw [str_at t k hql]; have := HXx.out.e hql; simp; omega
        have d57 : decide ((((ByteArray.mk t.toArray)[k]'(by simpa [ByteArray.size] using hql)).toNat : Int) ≤ 57) = false := by rw [str_at t k hql]; have := HXx.out.e hql; exact decide_eq_false (by omega)
        have d57' : ¬ ((((ByteArray.mk t.toArray)[k]'(by simpa [ByteArray.size] using hql)).toNat : Int) ≤ 57) := by rw [str_at t k hql]; have := HXx.out.e hql; omega
        have elow : (bits BinOp.or .u8 (((ByteArray.mk t.toArray)[k]'(by simpa [ByteArray.size] using hql)).toNat : Int) 32 == 101) = true := by rw [str_at t k hql]; exact low_e (HXx.out.e hql)
        have hq2 : k + 1 < t.length := by rcases HXx.out.rq with ⟨e, _⟩ | ⟨e, _⟩ | ⟨e, _⟩ <;> have := HXx.out.rl <;> omega
        have hq1 : ¬ ((k : Int) + 1 ≥ (t.length : Int)) := by omega
        have hq1' : decide ((k : Int) + 1 ≥ (t.length : Int)) = false := decide_eq_false hq1
        have hq3 : (k : Int) + 1 < (t.length : Int) := by omega
        have HDG := hid HXx.out.dg
        have HRL := hid HXx.out.rl
        have HEX := hid (fun i hi hl => exAt_le HXx.out.dg i hi hl)
        rcases HXx.out.rq with ⟨rfl, rfl, hs⟩ | ⟨rfl, rfl, hs⟩ | ⟨rfl, rfl, hs⟩
        · have f43 : ((((ByteArray.mk t.toArray)[k + 1]'(by simpa [ByteArray.size] using hq2)).toNat : Int) == 43) = false := by rw [str_at t (k + 1) hq2]; have := hs hq2; rw [dig_iff] at this; simp; omega
          have f45 : ((((ByteArray.mk t.toArray)[k + 1]'(by simpa [ByteArray.size] using hq2)).toNat : Int) == 45) = false := by rw [str_at t (k + 1) hq2]; have := hs hq2; rw [dig_iff] at this; simp; omega
          have g48 : (48 : Int) ≤ (((ByteArray.mk t.toArray)[k + 1]'(by simpa [ByteArray.size] using hq2)).toNat : Int) := by rw [str_at t (k + 1) hq2]; have := hs hq2; rw [dig_iff] at this; omega
          have g57 : (((ByteArray.mk t.toArray)[k + 1]'(by simpa [ByteArray.size] using hq2)).toNat : Int) ≤ 57 := by rw [str_at t (k + 1) hq2]; have := hs hq2; rw [dig_iff] at this; omega
          go_wp2_with (first | (go_at_call 168; refine (lower_any _ _).mono ?_; rintro e w' ⟨rfl, rfl⟩) | fail)
          clear e95 e46 d57 d57' elow hq1 hq1' f43 f45 g48 g57
          go_loopw [7, 9, 20] (fun iv usv ev wr => ∃ i : Nat, k + 1 ≤ i ∧ i ≤ t.length ∧ iv = .int .i64 (i : Int) ∧ usv = .bool false ∧ ev = .int .i64 (exAt t (k + 1) i : Int) ∧ w = wr) (fun iv _ _ _ => t.length + 1 - (intOf iv).toNat)
          case atStart => exact ⟨k + 1, Nat.le_refl _, Nat.le_of_lt HRL.out, rfl, rfl, by rw [exAt_self]; rfl, rfl⟩
          case round =>
            obtain ⟨i, hri, hil, rfl, rfl, rfl, rfl⟩ := hrel
            have hex := HEX.out i hri hil
            have hi0 : (0 : Int) ≤ (i : Int) := Int.natCast_nonneg _
            by_cases hlt : i < t.length
            · have hi1 : (i : Int) < (t.length : Int) := by omega
              have HSt := hid (str_at t i hlt)
              have HSu := hid (exAt_succ t (k + 1) i hri hlt)
              have hc := HDG.out i hlt hri
              rw [dig_iff] at hc
              generalize exAt t (k + 1) i = ex at *
              have j95 : ((((ByteArray.mk t.toArray)[i]'(by simpa [ByteArray.size] using hlt)).toNat : Int) == 95) = false := by rw [HSt.out]; simp; omega
              have j48 : (48 : Int) ≤ (((ByteArray.mk t.toArray)[i]'(by simpa [ByteArray.size] using hlt)).toNat : Int) := by rw [HSt.out]; omega
              have j57 : (((ByteArray.mk t.toArray)[i]'(by simpa [ByteArray.size] using hlt)).toNat : Int) ≤ 57 := by rw [HSt.out]; omega
              by_cases hx4 : ex < 10000
              · have hx4' : (ex : Int) < 10000 := by omega
                have hxd : decide ((ex : Int) < 10000) = true := decide_eq_true hx4'
                go_wp2_with fail
                refine ⟨⟨i + 1, by omega, by omega, rfl, rfl, ?_, by first | rfl | trivial⟩, by simp [intOf]; omega⟩
                rw [HSu.out, HSt.out]; unfold exS; rw [if_pos hx4]; congr 1; omega
              · have hx4' : ¬ (ex : Int) < 10000 := by omega
                have hxd : decide ((ex : Int) < 10000) = false := decide_eq_false hx4'
                go_wp2_with fail
                refine ⟨⟨i + 1, by omega, by omega, rfl, rfl, ?_, by first | rfl | trivial⟩, by simp [intOf]; omega⟩
                rw [HSu.out]; unfold exS; rw [if_neg hx4]
            · obtain rfl : i = t.length := by omega
              generalize hxe : exAt t (k + 1) t.length = ex at *
              have HXe := hid hxe
              clear hxe
              have hex0 : (0 : Int) ≤ (ex : Int) := Int.natCast_nonneg _
              have hex1 : (ex : Int) ≤ 100000 := by omega
              clear hex
              by_cases hm0 : m = 0
              · subst hm0
                go_wp2_with fail
                try rw [Exit.noGoto_ret]
                exact bodyPost_ret (results7 rfl rfl rfl rfl rfl rfl rfl rfl) rfl ⟨by rw [HSx.out]; rfl, by first | rfl | trivial⟩
              · have hm1 : ((m : Int) != 0) = true := by simp; omega
                go_wp2_with fail
                try rw [Exit.noGoto_ret]
                refine bodyPost_ret (results7 rfl rfl rfl rfl rfl rfl rfl rfl) rfl ⟨?_, by first | rfl | trivial⟩
                rw [HSx.out, HXe.out]
                unfold rfV
                rw [if_neg hm0]
                have eq7 : ∀ a b : Int, a = b → Ending.returned (.tuple #[.int .u64 (m : Int), .int .i64 a, .bool false, .bool tr, .bool false, .int .i64 (t.length : Int), .bool true]) = Ending.returned (.tuple #[.int .u64 (m : Int), .int .i64 b, .bool false, .bool tr, .bool false, .int .i64 (t.length : Int), .bool true]) := by
                  rintro a _ rfl; rfl
                exact eq7 _ _ (by first | omega | (dsimp only; omega))
        · have hr2 : k + 1 + 1 < t.length := HRL.out
          have hr2' : (k : Int) + 1 + 1 < (t.length : Int) := by omega
          have hr3 : ¬ ((k : Int) + 1 + 1 ≥ (t.length : Int)) := by omega
          have hr3' : decide ((k : Int) + 1 + 1 ≥ (t.length : Int)) = false := decide_eq_false hr3
          have hdd := HDG.out (k + 1 + 1) hr2 (Nat.le_refl _)
          rw [dig_iff] at hdd
          have f43 : ((((ByteArray.mk t.toArray)[k + 1]'(by simpa [ByteArray.size] using hq2)).toNat : Int) == 43) = true := by rw [str_at t (k + 1) hq2, hs hq2]; decide
          have f45 : ((((ByteArray.mk t.toArray)[k + 1]'(by simpa [ByteArray.size] using hq2)).toNat : Int) == 45) = false := by rw [str_at t (k + 1) hq2, hs hq2]; decide
          have g48 : (48 : Int) ≤ (((ByteArray.mk t.toArray)[k + 1 + 1]'(by simpa [ByteArray.size] using hr2)).toNat : Int) := by rw [str_at t (k + 1 + 1) hr2]; omega
          have g57 : (((ByteArray.mk t.toArray)[k + 1 + 1]'(by simpa [ByteArray.size] using hr2)).toNat : Int) ≤ 57 := by rw [str_at t (k + 1 + 1) hr2]; omega
          clear hdd
          go_wp2_with (first | (go_at_call 168; refine (lower_any _ _).mono ?_; rintro e w' ⟨rfl, rfl⟩) | fail)
          clear e95 e46 d57 d57' elow hq1 hq1' f43 f45 g48 g57
          go_loopw [7, 9, 20] (fun iv usv ev wr => ∃ i : Nat, k + 1 + 1 ≤ i ∧ i ≤ t.length ∧ iv = .int .i64 (i : Int) ∧ usv = .bool false ∧ ev = .int .i64 (exAt t (k + 1 + 1) i : Int) ∧ w = wr) (fun iv _ _ _ => t.length + 1 - (intOf iv).toNat)
          case atStart => exact ⟨k + 1 + 1, Nat.le_refl _, Nat.le_of_lt HRL.out, rfl, rfl, by rw [exAt_self]; rfl, rfl⟩
          case round =>
            obtain ⟨i, hri, hil, rfl, rfl, rfl, rfl⟩ := hrel
            have hex := HEX.out i hri hil
            have hi0 : (0 : Int) ≤ (i : Int) := Int.natCast_nonneg _
            by_cases hlt : i < t.length
            · have hi1 : (i : Int) < (t.length : Int) := by omega
              have HSt := hid (str_at t i hlt)
              have HSu := hid (exAt_succ t (k + 1 + 1) i hri hlt)
              have hc := HDG.out i hlt hri
              rw [dig_iff] at hc
              generalize exAt t (k + 1 + 1) i = ex at *
              have j95 : ((((ByteArray.mk t.toArray)[i]'(by simpa [ByteArray.size] using hlt)).toNat : Int) == 95) = false := by rw [HSt.out]; simp; omega
              have j48 : (48 : Int) ≤ (((ByteArray.mk t.toArray)[i]'(by simpa [ByteArray.size] using hlt)).toNat : Int) := by rw [HSt.out]; omega
              have j57 : (((ByteArray.mk t.toArray)[i]'(by simpa [ByteArray.size] using hlt)).toNat : Int) ≤ 57 := by rw [HSt.out]; omega
              by_cases hx4 : ex < 10000
              · have hx4' : (ex : Int) < 10000 := by omega
                have hxd : decide ((ex : Int) < 10000) = true := decide_eq_true hx4'
                go_wp2_with fail
                refine ⟨⟨i + 1, by omega, by omega, rfl, rfl, ?_, by first | rfl | trivial⟩, by simp [intOf]; omega⟩
                rw [HSu.out, HSt.out]; unfold exS; rw [if_pos hx4]; congr 1; omega
              · have hx4' : ¬ (ex : Int) < 10000 := by omega
                have hxd : decide ((ex : Int) < 10000) = false := decide_eq_false hx4'
                go_wp2_with fail
                refine ⟨⟨i + 1, by omega, by omega, rfl, rfl, ?_, by first | rfl | trivial⟩, by simp [intOf]; omega⟩
                rw [HSu.out]; unfold exS; rw [if_neg hx4]
            · obtain rfl : i = t.length := by omega
              generalize hxe : exAt t (k + 1 + 1) t.length = ex at *
              have HXe := hid hxe
              clear hxe
              have hex0 : (0 : Int) ≤ (ex : Int) := Int.natCast_nonneg _
              have hex1 : (ex : Int) ≤ 100000 := by omega
              clear hex
              by_cases hm0 : m = 0
              · subst hm0
                go_wp2_with fail
                try rw [Exit.noGoto_ret]
                exact bodyPost_ret (results7 rfl rfl rfl rfl rfl rfl rfl rfl) rfl ⟨by rw [HSx.out]; rfl, by first | rfl | trivial⟩
              · have hm1 : ((m : Int) != 0) = true := by simp; omega
                go_wp2_with fail
                try rw [Exit.noGoto_ret]
                refine bodyPost_ret (results7 rfl rfl rfl rfl rfl rfl rfl rfl) rfl ⟨?_, by first | rfl | trivial⟩
                rw [HSx.out, HXe.out]
                unfold rfV
                rw [if_neg hm0]
                have eq7 : ∀ a b : Int, a = b → Ending.returned (.tuple #[.int .u64 (m : Int), .int .i64 a, .bool false, .bool tr, .bool false, .int .i64 (t.length : Int), .bool true]) = Ending.returned (.tuple #[.int .u64 (m : Int), .int .i64 b, .bool false, .bool tr, .bool false, .int .i64 (t.length : Int), .bool true]) := by
                  rintro a _ rfl; rfl
                exact eq7 _ _ (by first | omega | (dsimp only; omega))
        · have hr2 : k + 1 + 1 < t.length := HRL.out
          have hr2' : (k : Int) + 1 + 1 < (t.length : Int) := by omega
          have hr3 : ¬ ((k : Int) + 1 + 1 ≥ (t.length : Int)) := by omega
          have hr3' : decide ((k : Int) + 1 + 1 ≥ (t.length : Int)) = false := decide_eq_false hr3
          have hdd := HDG.out (k + 1 + 1) hr2 (Nat.le_refl _)
          rw [dig_iff] at hdd
          have f43 : ((((ByteArray.mk t.toArray)[k + 1]'(by simpa [ByteArray.size] using hq2)).toNat : Int) == 43) = false := by rw [str_at t (k + 1) hq2, hs hq2]; decide
          have f45 : ((((ByteArray.mk t.toArray)[k + 1]'(by simpa [ByteArray.size] using hq2)).toNat : Int) == 45) = true := by rw [str_at t (k + 1) hq2, hs hq2]; decide
          have g48 : (48 : Int) ≤ (((ByteArray.mk t.toArray)[k + 1 + 1]'(by simpa [ByteArray.size] using hr2)).toNat : Int) := by rw [str_at t (k + 1 + 1) hr2]; omega
          have g57 : (((ByteArray.mk t.toArray)[k + 1 + 1]'(by simpa [ByteArray.size] using hr2)).toNat : Int) ≤ 57 := by rw [str_at t (k + 1 + 1) hr2]; omega
          clear hdd
          go_wp2_with (first | (go_at_call 168; refine (lower_any _ _).mono ?_; rintro e w' ⟨rfl, rfl⟩) | fail)
          clear e95 e46 d57 d57' elow hq1 hq1' f43 f45 g48 g57
          go_loopw [7, 9, 20] (fun iv usv ev wr => ∃ i : Nat, k + 1 + 1 ≤ i ∧ i ≤ t.length ∧ iv = .int .i64 (i : Int) ∧ usv = .bool false ∧ ev = .int .i64 (exAt t (k + 1 + 1) i : Int) ∧ w = wr) (fun iv _ _ _ => t.length + 1 - (intOf iv).toNat)
          case atStart => exact ⟨k + 1 + 1, Nat.le_refl _, Nat.le_of_lt HRL.out, rfl, rfl, by rw [exAt_self]; rfl, rfl⟩
          case round =>
            obtain ⟨i, hri, hil, rfl, rfl, rfl, rfl⟩ := hrel
            have hex := HEX.out i hri hil
            have hi0 : (0 : Int) ≤ (i : Int) := Int.natCast_nonneg _
            by_cases hlt : i < t.length
            · have hi1 : (i : Int) < (t.length : Int) := by omega
              have HSt := hid (str_at t i hlt)
              have HSu := hid (exAt_succ t (k + 1 + 1) i hri hlt)
              have hc := HDG.out i hlt hri
              rw [dig_iff] at hc
              generalize exAt t (k + 1 + 1) i = ex at *
              have j95 : ((((ByteArray.mk t.toArray)[i]'(by simpa [ByteArray.size] using hlt)).toNat : Int) == 95) = false := by rw [HSt.out]; simp; omega
              have j48 : (48 : Int) ≤ (((ByteArray.mk t.toArray)[i]'(by simpa [ByteArray.size] using hlt)).toNat : Int) := by rw [HSt.out]; omega
              have j57 : (((ByteArray.mk t.toArray)[i]'(by simpa [ByteArray.size] using hlt)).toNat : Int) ≤ 57 := by rw [HSt.out]; omega
              by_cases hx4 : ex < 10000
              · have hx4' : (ex : Int) < 10000 := by omega
                have hxd : decide ((ex : Int) < 10000) = true := decide_eq_true hx4'
                go_wp2_with fail
                refine ⟨⟨i + 1, by omega, by omega, rfl, rfl, ?_, by first | rfl | trivial⟩, by simp [intOf]; omega⟩
                rw [HSu.out, HSt.out]; unfold exS; rw [if_pos hx4]; congr 1; omega
              · have hx4' : ¬ (ex : Int) < 10000 := by omega
                have hxd : decide ((ex : Int) < 10000) = false := decide_eq_false hx4'
                go_wp2_with fail
                refine ⟨⟨i + 1, by omega, by omega, rfl, rfl, ?_, by first | rfl | trivial⟩, by simp [intOf]; omega⟩
                rw [HSu.out]; unfold exS; rw [if_neg hx4]
            · obtain rfl : i = t.length := by omega
              generalize hxe : exAt t (k + 1 + 1) t.length = ex at *
              have HXe := hid hxe
              clear hxe
              have hex0 : (0 : Int) ≤ (ex : Int) := Int.natCast_nonneg _
              have hex1 : (ex : Int) ≤ 100000 := by omega
              clear hex
              by_cases hm0 : m = 0
              · subst hm0
                go_wp2_with fail
                try rw [Exit.noGoto_ret]
                exact bodyPost_ret (results7 rfl rfl rfl rfl rfl rfl rfl rfl) rfl ⟨by rw [HSx.out]; rfl, by first | rfl | trivial⟩
              · have hm1 : ((m : Int) != 0) = true := by simp; omega
                go_wp2_with fail
                try rw [Exit.noGoto_ret]
                refine bodyPost_ret (results7 rfl rfl rfl rfl rfl rfl rfl rfl) rfl ⟨?_, by first | rfl | trivial⟩
                rw [HSx.out, HXe.out]
                unfold rfV
                rw [if_neg hm0]
                have eq7 : ∀ a b : Int, a = b → Ending.returned (.tuple #[.int .u64 (m : Int), .int .i64 a, .bool false, .bool tr, .bool false, .int .i64 (t.length : Int), .bool true]) = Ending.returned (.tuple #[.int .u64 (m : Int), .int .i64 b, .bool false, .bool tr, .bool false, .int .i64 (t.length : Int), .bool true]) := by
                  rintro a _ rfl; rfl
                exact eq7 _ _ (by first | omega | (dsimp only; omega))

end Go.Proofs.YtionmohglmbklaaGreatDoor.Tr
