/- The contract of readFloat over a float's text. -/
import Derived.Test.YtionmohglmbklaaGreatDoorFPl
import Derived.Test.YtionmohglmbklaaGreatDoorRdr
import Derived.WalkMore
namespace Go.Proofs.YtionmohglmbklaaGreatDoor.Tr
open Go.RowKit

set_option maxRecDepth 100000 in
theorem lower_any (w : World) (n : Int) : Calls Tryz.prog 168 #[.int .u8 n] w fun e w' => e = .returned (.int .u8 (bits BinOp.or .u8 n 32)) ∧ w = w' := by
  go_enter Tryz.func168, Tryz.ntmps168
  go_wp2
  go_ret
  exact ⟨rfl, rfl⟩
theorem low_digit {n : Nat} (h : n = 46 ∨ (48 ≤ n ∧ n ≤ 57)) : (bits BinOp.or .u8 (n : Int) 32 == 120) = false := by
  have : n = 46 ∨ n = 48 ∨ n = 49 ∨ n = 50 ∨ n = 51 ∨ n = 52 ∨ n = 53 ∨ n = 54 ∨ n = 55 ∨ n = 56 ∨ n = 57 := by omega
  rcases this with rfl | rfl | rfl | rfl | rfl | rfl | rfl | rfl | rfl | rfl | rfl <;> decide +kernel
theorem low_e {n : Nat} (h : n = 101 ∨ n = 69) : (bits BinOp.or .u8 (n : Int) 32 == 101) = true := by
  rcases h with rfl | rfl <;> decide +kernel

/-- Where an exponent stands, where its digits begin, and its sign. -/
structure EXx (t : List UInt8) (q r : Nat) (sg : Int) : Prop where
  ql : q < t.length
  e : ∀ h : q < t.length, t[q].toNat = 101 ∨ t[q].toNat = 69
  rq : (r = q + 1 ∧ sg = 1 ∧ ∀ h : q + 1 < t.length, isDig t[q + 1] = true) ∨ (r = q + 1 + 1 ∧ sg = 1 ∧ ∀ h : q + 1 < t.length, t[q + 1].toNat = 43) ∨ (r = q + 1 + 1 ∧ sg = -1 ∧ ∀ h : q + 1 < t.length, t[q + 1].toNat = 45)
  rl : r < t.length
  dg : ∀ k (h : k < t.length), r ≤ k → isDig t[k] = true

def rfV (s : RF) (t : List UInt8) (dp : Int) : Value := .tuple #[.int .u64 (s.m : Int), .int .i64 (if s.m = 0 then 0 else dp - (s.nm : Int)), .bool false, .bool s.tr, .bool false, .int .i64 (t.length : Int), .bool true]

/-- The loop's state. -/
def RfSt (w : World) (t : List UInt8) (q : Nat) (mv trv iv usv dotv digv ndv nmv dpv : Value) (wr : World) : Prop := ∃ k : Nat, k ≤ q ∧ iv = .int .i64 (k : Int) ∧ usv = .bool false ∧ mv = .int .u64 ((rfAt t k).m : Int) ∧ trv = .bool (rfAt t k).tr ∧ dotv = .bool (rfAt t k).dot ∧ digv = .bool (rfAt t k).dig ∧ ndv = .int .i64 ((rfAt t k).nd : Int) ∧ nmv = .int .i64 ((rfAt t k).nm : Int) ∧ dpv = .int .i64 (rfAt t k).dp ∧ w = wr

theorem results7 {fn : Func} {t1 t2 t3 t4 t5 t6 t7 : Tmp} (h : fn.results = #[.tmp t1, .tmp t2, .tmp t3, .tmp t4, .tmp t5, .tmp t6, .tmp t7]) {tmps : Array Value} {W : World} {v1 v2 v3 v4 v5 v6 v7 : Value} (h1 : tmps.getD t1 undef = v1) (h2 : tmps.getD t2 undef = v2) (h3 : tmps.getD t3 undef = v3) (h4 : tmps.getD t4 undef = v4) (h5 : tmps.getD t5 undef = v5) (h6 : tmps.getD t6 undef = v6) (h7 : tmps.getD t7 undef = v7) :
    (results fn tmps).run Tryz.prog W = .ok (.tuple #[v1, v2, v3, v4, v5, v6, v7]) W := by
  have e1 : tmps[t1]?.getD undef = v1 := by simpa using h1
  have e2 : tmps[t2]?.getD undef = v2 := by simpa using h2
  have e3 : tmps[t3]?.getD undef = v3 := by simpa using h3
  have e4 : tmps[t4]?.getD undef = v4 := by simpa using h4
  have e5 : tmps[t5]?.getD undef = v5 := by simpa using h5
  have e6 : tmps[t6]?.getD undef = v6 := by simpa using h6
  have e7 : tmps[t7]?.getD undef = v7 := by simpa using h7
  simp [results, h, e1, e2, e3, e4, e5, e6, e7, go_sem]

set_option maxRecDepth 100000 in
set_option maxHeartbeats 4000000 in
theorem readFloat_plain (w : World) {t : List UInt8} {p : Nat} (h : FTx t p t.length) : Calls Tryz.prog 141 #[.string ⟨t.toArray⟩] w fun e w' => e = .returned (rfV (rfAt t t.length) t (rfAt t t.length).dp) ∧ w' = w := by
  have HT := hid h
  have htl := h.len
  have h0 : 0 < t.length := by have := h.pq; have := h.ql; omega
  have h1 : 1 < t.length := by have := h.pq; have := h.ql; omega
  have h2 : (2 : Int) < (t.length : Int) := by have := h.pq; have := h.ql; have := h.pos; omega
  have h2b : decide ((2 : Int) < (t.length : Int)) = true := decide_eq_true h2
  have h01 : (0 : Int) < (t.length : Int) := by omega
  have h11 : (1 : Int) < (t.length : Int) := by omega
  have hge : decide ((0 : Int) ≥ (t.length : Int)) = false := decide_eq_false (by omega)
  have hnil : decide (t = []) = false := decide_eq_false (fun e => by subst e; simp at h0)
  have hd0 := h.dg 0 h0 (by have := h.pq; omega) (by have := h.pos; omega)
  rw [dig_iff] at hd0
  have e43 : ((((ByteArray.mk t.toArray)[0]'(by simpa [ByteArray.size] using h0)).toNat : Int) == 43) = false := by rw [str_at t 0 h0]; simp; omega
  have e45 : ((((ByteArray.mk t.toArray)[0]'(by simpa [ByteArray.size] using h0)).toNat : Int) == 45) = false := by rw [str_at t 0 h0]; simp; omega
  have elo : (bits BinOp.or .u8 (((ByteArray.mk t.toArray)[1]'(by simpa [ByteArray.size] using h1)).toNat : Int) 32 == 120) = false := by
    rw [str_at t 1 h1]
    refine low_digit ?_
    by_cases e : p = 1
    · subst e; exact .inl (h.pt h1)
    · have := h.dg 1 h1 (by have := h.pq; have := h.pos; omega) (fun e' => e e'.symm)
      rw [dig_iff] at this; exact .inr this
  clear h hd0
  cases e48 : ((((ByteArray.mk t.toArray)[0]'(by simpa [ByteArray.size] using h0)).toNat : Int) == 48)
  all_goals
    go_enter Tryz.func141, Tryz.ntmps141
    go_wp2_with fail
    go_step3
    go_wp2_with (first | (go_at_call 168; refine (lower_any _ _).mono ?_; rintro e w' ⟨rfl, rfl⟩) | fail)
    go_step3
    go_wp2_with fail
    clear e43 e45 elo e48 hge hnil
    go_loopw [2, 5, 7, 9, 13, 14, 15, 16, 17] (fun mv trv iv usv dotv digv ndv nmv dpv wr => RfSt w t t.length mv trv iv usv dotv digv ndv nmv dpv wr) (fun _ _ iv _ _ _ _ _ _ _ => t.length + 1 - (intOf iv).toNat)
    case atStart => exact ⟨0, Nat.zero_le _, rfl, rfl, by rw [rfAt_zero]; rfl, by rw [rfAt_zero]; rfl, by rw [rfAt_zero]; rfl, by rw [rfAt_zero]; rfl, by rw [rfAt_zero]; rfl, by rw [rfAt_zero]; rfl, by rw [rfAt_zero]; rfl, rfl⟩
    case round =>
      obtain ⟨k, hk, rfl, rfl, rfl, rfl, rfl, rfl, rfl, rfl, rfl, rfl⟩ := hrel
      have hI := RI.at HT.out k hk
      by_cases hlt : k < t.length
      · have hkl : k < t.length := by have := HT.out.ql; omega
        have HSu := hid (rfAt_succ t k hkl)
        have hk1 : (k : Int) < (t.length : Int) := by omega
        have hk0 : (0 : Int) ≤ (k : Int) := Int.natCast_nonneg _
        have HSt := hid (str_at t k hkl)
        have hcc : (k = p ∧ t[k].toNat = 46) ∨ (k ≠ p ∧ isDig t[k] = true) := by
          by_cases e : k = p
          · subst e; exact .inl ⟨rfl, HT.out.pt hkl⟩
          · exact .inr ⟨e, HT.out.dg k hkl hlt e⟩
        obtain ⟨n1, n2, n3, n4, n5, n6, n7⟩ := hI
        generalize hsx : rfAt t k = s at *
        obtain ⟨m, tr, dot, dig, nd, nm, dp⟩ := s
        simp only at n1 n2 n3 n4 n5 n6 n7
        have HEnd : Hid (∀ mv trv dotv digv ndv nmv dpv, mv = .int .u64 ((rfAt t (k + 1)).m : Int) → trv = .bool (rfAt t (k + 1)).tr → dotv = .bool (rfAt t (k + 1)).dot → digv = .bool (rfAt t (k + 1)).dig → ndv = .int .i64 ((rfAt t (k + 1)).nd : Int) → nmv = .int .i64 ((rfAt t (k + 1)).nm : Int) → dpv = .int .i64 (rfAt t (k + 1)).dp → RfSt w t t.length mv trv (.int .i64 ((k : Int) + 1)) (.bool false) dotv digv ndv nmv dpv w) := by
          intro mv trv dotv digv ndv nmv dpv a1 a2 a3 a4 a5 a6 a7
          exact ⟨k + 1, hlt, rfl, rfl, a1, a2, a3, a4, a5, a6, a7, rfl⟩
        rw [HSu.out] at HEnd
        clear HSu hsx
        generalize t[k] = c at *
        rcases hcc with ⟨rfl, hc⟩ | ⟨hne, hc⟩
        · have ed : dot = false := by rw [n6]; simp
          subst ed
          have e95 : ((((ByteArray.mk t.toArray)[k]'(by simpa [ByteArray.size] using hkl)).toNat : Int) == 95) = false := by rw [HSt.out, hc]; decide
          have e46 : ((((ByteArray.mk t.toArray)[k]'(by simpa [ByteArray.size] using hkl)).toNat : Int) == 46) = true := by rw [HSt.out, hc]; decide
          clear n6
          have hst : rfStep ⟨m, tr, false, dig, nd, nm, dp⟩ c = rfP ⟨m, tr, false, dig, nd, nm, dp⟩ := by
            unfold rfStep; rw [if_pos hc]
          rw [hst] at HEnd
          clear hst
          go_wp2_with fail
          exact ⟨HEnd.out _ _ _ _ _ _ _ rfl rfl rfl rfl rfl rfl rfl, by simp [intOf]; omega⟩
        · rw [dig_iff] at hc
          have e95 : ((((ByteArray.mk t.toArray)[k]'(by simpa [ByteArray.size] using hkl)).toNat : Int) == 95) = false := by rw [HSt.out]; simp; omega
          have e46 : ((((ByteArray.mk t.toArray)[k]'(by simpa [ByteArray.size] using hkl)).toNat : Int) == 46) = false := by rw [HSt.out]; simp; omega
          have d48 : (48 : Int) ≤ (((ByteArray.mk t.toArray)[k]'(by simpa [ByteArray.size] using hkl)).toNat : Int) := by rw [HSt.out]; omega
          have d57 : (((ByteArray.mk t.toArray)[k]'(by simpa [ByteArray.size] using hkl)).toNat : Int) ≤ 57 := by rw [HSt.out]; omega
          have hm19 := fun h => pow_le18 n3 h
          clear n3 n6 n7 hne
          by_cases hz : c.toNat = 48 ∧ nd = 0
          · obtain ⟨hz1, rfl⟩ := hz
            have e48 : ((((ByteArray.mk t.toArray)[k]'(by simpa [ByteArray.size] using hkl)).toNat : Int) == 48) = true := by rw [HSt.out, hz1]; decide
            have hst : rfStep ⟨m, tr, dot, dig, 0, nm, dp⟩ c = rfZ ⟨m, tr, dot, dig, 0, nm, dp⟩ := by
              unfold rfStep
              rw [if_neg (by omega)]
              unfold rfD
              rw [if_pos ⟨hz1, rfl⟩]
            rw [hst] at HEnd
            clear hst hm19
            go_wp2_with fail
            exact ⟨HEnd.out _ _ _ _ _ _ _ rfl rfl rfl rfl rfl rfl rfl, by simp [intOf]; omega⟩
          by_cases hnm : nm < 19
          · have hmm := hm19 hnm
            have hnm' : decide ((nm : Int) < 19) = true := decide_eq_true (by omega)
            have hnm2 : (nm : Int) < 19 := by omega
            have hst : rfStep ⟨m, tr, dot, dig, nd, nm, dp⟩ c = rfM ⟨m, tr, dot, dig, nd, nm, dp⟩ c := by
              unfold rfStep
              rw [if_neg (by omega)]
              unfold rfD
              rw [if_neg hz, if_pos hnm]
            rw [hst] at HEnd
            clear hst hm19
            have HC := hid HSt.out
            by_cases h48 : c.toNat = 48
            · have e48 : ((((ByteArray.mk t.toArray)[k]'(by simpa [ByteArray.size] using hkl)).toNat : Int) == 48) = true := by rw [HSt.out, h48]; decide
              have nd0 : ((nd : Int) == 0) = false := by simp; omega
              have nd1 : ¬ nd = 0 := by omega
              clear hz
              go_wp2_with fail
              refine ⟨HEnd.out _ _ _ _ _ _ _ ?_ rfl rfl rfl rfl rfl rfl, by simp [intOf]; omega⟩
              rw [HC.out]; simp only [rfM]; congr 1; omega
            · have e48 : ((((ByteArray.mk t.toArray)[k]'(by simpa [ByteArray.size] using hkl)).toNat : Int) == 48) = false := by rw [HSt.out]; simp; omega
              clear hz
              go_wp2_with fail
              refine ⟨HEnd.out _ _ _ _ _ _ _ ?_ rfl rfl rfl rfl rfl rfl, by simp [intOf]; omega⟩
              rw [HC.out]; simp only [rfM]; congr 1; omega
          · have hnm' : decide ((nm : Int) < 19) = false := decide_eq_false (by omega)
            have hnm2 : ¬ (nm : Int) < 19 := by omega
            have hst : rfStep ⟨m, tr, dot, dig, nd, nm, dp⟩ c = rfT ⟨m, tr, dot, dig, nd, nm, dp⟩ c := by
              unfold rfStep
              rw [if_neg (by omega)]
              unfold rfD
              rw [if_neg hz, if_neg hnm]
            rw [hst] at HEnd
            clear hst hm19
            by_cases h48 : c.toNat = 48
            · have e48 : ((((ByteArray.mk t.toArray)[k]'(by simpa [ByteArray.size] using hkl)).toNat : Int) == 48) = true := by rw [HSt.out, h48]; decide
              have e48' : ((((ByteArray.mk t.toArray)[k]'(by simpa [ByteArray.size] using hkl)).toNat : Int) != 48) = false := by rw [HSt.out, h48]; decide
              have nd0 : ((nd : Int) == 0) = false := by simp; omega
              have nd1 : ¬ nd = 0 := by omega
              clear hz
              go_wp2_with fail
              refine ⟨HEnd.out _ _ _ _ _ _ _ rfl ?_ rfl rfl rfl rfl rfl, by simp [intOf]; omega⟩
              have : c = 48 := UInt8.toNat_inj.1 h48
              simp [rfT, this]
            · have e48 : ((((ByteArray.mk t.toArray)[k]'(by simpa [ByteArray.size] using hkl)).toNat : Int) == 48) = false := by rw [HSt.out]; simp; omega
              have e48' : ((((ByteArray.mk t.toArray)[k]'(by simpa [ByteArray.size] using hkl)).toNat : Int) != 48) = true := by rw [HSt.out]; simp; omega
              clear hz
              go_wp2_with fail
              refine ⟨HEnd.out _ _ _ _ _ _ _ rfl ?_ rfl rfl rfl rfl rfl, by simp [intOf]; omega⟩
              have : c ≠ 48 := fun e => h48 (by rw [e]; rfl)
              simp [rfT, this]
      · obtain rfl : k = t.length := by omega
        obtain ⟨n1, n2, n3, n4, n5, n6, n7⟩ := hI
        have hdig : (rfAt t t.length).dig = true := by rw [n7]; simp; omega
        have hdot : (rfAt t t.length).dot = true := by rw [n6]; have := HT.out.pq; simp; omega
        generalize hsx : rfAt t t.length = s at *
        have HSx := hid hsx
        clear hsx
        obtain ⟨m, tr, dot, dig, nd, nm, dp⟩ := s
        simp only at n1 n2 n3 n4 n5 hdig hdot
        subst hdig hdot
        have hmm := pow_le19 n3 n1
        clear n3 n6 n7 hlt
        have HV : Hid (rfV ⟨m, tr, true, true, nd, nm, dp⟩ t dp = .tuple #[.int .u64 (m : Int), .int .i64 (if m = 0 then 0 else dp - (nm : Int)), .bool false, .bool tr, .bool false, .int .i64 (t.length : Int), .bool true]) := rfl
        by_cases hm0 : m = 0
        · subst hm0
          go_wp2_with fail
          try rw [Exit.noGoto_ret]
          exact bodyPost_ret (results7 rfl rfl rfl rfl rfl rfl rfl rfl) rfl ⟨by rw [HSx.out]; rfl, rfl⟩
        · have hm1 : ((m : Int) != 0) = true := by simp; omega
          rw [if_neg hm0] at HV
          go_wp2_with fail
          try rw [Exit.noGoto_ret]
          exact bodyPost_ret (results7 rfl rfl rfl rfl rfl rfl rfl rfl) rfl ⟨by rw [HSx.out]; rw [HV.out]; rfl, rfl⟩

end Go.Proofs.YtionmohglmbklaaGreatDoor.Tr
