/- WalKeeps: the walk. -/
import Derived.Test.YtagcpjekeogkbaaPly
import Derived.Test.YtagcpjekeogkbaaOpt
import Derived.Test.YtagcpjekeogkbaaShw
namespace Go.Proofs.Ytagcpjekeogkbaa.Wl
open Go.RowKit Dk

/-- In mid-way of staging. -/
def StgMid (G : Nat → Prop) (w wr : World) (l p bl bt n m : Nat) (T : Nat → Sec) (D : Dsk) : Prop := ∃ L, OwnL G wr l p bl bt D L ∧ PI n m T D L ∧ Kp G w wr

set_option maxRecDepth 100000 in
set_option maxHeartbeats 4000000 in
theorem keeps_walk (G : Nat → Prop) (w : World) (hG : ∀ k, G k → k < w.heap.size) (a : Int) (h0 : -9223372036854775808 ≤ a) (h1 : a ≤ 9223372036854775807) (ad1 : Option Addr) (len1 cap1 : Nat) (ad2 : Option Addr) (len2 cap2 : Nat) (hA1 : ArgOps G w ad1 len1) (hA2 : ArgOps G w ad2 len2) (keep : Nat) (hkp : keep < 18446744073709551616) :
    Calls Try.prog 5 #[.int .i64 a, .slice ad1 len1 cap1, .slice ad2 len2 cap2, .int .u64 (keep : Int)] w fun x w' => x = .returned (.bool true) ∧ Kp G w w' := by
  have HSh := hid (shown_any G w hG)
  have HMd := hid (fun W (hW : ∀ k, G k → k < W.heap.size) => made_any G W hW a h0 h1)
  have hlt : smallN a 12 < 12 := Nat.mod_lt _ (by omega)
  obtain ⟨n, hn⟩ : ∃ n, 4 + smallN a 12 = n := ⟨_, rfl⟩
  have hn4 : 4 ≤ n := by omega
  have hn15 : n ≤ 15 := by omega
  rw [hn] at HMd
  have HHG := hid hG
  have HA1 := hid hA1
  have HA2 := hid hA2
  have HPn := hid ((PI.new n hn4 (by omega)).le (m' := 60000) (by omega))
  clear hn hlt hG hA1 hA2
  go_enter Try.func5, Try.ntmps5
  go_wp2_with fail
  refine HSh.out.mono ?_
  rintro x w1 ⟨rfl, k1⟩
  have HMd2 := hid (HMd.out w1 (fun k hk => Nat.lt_of_lt_of_le (HHG.out k hk) k1.size))
  have HK1 := hid k1
  clear HSh HMd k1
  go_wp2_with fail
  refine HMd2.out.mono ?_
  rintro x w2 ⟨p, l, bl, bt, rfl, o2, k2⟩
  have HK2 := hid (Kp.trans HK1.out k2)
  have HPl := hid (play_any o2 n _ HPn.out (by omega) ad1 len1 cap1 (HA1.out.kp HK2.out))
  clear HMd2 o2 k2 HK1 HPn HA1
  go_wp2_with fail
  refine HPl.out.mono ?_
  rintro x w3 ⟨rfl, bl3, bt3, D, L3, T, o3, p3, k3⟩
  have HK3 := hid (Kp.trans HK2.out k3)
  have HDr := hid (drop_any o3)
  have HP4 := hid p3.drop
  clear HPl o3 p3 k3 HK2
  go_wp2_with fail
  refine HDr.out.mono ?_
  rintro x w4 ⟨rfl, ⟨bt4, o4⟩, k4⟩
  have HK4 := hid (Kp.trans HK3.out k4)
  have HHm := hid (homes_any o4 n HP4.out.a (by omega))
  rw [HP4.out.cat] at HHm
  have HO4 := hid o4
  have HT : Hid (over L3.drop.st T = T) := rfl
  rw [HT.out] at HHm
  clear HDr o4 k4 HK3 HT
  generalize hS : strB (cat T n 24) = S at *
  have HS := hid hS
  clear hS
  go_wp2_with fail
  refine HHm.out.mono ?_
  rintro x w5 ⟨rfl, f5⟩
  have HM5 : Hid (StgMid G w w5 l p bl3 bt4 n 20000 T D) := ⟨_, HO4.out.nw f5, HP4.out, Kp.trans HK4.out f5.kp⟩
  clear HHm f5 HK4 HO4 HP4
  go_wp2_with fail
  go_loopw [14] (fun i wr => ∃ k : Nat, k ≤ len2 ∧ k ≤ 30 ∧ i = .int .i64 (k : Int) ∧ StgMid G w wr l p bl3 bt4 n 20000 T D) (fun i _ => 30 - (intOf i).toNat)
  case atStart => exact ⟨0, Nat.zero_le _, Nat.zero_le _, rfl, HM5.out⟩
  case round =>
    obtain ⟨k, hk, hk30, rfl, hM⟩ := hrel
    have HM := hid hM
    clear hM HM5
    by_cases hlt : k < len2 ∧ k < 30
    · have hk1 : (k : Int) < (len2 : Int) := by omega
      have hk2 : (k : Int) < 30 := by omega
      have hk0 : (0 : Int) ≤ (k : Int) := Int.natCast_nonneg _
      obtain ⟨L1, o1, p1, k1⟩ := HM.out
      obtain ⟨lb, lo, x, rfl, hx, hg⟩ := HA2.out k hlt.1
      have hx1 := hx.kp k1 hg
      have HSm : Hid (∀ W, _) := fun W => small_any W x.a 24 hx1.a0.1 hx1.a0.2 (by omega) (by omega)
      have hsm : smallN x.a 24 < 24 := Nat.mod_lt _ (by omega)
      have HFl : Hid (Calls Try.prog 15 #[.int .u8 x.c] wr.drew fun e w' => e = .returned (.slice (some ⟨wr.heap.size, 0, none⟩) 128 128) ∧ w' = wr.drew.alloc (.cells (bs (fullB x.c)).toArray 5)) := full_any wr.drew x.c hx1.c0.1 hx1.c0.2
      have HSt : Hid (Calls Try.prog 13 #[pv l, .int .i64 ((n + smallN x.a 24 : Nat) : Int), .slice (some ⟨wr.heap.size, 0, none⟩) 128 128] (wr.alloc (.cells (bs (fullB x.c)).toArray 5)).drew fun x w' => ∃ e, (e = 0 ∨ e = 45) ∧ x = .returned (.int .i64 e) ∧ (∃ L', OwnL G w' l p bl3 bt4 D L' ∧ PI n 20000 T D L') ∧ Kp G wr.drew w') := stage_one o1.drew p1 (by omega) (smallN x.a 24) hsm x.c
      have Hcast : Hid (((n + smallN x.a 24 : Nat) : Int) = (n : Int) + (smallN x.a 24 : Int)) := by unfold Hid; omega
      rw [Hcast.out] at HSt
      have HN : Hid (∀ w' L', OwnL G w' l p bl3 bt4 D L' → PI n 20000 T D L' → Kp G wr w' → StgMid G w w' l p bl3 bt4 n 20000 T D) := fun w' L' h1 h2 h3 => ⟨L', h1, h2, Kp.trans k1 h3⟩
      have ca2 : wr.drew.cell? ⟨lb, lo + k * 5 + 1, none⟩ = some (.int .i64 x.a) := hx1.a
      have cc2 : wr.drew.cell? ⟨lb, lo + k * 5 + 3, none⟩ = some (.int .u8 x.c) := hx1.c
      have HcellF : Hid (∀ w', Kp G wr w' → w'.cell? ⟨lb, lo + k * 5 + 1, none⟩ = some (.int .i64 x.a) ∧ w'.cell? ⟨lb, lo + k * 5 + 3, none⟩ = some (.int .u8 x.c)) := fun w' f => ⟨(hx1.kp f hg).a, (hx1.kp f hg).c⟩
      have hwr : IntKind.i64.wrap ((n : Int) + (smallN x.a 24 : Int)) = (n : Int) + (smallN x.a 24 : Int) := by simp [IntKind.wrap, IntKind.bits, IntKind.signed]; omega
      clear hx hx1 o1 p1 k1 HM Hcast
      generalize smallN x.a 24 = sm at *
      generalize fullB x.c = fb at *
      go_wp2_with fail
      go_region_held3 (fun w' => w'.cell? ⟨lb, lo + k * 5 + 1, none⟩ = some (.int .i64 x.a) ∧ w'.cell? ⟨lb, lo + k * 5 + 3, none⟩ = some (.int .u8 x.c))
        (first
          | exact ⟨ca2, cc2⟩
          | exact HcellF.out _ (show Kp G _ _ from Nw.kp ((Fr.refl _ wr).drew))
          | exact HcellF.out _ (show Kp G _ _ from Nw.kp (((Fr.refl _ wr).drew).alloc _))
          | exact HcellF.out _ k4)
        (first
          | (go_at_call 14; refine (HSm.out _).mono ?_; rintro y w2 ⟨rfl, rfl⟩)
          | (go_at_call 15; refine HFl.out.mono ?_; rintro y w3 ⟨rfl, rfl⟩)
          | (go_at_call 13; refine HSt.out.mono ?_; rintro y w4 ⟨e4, he4, rfl, ⟨L4, o4, p4⟩, k4'⟩; have k4 : Kp G wr w4 := Kp.trans (show Kp G _ _ from Nw.kp ((Fr.refl _ wr).drew)) k4'))
      have HR := hid (HN.out _ _ o4 p4 k4)
      clear o4 p4 k4 k4' HSm HFl HSt HN HcellF
      go_wp2
      exact ⟨⟨k + 1, by omega, by omega, by simp, HR.out⟩, by simp [intOf]; omega⟩
    · obtain ⟨L1, o1, p1, k1⟩ := HM.out
      have hst : Still D := by obtain ⟨ms, hm⟩ := p1.lm; exact hm.still
      have hrec : Rec 0 n (n + 24) T D.N := by
        obtain ⟨ms, hm⟩ := p1.lm
        have ht := hm.tel
        rw [p1.a.f, p1.a.ln, p1.a.z] at ht
        exact ht.rcd o1.r.ok.e
      have hDn : D.n = n + 24 := by rw [o1.n, p1.a.z]
      obtain ⟨c1, c2, c3, c4, c5, c6, c7⟩ := crash_still hst keep
      obtain ⟨s1, s2, s3, s4⟩ := start_still hst keep
      have HCr := hid (own_crash o1.d (by have := p1.sm.1; omega) keep hkp)
      have HO1 := hid o1
      have HK1 := hid k1
      have Hc5 := hid c5
      have Hc4 := hid c4
      have Hre := hid (p1.a.reach 0 (by omega))
      rw [Nat.add_zero] at Hre
      have Hs1 := hid s1
      have Hrec : Hid (Rec 0 n (n + 24) T (D.crash keep).start.N) := by unfold Hid; rw [s2]; exact hrec
      have HsN : Hid ((D.crash keep).start.n = n + 24) := by unfold Hid; rw [s3]; exact hDn
      have HnL : Hid (L1.noted 40 = { L1 with dead := true }) := by simp [Hid, Lg.noted]
      have HSm6 : Hid (Sm (D.crash keep) 3000) := ⟨by rw [c3]; simp, by rw [c7]; have := p1.sm.2; omega⟩
      have HlgL : Hid (({ L1 with dead := true } : Lg).lg.length < 1024) := by have := p1.lg; show L1.lg.length < 1024; omega
      have HstL : Hid (({ L1 with dead := true } : Lg).st.length < 1024) := by have := cost_le p1.c; show L1.st.length < 1024; omega
      have HcoL : Hid (cost ({ L1 with dead := true } : Lg).st.length ≤ ({ L1 with dead := true } : Lg).n - 1) := by show cost L1.st.length ≤ L1.n - 1; rw [p1.a.ln]; exact p1.c
      have HdE : Hid (CommitE (D.crash keep) { L1 with dead := true } = 40 ∧ CommitD (D.crash keep) { L1 with dead := true } = D.crash keep ∧ CommitL (D.crash keep) { L1 with dead := true } = { L1 with dead := true }) := by simp [Hid, CommitE, CommitD, CommitL]
      have HsE : Hid (({ L1 with dead := true } : Lg).stageE (n : Int) 128 = 40 ∧ ({ L1 with dead := true } : Lg).stage (n : Int) (fullB 1) = { L1 with dead := true }) := by
        have e : ({ L1 with dead := true } : Lg).stageE (n : Int) 128 = 40 := by simp [Lg.stageE, Lg.reach]
        exact ⟨e, by unfold Lg.stage; rw [full_len, e]; rfl⟩
      clear HM o1 p1 k1 hst hrec hDn c1 c2 c3 c4 c5 c6 c7 s1 s2 s3 s4
      have HFl := fun W => hid (full_any W 1 (by omega) (by omega))
      have hcase : ((k : Int) < (len2 : Int) ∧ ¬ (k : Int) < 30) ∨ ¬ (k : Int) < (len2 : Int) := by omega
      rcases hcase with ⟨hk1, hk2⟩ | hk1
      all_goals
        go_wp2_with fail
        refine HCr.out.mono ?_
        rintro x w6 ⟨rfl, o6d, k6⟩
        have o6 := HO1.out.disk o6d k6 Hc5.out
        have HK6 : Hid (Kp G w w6) := Kp.trans HK1.out (Kp.less k6 (fun _ hk => .inl hk))
        have HRo := hid (Read_off o6 n Hre.out Hc4.out)
        clear HCr o6d k6 o6 HO1 HK1
        go_wp2_with fail
        refine HRo.out.mono ?_
        rintro x w7 ⟨rfl, o7, k7⟩
        have HK7 := hid (Kp.trans HK6.out k7)
        rw [HnL.out] at o7
        have HCo := hid (Commit_any o7 HSm6.out HlgL.out HstL.out HcoL.out)
        rw [HdE.out.1, HdE.out.2.1, HdE.out.2.2] at HCo
        clear HRo o7 k7 HK6
        go_wp2_with fail
        refine HCo.out.mono ?_
        rintro x w8 ⟨rfl, ⟨bl8, bt8, o8⟩, k8⟩
        have HK8 := hid (Kp.trans HK7.out k8)
        have HSr := hid (own_start o8.d)
        have HO8 := hid o8
        clear HCo o8 k8 HK7
        generalize (if (D.crash keep).up = true then (42 : Int) else 0) = se at *
        go_wp2_with fail
        refine HSr.out.mono ?_
        rintro x w9 ⟨rfl, o9d, k9⟩
        have o9 := HO8.out.disk o9d k9 rfl
        have HK9 : Hid (Kp G w w9) := Kp.trans HK8.out (Kp.less k9 (fun _ hk => .inl hk))
        have HSg := hid (stage_any (o9.alloc (.cells (bs (fullB 1)).toArray 5)) (n : Int) (fullB 1) (some ⟨w9.heap.size, 0, none⟩) 128 (fun _ => ⟨w9.heap.size, 0, rfl, (Blk.new w9 5 (bs (fullB 1))).range 0 _ (by simp), by simp⟩) (Nat.lt_trans HstL.out (by omega)))
        rw [full_len, HsE.out.1, HsE.out.2] at HSg
        clear HSr o9 o9d k9 HO8 HK8
        go_wp2_with fail
        refine (HFl w9).out.mono ?_
        rintro x w10 ⟨rfl, rfl⟩
        go_wp2_with fail
        refine HSg.out.mono ?_
        rintro x w11 ⟨rfl, o11, k11⟩
        have HK11 : Hid (Kp G w w11) := Kp.trans (Kp.trans HK9.out (show Kp G _ _ from (Fr.refl _ w9).alloc _)) k11
        have HOp := hid (Open_tel o11.own n T Hs1.out HsN.out hn4 (by omega) Hrec.out)
        clear HSg o11 k11 HK9
        go_wp2_with fail
        refine HOp.out.mono ?_
        rintro x w12 ⟨L2, l2, bl2, bt2, rfl, o12, k12, _, a12, ⟨ms12, lm12⟩, st12⟩
        have HK12 := hid (Kp.trans HK11.out k12)
        have HHm := hid (homes_any o12 n a12 (by omega))
        have Hcat : Hid (cat (L2.tell (D.crash keep).start) n 24 = cat T n 24) := by
          refine cat_congr (fun i hi => ?_)
          rw [lm12.tell _ ⟨by rw [a12.z]; omega, by rw [a12.f, a12.ln]; omega⟩, st12]
          rfl
        rw [Hcat.out, HS.out] at HHm
        clear HOp o12 k12 a12 lm12 st12 HK11 Hcat
        go_wp2_with fail
        refine HHm.out.mono ?_
        rintro x w13 ⟨rfl, f13⟩
        have HK13 : Hid (Kp G w w13) := Kp.trans HK12.out f13.kp
        clear HHm f13 HK12
        go_wp2
        go_ret
        exact ⟨rfl, HK13.out⟩

end Go.Proofs.Ytagcpjekeogkbaa.Wl
