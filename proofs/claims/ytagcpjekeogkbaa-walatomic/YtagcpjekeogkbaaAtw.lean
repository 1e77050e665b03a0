/- WalAtomic: the walk. -/
import Derived.Test.YtagcpjekeogkbaaAto
import Derived.Test.YtagcpjekeogkbaaKps
namespace Go.Proofs.Ytagcpjekeogkbaa.Wl
open Go.RowKit Dk

/-- A list of masks. -/
def ArgU (G : Nat → Prop) (w : World) (ad : Option Addr) (len : Nat) : Prop := ∀ k, k < len → ∃ lb lo, ∃ v : Nat, ad = some ⟨lb, lo, none⟩ ∧ w.cell? ⟨lb, lo + k, none⟩ = some (.int .u64 (v : Int)) ∧ v < 18446744073709551616 ∧ lb < w.heap.size ∧ G lb
theorem ArgU.kp {G : Nat → Prop} {w w' : World} {ad : Option Addr} {len : Nat} (h : ArgU G w ad len) (k : Kp G w w') : ArgU G w' ad len := fun j hj => by
  obtain ⟨lb, lo, v, e, c, hv, hl, g⟩ := h j hj
  refine ⟨lb, lo, v, e, ?_, hv, Nat.lt_of_lt_of_le hl k.size, g⟩
  have := k.block lb hl (fun hn => hn g)
  rw [← c]
  simp only [World.cell?, this]

/-- Behind the commit: what is left tells Tx. -/
def AtoMid (G : Nat → Prop) (w wr : World) (p n m : Nat) (Tx : Nat → Sec) : Prop := ∃ D, Dk.Own G wr p D ∧ OffI Tx n m D ∧ Kp G w wr

/-- Power is bound to nothing more, and fails: of a log's own disk. -/
theorem own_e {G : Nat → Prop} {w : World} {l p bl bt : Nat} {D : Dsk} {L : Lg} (h : OwnL G w l p bl bt D L) : L.e < 18446744073709551616 := h.r.ok.e

set_option maxRecDepth 100000 in
set_option maxHeartbeats 8000000 in
theorem atomic_walk (G : Nat → Prop) (w : World) (hG : ∀ k, G k → k < w.heap.size) (a : Int) (h0 : -9223372036854775808 ≤ a) (h1 : a ≤ 9223372036854775807) (ad1 : Option Addr) (len1 cap1 : Nat) (ad2 : Option Addr) (len2 cap2 : Nat) (hA1 : ArgOps G w ad1 len1) (hA2 : ArgOps G w ad2 len2) (aft : Int) (ha0 : -9223372036854775808 ≤ aft) (ha1 : aft ≤ 9223372036854775807) (keep : Nat) (hkp : keep < 18446744073709551616) (ad3 : Option Addr) (len3 cap3 : Nat) (hA3 : ArgU G w ad3 len3) :
    Calls Try.prog 3 #[.int .i64 a, .slice ad1 len1 cap1, .slice ad2 len2 cap2, .int .i64 aft, .int .u64 (keep : Int), .slice ad3 len3 cap3] w fun x w' => x = .returned (.bool true) ∧ Kp G w w' := by
  have HSh := hid (shown_any G w hG)
  have HMd := hid (fun W (hW : ∀ k, G k → k < W.heap.size) => made_any G W hW a h0 h1)
  have hlt : smallN a 12 < 12 := Nat.mod_lt _ (by omega)
  obtain ⟨n, hn⟩ : ∃ n, 4 + smallN a 12 = n := ⟨_, rfl⟩
  have hn4 : 4 ≤ n := by omega
  have hn15 : n ≤ 15 := by omega
  rw [hn] at HMd
  have HHG := hid hG
  have HA1 := hid hA1
  have HA2 := hid hA2
  have HA3 := hid hA3
  have HPn := hid ((PI.new n hn4 (by omega)).le (m' := 60000) (by omega))
  have HSa : Hid (∀ W, _) := fun W => small_any W aft 60 ha0 ha1 (by omega) (by omega)
  have hsa : smallN aft 60 < 60 := Nat.mod_lt _ (by omega)
  generalize smallN aft 60 = af at *
  clear hn hlt hG hA1 hA2 hA3
  go_enter Try.func3, Try.ntmps3
  go_wp2_with fail
  refine HSh.out.mono ?_
  rintro x w1 ⟨rfl, k1⟩
  have HMd2 := hid (HMd.out w1 (fun k hk => Nat.lt_of_lt_of_le (HHG.out k hk) k1.size))
  have HK1 := hid k1
  clear HSh HMd k1
  go_wp2_with fail
  refine HMd2.out.mono ?_
  rintro x w2 ⟨p, l, bl, bt, rfl, o2, k2⟩
  have HK2 := hid (Kp.trans HK1.out k2)
  have HPl := hid (play_any o2 n _ HPn.out (by omega) ad1 len1 cap1 (HA1.out.kp HK2.out))
  clear HMd2 o2 k2 HK1 HPn HA1
  go_wp2_with fail
  refine HPl.out.mono ?_
  rintro x w3 ⟨rfl, bl3, bt3, D, L3, T, o3, p3, k3⟩
  have HK3 := hid (Kp.trans HK2.out k3)
  have HDr := hid (drop_any o3)
  have HP4 := hid p3.drop
  clear HPl o3 p3 k3 HK2
  go_wp2_with fail
  refine HDr.out.mono ?_
  rintro x w4 ⟨rfl, ⟨bt4, o4⟩, k4⟩
  have HK4 := hid (Kp.trans HK3.out k4)
  have HHm := hid (homes_any o4 n HP4.out.a (by omega))
  rw [HP4.out.cat] at HHm
  have HO4 := hid o4
  have HT : Hid (over L3.drop.st T = T) := rfl
  rw [HT.out] at HHm
  clear HDr o4 k4 HK3 HT
  generalize hS : strB (cat T n 24) = S0 at *
  have HS0 := hid hS
  clear hS
  go_wp2_with fail
  refine HHm.out.mono ?_
  rintro x w5 ⟨rfl, f5⟩
  have HM5 : Hid (StgMid G w w5 l p bl3 bt4 n 20000 T D) := ⟨_, HO4.out.nw f5, HP4.out, Kp.trans HK4.out f5.kp⟩
  clear HHm f5 HK4 HO4 HP4
  go_wp2_with fail
  go_loopw [18] (fun i wr => ∃ k : Nat, k ≤ len2 ∧ k ≤ 30 ∧ i = .int .i64 (k : Int) ∧ StgMid G w wr l p bl3 bt4 n 20000 T D) (fun i _ => 30 - (intOf i).toNat)
  case atStart => exact ⟨0, Nat.zero_le _, Nat.zero_le _, rfl, HM5.out⟩
  case round =>
    obtain ⟨k, hk, hk30, rfl, hM⟩ := hrel
    have HM := hid hM
    clear hM HM5
    by_cases hlt : k < len2 ∧ k < 30
    · have hk1 : (k : Int) < (len2 : Int) := by omega
      have hk2 : (k : Int) < 30 := by omega
      have hk0 : (0 : Int) ≤ (k : Int) := Int.natCast_nonneg _
      obtain ⟨L1, o1, p1, k1⟩ := HM.out
      obtain ⟨lb, lo, x, rfl, hx, hg⟩ := HA2.out k hlt.1
      have hx1 := hx.kp k1 hg
      have HSm : Hid (∀ W, _) := fun W => small_any W x.a 24 hx1.a0.1 hx1.a0.2 (by omega) (by omega)
      have hsm : smallN x.a 24 < 24 := Nat.mod_lt _ (by omega)
      have HFl : Hid (Calls Try.prog 15 #[.int .u8 x.c] wr.drew fun e w' => e = .returned (.slice (some ⟨wr.heap.size, 0, none⟩) 128 128) ∧ w' = wr.drew.alloc (.cells (bs (fullB x.c)).toArray 5)) := full_any wr.drew x.c hx1.c0.1 hx1.c0.2
      have HSt : Hid (Calls Try.prog 13 #[pv l, .int .i64 ((n + smallN x.a 24 : Nat) : Int), .slice (some ⟨wr.heap.size, 0, none⟩) 128 128] (wr.alloc (.cells (bs (fullB x.c)).toArray 5)).drew fun x w' => ∃ e, (e = 0 ∨ e = 45) ∧ x = .returned (.int .i64 e) ∧ (∃ L', OwnL G w' l p bl3 bt4 D L' ∧ PI n 20000 T D L') ∧ Kp G wr.drew w') := stage_one o1.drew p1 (by omega) (smallN x.a 24) hsm x.c
      have Hcast : Hid (((n + smallN x.a 24 : Nat) : Int) = (n : Int) + (smallN x.a 24 : Int)) := by unfold Hid; omega
      rw [Hcast.out] at HSt
      have HN : Hid (∀ w' L', OwnL G w' l p bl3 bt4 D L' → PI n 20000 T D L' → Kp G wr w' → StgMid G w w' l p bl3 bt4 n 20000 T D) := fun w' L' h1 h2 h3 => ⟨L', h1, h2, Kp.trans k1 h3⟩
      have ca2 : wr.drew.cell? ⟨lb, lo + k * 5 + 1, none⟩ = some (.int .i64 x.a) := hx1.a
      have cc2 : wr.drew.cell? ⟨lb, lo + k * 5 + 3, none⟩ = some (.int .u8 x.c) := hx1.c
      have HcellF : Hid (∀ w', Kp G wr w' → w'.cell? ⟨lb, lo + k * 5 + 1, none⟩ = some (.int .i64 x.a) ∧ w'.cell? ⟨lb, lo + k * 5 + 3, none⟩ = some (.int .u8 x.c)) := fun w' f => ⟨(hx1.kp f hg).a, (hx1.kp f hg).c⟩
      have hwr : IntKind.i64.wrap ((n : Int) + (smallN x.a 24 : Int)) = (n : Int) + (smallN x.a 24 : Int) := by simp [IntKind.wrap, IntKind.bits, IntKind.signed]; omega
      clear hx hx1 o1 p1 k1 HM Hcast
      generalize smallN x.a 24 = sm at *
      generalize fullB x.c = fb at *
      go_wp2_with fail
      go_region_held3 (fun w' => w'.cell? ⟨lb, lo + k * 5 + 1, none⟩ = some (.int .i64 x.a) ∧ w'.cell? ⟨lb, lo + k * 5 + 3, none⟩ = some (.int .u8 x.c))
        (first
          | exact ⟨ca2, cc2⟩
          | exact HcellF.out _ (show Kp G _ _ from Nw.kp ((Fr.refl _ wr).drew))
          | exact HcellF.out _ (show Kp G _ _ from Nw.kp (((Fr.refl _ wr).drew).alloc _))
          | exact HcellF.out _ k4)
        (first
          | (go_at_call 14; refine (HSm.out _).mono ?_; rintro y w2 ⟨rfl, rfl⟩)
          | (go_at_call 15; refine HFl.out.mono ?_; rintro y w3 ⟨rfl, rfl⟩)
          | (go_at_call 13; refine HSt.out.mono ?_; rintro y w4 ⟨e4, he4, rfl, ⟨L4, o4, p4⟩, k4'⟩; have k4 : Kp G wr w4 := Kp.trans (show Kp G _ _ from Nw.kp ((Fr.refl _ wr).drew)) k4'))
      have HR := hid (HN.out _ _ o4 p4 k4)
      clear o4 p4 k4 k4' HSm HFl HSt HN HcellF
      go_wp2
      exact ⟨⟨k + 1, by omega, by omega, by simp, HR.out⟩, by simp [intOf]; omega⟩
    · obtain ⟨L1, o1, p1, k1⟩ := HM.out
      have HHm := hid (homes_any o1 n p1.a (by omega))
      rw [p1.cat] at HHm
      have HO1 := hid o1
      have HP1 := hid p1
      have HK1 := hid k1
      clear HM o1 p1 k1
      generalize hS : strB (cat (over L1.st T) n 24) = S1 at *
      have HS1 := hid hS
      clear hS
      obtain ⟨a8, lm8, sm8⟩ := arm_asks (a' := af) HP1.out.a HP1.out.lm HP1.out.sm keep
      have Hc8 := hid HP1.out.c
      have Hlg8 := hid HP1.out.lg
      have Ha8 := hid a8
      have Hlm8 := hid lm8
      have Hsm8 := hid sm8
      have Hsr8 := hid HO1.out.srts
      have Han := hid (arm_q D (af : Int) keep).2.2
      clear a8 lm8 sm8 HP1
      have hcase : ((k : Int) < (len2 : Int) ∧ ¬ (k : Int) < 30) ∨ ¬ (k : Int) < (len2 : Int) := by omega
      rcases hcase with ⟨hk1, hk2⟩ | hk1
      all_goals -- dev
        go_wp2_with fail
        refine HHm.out.mono ?_
        rintro x w6 ⟨rfl, f6⟩
        have o6 := HO1.out.nw f6
        have HK6 : Hid (Kp G w w6) := Kp.trans HK1.out f6.kp
        have HAr := hid (own_arm o6.d (af : Int) keep (by omega) hkp)
        have HO6 := hid o6
        clear HHm f6 o6 HO1 HK1
        go_wp2_with fail
        refine (HSa.out _).mono ?_
        rintro x w7 ⟨rfl, rfl⟩
        go_wp2_with fail
        refine HAr.out.mono ?_
        rintro x w8 ⟨rfl, o8d, k8⟩
        have o8 := HO6.out.disk o8d k8 Han.out
        have HK8 : Hid (Kp G w w8) := Kp.trans HK6.out (Kp.less k8 (fun _ hk => .inl hk))
        have HCo := hid (Commit_any o8 (Hsm8.out.le (by omega)) (by have := Hlg8.out; omega) (by have := cost_le Hc8.out; omega) (by rw [Ha8.out.ln]; exact Hc8.out))
        have HOff := hid (fun he => commit_off (m := 10000) Ha8.out Hlm8.out Hc8.out o8.r.ok Hsr8.out.1 Hsr8.out.2.1 Hsr8.out.2.2 Hlg8.out (Hsm8.out.le (by omega)) he keep)
        have HCs := hid (commit_sm (m := 10000) (D := D.arm (af : Int) keep) (L := L1) (by have := Hc8.out; omega) (by have := Hlg8.out; omega) (Hsm8.out.le (by omega)))
        clear HAr o8d k8 o8 HO6 HK6 HSa
        generalize CommitD (D.arm (af : Int) keep) L1 = D9 at *
        generalize hE9 : CommitE (D.arm (af : Int) keep) L1 = E at *
        have HE9 := hid hE9
        clear hE9
        go_wp2_with fail
        refine HCo.out.mono ?_
        rintro x w9 ⟨rfl, ⟨bl9, bt9, o9⟩, k9⟩
        have HK9 := hid (Kp.trans HK8.out k9)
        obtain ⟨Tx, hTx, hEx⟩ : ∃ Tx, OffI Tx n 10000 ((D9.arm (-1) 0).crash keep) ∧ ((E = 0 ∨ E = 41) ∧ (Tx = over L1.st T ∨ (E = 41 ∧ Tx = T))) := by
          rcases HOff.out o9.r.ok.e with ⟨a1, a2⟩ | ⟨a1, Tx, a2, a3⟩
          · exact ⟨_, a2, .inl a1, .inl rfl⟩
          · rcases a2 with rfl | rfl
            · exact ⟨_, a3, .inr a1, .inr ⟨a1, rfl⟩⟩
            · exact ⟨_, a3, .inr a1, .inl rfl⟩
        have HAr2 := hid (own_arm o9.own (-1) 0 (by omega) (by omega))
        have HTx := hid hTx
        have HEx := hid hEx.2
        have HE := hid hEx.1
        clear HCo k9 o9 HK8 hTx hEx HOff HE9 Hlm8 Hsm8 Hsr8 Ha8 Han
        have HQ9 : Hid ((D9.arm (-1) 0).Q.length < 1073741824) := by have := (arm_sm HCs.out (-1) 0).1; unfold Hid; omega
        clear HCs
        rcases HE.out with rfl | rfl
        all_goals -- dev
          go_wp2_with fail
          refine HAr2.out.mono ?_
          rintro x w10 ⟨rfl, o10, k10⟩
          have HCr := hid (own_crash o10 HQ9.out keep hkp)
          have HK10 := hid (Kp.trans HK9.out k10)
          clear HAr2 o10 k10 HK9
          go_wp2_with fail
          refine HCr.out.mono ?_
          rintro x w11 ⟨rfl, o11, k11⟩
          have HM11 : Hid (AtoMid G w w11 p n (10000 - 600 * 0) Tx) := ⟨_, o11, HTx.out, Kp.trans HK10.out k11⟩
          clear HCr o11 k11 HK10 HTx
          go_wp2_with fail
          obtain ⟨wo, hwo⟩ : ∃ wo, wo = wr := ⟨wr, rfl⟩
          subst hwo
          go_loopw [22] (fun i wr => ∃ k : Nat, k ≤ len3 ∧ k ≤ 5 ∧ i = .int .i64 (k : Int) ∧ AtoMid G w wr p n (10000 - 600 * k) Tx) (fun i _ => 5 - (intOf i).toNat)
          case atStart => exact ⟨0, Nat.zero_le _, Nat.zero_le _, rfl, HM11.out⟩
          case round =>
            obtain ⟨j, hj, hj5, rfl, hM⟩ := hrel
            have HM := hid hM
            clear hM HM11
            by_cases hltj : j < len3 ∧ j < 5
            · have hj1 : (j : Int) < (len3 : Int) := by omega
              have hj2 : (j : Int) < 5 := by omega
              have hj0 : (0 : Int) ≤ (j : Int) := Int.natCast_nonneg _
              obtain ⟨D1, o1, i1, k1⟩ := HM.out
              have HA3r := hid (HA3.out.kp k1)
              obtain ⟨lb, lo, v, rfl, hcv, hv, hlb, hg⟩ := HA3r.out j hltj.1
              obtain ⟨s1, s2, s3, s4⟩ := i1.start
              have HSr := hid (own_start o1)
              have Hs1 := hid s1
              have Hs2 := hid s2
              have Hs3 := hid s3
              have Hs4 := hid s4
              have HK1 := hid k1
              have HcF : Hid (∀ w', Kp G wr w' → w'.cell? ⟨lb, lo + j, none⟩ = some (.int .u64 (v : Int))) := fun w' kk => by
                have := kk.block lb hlb (fun hn => hn hg)
                rw [← hcv]
                simp only [World.cell?, this]
              clear HM o1 i1 k1 s1 s2 s3 s4 HA3r hcv
              generalize (if D1.up = true then (42 : Int) else 0) = se at *
              go_wp2_with fail
              refine HSr.out.mono ?_
              rintro x w12 ⟨rfl, o12, k12⟩
              have HOp := hid (Open_tel o12 n Tx Hs1.out Hs2.out hn4 (by omega) Hs3.out)
              have HKr12 := hid k12
              clear HSr o12 k12
              go_wp2_with fail
              refine HOp.out.mono ?_
              rintro x w13 ⟨L2, l2, bl2, bt2, rfl, o13, k13, _, a13, lm13, st13⟩
              have HKr13 := hid (Kp.trans HKr12.out k13)
              have HO13 := hid o13
              obtain ⟨a14, lm14, sm14⟩ := arm_asks (a' := v % 30) a13 lm13 Hs4.out v
              have Hlg14 := hid (lm_lg a14 lm14)
              have Ha14 := hid a14
              have Hlm14 := hid lm14
              have Hsm14 := hid sm14
              have Han2 := hid (arm_q D1.start ((v % 30 : Nat) : Int) v).2.2
              have HAr3 := hid (own_arm o13.drew.d ((v % 30 : Nat) : Int) v (by omega) hv)
              have hcv13 : w13.drew.cell? ⟨lb, lo + j, none⟩ = some (.int .u64 (v : Int)) := HcF.out _ (show Kp G _ _ from HKr13.out.drew)
              clear HOp k13 HKr12 o13 a13 lm13 a14 lm14 sm14
              have hmd : IntKind.i64.wrap ((v : Int).tmod 30) = ((v % 30 : Nat) : Int) := by
                rw [show (v : Int).tmod 30 = ((v % 30 : Nat) : Int) from rfl]
                simp [IntKind.wrap, IntKind.bits, IntKind.signed]; omega
              go_wp2_with fail
              go_region_held3 (fun w' => w'.cell? ⟨lb, lo + j, none⟩ = some (.int .u64 (v : Int)))
                (first
                  | exact hcv13
                  | exact HcF.out _ (Kp.trans HKr13.out (Kp.trans (show Kp G _ _ from (Fr.refl _ w13).drew) (Kp.less k14 (fun _ hk => .inl hk)))))
                ((go_at_call 16; refine HAr3.out.mono ?_; rintro x w14 ⟨rfl, o14d, k14⟩))
              have o14 := HO13.out.drew.disk o14d k14 Han2.out
              have HKr14 : Hid (Kp G wr w14) := Kp.trans HKr13.out (Kp.trans (show Kp G _ _ from (Fr.refl _ w13).drew) (Kp.less k14 (fun _ hk => .inl hk)))
              have HHo := hid (Home_any o14 (Hsm14.out.le (by have := Hlg14.out; omega)) (by have := Hlg14.out; omega))
              have HOff := hid (fun he k => home_off (m := 10000 - 600 * (j + 1)) Ha14.out Hlm14.out o14.r.ok o14.srts.1 Hlg14.out (Hsm14.out.le (by omega)) he k)
              have HHs := hid (home_sm (m := 10000 - 600 * (j + 1)) (D := D1.start.arm ((v % 30 : Nat) : Int) v) (L := L2) (by have := Hlg14.out; omega) (Hsm14.out.le (by omega)))
              clear HAr3 o14d k14 o14 HO13 HKr13 hcv13 Ha14 Hlm14 Hsm14 Han2 Hs1 Hs2 Hs3 Hs4 hmd
              generalize HomeD (D1.start.arm ((v % 30 : Nat) : Int) v) L2 = D15 at *
              generalize HomeE (D1.start.arm ((v % 30 : Nat) : Int) v) L2 = E2 at *
              go_wp2_with fail
              refine HHo.out.mono ?_
              rintro x w15 ⟨rfl, ⟨bl15, o15⟩, k15⟩
              have HKr15 := hid (Kp.trans HKr14.out k15)
              have HOf2 := hid (fun k => HOff.out o15.r.ok.e k)
              have HAr4 := hid (own_arm o15.own (-1) 0 (by omega) (by omega))
              have HQ15 : Hid ((D15.arm (-1) 0).Q.length < 1073741824) := by have := (arm_sm HHs.out (-1) 0).1; unfold Hid; omega
              have HE2 := hid (HOf2.out 0).1
              clear HHo k15 o15 HKr14 HOff HHs
              rcases HE2.out with rfl | rfl
              all_goals -- dev
                go_wp2_with fail
                refine HAr4.out.mono ?_
                rintro x w16 ⟨rfl, o16, k16⟩
                have HKr16 := hid (Kp.trans HKr15.out k16)
                have hcv16 := HcF.out _ HKr16.out
                have HCr2 := hid (own_crash o16 HQ15.out (v / 128) (by omega))
                have Hcv2 : Hid (((v / 128 : Nat) : Int) = (v : Int) / 128) := by unfold Hid; omega
                rw [Hcv2.out] at HCr2
                clear HAr4 o16 k16 HKr15 Hcv2
                go_wp2_with fail
                refine HCr2.out.mono ?_
                rintro x w17 ⟨rfl, o17, k17⟩
                have HR : Hid (AtoMid G w w17 p n (10000 - 600 * (j + 1)) Tx) := ⟨_, o17, (HOf2.out (v / 128)).2, Kp.trans HK1.out (Kp.trans HKr16.out k17)⟩
                clear HCr2 o17 k17 HKr16 HOf2 HcF hcv16
                go_wp2
                exact ⟨⟨j + 1, by omega, by omega, by simp, HR.out⟩, by simp [intOf]; omega⟩
            · obtain ⟨D1, o1, i1, k1⟩ := HM.out
              obtain ⟨s1, s2, s3, s4⟩ := i1.start
              have HSr := hid (own_start o1)
              have Hs1 := hid s1
              have Hs2 := hid s2
              have Hs3 := hid s3
              have HK1 := hid k1
              clear HM o1 i1 k1 s1 s2 s3 s4
              generalize (if D1.up = true then (42 : Int) else 0) = se at *
              have hcase2 : ((j : Int) < (len3 : Int) ∧ ¬ (j : Int) < 5) ∨ ¬ (j : Int) < (len3 : Int) := by omega
              rcases hcase2 with ⟨hj1, hj2⟩ | hj1
              all_goals -- dev
                go_wp2_with fail
                refine HSr.out.mono ?_
                rintro x w12 ⟨rfl, o12, k12⟩
                have HOp := hid (Open_tel o12 n Tx Hs1.out Hs2.out hn4 (by omega) Hs3.out)
                have HK12 := hid (Kp.trans HK1.out k12)
                clear HSr o12 k12 HK1
                go_wp2_with fail
                refine HOp.out.mono ?_
                rintro x w13 ⟨L2, l2, bl2, bt2, rfl, o13, k13, _, a13, ⟨ms13, lm13⟩, st13⟩
                have HK13 := hid (Kp.trans HK12.out k13)
                have HSg := hid (staged_any o13.r)
                rw [st13] at HSg
                simp only [List.length_nil] at HSg
                have HHm := hid (homes_any o13 n a13 (by omega))
                have Hcat : Hid (cat (L2.tell D1.start) n 24 = cat Tx n 24) := by
                  refine cat_congr (fun i hi => ?_)
                  rw [lm13.tell _ ⟨by rw [a13.z]; omega, by rw [a13.f, a13.ln]; omega⟩, st13]
                  rfl
                rw [Hcat.out] at HHm
                clear HOp o13 k13 a13 lm13 st13 HK12 Hcat
                go_wp2_with fail
                refine HSg.out.mono ?_
                rintro x w14 ⟨rfl, rfl⟩
                clear HSg
                go_wp2_with fail
                refine HHm.out.mono ?_
                rintro x w15 ⟨rfl, f15⟩
                have HK15 : Hid (Kp G w w15) := Kp.trans HK13.out f15.kp
                clear HHm f15 HK13
                rcases HEx.out with hT1 | ⟨hE41, hT0⟩
                · rw [hT1, HS1.out]
                  clear HEx
                  go_wp2
                  go_ret
                  exact ⟨rfl, HK15.out⟩
                · first
                    | (exact absurd hE41 (by decide))
                    | (rw [hT0, HS0.out]
                       clear HEx
                       by_cases hSS : S0.toList = S1.toList
                       · go_wp2
                         go_ret
                         exact ⟨rfl, HK15.out⟩
                       · go_wp2
                         go_ret
                         exact ⟨rfl, HK15.out⟩)

end Go.Proofs.Ytagcpjekeogkbaa.Wl
