/- WalHomes: the walk. -/
import Derived.Test.YtagcpjekeogkbaaPly
import Derived.Test.YtagcpjekeogkbaaOpt
import Derived.Test.YtagcpjekeogkbaaShw
import Derived.Test.YtagcpjekeogkbaaImx
namespace Go.Proofs.Ytagcpjekeogkbaa.Wl
open Go.RowKit Dk

theorem strB_from (l : Sec) (k : Nat) : (strB l).extract k (strB l).size = strB (l.drop k) := by
  unfold strB
  apply ByteArray.ext
  simp [ByteArray.size]
  exact List.take_of_length_le (by simp)
theorem strB_size (l : Sec) : (strB l).size = l.length := by simp [strB, ByteArray.size]

set_option maxRecDepth 100000 in
set_option maxHeartbeats 4000000 in
theorem homes_walk (G : Nat → Prop) (w : World) (hG : ∀ k, G k → k < w.heap.size) (a : Int) (h0 : -9223372036854775808 ≤ a) (h1 : a ≤ 9223372036854775807) (ad1 : Option Addr) (len1 cap1 : Nat) (hA1 : ArgOps G w ad1 len1) :
    Calls Try.prog 4 #[.int .i64 a, .slice ad1 len1 cap1] w fun x w' => x = .returned (.bool true) ∧ Kp G w w' := by
  have HSh := hid (shown_any G w hG)
  have HMd := hid (fun W (hW : ∀ k, G k → k < W.heap.size) => made_any G W hW a h0 h1)
  have hlt : smallN a 12 < 12 := Nat.mod_lt _ (by omega)
  obtain ⟨n, hn⟩ : ∃ n, 4 + smallN a 12 = n := ⟨_, rfl⟩
  have hn4 : 4 ≤ n := by omega
  have hn15 : n ≤ 15 := by omega
  rw [hn] at HMd
  have HHG := hid hG
  have HA1 := hid hA1
  have HPn := hid ((PI.new n hn4 (by omega)).le (m' := 60000) (by omega))
  clear hn hlt hG hA1
  go_enter Try.func4, Try.ntmps4
  go_wp2_with fail
  refine HSh.out.mono ?_
  rintro x w1 ⟨rfl, k1⟩
  have HMd2 := hid (HMd.out w1 (fun k hk => Nat.lt_of_lt_of_le (HHG.out k hk) k1.size))
  have HK1 := hid k1
  clear HSh HMd k1
  go_wp2_with fail
  refine HMd2.out.mono ?_
  rintro x w2 ⟨p, l, bl, bt, rfl, o2, k2⟩
  have HK2 := hid (Kp.trans HK1.out k2)
  have HPl := hid (play_any o2 n _ HPn.out (by omega) ad1 len1 cap1 (HA1.out.kp HK2.out))
  clear HMd2 o2 k2 HK1 HPn HA1
  go_wp2_with fail
  refine HPl.out.mono ?_
  rintro x w3 ⟨rfl, bl3, bt3, D, L3, T, o3, p3, k3⟩
  have HK3 := hid (Kp.trans HK2.out k3)
  have HDr := hid (drop_any o3)
  have HP4 := hid p3.drop
  clear HPl o3 p3 k3 HK2
  go_wp2_with fail
  refine HDr.out.mono ?_
  rintro x w4 ⟨rfl, ⟨bt4, o4⟩, k4⟩
  have HK4 := hid (Kp.trans HK3.out k4)
  have HHm := hid (homes_any o4 n HP4.out.a (by omega))
  rw [HP4.out.cat] at HHm
  have HO4 := hid o4
  have HT : Hid (over L3.drop.st T = T) := rfl
  rw [HT.out] at HHm
  have Hst4 : Hid (L3.drop.st = []) := rfl
  clear HDr o4 k4 HK3 HT
  generalize hS : strB (cat T n 24) = S at *
  have HS := hid hS
  clear hS
  generalize L3.drop = L at *
  go_wp2_with fail
  refine HHm.out.mono ?_
  rintro x w5 ⟨rfl, f5⟩
  have o5 := HO4.out.nw f5
  have HK5 : Hid (Kp G w w5) := Kp.trans HK4.out f5.kp
  obtain ⟨ms, hm⟩ := HP4.out.lm
  obtain ⟨hrec, hDn⟩ : Rec 0 n (n + 24) T D.N ∧ D.n = n + 24 := by
    have ht := hm.tel
    rw [HP4.out.a.f, HP4.out.a.ln, HP4.out.a.z] at ht
    exact ⟨ht.rcd o5.r.ok.e, by rw [hm.hn, HP4.out.a.z]⟩
  have HOp := hid (Open_tel o5.d n T hm.still hDn hn4 (by omega) hrec)
  have HO5 := hid o5
  clear HHm f5 HK4 HO4 o5 hm hrec hDn ms
  go_wp2_with fail
  refine HOp.out.mono ?_
  rintro x w6 ⟨L2, l2, bl2, bt2, rfl, o6, k6, _, a6, ⟨ms6, lm6⟩, st6⟩
  have oL := HO5.out.disk o6.own k6 rfl
  have HK6 : Hid (Kp G w w6) := Kp.trans HK5.out (Kp.less k6 (fun _ hk => .inl hk))
  have HHm2 := hid (homes_any o6 n a6 (by omega))
  have Hcat : Hid (cat (L2.tell D) n 24 = cat T n 24) := by
    refine cat_congr (fun i hi => ?_)
    rw [lm6.tell _ ⟨by rw [a6.z]; omega, by rw [a6.f, a6.ln]; omega⟩, st6]
    rfl
  rw [Hcat.out, HS.out] at HHm2
  have HOL := hid oL
  clear HOp o6 k6 a6 lm6 st6 HK5 Hcat oL HO5
  go_wp2_with fail
  refine HHm2.out.mono ?_
  rintro x w7 ⟨rfl, f7⟩
  have o7 := HOL.out.nw f7
  have HK7 : Hid (Kp G w w7) := Kp.trans HK6.out f7.kp
  have HHo := hid (Home_any o7 (HP4.out.sm.le (by have := HP4.out.lg; omega)) (by have := HP4.out.lg; omega))
  have HHp := hid (PI.home (m := 19000) (HP4.out.le (by omega)) o7.r.ok o7.srts.1)
  rw [HHp.out.1] at HHo
  have Hst8 : Hid ((HomeL D L).st = []) := by
    unfold Hid HomeL
    split
    · exact Hst4.out
    · split
      · exact Hst4.out
      · unfold Lg.noted HomL
        split <;> split <;> exact Hst4.out
  clear HHm2 f7 o7 HK6 HOL
  generalize HomeD D L = D8 at *
  generalize HomeL D L = L8 at *
  go_wp2_with fail
  refine HHo.out.mono ?_
  rintro x w8 ⟨rfl, ⟨bl8, o8⟩, k8⟩
  have HK8 := hid (Kp.trans HK7.out k8)
  have HHm3 := hid (homes_any o8 n HHp.out.2.1.a (by omega))
  rw [HHp.out.2.1.cat, Hst8.out, over_nil, HS.out] at HHm3
  have HO8 := hid o8
  clear HHo o8 k8 HK7
  go_wp2_with fail
  refine HHm3.out.mono ?_
  rintro x w9 ⟨rfl, f9⟩
  have o9 := HO8.out.nw f9
  have HK9 : Hid (Kp G w w9) := Kp.trans HK8.out f9.kp
  have hq8 : D8.Q = [] := HHp.out.2.2.still.q
  have HIm := hid (image_any o9.d (by rw [hq8]; simp))
  have hN8 : D8.N.length = (n + 24) * 128 := by
    have := HHp.out.2.2.tel.i.len
    rw [HHp.out.2.1.a.z] at this
    exact this
  have HRaw : Hid ((strB D8.N).extract (n * 128) (strB D8.N).size = S) := by
    unfold Hid
    rw [strB_from, ← HS.out]
    have e : D8.N.drop (n * 128) = (D8.N.drop (n * 128)).take (24 * 128) := by rw [List.take_of_length_le (by rw [List.length_drop, hN8]; omega)]
    rw [e, ← drop_cat]
    congr 1
    refine cat_congr (fun i hi => ?_)
    rw [← HHp.out.2.2.tel.t (n + i) (by rw [HHp.out.2.1.a.z]; omega) (by rw [HHp.out.2.1.a.f, HHp.out.2.1.a.ln]; omega)]
    rfl
  have hsz : (strB D8.N).size = (n + 24) * 128 := by rw [strB_size, hN8]
  have HO9 := hid o9
  have Hu8 : Hid (L8.u = 0) := HHp.out.2.2.u
  clear HHm3 f9 o9 HK8 HO8 hN8
  generalize hX : strB D8.N = X at *
  clear hX
  have hmul : IntKind.i64.wrap ((n : Int) * 128) = (n : Int) * 128 := by simp [IntKind.wrap, IntKind.bits, IntKind.signed]; omega
  have hb0 : (0 : Int) ≤ (n : Int) * 128 := by omega
  have hb1 : (n : Int) * 128 ≤ (X.size : Int) := by rw [hsz]; omega
  have hb2 : ((n : Int) * 128).toNat = n * 128 := by omega
  have hEx : X.extract (n * 128) X.size = S := HRaw.out
  clear HRaw hsz
  go_wp2_with fail
  refine HIm.out.mono ?_
  rintro x w10 ⟨rfl, o10, k10⟩
  have oL := HO9.out.disk o10 k10 rfl
  have HK10 : Hid (Kp G w w10) := Kp.trans HK9.out (Kp.less k10 (fun _ hk => .inl hk))
  have HUs := hid (used_any oL.r)
  rw [Hu8.out] at HUs
  have HDi := hid (own_dirty oL.d)
  rw [hq8] at HDi
  simp only [List.length_nil] at HDi
  clear HIm o10 k10 oL HO9 HK9
  go_wp2_with fail
  refine HUs.out.mono ?_
  rintro x w11 ⟨rfl, rfl⟩
  go_wp2_with fail
  refine HDi.out.mono ?_
  rintro x w12 ⟨rfl, rfl⟩
  go_wp2
  go_ret
  exact ⟨rfl, HK10.out⟩

end Go.Proofs.Ytagcpjekeogkbaa.Wl
