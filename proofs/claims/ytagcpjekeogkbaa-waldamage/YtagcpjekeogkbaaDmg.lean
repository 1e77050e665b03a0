/- WalDamage: the walk. -/
import Derived.Test.YtagcpjekeogkbaaOne
import Derived.Test.YtagcpjekeogkbaaOpm
import Derived.Test.YtagcpjekeogkbaaPly
namespace Go.Proofs.Ytagcpjekeogkbaa.Wl
open Go.RowKit Dk

set_option maxRecDepth 100000 in
set_option maxHeartbeats 400000 in
theorem small_big (w : World) (a : Int) (n : Nat) (h0 : -9223372036854775808 ≤ a) (h1 : a ≤ 9223372036854775807) (hn : 1 ≤ n) :
    Calls Try.prog 14 #[.int .i64 a, .int .i64 (n : Int)] w fun x w' => x = .returned (.int .i64 ((smallN a n : Nat) : Int)) ∧ w' = w := by
  have hn0 : ((n : Int) == 0) = false := by simp; omega
  have hn1 : ¬ (n : Int) = 0 := by omega
  have hn3 : ¬ (n : Int) = -1 := by omega
  by_cases ha : a < 0
  · have e1 : IntKind.i64.wrap (a + 1) = a + 1 := by simp [IntKind.wrap, IntKind.bits, IntKind.signed]; omega
    have e2 : IntKind.i64.wrap (-(a + 1)) = -(a + 1) := by simp [IntKind.wrap, IntKind.bits, IntKind.signed]; omega
    have HE : Hid (((smallN a n : Nat) : Int) = -((a + 1).tmod (n : Int))) := by
      unfold Hid smallN
      rw [if_pos ha, ← Int.neg_tmod]
      obtain ⟨k, hk⟩ := Int.eq_ofNat_of_zero_le (show 0 ≤ -(a + 1) by omega)
      rw [hk]
      rfl
    go_enter Try.func14, Try.ntmps14
    go_wp2
    go_ret
    exact ⟨by rw [HE.out]; rfl, rfl⟩
  · have HE : Hid (((smallN a n : Nat) : Int) = a % (n : Int)) := by
      unfold Hid smallN
      rw [if_neg ha]
      obtain ⟨k, hk⟩ := Int.eq_ofNat_of_zero_le (show 0 ≤ a by omega)
      rw [hk]
      rfl
    go_enter Try.func14, Try.ntmps14
    go_wp2
    go_ret
    exact ⟨by rw [HE.out]; rfl, rfl⟩

/-- What Open tells of an image in which one byte of the sector pl was changed. -/
def DmgPost (G : Nat → Prop) (w : World) (p n : Nat) (T : Nat → Sec) (D : Dsk) (bad : Prop) (x : Ending) (w' : World) : Prop :=
  (bad ∧ x = .returned (.tuple #[.pointer none, .int .i64 46]) ∧ Kp G w w') ∨
  (¬ bad ∧ ∃ L l bl bt, x = .returned (.tuple #[pv l, .int .i64 0]) ∧ OwnL G w' l p bl bt D L ∧ Kp G w w' ∧ Asks n D L ∧ cat (L.tell D) n 24 = cat T n 24)

theorem Open_dmg {G : Nat → Prop} {w : World} {p : Nat} {D D' : Dsk} {n e : Nat} {ms : List SMap} {T : Nat → Sec} (h : Dk.Own G w p D') (hup : D'.up = true) (hz : D'.n = n + 24) (hn : 4 ≤ n) (hn2 : n ≤ 255) (he : e < 18446744073709551616) (ht : Tel 0 n (n + 24) e ms T D.N) (pl j : Nat) (hpl : pl < n) (c : UInt8)
    (hj2 : j < (sec D.N pl).length) (hc : c ≠ (sec D.N pl)[j]) (hN : D'.N = splice D.N (pl * 128) ((sec D.N pl).set j c)) :
    Calls Try.prog 20 #[pv p, .int .i64 0, .int .i64 (n : Int)] w (DmgPost G w p n T D' (pl ≤ (flat ms).length)) := by
  have r : Rgn 0 n (n + 24) := ⟨hn, hn2, by omega, by omega⟩
  have hmb : mayBe ((0 : Nat) : Int) (n : Int) (D'.n : Int) = true := by rw [hz]; simp [mayBe]; omega
  have hsl : ((sec D.N pl).set j c).length = 128 := by rw [List.length_set]; exact sec_length _ (n + 24) _ ht.i.len (by omega)
  have hsec : ∀ k, k < n + 24 → sec D'.N k = if k = pl then (sec D.N pl).set j c else sec D.N k := fun k hk => by
    rw [hN]; exact sec_splice _ _ (n + 24) pl k ht.i.len (by omega) hk hsl
  by_cases h0 : pl = 0
  · subst h0
    have hctl := ht.i.ctl
    have hbad : isCtl (sec D'.N 0) = false := by
      rw [hsec 0 (by omega), if_pos rfl]
      generalize sec D.N 0 = s at *
      subst hctl
      exact isCtl_one _ _ _ j hj2 c hc
    refine (Open_no h 0 n hup hmb hbad).mono ?_
    rintro x w' ⟨hx, _, hk⟩
    exact .inl ⟨Nat.zero_le _, hx, hk⟩
  · have hctl : sec D'.N 0 = ctl e (flat ms).length ((flat ms).foldl upd beg) := by rw [hsec 0 (by omega), if_neg (by omega)]; exact ht.i.ctl
    have hle := ht.i.le
    by_cases hb : pl ≤ (flat ms).length
    · have hi : pl - 1 < (flat ms).length := by omega
      have hrow := ht.i.row (pl - 1) hi
      rw [show 0 + 1 + (pl - 1) = pl by omega] at hrow
      have hP : placesOf D' 0 (flat ms).length = (flat ms).set (pl - 1) ((flat ms)[pl - 1].set j c) := by
        apply List.ext_getElem
        · rw [placesOf_length, List.length_set]
        · intro k h1 h2
          have hk : k < (flat ms).length := by rw [List.length_set] at h2; exact h2
          simp only [placesOf, List.getElem_map, List.getElem_range]
          rw [hsec _ (by omega), List.getElem_set]
          by_cases hkp : pl - 1 = k
          · rw [if_pos (by omega), if_pos hkp, hrow]
          · rw [if_neg (by omega), if_neg hkp]
            exact ht.i.row k hk
      have hne : (placesOf D' 0 (flat ms).length).foldl upd beg ≠ (flat ms).foldl upd beg := by
        rw [hP]
        exact foldupd_one (flat ms) (pl - 1) hi j (by rw [← hrow]; exact hj2) c (by simp only [← hrow]; exact hc)
      have key := Open_ctl h 0 n e (flat ms).length ((flat ms).foldl upd beg) hup hmb he hle (foldupd_lt _ _ beg_lt) hctl (Lg.at 0 n D'.n e (flat ms).length ((flat ms).foldl upd beg)) 46 (.inl ⟨hne, rfl, rfl⟩)
      refine key.mono ?_
      rintro x w' (⟨h46, _⟩ | ⟨_, hx, _, hk⟩)
      · cases h46
      · exact .inl ⟨hb, hx, hk⟩
    · have ht' : Tel 0 n (n + 24) e ms T D'.N := by
        rw [hN]
        have := ht.place r (pl - 1) ((sec D.N pl).set j c) hsl (by omega) (by omega)
        rwa [show 0 + 1 + (pl - 1) = pl by omega] at this
      have hok : ∀ m ∈ ms, OkRow (Lg.new 0 n D'.n 0) m := fun m hm => (ht'.i.ok m hm).to rfl rfl hz
      have key := Open_ctl h 0 n e (flat ms).length ((flat ms).foldl upd beg) hup hmb he hle (foldupd_lt _ _ beg_lt) ht'.i.ctl
        { Lg.at 0 n D'.n e (flat ms).length ((flat ms).foldl upd beg) with lg := ms.foldl merge [] } 0 (.inr ⟨by rw [places_flat ht'.i], rfl, ms, places_flat ht'.i, hok, rfl⟩)
      refine key.mono ?_
      rintro x w' (⟨_, l, bl, bt, hx, ho, hk, hsz⟩ | ⟨h0', _⟩)
      · refine .inr ⟨hb, _, l, bl, bt, hx, ho, hk, ⟨hup, rfl, rfl, rfl, hz⟩, cat_congr (fun i hi => ?_)⟩
        rw [← ht'.t (n + i) (by omega) (by omega)]
        rfl
      · exact absurd rfl h0'

set_option maxRecDepth 100000 in
set_option maxHeartbeats 4000000 in
theorem damage_walk (G : Nat → Prop) (w : World) (hG : ∀ k, G k → k < w.heap.size) (a : Int) (h0 : -9223372036854775808 ≤ a) (h1 : a ≤ 9223372036854775807) (ad1 : Option Addr) (len1 cap1 : Nat) (hA1 : ArgOps G w ad1 len1) (at0 : Int) (ha0 : -9223372036854775808 ≤ at0) (ha1 : at0 ≤ 9223372036854775807) (y : UInt8) :
    Calls Try.prog 6 #[.int .i64 a, .slice ad1 len1 cap1, .int .i64 at0, .int .u8 (y.toNat : Int)] w fun x w' => x = .returned (.bool true) ∧ Kp G w w' := by
  have HSh := hid (shown_any G w hG)
  have HMd := hid (fun W (hW : ∀ k, G k → k < W.heap.size) => made_any G W hW a h0 h1)
  have hlt : smallN a 12 < 12 := Nat.mod_lt _ (by omega)
  obtain ⟨n, hn⟩ : ∃ n, 4 + smallN a 12 = n := ⟨_, rfl⟩
  have hn4 : 4 ≤ n := by omega
  have hn15 : n ≤ 15 := by omega
  rw [hn] at HMd
  have HHG := hid hG
  have HA1 := hid hA1
  have HPn := hid ((PI.new n hn4 (by omega)).le (m' := 60000) (by omega))
  have HSb : Hid (∀ W, _) := fun W => small_big W at0 (n * 128) ha0 ha1 (by omega)
  have hkk : smallN at0 (n * 128) < n * 128 := Nat.mod_lt _ (by omega)
  have hc128 : ((n * 128 : Nat) : Int) = (n : Int) * 128 := by omega
  rw [hc128] at HSb
  generalize smallN at0 (n * 128) = kk at *
  obtain ⟨pl, hpl⟩ : ∃ pl, kk / 128 = pl := ⟨_, rfl⟩
  obtain ⟨j, hj⟩ : ∃ j, kk % 128 = j := ⟨_, rfl⟩
  have hpl2 : (kk : Int) / 128 = (pl : Int) := by omega
  have hj2 : (kk : Int) % 128 = (j : Int) := by omega
  have hplb : pl < n := by omega
  have hjb : j < 128 := by omega
  clear hn hlt hG hA1 hc128 hpl hj
  go_enter Try.func6, Try.ntmps6
  go_wp2_with fail
  refine HSh.out.mono ?_
  rintro x w1 ⟨rfl, k1⟩
  have HMd2 := hid (HMd.out w1 (fun k hk => Nat.lt_of_lt_of_le (HHG.out k hk) k1.size))
  have HK1 := hid k1
  clear HSh HMd k1
  go_wp2_with fail
  refine HMd2.out.mono ?_
  rintro x w2 ⟨p, l, bl, bt, rfl, o2, k2⟩
  have HK2 := hid (Kp.trans HK1.out k2)
  have HPl := hid (play_any o2 n _ HPn.out (by omega) ad1 len1 cap1 (HA1.out.kp HK2.out))
  clear HMd2 o2 k2 HK1 HPn HA1
  go_wp2_with fail
  refine HPl.out.mono ?_
  rintro x w3 ⟨rfl, bl3, bt3, D, L3, T, o3, p3, k3⟩
  have HK3 := hid (Kp.trans HK2.out k3)
  have HDr := hid (drop_any o3)
  have HP4 := hid p3.drop
  clear HPl o3 p3 k3 HK2
  go_wp2_with fail
  refine HDr.out.mono ?_
  rintro x w4 ⟨rfl, ⟨bt4, o4⟩, k4⟩
  have HK4 := hid (Kp.trans HK3.out k4)
  have HHm := hid (homes_any o4 n HP4.out.a (by omega))
  rw [HP4.out.cat] at HHm
  have HO4 := hid o4
  have HT : Hid (over L3.drop.st T = T) := rfl
  rw [HT.out] at HHm
  clear HDr o4 k4 HK3 HT
  generalize hS : strB (cat T n 24) = S at *
  have HS := hid hS
  clear hS
  generalize L3.drop = L at *
  go_wp2_with fail
  refine HHm.out.mono ?_
  rintro x w5 ⟨rfl, f5⟩
  have HO5 := hid (HO4.out.nw f5)
  have HK5 : Hid (Kp G w w5) := Kp.trans HK4.out f5.kp
  clear HHm f5 HK4 HO4
  have hm128 : IntKind.i64.wrap ((n : Int) * 128) = (n : Int) * 128 := by simp [IntKind.wrap, IntKind.bits, IntKind.signed]; omega
  obtain ⟨ms, hm⟩ := HP4.out.lm
  have hDn : D.n = n + 24 := by rw [hm.hn, HP4.out.a.z]
  have ht0 := hm.tel
  rw [HP4.out.a.f, HP4.out.a.ln, HP4.out.a.z] at ht0
  have HTel := hid ht0
  have Hu := hid hm.u
  have Hup := hid hm.still.up
  have hsl : (sec D.N pl).length = 128 := sec_length _ (n + 24) _ ht0.i.len (by omega)
  have Hsl := hid hsl
  have HRd := hid (own_read HO5.out.d pl hm.still.up (by rw [hDn]; omega))
  have HWc := hid (fun (b : Sec) (hb : b.length = 128) => write_cases hm.still.up pl (by rw [hDn]; omega) b hb)
  have Hnb := hid HP4.out.nb
  have Hsm := hid HP4.out.sm
  have He := hid HO5.out.r.ok.e
  have HDn := hid hDn
  clear hm ht0 hDn HP4
  go_wp2_with fail
  refine (HSb.out _).mono ?_
  rintro x w6 ⟨rfl, rfl⟩
  clear HSb
  go_wp2_with fail
  refine HRd.out.mono ?_
  rintro x w7 ⟨rfl, rfl⟩
  clear HRd
  have HK7 : Hid (Kp G w (w6.alloc (.cells (bs (sec D.N pl)).toArray 79))) := Kp.trans HK5.out (show Kp G _ _ from (Fr.refl _ w6).alloc _)
  by_cases hy : y.toNat = 0
  · have hy0 : ((y.toNat : Int) == 0) = true := by simpa using hy
    go_wp2
    go_ret
    exact ⟨rfl, HK7.out⟩
  · have hy0 : ((y.toNat : Int) == 0) = false := by simpa using hy
    have hjs : j < (sec D.N pl).length := by omega
    have HB7 := Blk.new w6 79 (bs (sec D.N pl))
    have hcell : (w6.alloc (.cells (bs (sec D.N pl)).toArray 79)).cell? ⟨w6.heap.size, j, none⟩ = some (.int .u8 ((sec D.N pl)[j].toNat : Int)) := by
      rw [HB7.cell]; simp [bs, bv, hjs]
    have hfz := HB7.frozen j
    have hx8 : bits .xor .u8 ((sec D.N pl)[j].toNat : Int) (y.toNat : Int) = (((sec D.N pl)[j] ^^^ y).toNat : Int) := by
      rw [u8_xor_nat _ _ (UInt8.toNat_lt _) (UInt8.toNat_lt _), UInt8.toNat_xor]
    have hj0 : (0 : Int) ≤ (j : Int) := Int.natCast_nonneg _
    have hj1 : (j : Int) < 128 := by omega
    have Hne : Hid ((sec D.N pl)[j] ^^^ y ≠ (sec D.N pl)[j]) := xor_ne _ _ hy
    have HB8 : Hid (Blk ((w6.alloc (.cells (bs (sec D.N pl)).toArray 79)).setCell ⟨w6.heap.size, j, none⟩ (.int .u8 (((sec D.N pl)[j] ^^^ y).toNat : Int))) w6.heap.size 79 (bs ((sec D.N pl).set j ((sec D.N pl)[j] ^^^ y)))) := by
      have := HB7.setCell j (.int .u8 (((sec D.N pl)[j] ^^^ y).toNat : Int))
      have e : (bs (sec D.N pl)).set j (.int .u8 (((sec D.N pl)[j] ^^^ y).toNat : Int)) = bs ((sec D.N pl).set j ((sec D.N pl)[j] ^^^ y)) := by
        simp only [bs, List.map_set]
        rfl
      rwa [e] at this
    have HO8 := hid ((HO5.out.more (.cells (bs (sec D.N pl)).toArray 79)).pokeG (b := w6.heap.size) (.inr rfl) j (.int .u8 (((sec D.N pl)[j] ^^^ y).toNat : Int)))
    have HK8 : Hid (Kp G w ((w6.alloc (.cells (bs (sec D.N pl)).toArray 79)).setCell ⟨w6.heap.size, j, none⟩ (.int .u8 (((sec D.N pl)[j] ^^^ y).toNat : Int)))) := HK7.out.setCell (.inr HK5.out.size) _
    have hls : ((sec D.N pl).set j ((sec D.N pl)[j] ^^^ y)).length = 128 := by rw [List.length_set]; exact Hsl.out
    have HW := hid (HO8.out.write (Hsm.out.le (by omega)) (pl : Int) _ hls w6.heap.size 79 128 HB8.out (.inr rfl))
    have hD' : (D.write (pl : Int) ((sec D.N pl).set j ((sec D.N pl)[j] ^^^ y))).up = true ∧ (D.write (pl : Int) ((sec D.N pl).set j ((sec D.N pl)[j] ^^^ y))).n = n + 24 ∧ (D.write (pl : Int) ((sec D.N pl).set j ((sec D.N pl)[j] ^^^ y))).N = splice D.N (pl * 128) ((sec D.N pl).set j ((sec D.N pl)[j] ^^^ y)) := by
      rcases HWc.out _ hls with ⟨_, b2, _, b4, b5⟩ | ⟨_, _, b3, _⟩
      · exact ⟨b2, b4.trans HDn.out, b5⟩
      · rw [Hnb.out] at b3; cases b3
    have HOp := hid (fun W (G' : Nat → Prop) (ho : Dk.Own G' W p (D.write (pl : Int) ((sec D.N pl).set j ((sec D.N pl)[j] ^^^ y)))) => Open_dmg ho hD'.1 hD'.2.1 hn4 (by omega) He.out HTel.out pl j hplb _ hjs Hne.out hD'.2.2)
    clear HB7 HB8 HO8 HWc Hne hls hD' HTel HK7
    generalize (D.write (pl : Int) ((sec D.N pl).set j ((sec D.N pl)[j] ^^^ y))) = D' at *
    generalize D.writeE (pl : Int) 128 = we at *
    generalize (((sec D.N pl)[j] ^^^ y).toNat : Int) = cv at *
    generalize w6.alloc (.cells (bs (sec D.N pl)).toArray 79) = W7 at *
    go_wp2_with fail
    refine HW.out.mono ?_
    rintro x w9 ⟨rfl, o9, k9⟩
    have HK9 : Hid (Kp G w w9) := Kp.trans HK8.out (Kp.less k9 (fun _ hk => .inl hk))
    have HO9 := hid o9
    have HOp2 := hid (HOp.out w9 _ o9.d)
    clear HW HOp o9 k9 HK8
    go_wp2_with fail
    refine HOp2.out.mono ?_
    intro x w10 hpost
    clear HOp2
    rcases hpost with ⟨hb, rfl, k10⟩ | ⟨hb, L2, l2, bl2, bt2, rfl, o10, k10, a10, hcat⟩
    · have r10 := HO9.out.r.fr k10 (fun hn => hn (.inr (.inl rfl))) (fun hn => hn (.inr (.inr (.inl rfl)))) (fun hn => hn (.inr (.inr (.inr rfl))))
      have HUs := hid (used_any r10)
      have HK10 : Hid (Kp G w w10) := Kp.trans HK9.out (Kp.less k10 (fun _ hk => .inl (.inl hk)))
      have hle : (pl : Int) ≤ (L.u : Int) := by rw [Hu.out]; omega
      clear r10 k10 HO9 HK9
      go_wp2_with fail
      refine HUs.out.mono ?_
      rintro x w11 ⟨rfl, rfl⟩
      go_wp2
      go_ret
      exact ⟨rfl, HK10.out⟩
    · have r10 := HO9.out.r.fr k10 (fun hn => hn (.inr (.inl rfl))) (fun hn => hn (.inr (.inr (.inl rfl)))) (fun hn => hn (.inr (.inr (.inr rfl))))
      have HUs := hid (used_any r10)
      have HK10 : Hid (Kp G w w10) := Kp.trans HK9.out (Kp.less k10 (fun _ hk => .inl (.inl hk)))
      have hle : ¬ (pl : Int) ≤ (L.u : Int) := by rw [Hu.out]; omega
      have HHm := hid (homes_any o10 n a10 (by omega))
      rw [hcat, HS.out] at HHm
      clear r10 k10 HO9 HK9 o10 a10 hcat
      go_wp2_with fail
      refine HUs.out.mono ?_
      rintro x w11 ⟨rfl, rfl⟩
      go_wp2_with fail
      refine HHm.out.mono ?_
      rintro x w12 ⟨rfl, f12⟩
      have HK12 : Hid (Kp G w w12) := Kp.trans HK10.out f12.kp
      clear HHm f12 HK10
      go_wp2
      go_ret
      exact ⟨rfl, HK12.out⟩

end Go.Proofs.Ytagcpjekeogkbaa.Wl
