/- AllocDamage: size, one byte of the head changed, the walk. -/
import Derived.Test.YtehoiahgkbnjdaaShw
import Derived.Laws.BitsAllLaws
namespace Go.Proofs.Ytehoiahgkbnjdaa.Al
open Go.RowKit Go.Shelf Dk Wl

def sizeN (a : Int) : Nat := 64 + (if a < 0 then -(a + 1) else a).toNat % 140
theorem size_b (a : Int) : 64 ≤ sizeN a ∧ sizeN a ≤ 203 := by unfold sizeN; omega

set_option maxRecDepth 100000 in
set_option maxHeartbeats 400000 in
theorem size_any (w : World) (a : Int) (h0 : -9223372036854775808 ≤ a) (h1 : a ≤ 9223372036854775807) :
    Calls Try.prog 8 #[.int .i64 a] w fun x w' => x = .returned (.int .i64 ((sizeN a : Nat) : Int)) ∧ w' = w := by
  by_cases ha : a < 0
  · obtain ⟨k, hk⟩ := Int.eq_ofNat_of_zero_le (show 0 ≤ -(a + 1) by omega)
    obtain rfl : a = -(k : Int) - 1 := by omega
    have e1 : IntKind.i64.wrap (-(k : Int) - 1 + 1) = -(k : Int) := by simp [IntKind.wrap, IntKind.bits, IntKind.signed]; omega
    have e2 : IntKind.i64.wrap (- -(k : Int)) = (k : Int) := by simp [IntKind.wrap, IntKind.bits, IntKind.signed]; omega
    have HE : Hid (((sizeN (-(k : Int) - 1) : Nat) : Int) = 64 + (k : Int) % 140) := by
      unfold Hid sizeN
      rw [if_pos ha, hk]
      omega
    clear hk
    go_enter Try.func8, Try.ntmps8
    go_wp2
    go_ret
    exact ⟨by rw [HE.out]; rfl, rfl⟩
  · obtain ⟨k, rfl⟩ := Int.eq_ofNat_of_zero_le (show 0 ≤ a by omega)
    have HE : Hid (((sizeN (k : Int) : Nat) : Int) = 64 + (k : Int) % 140) := by
      unfold Hid sizeN
      rw [if_neg ha]
      omega
    go_enter Try.func8, Try.ntmps8
    go_wp2
    go_ret
    exact ⟨by rw [HE.out]; rfl, rfl⟩

theorem xor_ne (a y : UInt8) (hy : ¬ y.toNat = 0) : a ^^^ y ≠ a := by
  intro h
  apply hy
  have e := congrArg UInt8.toNat h
  rw [UInt8.toNat_xor] at e
  have : (a.toNat ^^^ y.toNat) ^^^ a.toNat = a.toNat ^^^ a.toNat := by rw [e]
  rwa [Nat.xor_comm a.toNat y.toNat, Nat.xor_assoc, Nat.xor_self, Nat.xor_zero] at this
theorem headB_inj {n m : Nat} (hn : n ≤ 1024) (hm : m ≤ 1024) (h : headB n = headB m) : n = m := by
  have e : ∀ k, ((headB k).drop 8).take 4 = le 4 k := fun k => by
    unfold headB pad
    rw [List.append_assoc, List.drop_left' (by simp [rdm]), List.take_left' (le_length 4 k)]
  have h1 := (e n).symm.trans ((congrArg (fun s => (s.drop 8).take 4) h).trans (e m))
  rw [← num_le 4 n (by omega), ← num_le 4 m (by omega), h1]

set_option maxRecDepth 100000 in
set_option maxHeartbeats 4000000 in
theorem damage_pos (G : Nat → Prop) (w : World) (hG : ∀ k, G k → k < w.heap.size) (a : Int) (h0 : -9223372036854775808 ≤ a) (h1 : a ≤ 9223372036854775807) (k : Nat) (hkb : (k : Int) ≤ 9223372036854775807) (y : UInt8) (c : Int) (hc0 : -9223372036854775808 ≤ c) (hc1 : c ≤ 9223372036854775807) :
    Calls Try.prog 4 #[.int .i64 a, .int .i64 (k : Int), .int .u8 (y.toNat : Int), .int .i64 c] w fun x w' => x = .returned (.bool true) ∧ Kp G w w' := by
  have HSh := hid (shown_al G w hG)
  have HSz := hid (fun W => size_any W a h0 h1)
  have HSc := hid (fun W => size_any W c hc0 hc1)
  have hsb := size_b a
  have hsc := size_b c
  have HHG := hid hG
  clear h0 h1 hc0 hc1 hG
  generalize sizeN a = n at *
  generalize sizeN c = m at *
  have HM := hid (fun W (hW : ∀ k, G k → k < W.heap.size) => made_al G W hW n (by omega) (by omega))
  have Hll := hid (lay_ll n (by omega))
  have Hin := hid (fun (e : headB n = headB m) => headB_inj (by omega) (by omega) e)
  have HOa := hid (fun W l p bl bt D L (o : OwnL G W l p bl bt D L) (hr : L.reach 0 = 0) (hup : D.up = true) => Open_al o n (by omega) (by omega) hr hup)
  have HOm := hid (fun W l p bl bt D L (o : OwnL G W l p bl bt D L) (hr : L.reach 0 = 0) (hup : D.up = true) => Open_al o m (by omega) (by omega) hr hup)
  have H1n : Hid (0 < n) := by unfold Hid; omega
  have HT0 : Hid (T0 n 0 = headB n) := rfl
  have Hhl := hid (headB_length n)
  obtain ⟨j, hj⟩ : ∃ j, k % 128 = j := ⟨_, rfl⟩
  have hj2 : (k : Int) % 128 = (j : Int) := by omega
  have hjb : j < 128 := by omega
  have hk0 : ¬ (k : Int) < 0 := by omega
  have Hnm : Hid (n ≤ 1024) := by unfold Hid; omega
  clear hj hsb hsc
  go_enter Try.func4, Try.ntmps4
  go_wp2_with fail
  refine HSh.out.mono ?_
  rintro x w1 ⟨rfl, k1⟩
  have HK1 := hid k1
  clear HSh k1
  go_wp2_with fail
  refine (HSz.out _).mono ?_
  rintro x w2 ⟨rfl, rfl⟩
  have HM2 := hid (HM.out w2 (fun k hk => Nat.lt_of_lt_of_le (HHG.out k hk) HK1.out.size))
  clear HSz HM HHG
  go_wp2_with fail
  refine HM2.out.mono ?_
  rintro x w3 ⟨p, l, sp, bl, bt, D, L, rfl, o3, b3, hsp, k3, a3, t3⟩
  have HO3 := hid (o3.less (G' := G) (fun _ hk => .inl hk))
  have HA3 := hid a3
  have HT3 := hid t3
  have HK3 := hid (Kp.trans HK1.out k3)
  clear HM2 o3 b3 hsp k3 a3 t3 HK1
  by_cases hy : y.toNat = 0
  · have hy0 : ((y.toNat : Int) == 0) = true := by simpa using hy
    go_wp2
    go_ret
    exact ⟨rfl, HK3.out⟩
  · have hy0 : ((y.toNat : Int) == 0) = false := by simpa using hy
    have hr0 : L.reach 0 = 0 := HA3.out.reach 0 H1n.out (.inl rfl)
    have htl : L.tell D 0 = headB n := by
      rw [HA3.out.tell 0 H1n.out (.inl rfl), HT3.out]
      exact HT0.out
    have HRd := hid (Read_ok HO3.out 0 hr0 HA3.out.up)
    rw [htl] at HRd
    clear hr0 htl
    generalize hhb : headB n = hb at *
    have Hhb := hid hhb
    clear hhb
    go_wp2_with fail
    refine HRd.out.mono ?_
    rintro x w4 ⟨g, tg, rfl, bg, hgg, f4⟩
    have hjs : j < hb.length := by rw [Hhl.out]; exact hjb
    have hcell : w4.cell? ⟨g, j, none⟩ = some (.int .u8 (hb[j].toNat : Int)) := by
      rw [bg.cell]; simp [bs, bv, hjs]
    have hfz := bg.frozen j
    have hx8 : bits .xor .u8 (hb[j].toNat : Int) (y.toNat : Int) = ((hb[j] ^^^ y).toNat : Int) := by
      rw [u8_xor_nat _ _ (UInt8.toNat_lt _) (UInt8.toNat_lt _), UInt8.toNat_xor]
    have hj0 : (0 : Int) ≤ (j : Int) := Int.natCast_nonneg _
    have hj1 : (j : Int) < 128 := by omega
    have Hne : Hid (hb.set j (hb[j] ^^^ y) ≠ hb) := fun e => by
      have h2 : (hb.set j (hb[j] ^^^ y))[j]? = hb[j]? := by rw [e]
      simp [hjs] at h2
      exact xor_ne _ _ hy h2
    have HB5 : Hid (Blk (w4.setCell ⟨g, j, none⟩ (.int .u8 ((hb[j] ^^^ y).toNat : Int))).drew g tg (bs (hb.set j (hb[j] ^^^ y)))) := by
      have := bg.setCell j (.int .u8 ((hb[j] ^^^ y).toNat : Int))
      have e : (bs hb).set j (.int .u8 ((hb[j] ^^^ y).toNat : Int)) = bs (hb.set j (hb[j] ^^^ y)) := by
        simp only [bs, List.map_set]
        rfl
      rw [e] at this
      exact this.drew
    have HF5 : Hid (Nw w3 (w4.setCell ⟨g, j, none⟩ (.int .u8 ((hb[j] ^^^ y).toNat : Int))).drew) := (Fr.setCell f4 (p := ⟨g, j, none⟩) (.inr hgg) _).drew
    have Hls : Hid ((hb.set j (hb[j] ^^^ y)).length = 128) := by unfold Hid; rw [List.length_set]; exact Hhl.out
    have HK5 : Hid (Kp G w (w4.setCell ⟨g, j, none⟩ (.int .u8 ((hb[j] ^^^ y).toNat : Int))).drew) := Kp.trans HK3.out HF5.out.kp
    clear HRd bg hgg f4 HK3
    generalize hb.set j (hb[j] ^^^ y) = b' at *
    generalize ((hb[j] ^^^ y).toNat : Int) = cv at *
    go_wp2_with fail
    go_region
    have HSg := hid (stage_any (HO3.out.nw HF5.out) 0 b' (some ⟨g, 0, none⟩) 128 (fun _ => ⟨g, 0, rfl, HB5.out.range 0 _ (by simp), HB5.out.lt⟩) (HA3.out.few Hnm.out))
    rw [Hls.out] at HSg
    obtain ⟨a5, t5⟩ := HA3.out.stage 0 H1n.out (.inl rfl) b' Hls.out (by rw [HT3.out]; have := Hll.out; unfold cost; simp; omega)
    rw [HT3.out] at t5
    have a5' : AI n 90000 (T0 n) D (L.stage 0 b') := a5
    have t5' : (L.stage 0 b').st = [(0, b')] := t5
    have HA5 := hid a5'
    have HT5 := hid t5'
    clear a5 t5 a5' t5' HF5 HB5 HO3 HA3 HT3 hcell hfz hx8
    generalize (w4.setCell ⟨g, j, none⟩ (.int .u8 cv)).drew = w5 at *
    generalize L.stageE 0 128 = E5 at *
    generalize L.stage 0 b' = L5 at *
    go_wp2_with fail
    refine HSg.out.mono ?_
    rintro x w6 ⟨rfl, o6, k6⟩
    have HK6 := hid (Kp.trans HK5.out k6)
    have hr6 : L5.reach 0 = 0 := HA5.out.reach 0 H1n.out (.inl rfl)
    have htl6 : L5.tell D 0 = b' := by rw [HA5.out.tell 0 H1n.out (.inl rfl), HT5.out]; rfl
    have HO7 := hid (HOa.out _ _ _ _ _ _ _ o6 hr6 HA5.out.up)
    rw [htl6, decide_eq_false Hne.out] at HO7
    unfold OpenAl at HO7
    simp only [Bool.false_eq_true, if_false] at HO7
    clear HSg o6 k6 hr6 htl6 HK5
    go_wp2_with fail
    refine HO7.out.mono ?_
    rintro x w7 ⟨rfl, o7, k7⟩
    have HK7 := hid (Kp.trans HK6.out k7)
    have HDr := hid (drop_any o7)
    have HA8 := hid HA5.out.drop
    have HT8 : Hid (L5.drop.st = []) := rfl
    clear HO7 o7 k7 HK6 HA5 HT5
    generalize L5.drop = L8 at *
    go_wp2_with fail
    refine HDr.out.mono ?_
    rintro x w8 ⟨rfl, ⟨bt8, o8⟩, k8⟩
    have HK8 := hid (Kp.trans HK7.out k8)
    have hr8 : L8.reach 0 = 0 := HA8.out.reach 0 H1n.out (.inl rfl)
    have htl8 : L8.tell D 0 = hb := by rw [HA8.out.tell 0 H1n.out (.inl rfl), HT8.out]; exact HT0.out
    have HO9 := hid (HOa.out _ _ _ _ _ _ _ o8 hr8 HA8.out.up)
    rw [htl8, decide_eq_true rfl] at HO9
    unfold OpenAl at HO9
    simp only [if_true] at HO9
    have Htl8 := hid htl8
    have Hr8 := hid hr8
    clear HDr o8 k8 HK7 hr8 htl8
    go_wp2_with fail
    refine HO9.out.mono ?_
    rintro x w9 ⟨s9, rfl, o9, b9, hs9, k9⟩
    have HK9 := hid (Kp.trans HK8.out k9)
    have HO10 := hid (HOm.out _ _ _ _ _ _ _ (o9.less (G' := G) (fun _ hk => .inl hk)) Hr8.out HA8.out.up)
    rw [Htl8.out] at HO10
    clear HO9 o9 b9 hs9 k9 HK8
    go_wp2_with fail
    refine (HSc.out _).mono ?_
    rintro x w10 ⟨rfl, rfl⟩
    by_cases hnm : hb = headB m
    · obtain rfl : n = m := Hin.out hnm
      rw [decide_eq_true hnm] at HO10
      unfold OpenAl at HO10
      simp only [if_true] at HO10
      clear hnm
      go_wp2_with fail
      refine HO10.out.mono ?_
      rintro x w11 ⟨s11, rfl, o11, b11, hs11, k11⟩
      have HK11 := hid (Kp.trans HK9.out k11)
      clear HO10 o11 b11 hs11 k11 HK9
      go_wp2_with fail
      refine (HSc.out _).mono ?_
      rintro x w12 ⟨rfl, rfl⟩
      go_wp2
      go_ret
      exact ⟨rfl, HK11.out⟩
    · have hne : ((m : Int) == (n : Int)) = false := by
        refine beq_eq_false_iff_ne.2 (fun e => hnm ?_)
        obtain rfl : m = n := by omega
        exact Hhb.out.symm
      rw [decide_eq_false hnm] at HO10
      unfold OpenAl at HO10
      simp only [Bool.false_eq_true, if_false] at HO10
      clear hnm
      go_wp2_with fail
      refine HO10.out.mono ?_
      rintro x w11 ⟨rfl, o11, k11⟩
      have HK11 := hid (Kp.trans HK9.out k11)
      clear HO10 o11 k11 HK9
      go_wp2_with fail
      refine (HSc.out _).mono ?_
      rintro x w12 ⟨rfl, rfl⟩
      go_wp2
      go_ret
      exact ⟨rfl, HK11.out⟩

set_option maxRecDepth 100000 in
set_option maxHeartbeats 4000000 in
theorem damage_neg (G : Nat → Prop) (w : World) (hG : ∀ k, G k → k < w.heap.size) (a : Int) (h0 : -9223372036854775808 ≤ a) (h1 : a ≤ 9223372036854775807) (k : Nat) (hkb : (k : Int) ≤ 9223372036854775807) (y : UInt8) (c : Int) (hc0 : -9223372036854775808 ≤ c) (hc1 : c ≤ 9223372036854775807) :
    Calls Try.prog 4 #[.int .i64 a, .int .i64 (-(k : Int) - 1), .int .u8 (y.toNat : Int), .int .i64 c] w fun x w' => x = .returned (.bool true) ∧ Kp G w w' := by
  have HSh := hid (shown_al G w hG)
  have HSz := hid (fun W => size_any W a h0 h1)
  have HSc := hid (fun W => size_any W c hc0 hc1)
  have hsb := size_b a
  have hsc := size_b c
  have HHG := hid hG
  clear h0 h1 hc0 hc1 hG
  generalize sizeN a = n at *
  generalize sizeN c = m at *
  have HM := hid (fun W (hW : ∀ k, G k → k < W.heap.size) => made_al G W hW n (by omega) (by omega))
  have Hll := hid (lay_ll n (by omega))
  have Hin := hid (fun (e : headB n = headB m) => headB_inj (by omega) (by omega) e)
  have HOa := hid (fun W l p bl bt D L (o : OwnL G W l p bl bt D L) (hr : L.reach 0 = 0) (hup : D.up = true) => Open_al o n (by omega) (by omega) hr hup)
  have HOm := hid (fun W l p bl bt D L (o : OwnL G W l p bl bt D L) (hr : L.reach 0 = 0) (hup : D.up = true) => Open_al o m (by omega) (by omega) hr hup)
  have H1n : Hid (0 < n) := by unfold Hid; omega
  have HT0 : Hid (T0 n 0 = headB n) := rfl
  have Hhl := hid (headB_length n)
  obtain ⟨j, hj⟩ : ∃ j, k % 128 = j := ⟨_, rfl⟩
  have hj2 : (k : Int) % 128 = (j : Int) := by omega
  have hjb : j < 128 := by omega
  have hk0 : -(k : Int) - 1 < 0 := by omega
  have e1 : IntKind.i64.wrap (-(k : Int) - 1 + 1) = -(k : Int) := by simp [IntKind.wrap, IntKind.bits, IntKind.signed]; omega
  have e2 : IntKind.i64.wrap (- -(k : Int)) = (k : Int) := by simp [IntKind.wrap, IntKind.bits, IntKind.signed]; omega
  have Hnm : Hid (n ≤ 1024) := by unfold Hid; omega
  clear hj hsb hsc
  go_enter Try.func4, Try.ntmps4
  go_wp2_with fail
  refine HSh.out.mono ?_
  rintro x w1 ⟨rfl, k1⟩
  have HK1 := hid k1
  clear HSh k1
  go_wp2_with fail
  refine (HSz.out _).mono ?_
  rintro x w2 ⟨rfl, rfl⟩
  have HM2 := hid (HM.out w2 (fun k hk => Nat.lt_of_lt_of_le (HHG.out k hk) HK1.out.size))
  clear HSz HM HHG
  go_wp2_with fail
  refine HM2.out.mono ?_
  rintro x w3 ⟨p, l, sp, bl, bt, D, L, rfl, o3, b3, hsp, k3, a3, t3⟩
  have HO3 := hid (o3.less (G' := G) (fun _ hk => .inl hk))
  have HA3 := hid a3
  have HT3 := hid t3
  have HK3 := hid (Kp.trans HK1.out k3)
  clear HM2 o3 b3 hsp k3 a3 t3 HK1
  by_cases hy : y.toNat = 0
  · have hy0 : ((y.toNat : Int) == 0) = true := by simpa using hy
    go_wp2
    go_ret
    exact ⟨rfl, HK3.out⟩
  · have hy0 : ((y.toNat : Int) == 0) = false := by simpa using hy
    have hr0 : L.reach 0 = 0 := HA3.out.reach 0 H1n.out (.inl rfl)
    have htl : L.tell D 0 = headB n := by
      rw [HA3.out.tell 0 H1n.out (.inl rfl), HT3.out]
      exact HT0.out
    have HRd := hid (Read_ok HO3.out 0 hr0 HA3.out.up)
    rw [htl] at HRd
    clear hr0 htl
    generalize hhb : headB n = hb at *
    have Hhb := hid hhb
    clear hhb
    go_wp2_with fail
    refine HRd.out.mono ?_
    rintro x w4 ⟨g, tg, rfl, bg, hgg, f4⟩
    have hjs : j < hb.length := by rw [Hhl.out]; exact hjb
    have hcell : w4.cell? ⟨g, j, none⟩ = some (.int .u8 (hb[j].toNat : Int)) := by
      rw [bg.cell]; simp [bs, bv, hjs]
    have hfz := bg.frozen j
    have hx8 : bits .xor .u8 (hb[j].toNat : Int) (y.toNat : Int) = ((hb[j] ^^^ y).toNat : Int) := by
      rw [u8_xor_nat _ _ (UInt8.toNat_lt _) (UInt8.toNat_lt _), UInt8.toNat_xor]
    have hj0 : (0 : Int) ≤ (j : Int) := Int.natCast_nonneg _
    have hj1 : (j : Int) < 128 := by omega
    have Hne : Hid (hb.set j (hb[j] ^^^ y) ≠ hb) := fun e => by
      have h2 : (hb.set j (hb[j] ^^^ y))[j]? = hb[j]? := by rw [e]
      simp [hjs] at h2
      exact xor_ne _ _ hy h2
    have HB5 : Hid (Blk (w4.setCell ⟨g, j, none⟩ (.int .u8 ((hb[j] ^^^ y).toNat : Int))).drew g tg (bs (hb.set j (hb[j] ^^^ y)))) := by
      have := bg.setCell j (.int .u8 ((hb[j] ^^^ y).toNat : Int))
      have e : (bs hb).set j (.int .u8 ((hb[j] ^^^ y).toNat : Int)) = bs (hb.set j (hb[j] ^^^ y)) := by
        simp only [bs, List.map_set]
        rfl
      rw [e] at this
      exact this.drew
    have HF5 : Hid (Nw w3 (w4.setCell ⟨g, j, none⟩ (.int .u8 ((hb[j] ^^^ y).toNat : Int))).drew) := (Fr.setCell f4 (p := ⟨g, j, none⟩) (.inr hgg) _).drew
    have Hls : Hid ((hb.set j (hb[j] ^^^ y)).length = 128) := by unfold Hid; rw [List.length_set]; exact Hhl.out
    have HK5 : Hid (Kp G w (w4.setCell ⟨g, j, none⟩ (.int .u8 ((hb[j] ^^^ y).toNat : Int))).drew) := Kp.trans HK3.out HF5.out.kp
    clear HRd bg hgg f4 HK3
    generalize hb.set j (hb[j] ^^^ y) = b' at *
    generalize ((hb[j] ^^^ y).toNat : Int) = cv at *
    go_wp2_with fail
    go_region
    have HSg := hid (stage_any (HO3.out.nw HF5.out) 0 b' (some ⟨g, 0, none⟩) 128 (fun _ => ⟨g, 0, rfl, HB5.out.range 0 _ (by simp), HB5.out.lt⟩) (HA3.out.few Hnm.out))
    rw [Hls.out] at HSg
    obtain ⟨a5, t5⟩ := HA3.out.stage 0 H1n.out (.inl rfl) b' Hls.out (by rw [HT3.out]; have := Hll.out; unfold cost; simp; omega)
    rw [HT3.out] at t5
    have a5' : AI n 90000 (T0 n) D (L.stage 0 b') := a5
    have t5' : (L.stage 0 b').st = [(0, b')] := t5
    have HA5 := hid a5'
    have HT5 := hid t5'
    clear a5 t5 a5' t5' HF5 HB5 HO3 HA3 HT3 hcell hfz hx8
    generalize (w4.setCell ⟨g, j, none⟩ (.int .u8 cv)).drew = w5 at *
    generalize L.stageE 0 128 = E5 at *
    generalize L.stage 0 b' = L5 at *
    go_wp2_with fail
    refine HSg.out.mono ?_
    rintro x w6 ⟨rfl, o6, k6⟩
    have HK6 := hid (Kp.trans HK5.out k6)
    have hr6 : L5.reach 0 = 0 := HA5.out.reach 0 H1n.out (.inl rfl)
    have htl6 : L5.tell D 0 = b' := by rw [HA5.out.tell 0 H1n.out (.inl rfl), HT5.out]; rfl
    have HO7 := hid (HOa.out _ _ _ _ _ _ _ o6 hr6 HA5.out.up)
    rw [htl6, decide_eq_false Hne.out] at HO7
    unfold OpenAl at HO7
    simp only [Bool.false_eq_true, if_false] at HO7
    clear HSg o6 k6 hr6 htl6 HK5
    go_wp2_with fail
    refine HO7.out.mono ?_
    rintro x w7 ⟨rfl, o7, k7⟩
    have HK7 := hid (Kp.trans HK6.out k7)
    have HDr := hid (drop_any o7)
    have HA8 := hid HA5.out.drop
    have HT8 : Hid (L5.drop.st = []) := rfl
    clear HO7 o7 k7 HK6 HA5 HT5
    generalize L5.drop = L8 at *
    go_wp2_with fail
    refine HDr.out.mono ?_
    rintro x w8 ⟨rfl, ⟨bt8, o8⟩, k8⟩
    have HK8 := hid (Kp.trans HK7.out k8)
    have hr8 : L8.reach 0 = 0 := HA8.out.reach 0 H1n.out (.inl rfl)
    have htl8 : L8.tell D 0 = hb := by rw [HA8.out.tell 0 H1n.out (.inl rfl), HT8.out]; exact HT0.out
    have HO9 := hid (HOa.out _ _ _ _ _ _ _ o8 hr8 HA8.out.up)
    rw [htl8, decide_eq_true rfl] at HO9
    unfold OpenAl at HO9
    simp only [if_true] at HO9
    have Htl8 := hid htl8
    have Hr8 := hid hr8
    clear HDr o8 k8 HK7 hr8 htl8
    go_wp2_with fail
    refine HO9.out.mono ?_
    rintro x w9 ⟨s9, rfl, o9, b9, hs9, k9⟩
    have HK9 := hid (Kp.trans HK8.out k9)
    have HO10 := hid (HOm.out _ _ _ _ _ _ _ (o9.less (G' := G) (fun _ hk => .inl hk)) Hr8.out HA8.out.up)
    rw [Htl8.out] at HO10
    clear HO9 o9 b9 hs9 k9 HK8
    go_wp2_with fail
    refine (HSc.out _).mono ?_
    rintro x w10 ⟨rfl, rfl⟩
    by_cases hnm : hb = headB m
    · obtain rfl : n = m := Hin.out hnm
      rw [decide_eq_true hnm] at HO10
      unfold OpenAl at HO10
      simp only [if_true] at HO10
      clear hnm
      go_wp2_with fail
      refine HO10.out.mono ?_
      rintro x w11 ⟨s11, rfl, o11, b11, hs11, k11⟩
      have HK11 := hid (Kp.trans HK9.out k11)
      clear HO10 o11 b11 hs11 k11 HK9
      go_wp2_with fail
      refine (HSc.out _).mono ?_
      rintro x w12 ⟨rfl, rfl⟩
      go_wp2
      go_ret
      exact ⟨rfl, HK11.out⟩
    · have hne : ((m : Int) == (n : Int)) = false := by
        refine beq_eq_false_iff_ne.2 (fun e => hnm ?_)
        obtain rfl : m = n := by omega
        exact Hhb.out.symm
      rw [decide_eq_false hnm] at HO10
      unfold OpenAl at HO10
      simp only [Bool.false_eq_true, if_false] at HO10
      clear hnm
      go_wp2_with fail
      refine HO10.out.mono ?_
      rintro x w11 ⟨rfl, o11, k11⟩
      have HK11 := hid (Kp.trans HK9.out k11)
      clear HO10 o11 k11 HK9
      go_wp2_with fail
      refine (HSc.out _).mono ?_
      rintro x w12 ⟨rfl, rfl⟩
      go_wp2
      go_ret
      exact ⟨rfl, HK11.out⟩

theorem damage_walk (G : Nat → Prop) (w : World) (hG : ∀ k, G k → k < w.heap.size) (a : Int) (h0 : -9223372036854775808 ≤ a) (h1 : a ≤ 9223372036854775807) (b : Int) (hb0 : -9223372036854775808 ≤ b) (hb1 : b ≤ 9223372036854775807) (y : UInt8) (c : Int) (hc0 : -9223372036854775808 ≤ c) (hc1 : c ≤ 9223372036854775807) :
    Calls Try.prog 4 #[.int .i64 a, .int .i64 b, .int .u8 (y.toNat : Int), .int .i64 c] w fun x w' => x = .returned (.bool true) ∧ Kp G w w' := by
  by_cases hb : b < 0
  · obtain ⟨k, hk⟩ := Int.eq_ofNat_of_zero_le (show 0 ≤ -(b + 1) by omega)
    obtain rfl : b = -(k : Int) - 1 := by omega
    exact damage_neg G w hG a h0 h1 k (by omega) y c hc0 hc1
  · obtain ⟨k, rfl⟩ := Int.eq_ofNat_of_zero_le (show 0 ≤ b by omega)
    exact damage_pos G w hG a h0 h1 k hb1 y c hc0 hc1

end Go.Proofs.Ytehoiahgkbnjdaa.Al
