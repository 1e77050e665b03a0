/- The contract of 'made': a disk with some writes that are flushed. -/
import Derived.Test.YtdempopelalafaaSector
import Derived.Test.YtdempopelalafaaModel
namespace Go.Proofs.Ytdempopelalafaa.Dk
open Go.RowKit

/-- A list of ops that came in, none of whose rows of bytes is beyond what append bears. -/
def ArgOpsS (w : World) (ad : Option Addr) (len : Nat) : Prop := ∀ k, k < len → ∃ lb lo x, ad = some ⟨lb, lo, none⟩ ∧ OpAt w lb (lo + k * 6) x ∧ x.bytes.length ≤ 140737488355328

theorem Kp.range {G : Nat → Prop} {w w' : World} (h : Kp G w w') {b o : Nat} {cs : List Value} (hr : w.rangeAt b o cs) (hg : G b) (hb : b < w.heap.size) : w'.rangeAt b o cs := fun j v hv => Kp.cell h (hr j v hv) hg hb

theorem OpAt.kept {w w' : World} {lb o : Nat} {x : OpR} (h : OpAt w lb o x) (f : Kp (GW w) w w') : OpAt w' lb o x where
  lt := Nat.lt_of_lt_of_le h.lt f.size
  kind := Kp.cell f h.kind h.lt h.lt
  a := Kp.cell f h.a h.lt h.lt
  b := Kp.cell f h.b h.lt h.lt
  c := Kp.cell f h.c h.lt h.lt
  fit := Kp.cell f h.fit h.lt h.lt
  keep := Kp.cell f h.keep h.lt h.lt
  kind0 := h.kind0
  a0 := h.a0
  c0 := h.c0
  k0 := h.k0
  src := fun hb => by
    obtain ⟨bb, bo, e1, e2, e3⟩ := h.src hb
    exact ⟨bb, bo, e1, Kp.range f e2 e3 e3, Nat.lt_of_lt_of_le e3 f.size⟩
  fin := h.fin
theorem OpAt.cells {w : World} {lb o : Nat} {x : OpR} (h : OpAt w lb o x) : w.cell? ⟨lb, o, none⟩ = some (.int .i64 x.kind) ∧ w.cell? ⟨lb, o + 1, none⟩ = some (.int .i64 x.a) ∧ w.cell? ⟨lb, o + 2, none⟩ = some (.slice x.ad x.bytes.length x.cap) ∧
    w.cell? ⟨lb, o + 3, none⟩ = some (.int .u8 x.c) ∧ w.cell? ⟨lb, o + 4, none⟩ = some (.bool x.fit) ∧ w.cell? ⟨lb, o + 5, none⟩ = some (.int .u64 (x.keep : Int)) := ⟨h.kind, h.a, h.b, h.c, h.fit, h.keep⟩

theorem Own.fr1 {G : Nat → Prop} {w w' : World} {p : Nat} {D : Dsk} (h : Own G w p D) (f : Fr (fun _ => False) w w') (bb : Nat) (h1 : w.heap.size ≤ bb) (h2 : bb < w'.heap.size) : Own (fun j => G j ∨ j = bb) w' p D := by
  obtain ⟨bl, bn, lv, r, g⟩ := h
  refine ⟨bl, bn, lv, r.frame f (fun _ _ h => h), fun k hk => ?_⟩
  rcases hk with hk | rfl
  · exact ⟨Nat.lt_of_lt_of_le (g k hk).1 f.size, (g k hk).2⟩
  · exact ⟨h2, fun hf => by have := r.foot_lt _ hf; omega⟩

/-- A write of what 'sector' has made. -/
theorem write_sec {G : Nat → Prop} {w w4 : World} {p : Nat} {D : Dsk} (h : Own G w p D) (hQ : D.Q.length < 1073741824) (hd : D.deeds < 1073741824) (i : Int) (l : List UInt8) (ad : Option Addr) (cap : Nat) (f : Fr (fun _ => False) w w4)
    (g : l ≠ [] → ∃ bb, ad = some ⟨bb, 0, none⟩ ∧ w.heap.size ≤ bb ∧ bb < w4.heap.size ∧ w4.rangeAt bb 0 (bs l)) :
    Calls Try.prog 12 #[pv p, .int .i64 i, .slice ad l.length cap] w4 fun e w' => e = .returned (.int .i64 (D.writeE i l.length)) ∧ Own G w' p (D.write i l) ∧ Kp G w4 w' := by
  by_cases hl : l = []
  · subst hl
    exact own_write (h.fr0 f) hQ hd i [] ad cap (fun hl => by simp at hl)
  · obtain ⟨bb, rfl, h1, h2, h3⟩ := g hl
    refine (own_write (h.fr1 f bb h1 h2) hQ hd i l _ cap (fun _ => ⟨bb, 0, rfl, h3, .inr rfl⟩)).mono ?_
    rintro e w' ⟨e1, e2, e3⟩
    exact ⟨e1, e2.less (fun _ hk => .inl hk), Kp.less e3 (fun _ hk => .inl hk)⟩

def MadePost (G : Nat → Prop) (w : World) (e : Ending) (w' : World) : Prop := ∃ p D, e = .returned (pv p) ∧ Own G w' p D ∧ Kp G w w' ∧ DInv 61 D ∧ D.n ≤ 20 ∧ D.L = D.N ∧ D.Q = []

set_option maxRecDepth 100000 in
set_option maxHeartbeats 1000000 in
theorem made_any (w0 w : World) (f0 : Kp (GW w0) w0 w) (n : Int) (n0 : -9223372036854775808 ≤ n) (n1 : n ≤ 9223372036854775807) (ad : Option Addr) (len cap : Nat) (hL : ArgOpsS w0 ad len) :
    Calls Try.prog 24 #[.int .i64 n, .slice ad len cap] w fun e w' => MadePost (GW w0) w e w' := by
  have HL := hid hL
  have F0 := hid f0
  clear hL f0
  by_cases hn : n < 0
  · obtain ⟨m, hm, m1, m2⟩ := size_neg n hn
    have HM := hid' hm
    clear hm
    go_enter Try.func24, Try.ntmps24
    go_wp2_with fail
    rw [HM.out]
    refine (own_new (GW w0) w (fun k h => Nat.lt_of_lt_of_le h F0.out.size) m m1 (by omega)).mono ?_
    rintro e w1 ⟨p, rfl, d1, f1⟩
    have F1 := hid' f1
    have D1 := hid' d1
    clear f1 d1
    go_wp2_with fail
    go_loopw [6] (fun i wr => ∃ (k : Nat) (D : Dsk), k ≤ 60 ∧ i = .int .i64 (k : Int) ∧ Own (GW w0) wr p D ∧ Kp (GW w0) w wr ∧ DInv k D ∧ D.n = m) (fun i _ => 60 - (intOf i).toNat)
    case atStart => exact ⟨0, _, by omega, rfl, D1.out, F1.out, DInv.new m, rfl⟩
    case round =>
      obtain ⟨k, D, hk60, rfl, hO, hF, hI, hDn⟩ := hrel
      have HO := hid hO
      have HF := hid hF
      have HI := hid hI
      have HD := hid hDn
      clear hO hF hI hDn
      by_cases hlt : k < len ∧ k < 60
      · obtain ⟨hlt1, hlt2⟩ := hlt
        obtain ⟨lb, lo, x, rfl, hx, hxs⟩ := HL.out k hlt1
        have K0 : Kp (GW w0) w0 wr := F0.out.trans HF.out
        have OA := hx.kept K0
        have OX := hid hx
        have K1 : Kp (GW w0) w0 wr.drew := Fr.drew K0
        have HK1 := hid K1
        have hk0 : (0 : Int) ≤ (k : Int) := Int.natCast_nonneg _
        have hk1 : (k : Int) < (len : Int) := by omega
        have hk2 : (k : Int) < 60 := by omega
        have C0 := OA.kind
        have sQ : D.Q.length < 1073741824 := by have := HI.out.q; omega
        have sD : D.deeds < 1073741824 := by have := HI.out.d; omega
        by_cases hkd : x.kind = 0
        · rw [hkd] at C0
          have HSec : Hid (Calls Try.prog 26 #[.agg #[.int .i64 x.kind, .int .i64 x.a, .slice x.ad x.bytes.length x.cap, .int .u8 x.c, .bool x.fit, .int .u64 (x.keep : Int)]] wr.drew fun e w' => SecPost wr.drew x.sec e w') :=
            sector_any wr.drew x OA.c0 (fun _ => hxs) (fun hb => by obtain ⟨bb, bo, e1, e2, e3⟩ := OA.src hb; exact ⟨bb, bo, e1, by simpa using e2, e3⟩)
          have HO' := hid HO.out.drew
          have HW := hid (HI.out.write x.a x.sec)
          have hkd' : Hid (x.kind = 0) := hkd
          clear hx OA K0 K1 hkd
          go_wp2_with fail
          go_region_held3 (fun w' => w'.cell? ⟨lb, lo + k * 6, none⟩ = some (.int .i64 x.kind) ∧ w'.cell? ⟨lb, lo + k * 6 + 1, none⟩ = some (.int .i64 x.a) ∧ w'.cell? ⟨lb, lo + k * 6 + 2, none⟩ = some (.slice x.ad x.bytes.length x.cap) ∧
              w'.cell? ⟨lb, lo + k * 6 + 3, none⟩ = some (.int .u8 x.c) ∧ w'.cell? ⟨lb, lo + k * 6 + 4, none⟩ = some (.bool x.fit) ∧ w'.cell? ⟨lb, lo + k * 6 + 5, none⟩ = some (.int .u64 (x.keep : Int)))
            (first
              | exact (OX.out.kept HK1.out).cells
              | exact (OX.out.kept (Kp.trans (Kp.trans HK1.out (Kp.fr0 f4)) f5)).cells
              | exact (OX.out.kept (Kp.trans HK1.out (Kp.fr0 f4))).cells)
            (first
              | (go_at_call 26; refine HSec.out.mono ?_; rintro e w4 ⟨ad4, cap4, rfl, f4, g4⟩)
              | (go_at_call 12; refine (write_sec HO'.out sQ sD _ _ _ _ f4 g4).mono ?_; rintro e w5 ⟨rfl, d5, f5⟩))
          have D5 := hid d5
          have F5 : Hid (Kp (GW w0) w w5) := HF.out.trans (Kp.trans (Kp.trans (Fr.drew (Fr.refl _ wr)) (Kp.fr0 f4)) f5)
          clear d5 f5 f4 g4
          go_wp2_with fail
          exact ⟨⟨k + 1, D.write x.a x.sec, by omega, by go_num, D5.out, F5.out, HW.out.1, HW.out.2.2.trans HD.out⟩, by simp [intOf]; omega⟩
        · have hkb : (x.kind == 0) = false := by simpa using hkd
          clear hx OA K0 K1 hkd
          go_wp2_with fail
          exact ⟨⟨k + 1, D, by omega, by go_num, HO.out, HF.out, HI.out.more (by omega), HD.out⟩, by simp [intOf]; omega⟩
      · have hg : ¬ (k : Int) < (len : Int) ∨ ((k : Int) < (len : Int) ∧ ¬ (k : Int) < 60) := by omega
        have sQ : D.Q.length < 1073741824 := by have := HI.out.q; omega
        have sD : D.deeds < 1073741824 := by have := HI.out.d; omega
        have HFl := hid (own_flush HO.out sQ sD)
        have HE := hid HI.out.flushed
        rcases hg with hg1 | ⟨hg1, hg2⟩
        all_goals
          go_wp2_with fail
          refine HFl.out.mono ?_
          rintro e w2 ⟨rfl, d2, f2⟩
          have F2 := hid (HF.out.trans f2)
          have D2 := hid d2
          clear f2 d2
          go_wp2
          go_ret
          exact ⟨p, D.flush, rfl, D2.out, F2.out, HE.out.1.more (by omega), by rw [HE.out.2.2.2.2, HD.out]; omega, HE.out.2.1.trans HE.out.2.2.1.symm, HE.out.2.2.2.1⟩
  · obtain ⟨m, hm, m1, m2⟩ := size_pos n
    have HM := hid' hm
    have k2 : 0 ≤ n % 20 := by omega
    have k3 : n % 20 ≤ 19 := by omega
    clear hm
    have hdn : decide (n < 0) = false := by simpa using hn
    have hn' : 0 ≤ n := by omega
    clear hn
    go_enter Try.func24, Try.ntmps24
    go_wp2_with fail
    rw [HM.out]
    refine (own_new (GW w0) w (fun k h => Nat.lt_of_lt_of_le h F0.out.size) m m1 (by omega)).mono ?_
    rintro e w1 ⟨p, rfl, d1, f1⟩
    have F1 := hid' f1
    have D1 := hid' d1
    clear f1 d1
    go_wp2_with fail
    go_loopw [6] (fun i wr => ∃ (k : Nat) (D : Dsk), k ≤ 60 ∧ i = .int .i64 (k : Int) ∧ Own (GW w0) wr p D ∧ Kp (GW w0) w wr ∧ DInv k D ∧ D.n = m) (fun i _ => 60 - (intOf i).toNat)
    case atStart => exact ⟨0, _, by omega, rfl, D1.out, F1.out, DInv.new m, rfl⟩
    case round =>
      obtain ⟨k, D, hk60, rfl, hO, hF, hI, hDn⟩ := hrel
      have HO := hid hO
      have HF := hid hF
      have HI := hid hI
      have HD := hid hDn
      clear hO hF hI hDn
      by_cases hlt : k < len ∧ k < 60
      · obtain ⟨hlt1, hlt2⟩ := hlt
        obtain ⟨lb, lo, x, rfl, hx, hxs⟩ := HL.out k hlt1
        have K0 : Kp (GW w0) w0 wr := F0.out.trans HF.out
        have OA := hx.kept K0
        have OX := hid hx
        have K1 : Kp (GW w0) w0 wr.drew := Fr.drew K0
        have HK1 := hid K1
        have hk0 : (0 : Int) ≤ (k : Int) := Int.natCast_nonneg _
        have hk1 : (k : Int) < (len : Int) := by omega
        have hk2 : (k : Int) < 60 := by omega
        have C0 := OA.kind
        have sQ : D.Q.length < 1073741824 := by have := HI.out.q; omega
        have sD : D.deeds < 1073741824 := by have := HI.out.d; omega
        by_cases hkd : x.kind = 0
        · rw [hkd] at C0
          have HSec : Hid (Calls Try.prog 26 #[.agg #[.int .i64 x.kind, .int .i64 x.a, .slice x.ad x.bytes.length x.cap, .int .u8 x.c, .bool x.fit, .int .u64 (x.keep : Int)]] wr.drew fun e w' => SecPost wr.drew x.sec e w') :=
            sector_any wr.drew x OA.c0 (fun _ => hxs) (fun hb => by obtain ⟨bb, bo, e1, e2, e3⟩ := OA.src hb; exact ⟨bb, bo, e1, by simpa using e2, e3⟩)
          have HO' := hid HO.out.drew
          have HW := hid (HI.out.write x.a x.sec)
          have hkd' : Hid (x.kind = 0) := hkd
          clear hx OA K0 K1 hkd
          go_wp2_with fail
          go_region_held3 (fun w' => w'.cell? ⟨lb, lo + k * 6, none⟩ = some (.int .i64 x.kind) ∧ w'.cell? ⟨lb, lo + k * 6 + 1, none⟩ = some (.int .i64 x.a) ∧ w'.cell? ⟨lb, lo + k * 6 + 2, none⟩ = some (.slice x.ad x.bytes.length x.cap) ∧
              w'.cell? ⟨lb, lo + k * 6 + 3, none⟩ = some (.int .u8 x.c) ∧ w'.cell? ⟨lb, lo + k * 6 + 4, none⟩ = some (.bool x.fit) ∧ w'.cell? ⟨lb, lo + k * 6 + 5, none⟩ = some (.int .u64 (x.keep : Int)))
            (first
              | exact (OX.out.kept HK1.out).cells
              | exact (OX.out.kept (Kp.trans (Kp.trans HK1.out (Kp.fr0 f4)) f5)).cells
              | exact (OX.out.kept (Kp.trans HK1.out (Kp.fr0 f4))).cells)
            (first
              | (go_at_call 26; refine HSec.out.mono ?_; rintro e w4 ⟨ad4, cap4, rfl, f4, g4⟩)
              | (go_at_call 12; refine (write_sec HO'.out sQ sD _ _ _ _ f4 g4).mono ?_; rintro e w5 ⟨rfl, d5, f5⟩))
          have D5 := hid d5
          have F5 : Hid (Kp (GW w0) w w5) := HF.out.trans (Kp.trans (Kp.trans (Fr.drew (Fr.refl _ wr)) (Kp.fr0 f4)) f5)
          clear d5 f5 f4 g4
          go_wp2_with fail
          exact ⟨⟨k + 1, D.write x.a x.sec, by omega, by go_num, D5.out, F5.out, HW.out.1, HW.out.2.2.trans HD.out⟩, by simp [intOf]; omega⟩
        · have hkb : (x.kind == 0) = false := by simpa using hkd
          clear hx OA K0 K1 hkd
          go_wp2_with fail
          exact ⟨⟨k + 1, D, by omega, by go_num, HO.out, HF.out, HI.out.more (by omega), HD.out⟩, by simp [intOf]; omega⟩
      · have hg : ¬ (k : Int) < (len : Int) ∨ ((k : Int) < (len : Int) ∧ ¬ (k : Int) < 60) := by omega
        have sQ : D.Q.length < 1073741824 := by have := HI.out.q; omega
        have sD : D.deeds < 1073741824 := by have := HI.out.d; omega
        have HFl := hid (own_flush HO.out sQ sD)
        have HE := hid HI.out.flushed
        rcases hg with hg1 | ⟨hg1, hg2⟩
        all_goals
          go_wp2_with fail
          refine HFl.out.mono ?_
          rintro e w2 ⟨rfl, d2, f2⟩
          have F2 := hid (HF.out.trans f2)
          have D2 := hid d2
          clear f2 d2
          go_wp2
          go_ret
          exact ⟨p, D.flush, rfl, D2.out, F2.out, HE.out.1.more (by omega), by rw [HE.out.2.2.2.2, HD.out]; omega, HE.out.2.1.trans HE.out.2.2.1.symm, HE.out.2.2.2.1⟩

end Go.Proofs.Ytdempopelalafaa.Dk
