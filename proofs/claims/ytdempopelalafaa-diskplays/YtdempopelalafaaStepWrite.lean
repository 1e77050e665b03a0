/- 'step': a sector is written. -/
import Derived.Test.YtdempopelalafaaStepRead
import Derived.Deep.RegionHeld3
namespace Go.Proofs.Ytdempopelalafaa.Dk
open Go.RowKit

theorem sec_bound (x : OpR) (hs : x.bytes.length ≤ 140737488351232) : x.sec.length ≤ 140737488351232 := by
  unfold OpR.sec
  split
  · rw [length_splice _ _ _ (by rw [fullB_length, List.length_take]; omega), fullB_length]; omega
  · exact hs
/-- The row that 'sector' has made is kept from here on. -/
theorem Duo.sector {G : Nat → Prop} {w w4 : World} {p q k : Nat} {D : Dsk} {R : RDk} (h : Duo G w p D q R k) {b0 : Nat} (hb : G b0) (f : Fr (fun _ => False) w w4) {l : List UInt8} {ad : Option Addr}
    (g : l ≠ [] → ∃ bb, ad = some ⟨bb, 0, none⟩ ∧ w.heap.size ≤ bb ∧ bb < w4.heap.size ∧ w4.rangeAt bb 0 (bs l)) :
    ∃ bb, Duo (fun j => G j ∨ j = bb) w4 p D q R k ∧ (l ≠ [] → ad = some ⟨bb, 0, none⟩ ∧ w4.rangeAt bb 0 (bs l)) := by
  by_cases hl : l = []
  · exact ⟨b0, (h.fr0 f).less (fun j hj => hj.elim id (fun e => e ▸ hb)), fun h => absurd hl h⟩
  · obtain ⟨bb, e, h1, h2, h3⟩ := g hl
    exact ⟨bb, ⟨h.pr.fr1 f bb h1 h2, h.sim, h.len⟩, fun _ => ⟨e, h3⟩⟩
theorem owned_src {w : World} {base n : Nat} {v : Value} {b : List UInt8} (h : w.ownsRow base 5 1 v n (bs b)) (hb : b ≠ []) :
    ∃ g cap cur, v = .slice (some ⟨g, 0, none⟩) b.length cap ∧ base ≤ g ∧ b.length ≤ cap ∧ g < w.heap.size ∧ Blk w g 5 cur ∧ cur.length = cap ∧ w.rangeAt g 0 (bs b) := by
  have hl : b.length = n := by have := h.1; rw [bs_length] at this; omega
  subst hl
  obtain ⟨g', cap', e', h1, h2, hr⟩ := owned_range h hb
  rcases h.2 with ⟨h0, h00⟩ | ⟨g, cap, cur, hv, hg, hc, hle, hm, hs, ht⟩
  · exact absurd (List.length_eq_zero_iff.1 h00) hb
  · rw [hv] at e'
    simp only [Value.slice.injEq, Option.some.injEq, Addr.mk.injEq] at e'
    obtain ⟨⟨rfl, _⟩, _, rfl⟩ := e'
    exact ⟨g, cap, cur.toList, hv, hg, hle, h2, by simpa [Blk] using hc, by simpa using hs, hr⟩

theorem conv_src {w : World} {ad : Option Addr} {l : List UInt8} (h : l ≠ [] → ∃ b o, ad = some ⟨b, o, none⟩ ∧ w.rangeAt b o (bs l)) (cap : Nat) : (convert 28 9 (.slice ad l.length cap)).run Try.prog w = .ok (.string (strB l)) w := by
  by_cases hl : l = []
  · subst hl
    exact conv_nil w ad cap
  · obtain ⟨b, o, rfl, hr⟩ := h hl
    exact conv_any l hr cap l.length rfl
theorem part_range {w : World} {g : Nat} {b c : List UInt8} (h : w.rangeAt g 0 (bs (b ++ c))) : w.rangeAt g 0 (bs b) := fun j v hv => h j v (by
  have hj := (List.getElem?_eq_some_iff.1 hv).1
  rw [← hv]
  simp only [bs, List.map_append]
  rw [List.getElem?_append_left (by simpa [bs] using hj)])

set_option maxRecDepth 100000 in
set_option maxHeartbeats 1000000 in
theorem step_write {G : Nat → Prop} {w : World} {p q k : Nat} {D : Dsk} {R : RDk} (h : Duo G w p D q R k) (hk : k < 1000) (x : OpR) (hx0 : x.kind = 0) (hc : 0 ≤ x.c ∧ x.c ≤ 255) (hs : x.bytes.length ≤ 140737488351232)
    (hsrc : x.bytes ≠ [] → ∃ bb bo, x.ad = some ⟨bb, bo, none⟩ ∧ w.rangeAt bb bo (bs x.bytes) ∧ bb < w.heap.size) :
    Calls Try.prog 16 #[pv p, pv q, x.val] w fun e w' => StepPost G w p q (k + 1) e w' := by
  have hsb := sec_bound x hs
  have hd := h.box (.cells #[.int .i64 x.kind, .int .i64 x.a, .slice x.ad x.bytes.length x.cap, .int .u8 x.c, .bool x.fit, .int .u64 (x.keep : Int)] 31)
  have hsec := sector_any (w.alloc (.cells #[.int .i64 x.kind, .int .i64 x.a, .slice x.ad x.bytes.length x.cap, .int .u8 x.c, .bool x.fit, .int .u64 (x.keep : Int)] 31)) x hc (fun _ => by omega) (fun hb => by
    obtain ⟨bb, bo, e1, e2, e3⟩ := hsrc hb
    exact ⟨bb, bo, e1, World.rangeAt_alloc e2 _, by simp; omega⟩)
  have HSec := hid hsec
  have HD := hid hd
  have CB : Hid (Blk (w.alloc (.cells #[.int .i64 x.kind, .int .i64 x.a, .slice x.ad x.bytes.length x.cap, .int .u8 x.c, .bool x.fit, .int .u64 (x.keep : Int)] 31)) w.heap.size 31 [.int .i64 x.kind, .int .i64 x.a, .slice x.ad x.bytes.length x.cap, .int .u8 x.c, .bool x.fit, .int .u64 (x.keep : Int)]) := Blk.new w 31 [.int .i64 x.kind, .int .i64 x.a, .slice x.ad x.bytes.length x.cap, .int .u8 x.c, .bool x.fit, .int .u64 (x.keep : Int)]
  unfold OpR.val at HSec ⊢
  generalize x.sec = l at *
  rw [hx0] at HSec HD CB ⊢
  clear h hd hsec hs hsrc hc hx0
  go_enter Try.func16, Try.ntmps16
  go_wp2_with fail
  refine HSec.out.mono ?_
  rintro e w4 ⟨ad4, cap4, rfl, f4, g4⟩
  obtain ⟨bb, hd4, hl4⟩ := HD.out.sector (.inr rfl) f4 g4
  have HD4 := hid hd4
  have HL4 := hid hl4
  have CB4 : Hid (Blk w4 w.heap.size 31 [.int .i64 0, .int .i64 x.a, .slice x.ad x.bytes.length x.cap, .int .u8 x.c, .bool x.fit, .int .u64 (x.keep : Int)]) := Fr.blk f4 CB.out (fun h => h)
  have K4 : Hid (Kp G w w4) := Kp.fr0 (((Fr.refl _ w).alloc _).trans f4 (fun _ h => h.elim))
  have HBs : Hid (l ≠ [] → ∃ b o, ad4 = some ⟨b, o, none⟩ ∧ w4.rangeAt b o (bs l)) := fun hl => ⟨bb, 0, hl4 hl⟩
  have hO : Hid ((w4.alloc (.cells #[] 5)).ownsRow w4.heap.size 5 1 (.slice (some ⟨w4.heap.size, 0, none⟩) 0 0) 0 []) := by
    have := World.ownsRow_made (base := w4.heap.size) (e := 5) (size := 1) w4 #[] 0 (Nat.le_refl _) (by unfold maxLen; omega) (by simp)
    unfold Hid; simpa using this
  clear f4 g4 hd4 hl4 HSec HD CB
  go_wp2_with (first
    | (at_builtin; refine wpList_append_bytes (by rfl) _ _ (by rfl) w4.heap.size 0 (.slice (some ⟨w4.heap.size, 0, none⟩) 0 0) [] l ad4 cap4 (by rfl) (by rfl) (by exact hO.out) (by simp) (by omega) (fun hb => by obtain ⟨b, o, e1, e2⟩ := HBs.out hb; exact ⟨b, o, e1, World.rangeAt_alloc e2 _⟩) ?_
       intro v5 w5 hown hgrow
       have HO5 : Hid (w5.ownsRow w4.heap.size 5 1 v5 l.length (bs l)) := by have := hown; unfold Hid; simpa using this
       have HF5 : Hid (Fr (fun _ => False) w4 w5) := ((Fr.refl _ w4).alloc _).grown hgrow (fun j hj => .inr (Nat.le_of_eq (Option.some.inj hj)))
       clear hown hgrow)
    | (at_builtin; refine wpList_append_bytes (by rfl) _ _ (by rfl) w4.heap.size l.length v5 (bs l) [77] (some ⟨w5.heap.size, 0, none⟩) 1 (by rfl) (by rfl) (by exact HO5.out.alloc _) (by have := HF5.out.size; simp; omega) (by simp; omega) (fun _ => ⟨w5.heap.size, 0, rfl, by exact (Blk.new w5 5 [.int .u8 77]).range 0 _ rfl⟩) ?_
       intro v6 w6 hown hgrow
       have HO6 : Hid (w6.ownsRow w4.heap.size 5 1 v6 (l.length + 1) (bs (l ++ [77]))) := by have := hown; unfold Hid; simpa [bs] using this
       have HF6 : Hid (Fr (fun _ => False) w4 w6) := (HF5.out.alloc _).grown hgrow (fun j hj => .inr (HO5.out.lt j hj).1)
       clear hown hgrow
       obtain ⟨g6, cap6, cur6, e6, hg6, hle6, hlt6, hb6, hc6, hr6⟩ := owned_src HO6.out (by simp)
       have hln : (l ++ [(77 : UInt8)]).length = l.length + 1 := by simp
       rw [hln] at e6 hle6
       subst e6
       have HR6 := hid hr6
       have HB6 := hid hb6
       clear hr6 hb6 HO5 hO))
  have hd6 : Duo (fun j => ((G j ∨ j = w.heap.size) ∨ j = bb) ∨ j = g6) w6 p D q R k := ⟨HD4.out.pr.fr1 HF6.out g6 hg6 hlt6, HD4.out.sim, HD4.out.len⟩
  generalize hG' : (fun j => ((G j ∨ j = w.heap.size) ∨ j = bb) ∨ j = g6) = G' at hd6
  have HGo : Hid (G' w.heap.size ∧ G' bb ∧ G' g6 ∧ ∀ j, G j → G' j) := by unfold Hid; rw [← hG']; exact ⟨.inl (.inl (.inr rfl)), .inl (.inr rfl), .inr rfl, fun _ hj => .inl (.inl (.inl hj))⟩
  have HGg : Hid (w.heap.size ≤ g6) := Nat.le_trans K4.out.size hg6
  have hle : w.heap.size < w6.heap.size := Nat.lt_of_le_of_lt HGg.out hlt6
  have CB6 : Hid (Blk w6 w.heap.size 31 [.int .i64 0, .int .i64 x.a, .slice x.ad x.bytes.length x.cap, .int .u8 x.c, .bool x.fit, .int .u64 (x.keep : Int)]) := Fr.blk HF6.out CB4.out (fun h => h)
  have hd7 := hd6.fr0 ((Fr.refl _ w6).drew)
  obtain ⟨F, o, back⟩ := hd7.pr.disk
  have HC := hid (own_write o (hd7.sQ hk) (hd7.sD hk) x.a l (some ⟨g6, 0, none⟩) cap6 (fun _ => ⟨g6, 0, rfl, part_range HR6.out, .inl HGo.out.2.2.1⟩))
  rw [hd7.sim.writeE] at HC
  have HB := hid back
  have HS := hid (hd7.sim.write hd7.pr.ok x.a l)
  have HLn := hid hd7.len
  have HW := hid (hd7.sW hk)
  have HRd := hid (hd7.sR hk)
  have HE : Hid ((w6.drew).cell? ⟨w.heap.size, 1, none⟩ = some (.int .i64 x.a)) := CB6.out.cell 1
  have hli : (l.length : Int) ≤ (cap6 : Int) := by omega
  have HRs : Hid (l ≠ [] → ad4 = some ⟨bb, 0, none⟩ ∧ w6.rangeAt bb 0 (bs l)) := fun hl => ⟨(HL4.out hl).1, range_fr HF6.out (HL4.out hl).2 (HD4.out.gt (.inr rfl)) (fun h => h)⟩
  have HK6 : Hid (Kp G w w6) := Kp.trans K4.out (Kp.fr0 HF6.out)
  have hgt := hd6.gt HGo.out.1
  have hgtb := hd6.gt HGo.out.2.1
  clear hG' hd6 hd7 o back HD4 HL4 CB4 K4 HO6 hle hg6
  generalize hev : R.writeE x.a l.length = ev at *
  have HEv := hid hev
  clear hev
  go_region_held3 (fun w' => w'.cell? ⟨w.heap.size, 1, none⟩ = some (.int .i64 x.a))
    (first
      | exact HE.out
      | exact (Kp.blk k7 (show Blk w6.drew w.heap.size 31 _ from CB6.out) (.inl HGo.out.1)).cell 1)
    ((go_at_call 12; refine HC.out.mono ?_; rintro e w7 ⟨rfl, o7, k7⟩))
  obtain ⟨pr7, kp7⟩ := HB.out _ _ o7 k7
  have hgt7 : bb < w7.heap.size := Nat.lt_of_lt_of_le hgtb kp7.size
  have hr7 : w7.rangeAt g6 0 (bs (l ++ [77])) := Kp.range kp7 (show w6.drew.rangeAt g6 0 _ from HR6.out) HGo.out.2.2.1 hlt6
  have hb7 : Blk w7 g6 5 cur6 := Kp.blk kp7 (show Blk w6.drew g6 5 _ from HB6.out) HGo.out.2.2.1
  have e1 : w7.cell? ⟨w.heap.size, 1, none⟩ = some (.int .i64 x.a) := (Kp.blk kp7 (show Blk w6.drew w.heap.size 31 _ from CB6.out) HGo.out.1).cell 1
  have hs7 : l ≠ [] → ad4 = some ⟨bb, 0, none⟩ ∧ w7.rangeAt bb 0 (bs l) := fun hl => ⟨(HRs.out hl).1, Kp.range kp7 (show w6.drew.rangeAt bb 0 _ from (HRs.out hl).2) HGo.out.2.1 hgtb⟩
  obtain ⟨wv, r7, hnf, back7⟩ := pr7.ref
  have HC2 := hid (rwrite_any r7 HW.out HRd.out x.a l ad4 cap4 (fun hl => ⟨bb, 0, (hs7 hl).1, (hs7 hl).2, hgt7, hnf bb HGo.out.2.1⟩))
  rw [HEv.out] at HC2
  have HB2 := hid back7
  have HR7 := hid hr7
  have HB7 := hid hb7
  have HS7 := hid hs7
  have HK7 : Hid (Kp G w w7) := Kp.trans HK6.out (Kp.trans (Kp.fr0 ((Fr.refl _ w6).drew)) (Kp.less kp7 HGo.out.2.2.2))
  have hlt7 : g6 < w7.heap.size := Nat.lt_of_lt_of_le hlt6 kp7.size
  clear o7 k7 pr7 kp7 r7 hnf back7 hr7 hb7 hs7 HC HB HE HRs HR6 HB6 CB6 HK6 hgt hgtb HF5 HF6 HBs
  have hln : (l ++ [(77 : UInt8)]).length = l.length + 1 := by simp
  have HLN := hid hln
  have hss : (strB l).size = l.length := by simp [strB, ByteArray.size]
  have hst : ((strB (l ++ [77])).toList == (strB l ++ (ByteArray.mk #[77])).toList) = true := by
    have e : strB l ++ (ByteArray.mk #[77]) = strB (l ++ [77]) := ByteArray.mk_append_mk l [77]
    rw [e]; exact beq_self_eq_true _
  clear hln
  go_wp2_with (go_at_call 36
               refine HC2.out.mono ?_
               rintro e w8 ⟨rfl, d8⟩
               obtain ⟨pr8, kp8⟩ := HB2.out _ _ d8
               have HP8 := hid pr8
               have HK8 : Hid (Kp G w w8) := Kp.trans HK7.out (Kp.less kp8 HGo.out.2.2.2)
               have HB8 : Hid (Blk w8 g6 5 cur6) := Kp.blk kp8 HB7.out HGo.out.2.2.1
               have cv1 := conv_any (w := w8) (b := g6) (o := 0) (l ++ [77]) (Kp.range kp8 HR7.out HGo.out.2.2.1 hlt7) cap6 (l.length + 1) HLN.out
               have cv2 := conv_src (w := w8) (ad := ad4) (l := l) (fun hl => ⟨bb, 0, (HS7.out hl).1, Kp.range kp8 (HS7.out hl).2 HGo.out.2.1 hgt7⟩) cap4
               clear d8 pr8 kp8)
  go_loopw [12] (fun iv wr => ∃ (m : Nat) (xs : List Value), m ≤ l.length + 1 ∧ iv = .int .i64 (m : Int) ∧ xs.length = cap6 ∧ Blk wr g6 5 xs ∧ Duo G' wr p (D.write x.a l) q (R.write x.a l) (k + 1) ∧ Kp G w wr) (fun iv _ => l.length + 1 - (intOf iv).toNat)
  case atStart => exact ⟨0, cur6, by omega, rfl, hc6, HB8.out, ⟨HP8.out, HS.out, HLn.out.write _ _⟩, HK8.out⟩
  case round =>
    obtain ⟨m, xs, hm, rfl, hxl, hb, hdu, hkp⟩ := hrel
    have HD9 := hid hdu
    have HK9 := hid hkp
    have HB9 := hid hb
    clear hdu hkp
    by_cases hlt : m < l.length + 1
    · have hc : wr.cell? ⟨g6, m, none⟩ = some (xs[m]'(by omega)) := by rw [hb.cell, List.getElem?_eq_getElem]
      have hfz := hb.frozen m
      have hm1 : (m : Int) < (l.length : Int) + 1 := by omega
      have hm0 : (0 : Int) ≤ (m : Int) := Int.natCast_nonneg _
      clear hb
      go_wp2
      refine ⟨⟨m + 1, xs.set m (.int .u8 9), by omega, by simp, by simpa using hxl, HB9.out.setCell m _, HD9.out.setCell HGo.out.2.2.1 m _, ?_⟩, by simp [intOf]; omega⟩
      exact Fr.setCell HK9.out (.inr HGg.out) _
    · have hm1 : ¬ (m : Int) < (l.length : Int) + 1 := by omega
      clear hb
      go_wp2
      go_ret
      exact ⟨_, _, by simp, HD9.out.less HGo.out.2.2.2, HK9.out⟩

end Go.Proofs.Ytdempopelalafaa.Dk
