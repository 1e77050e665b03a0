/- The reader's pass and until, and Atoi, over any bytes: what comes back is in order, whatever it is. -/
import Derived.Test.YtipppagkajcheaaGreatDoorEty
namespace Go.Proofs.YtipppagkajcheaaGreatDoor.Tr
open Go.RowKit

/-- A reader whose slice, if it is nil, has no room. -/
def RxPost (B : Nat) (w : World) (rb : Nat) (v : Value) (M : List UInt8) (e : Ending) (w' : World) : Prop := e = .returned v ∧ Fr (fun k => k = rb) w w' ∧ ∃ ad cap, Rd B w' rb ad cap M ∧ (ad = none → cap = 0)

theorem ib_room (l : List UInt8) (c : UInt8) (h : 0 ≤ Lib.indexByte l c) : ∃ j, Lib.indexByte l c = ((j : Nat) : Int) ∧ j < l.length := by
  obtain ⟨j, hj⟩ : ∃ j : Nat, Lib.indexByte l c = j := ⟨(Lib.indexByte l c).toNat, by omega⟩
  refine ⟨j, hj, ?_⟩
  obtain ⟨h1, _⟩ := Lib.indexByte_some hj
  exact (List.getElem?_eq_some_iff.1 h1).1

theorem index_all (w : World) (ad : Option Addr) (cap : Nat) (L : List UInt8) (c : UInt8) (hs : Src w ad L) (hz : ad = none → cap = 0) (hc : L.length ≤ cap) (p2 : Option Addr) (c2 : Nat) (hp : Src w p2 [c]) :
    Calls Tryz.prog (Tryz.laysSlT4_ren.f 5) #[.slice ad L.length cap, .slice p2 1 c2] w fun e w' => e = .returned (.int .i64 (Lib.indexByte L c)) ∧ ∃ q, w' = w.drewN q := by
  show Calls Tryz.prog (Tryz.laysSlT4_ren.viaSlbt.f 185) _ _ _
  obtain ⟨b2, o2, rfl, hr2⟩ := hp (by simp)
  have hc2 : w.cell? ⟨b2, o2, none⟩ = some (.int .u8 (c.toNat : Int)) := hr2 0 (bv c) rfl
  have hcc : ((c.toNat : Int)).toNat.toUInt8 = c := by simp
  cases ad with
  | none =>
    obtain rfl : cap = 0 := hz rfl
    obtain rfl : L = [] := List.eq_nil_of_length_eq_zero (by omega)
    exact (Any.bytes_Index_one_nil Tryz.laysSlT4.index b2 o2 c2 _ w hc2).mono fun _ _ ⟨he, hw⟩ => ⟨he, 0, hw⟩
  | some a =>
    refine (Any.bytes_Index_one_at Tryz.laysSlT4.index a L.length cap b2 o2 c2 (ints L) _ w (ints_len L) (fun i hi => ?_) hc2).mono fun _ _ ⟨he, hw⟩ => ⟨by rw [he, bytesOf_ints, hcc], 0, hw⟩
    obtain ⟨bb, bo, e, hcl⟩ := hs.at i hi
    cases e
    rw [Addr.add_mid, ints_at L i hi]
    exact hcl

theorem cut_all (B : Nat) (w : World) (ad : Option Addr) (cap : Nat) (L : List UInt8) (c : UInt8) (hs : Src w ad L) (hz : ad = none → cap = 0) (hc : L.length ≤ cap) (hl : L.length ≤ 140737488355328) (hB : ∀ a, ad = some a → a.block < B) (p2 : Option Addr) (c2 : Nat) (hp : Src w p2 [c]) :
    Calls Tryz.prog 68 #[.slice ad L.length cap, .slice p2 1 c2] w fun e w' => ∃ (u v : List UInt8) (ok : Bool) (ad' : Option Addr) (cap' : Nat), e = .returned (.tuple #[.slice ad u.length cap, .slice ad' v.length cap', .bool ok]) ∧ (v.length ≤ cap' ∧ u.length ≤ L.length ∧ v.length ≤ L.length) ∧ (ad' = none → cap' = 0) ∧ Src w' ad' v ∧ Src w' ad u ∧ (∀ a, ad' = some a → a.block < B) ∧ ∃ q, w' = w.drewN q := by
  refine (Any.bytes_Cut_of Tryz.laysSlT4 ad p2 L.length cap 1 c2 (Lib.indexByte L c) w hc (Lib.indexByte_ge L c) (fun h => ?_) (by omega) (index_all w ad cap L c hs hz hc p2 c2 hp)).mono (fun e w' hh => ?_)
  · obtain ⟨j, hj, hjl⟩ := ib_room L c h
    rw [hj]; omega
  · obtain ⟨he, q, rfl⟩ := hh
    have fq : Fr (fun _ => False) w (w.drewN q) := (Fr.refl _ w).drewN q
    by_cases h0 : 0 ≤ Lib.indexByte L c
    · obtain ⟨j, hj, hjl⟩ := ib_room L c h0
      rw [hj] at he h0
      have hne : L ≠ [] := fun e => by rw [e] at hjl; simp at hjl
      obtain ⟨bb, bo, rfl, _⟩ := hs hne
      have hbb := hB _ rfl
      have hsf := src_from hs hc (j + 1)
      have hdl : (L.drop (j + 1)).length = L.length - (j + 1) := List.length_drop
      have htl : (L.take j).length = j := by rw [List.length_take]; omega
      refine ⟨L.take j, L.drop (j + 1), true, _, cap - (j + 1), ?_, ⟨by omega, by omega, by omega⟩, fun h => ?_, hsf.fr fq, (hs.take' j).fr fq, fun a ha => ?_, q, rfl⟩
      · rw [he]
        unfold Lib.cutV Lib.fromV
        rw [if_pos h0]
        simp only [Int.toNat_natCast]
        rw [hdl, htl]
        simp only [Option.map_some, Addr.add_mid]
      · split at h <;> cases h
      · split at ha <;> cases ha <;> exact hbb
    · refine ⟨L, [], false, none, 0, ?_, ⟨Nat.le_refl _, Nat.le_refl _, Nat.zero_le _⟩, fun _ => rfl, fun h => absurd rfl h, hs.fr fq, fun a ha => (by cases ha), q, rfl⟩
      rw [he]
      unfold Lib.cutV
      rw [if_neg h0]
      rfl

set_option maxRecDepth 100000 in
set_option maxHeartbeats 1000000 in
theorem until_any (B : Nat) (w : World) (rb : Nat) (ad : Option Addr) (cap : Nat) (L : List UInt8) (c : UInt8) (h : Rd B w rb ad cap L) (hz : ad = none → cap = 0) (hl : L.length ≤ 140737488355328) :
    Calls Tryz.prog 41 #[.pointer (some ⟨rb, 0, none⟩), .string ⟨#[c]⟩] w fun e w' => ∃ (u : List UInt8) (ok : Bool) (M : List UInt8), RxPost B w rb (.tuple #[.string ⟨u.toArray⟩, .bool ok]) M e w' ∧ u.length ≤ L.length ∧ M.length ≤ L.length := by
  have HR := hid h
  have c0 := h.blk.cell 0
  simp only [List.getElem?_cons_zero] at c0
  obtain ⟨w1, cc, hcv, hsy, f1⟩ := conv_in w [c]
  have HC := hid (cut_all B w1 ad cap L c (h.src.fr f1) hz h.cap hl h.low _ cc hsy)
  have hcp := h.cap
  have HF1 := hid f1
  have HB1 := hid (f1.blk h.blk (fun h => h))
  have HS1 := hid (h.src.fr f1)
  have HD : Hid (∀ q, Rd B (w1.drewN q) rb ad cap L) := fun q => ⟨((Fr.refl (fun _ => False) w1).drewN q).blk HB1.out (fun h => h), hcp, HS1.out.fr ((Fr.refl _ w1).drewN q), HR.out.low⟩
  have HFd : Hid (∀ q, Fr (fun _ => False) w (w1.drewN q)) := fun q => f1.drewN q
  clear h f1 hsy hl HR HF1 HB1 HS1
  have hcv' : (convert 9 22 (.string ⟨#[c]⟩)).run Tryz.prog w = .ok (.slice (some ⟨w.heap.size, 0, none⟩) 1 cc) w1 := hcv
  clear hcv hz
  generalize hnn : L.length = n at *
  have HNn := hid hnn
  clear hnn
  go_enter Tryz.func41, Tryz.ntmps41
  go_wp2_with (go_at_call 68; refine HC.out.mono ?_; rintro e w2 ⟨u, v, ok, ad', cap', rfl, ⟨hle, hul, hvl⟩, hz', hsv, hsu, hlo, q, rfl⟩; have HLo := hid hlo; have HZ' := hid hz'; have hb := (HD.out q).blk; rw [HNn.out] at hb; have c2 := hb.cell 0; have fz2 := hb.frozen 0; simp only [List.getElem?_cons_zero] at c2; have hcvu := conv_bytes (Rd.keep (HD.out q) (fr_set rb (Fr.refl _ _) (.slice ad' v.length cap')) hsu) cap; have HSv := hid (Rd.keep (HD.out q) (fr_set rb (Fr.refl _ _) (.slice ad' v.length cap')) hsv); have HB2 := hid (hb.setCell 0 (.slice ad' v.length cap')); have HF2 := hid (fr_set rb (HFd.out q) (.slice ad' v.length cap')); have HLe := hid hle; have HUl := hid hul; have HVl := hid hvl; clear hb hsv hsu hle hlo hul hvl hz')
  go_ret2
  exact ⟨u, ok, v, ⟨rfl, HF2.out, ad', cap', ⟨HB2.out, HLe.out, HSv.out, HLo.out⟩, HZ'.out⟩, HUl.out, HVl.out⟩

theorem cutpre_yes3 (B : Nat) (w : World) (ad : Option Addr) (d : List UInt8) (cap : Nat) (hs : Src w ad d) (hc : d.length ≤ cap) (hB : ∀ a, ad = some a → a.block < B) (p2 : Option Addr) (y : UInt8) (ys : List UInt8) (c2 : Nat) (hp : Src w p2 (y :: ys)) (h : Lib.hasPrefix d (y :: ys) = true) :
    Calls Tryz.prog 35 #[.slice ad d.length cap, .slice p2 (y :: ys).length c2] w fun e w' => (∃ ad', e = .returned (.tuple #[.slice ad' (d.drop (y :: ys).length).length (cap - (y :: ys).length), .bool true]) ∧ Src w ad' (d.drop (y :: ys).length) ∧ (∀ a, ad' = some a → a.block < B) ∧ ad' ≠ none) ∧ w' = w :=
  (Tryz.bytes_CutPrefix_all ad p2 d.length cap (y :: ys).length c2 (ints d) (ints (y :: ys)) w (ints_len d) (ints_len _) hc hs.bytesIn hp.bytesIn).mono (fun e w' hh => by
    obtain ⟨h1, h2⟩ := hh
    rw [bytesOf_ints, bytesOf_ints, h] at h1
    refine ⟨?_, h2⟩
    have hne : d ≠ [] := fun e => by rw [e] at h; simp [Lib.hasPrefix] at h
    obtain ⟨bb, bo, rfl, _⟩ := hs hne
    rw [h1]
    simp only [Lib.trimPrefixV, ints, List.map_cons, Lib.bytesTrimPrefix, Lib.sliceFrom]
    have e1 : Lib.bytesOf (d.map fun c => (c.toNat : Int)) = d := bytesOf_ints d
    have e2 : Lib.bytesOf ((y.toNat : Int) :: ys.map fun c => (c.toNat : Int)) = y :: ys := bytesOf_ints (y :: ys)
    rw [e1, e2, h]
    have hbb := hB _ rfl
    refine ⟨_, ?_, src_from hs hc (y :: ys).length, fun a ha => ?_, fun ha => ?_⟩
    · simp
    · split at ha <;> cases ha <;> exact hbb
    · split at ha <;> cases ha)

set_option maxRecDepth 100000 in
set_option maxHeartbeats 1000000 in
theorem pass_any (B : Nat) (w : World) (rb : Nat) (ad : Option Addr) (cap : Nat) (L : List UInt8) (y : UInt8) (ys : List UInt8) (h : Rd B w rb ad cap L) (hz : ad = none → cap = 0) :
    Calls Tryz.prog 27 #[.pointer (some ⟨rb, 0, none⟩), .string ⟨(y :: ys).toArray⟩] w fun e w' => ∃ (ok : Bool) (M : List UInt8), RxPost B w rb (.bool ok) M e w' ∧ M.length ≤ L.length ∧ (L = [] → ok = false) := by
  cases hp : Lib.hasPrefix L (y :: ys) with
  | true =>
    have HR := hid h
    have c0 := h.blk.cell 0
    simp only [List.getElem?_cons_zero] at c0
    obtain ⟨w1, cc, hcv, hsy, f1⟩ := conv_in w (y :: ys)
    have HC := hid (cutpre_yes3 B w1 ad L cap (h.src.fr f1) h.cap h.low _ y ys cc hsy hp)
    have hcp := h.cap
    have hle : (L.drop (y :: ys).length).length ≤ cap - (y :: ys).length := by rw [List.length_drop]; omega
    have HLL : Hid ((L.drop (y :: ys).length).length ≤ L.length) := by unfold Hid; rw [List.length_drop]; omega
    have HNe : Hid (L ≠ []) := fun e => by rw [e] at hp; simp [Lib.hasPrefix] at hp
    clear hz hp
    generalize L.drop (y :: ys).length = M at *
    generalize cap - (y :: ys).length = cm at *
    generalize y :: ys = t at *
    have HF1 := hid f1
    have hb1 := f1.blk h.blk (fun h => h)
    have c1 := hb1.cell 0
    have fz := hb1.frozen 0
    simp only [List.getElem?_cons_zero] at c1
    have HB1 := hid hb1
    clear h f1 hsy hb1
    go_enter Tryz.func27, Tryz.ntmps27
    go_wp2_with (go_at_call 35; refine HC.out.mono ?_; rintro e w2 ⟨⟨ad', rfl, hs', hlo', hno'⟩, rfl⟩; have HS' := hid hs'; have HLo := hid hlo'; have HNo := hid hno'; clear hs' hlo' hno')
    have HB2 := hid (HB1.out.setCell 0 (.slice ad' M.length cm))
    go_ret
    refine ⟨true, M, ⟨rfl, ?_, ad', cm, ⟨HB2.out, hle, ?_, ?_⟩, fun h => absurd h HNo.out⟩, HLL.out, fun h => absurd h HNe.out⟩
    · exact fr_set rb HF1.out _
    · exact Rd.keep (B := B) ⟨HB1.out, hcp, HR.out.src.fr HF1.out, HR.out.low⟩ (fr_set rb (Fr.refl _ _) _) HS'.out
    · exact HLo.out
  | false =>
    generalize y :: ys = t at *
    have HR := hid h
    have HZ := hid hz
    have c0 := h.blk.cell 0
    simp only [List.getElem?_cons_zero] at c0
    obtain ⟨w1, cc, hcv, hsy, f1⟩ := conv_in w t
    have HC := hid (cutpre_no2 w1 ad L cap (h.src.fr f1) h.cap _ t cc hsy hp)
    have hcp := h.cap
    have HF1 := hid f1
    have hb1 := f1.blk h.blk (fun h => h)
    have c1 := hb1.cell 0
    have fz := hb1.frozen 0
    simp only [List.getElem?_cons_zero] at c1
    have HB1 := hid hb1
    clear h f1 hsy hb1 hz hp
    go_enter Tryz.func27, Tryz.ntmps27
    go_wp2_with (go_at_call 35; refine HC.out.mono ?_; rintro e w2 ⟨rfl, rfl⟩)
    have HB2 := hid (HB1.out.setCell 0 (.slice ad L.length cap))
    go_ret
    refine ⟨false, L, ⟨rfl, ?_, ad, _, ⟨HB2.out, hcp, ?_, HR.out.low⟩, HZ.out⟩, Nat.le_refl _, fun _ => rfl⟩
    · exact fr_set rb HF1.out _
    · exact Rd.keep (B := B) ⟨HB1.out, hcp, HR.out.src.fr HF1.out, HR.out.low⟩ (fr_set rb (Fr.refl _ _) _) (HR.out.src.fr HF1.out)

/-- The library's two errors of numbers are there. -/
def Erc (w : World) : Prop := ∀ g : Nat, g = 1 ∨ g = 2 → ∃ ev, w.cell? ⟨g, 0, none⟩ = some ev ∧ (ev = .nilIface ∨ ∃ te pe, ev = .iface te pe)
theorem Erc.fr {w w' : World} (h : Erc w) (f : Fr (fun _ => False) w w') : Erc w' := fun g hg => by
  obtain ⟨ev, h1, h2⟩ := h g hg
  exact ⟨ev, cell_fr f h1, h2⟩
theorem Erc.rd {w w' : World} {rb n c : Nat} {a : Option Addr} (h : Erc w) (hb : Blk w rb 54 [.slice a n c]) (f : Fr (fun k => k = rb) w w') : Erc w' := fun g hg => by
  obtain ⟨ev, h1, h2⟩ := h g hg
  refine ⟨ev, ?_, h2⟩
  have hne : g ≠ rb := by
    rintro rfl
    have := hb.cell 0
    rw [h1] at this
    simp at this
    rcases h2 with rfl | ⟨_, _, rfl⟩ <;> cases this
  rw [World.cell?_of_block (w := w) (f.block g (World.block_lt_of_cell? w ⟨g, 0, none⟩ h1) hne)]
  exact h1
theorem Erc.grown {w w' : World} {r : Option Nat} (h : Erc w) (g : w.grownBy w' r) (hr : ∀ k, r = some k → 1 < k ∧ 2 < k) : Erc w' := fun j hj => by
  obtain ⟨ev, h1, h2⟩ := h j hj
  refine ⟨ev, ?_, h2⟩
  rw [World.cell?_of_block (w := w) (g.block j (World.block_lt_of_cell? w ⟨j, 0, none⟩ h1) (fun e => by have := hr j e.symm; rcases hj with rfl | rfl <;> omega))]
  exact h1

theorem atoi_all (w : World) (s : List UInt8) (hs : s.length ≤ 140737488355328) (hE : Erc w) : Calls Tryz.prog 42 #[.string ⟨s.toArray⟩] w fun e w' => ∃ (n : Int) (ev : Value), e = .returned (.tuple #[.int .i64 n, ev]) ∧ (ev = .nilIface ∨ ∃ N : Nat, ev = .iface 119 (.pointer (some ⟨N, 0, none⟩))) ∧ Fr (fun _ => False) w w' := by
  cases ha : Lib.atoiAll s with
  | ok v =>
    refine (Tryz.strconv_Atoi_ok ⟨s.toArray⟩ (by show s.length ≤ _; omega) v ha w).mono (fun e w' hh => ?_)
    obtain ⟨h1, h2⟩ := hh
    refine ⟨v, .nilIface, h1, .inl rfl, ?_⟩
    rcases h2 with rfl | ⟨t, rfl⟩
    · exact Fr.refl _ _
    · exact ⟨rfl, rfl, rfl, by rw [Lib.bytesWorld_size]; omega, fun k hk _ => Lib.bytesWorld_at_old w 5 _ k hk⟩
  | «syntax» =>
    obtain ⟨ev, h1, h2⟩ := hE 1 (.inl rfl)
    refine (Tryz.strconv_Atoi_syntax ⟨s.toArray⟩ (by show s.length ≤ _; omega) ha ev w h1 h2).mono (fun e w' hh => ?_)
    obtain ⟨N, he, _, _, hb⟩ := hh
    exact ⟨_, _, he, .inr ⟨N, rfl⟩, fr_below hb⟩
  | range =>
    obtain ⟨ev, h1, h2⟩ := hE 2 (.inr rfl)
    refine (Tryz.strconv_Atoi_range ⟨s.toArray⟩ (by show s.length ≤ _; omega) ha ev w h1 h2).mono (fun e w' hh => ?_)
    obtain ⟨N, he, _, _, hb⟩ := hh
    exact ⟨_, _, he, .inr ⟨N, rfl⟩, fr_below hb⟩

end Go.Proofs.YtipppagkajcheaaGreatDoor.Tr
