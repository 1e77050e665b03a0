/- The contracts of the reader's pass and until, and of kindOf. -/
import Derived.Test.YtipppagkajcheaaGreatDoorSpt
import Derived.Test.YtipppagkajcheaaGreatDoorShf
import Derived.Test.YtipppagkajcheaaGreatDoorParse
import Derived.Lib.ConvBytes
namespace Go.Proofs.YtipppagkajcheaaGreatDoor.Tr
open Go.RowKit

/-- A reader, and what is left to it. -/
structure Rd (B : Nat) (w : World) (rb : Nat) (ad : Option Addr) (cap : Nat) (L : List UInt8) : Prop where
  blk : Blk w rb 54 [.slice ad L.length cap]
  cap : L.length ≤ cap
  src : Src w ad L
  low : ∀ a, ad = some a → a.block < B
/-- Its bytes lie elsewhere. -/
theorem Rd.ne {w : World} {B rb : Nat} {ad : Option Addr} {cap : Nat} {L : List UInt8} (h : Rd B w rb ad cap L) {ad' : Option Addr} {M : List UInt8} (hs : Src w ad' M) (hM : M ≠ []) : ∃ bb bo, ad' = some ⟨bb, bo, none⟩ ∧ bb ≠ rb ∧ bb < w.heap.size := by
  obtain ⟨bb, bo, e, hr⟩ := hs hM
  have hl : 0 < M.length := List.length_pos_iff.2 hM
  have hc := hr 0 (bv M[0]) (by rw [bs_at M 0 hl])
  refine ⟨bb, bo, e, ?_, World.block_lt_of_cell? w ⟨bb, bo + 0, none⟩ hc⟩
  rintro rfl
  have hb := h.blk.cell (bo + 0)
  rw [hc] at hb
  match bo, hb with
  | 0, hb => simp [bv] at hb
  | n + 1, hb => simp at hb
theorem Rd.keep {w w' : World} {B rb : Nat} {ad : Option Addr} {cap : Nat} {L : List UInt8} (h : Rd B w rb ad cap L) (f : Fr (fun k => k = rb) w w') {ad' : Option Addr} {M : List UInt8} (hs : Src w ad' M) : Src w' ad' M := fun hM => by
  obtain ⟨bb, bo, e, hne, hlt⟩ := h.ne hs hM
  obtain ⟨bb', bo', e', hr⟩ := hs hM
  rw [e] at e'
  cases e'
  refine ⟨bb, bo, e, fun j v hv => ?_⟩
  rw [World.cell?_of_block (w := w) (f.block bb hlt hne)]
  exact hr j v hv
/-- []byte(s). -/
theorem conv_in (w : World) (s : List UInt8) : ∃ w1 c, (convert 9 22 (.string ⟨s.toArray⟩)).run Tryz.prog w = .ok (.slice (some ⟨w.heap.size, 0, none⟩) s.length c) w1 ∧ Src w1 (some ⟨w.heap.size, 0, none⟩) s ∧ Fr (fun _ => False) w w1 := by
  refine ⟨_, _, Lib.run_convert_string_bytes (P := Tryz.prog) w 9 22 5 ⟨s.toArray⟩ Tryz.underlying9 Tryz.underlying22 Tryz.underlying5, fun _ => ⟨w.heap.size, 0, rfl, fun j v hv => ?_⟩, ?_⟩
  · have hj : j < s.length := by
      rcases Nat.lt_or_ge j s.length with h | h
      · exact h
      · rw [List.getElem?_eq_none (by rw [bs_length]; exact h)] at hv; cases hv
    rw [Nat.zero_add, Lib.bytesWorld_cell w 5 ⟨s.toArray⟩ j hj, ← hv, bs_at s j hj]
    simp [bv, hj]
  · exact ⟨rfl, rfl, rfl, by rw [Lib.bytesWorld_size]; omega, fun k hk _ => Lib.bytesWorld_at_old w 5 _ k hk⟩

theorem cutpre_yes2 (B : Nat) (w : World) (ad : Option Addr) (d : List UInt8) (cap : Nat) (hs : Src w ad d) (hc : d.length ≤ cap) (hB : ∀ a, ad = some a → a.block < B) (p2 : Option Addr) (y : UInt8) (ys : List UInt8) (c2 : Nat) (hp : Src w p2 (y :: ys)) (h : Lib.hasPrefix d (y :: ys) = true) :
    Calls Tryz.prog 35 #[.slice ad d.length cap, .slice p2 (y :: ys).length c2] w fun e w' => (∃ ad', e = .returned (.tuple #[.slice ad' (d.drop (y :: ys).length).length (cap - (y :: ys).length), .bool true]) ∧ Src w ad' (d.drop (y :: ys).length) ∧ ∀ a, ad' = some a → a.block < B) ∧ w' = w :=
  (Tryz.bytes_CutPrefix_all ad p2 d.length cap (y :: ys).length c2 (ints d) (ints (y :: ys)) w (ints_len d) (ints_len _) hc hs.bytesIn hp.bytesIn).mono (fun e w' hh => by
    obtain ⟨h1, h2⟩ := hh
    rw [bytesOf_ints, bytesOf_ints, h] at h1
    refine ⟨?_, h2⟩
    have hne : d ≠ [] := fun e => by rw [e] at h; simp [Lib.hasPrefix] at h
    obtain ⟨bb, bo, rfl, _⟩ := hs hne
    rw [h1]
    simp only [Lib.trimPrefixV, ints, List.map_cons, Lib.bytesTrimPrefix, Lib.sliceFrom]
    have e1 : Lib.bytesOf (d.map fun c => (c.toNat : Int)) = d := bytesOf_ints d
    have e2 : Lib.bytesOf ((y.toNat : Int) :: ys.map fun c => (c.toNat : Int)) = y :: ys := bytesOf_ints (y :: ys)
    rw [e1, e2, h]
    have hbb := hB _ rfl
    refine ⟨_, ?_, src_from hs hc (y :: ys).length, fun a ha => ?_⟩
    · simp
    · split at ha <;> cases ha <;> exact hbb)
theorem fr_set {w w1 : World} (rb : Nat) (f : Fr (fun _ => False) w w1) (v : Value) : Fr (fun k => k = rb) w (w1.setCell ⟨rb, 0, none⟩ v) :=
  Fr.setCell (F := fun k => k = rb) (f.mono (fun _ h => h.elim)) (p := ⟨rb, 0, none⟩) (.inl rfl) v
/-- What a reader does. -/
def RdPost (B : Nat) (w : World) (rb : Nat) (v : Value) (M : List UInt8) (e : Ending) (w' : World) : Prop := e = .returned v ∧ Fr (fun k => k = rb) w w' ∧ ∃ ad cap, Rd B w' rb ad cap M

set_option maxRecDepth 100000 in
set_option maxHeartbeats 1000000 in
theorem pass_yes (B : Nat) (w : World) (rb : Nat) (ad : Option Addr) (cap : Nat) (L : List UInt8) (y : UInt8) (ys : List UInt8) (h : Rd B w rb ad cap L) (hp : Lib.hasPrefix L (y :: ys) = true) :
    Calls Tryz.prog 27 #[.pointer (some ⟨rb, 0, none⟩), .string ⟨(y :: ys).toArray⟩] w (RdPost B w rb (.bool true) (L.drop (y :: ys).length)) := by
  have HR := hid h
  have c0 := h.blk.cell 0
  simp only [List.getElem?_cons_zero] at c0
  obtain ⟨w1, cc, hcv, hsy, f1⟩ := conv_in w (y :: ys)
  have HC := hid (cutpre_yes2 B w1 ad L cap (h.src.fr f1) h.cap h.low _ y ys cc hsy hp)
  have hcp := h.cap
  have hle : (L.drop (y :: ys).length).length ≤ cap - (y :: ys).length := by rw [List.length_drop]; omega
  generalize L.drop (y :: ys).length = M at *
  generalize cap - (y :: ys).length = cm at *
  generalize y :: ys = t at *
  have HF1 := hid f1
  have hb1 := f1.blk h.blk (fun h => h)
  have c1 := hb1.cell 0
  have fz := hb1.frozen 0
  simp only [List.getElem?_cons_zero] at c1
  have HB1 := hid hb1
  clear h f1 hsy hb1
  go_enter Tryz.func27, Tryz.ntmps27
  go_wp2_with (go_at_call 35; refine HC.out.mono ?_; rintro e w2 ⟨⟨ad', rfl, hs', hlo'⟩, rfl⟩; have HS' := hid hs'; have HLo := hid hlo'; clear hs' hlo')
  have HB2 := hid (HB1.out.setCell 0 (.slice ad' M.length cm))
  go_ret
  refine ⟨rfl, ?_, ad', cm, HB2.out, hle, ?_, ?_⟩
  · exact fr_set rb HF1.out _
  · exact Rd.keep (B := B) ⟨HB1.out, hcp, HR.out.src.fr HF1.out, HR.out.low⟩ (fr_set rb (Fr.refl _ _) _) HS'.out
  · exact HLo.out

theorem cutpre_no2 (w : World) (ad : Option Addr) (d : List UInt8) (cap : Nat) (hs : Src w ad d) (hc : d.length ≤ cap) (p2 : Option Addr) (ys : List UInt8) (c2 : Nat) (hp : Src w p2 ys) (h : Lib.hasPrefix d ys = false) :
    Calls Tryz.prog 35 #[.slice ad d.length cap, .slice p2 ys.length c2] w fun e w' => e = .returned (.tuple #[.slice ad d.length cap, .bool false]) ∧ w' = w :=
  (Tryz.bytes_CutPrefix_all ad p2 d.length cap ys.length c2 (ints d) (ints ys) w (ints_len d) (ints_len _) hc hs.bytesIn hp.bytesIn).mono (fun e w' hh => by
    obtain ⟨h1, h2⟩ := hh
    rw [bytesOf_ints, bytesOf_ints, h] at h1
    refine ⟨?_, h2⟩
    have : Lib.trimPrefixV ad d.length cap (ints d) (ints ys) = .slice ad d.length cap := by
      unfold Lib.trimPrefixV
      split
      · unfold Lib.bytesTrimPrefix
        rw [bytesOf_ints, bytesOf_ints, h]
        rfl
      · rfl
    rw [h1, this])

set_option maxRecDepth 100000 in
set_option maxHeartbeats 1000000 in
theorem pass_no (B : Nat) (w : World) (rb : Nat) (ad : Option Addr) (cap : Nat) (L ys : List UInt8) (h : Rd B w rb ad cap L) (hp : Lib.hasPrefix L ys = false) :
    Calls Tryz.prog 27 #[.pointer (some ⟨rb, 0, none⟩), .string ⟨ys.toArray⟩] w (RdPost B w rb (.bool false) L) := by
  have HR := hid h
  have c0 := h.blk.cell 0
  simp only [List.getElem?_cons_zero] at c0
  obtain ⟨w1, cc, hcv, hsy, f1⟩ := conv_in w ys
  have HC := hid (cutpre_no2 w1 ad L cap (h.src.fr f1) h.cap _ ys cc hsy hp)
  have hcp := h.cap
  have HF1 := hid f1
  have hb1 := f1.blk h.blk (fun h => h)
  have c1 := hb1.cell 0
  have fz := hb1.frozen 0
  simp only [List.getElem?_cons_zero] at c1
  have HB1 := hid hb1
  clear h f1 hsy hb1
  go_enter Tryz.func27, Tryz.ntmps27
  go_wp2_with (go_at_call 35; refine HC.out.mono ?_; rintro e w2 ⟨rfl, rfl⟩)
  have HB2 := hid (HB1.out.setCell 0 (.slice ad L.length cap))
  go_ret
  refine ⟨rfl, ?_, ad, _, HB2.out, hcp, ?_, HR.out.low⟩
  · exact fr_set rb HF1.out _
  · exact Rd.keep (B := B) ⟨HB1.out, hcp, HR.out.src.fr HF1.out, HR.out.low⟩ (fr_set rb (Fr.refl _ _) _) (HR.out.src.fr HF1.out)

theorem index_app : ∀ (u v : List UInt8) (c : UInt8), c ∉ u → Lib.index (u ++ c :: v) [c] = (u.length : Int)
  | [], v, c, _ => by simp [Lib.index, List.isPrefixOf]
  | x :: u, v, c, h => by
    simp only [List.mem_cons, not_or] at h
    have ih := index_app u v c h.2
    have hx : (c == x) = false := by simpa using h.1
    rw [List.cons_append, Lib.index]
    simp only [List.isPrefixOf, hx, Bool.false_and, ih]
    have : ¬ ((u.length : Int) == -1) = true := by simp
    simp only [Bool.false_eq_true, if_false, this]
    simp
theorem cut_yes (B : Nat) (w : World) (ad : Option Addr) (cap : Nat) (u v : List UInt8) (c : UInt8) (hs : Src w ad (u ++ c :: v)) (hc : (u ++ c :: v).length ≤ cap) (p2 : Option Addr) (c2 : Nat) (hB : ∀ a, ad = some a → a.block < B) (hp : Src w p2 [c]) (hu : c ∉ u) (hl : (u ++ c :: v).length < 4294967281) (m : Int) (hm : w.cell? ⟨0, 0, none⟩ = some (.int .i64 m)) :
    Calls Tryz.prog 68 #[.slice ad (u ++ c :: v).length cap, .slice p2 1 c2] w fun e w' => ∃ ad' cap', e = .returned (.tuple #[.slice ad u.length cap, .slice ad' v.length cap', .bool true]) ∧ v.length ≤ cap' ∧ Src w' ad' v ∧ Src w' ad u ∧ (∀ a, ad' = some a → a.block < B) ∧ ∃ q, w' = w.drewN q := by
  obtain ⟨bb, bo, rfl, _⟩ := hs (by simp)
  have hbb := hB _ rfl
  refine (Tryz.bytes_Cut_all _ p2 (u ++ c :: v).length cap 1 c2 (ints (u ++ c :: v)) (ints [c]) m w (ints_len _) rfl (fun x hx => ?_) (fun x hx => ?_) hs.bytesIn hp.bytesIn (fun e => by cases e) hc hl (by decide) hm).mono (fun e w' hh => ?_)
  · simp only [ints, List.mem_map] at hx
    obtain ⟨y, _, rfl⟩ := hx
    have := y.toNat_lt
    omega
  · simp only [ints, List.mem_map] at hx
    obtain ⟨y, _, rfl⟩ := hx
    have := y.toNat_lt
    omega
  · obtain ⟨h1, q, rfl⟩ := hh
    rw [bytesOf_ints, bytesOf_ints, index_app u v c hu] at h1
    have hd : (u ++ c :: v).drop (u.length + 1) = v := by
      rw [show u.length + 1 = (u ++ [c]).length by simp, show u ++ c :: v = (u ++ [c]) ++ v by simp]
      exact List.drop_left
    have hvl : (u ++ c :: v).length - (u.length + 1) = v.length := by rw [List.length_append, List.length_cons]; omega
    have hsf := src_from hs hc (u.length + 1)
    rw [hd] at hsf
    refine ⟨_, cap - (u.length + 1), ?_, ?_, hsf.fr ((Fr.refl _ w).drewN q), ?_, fun a ha => ?_, q, rfl⟩
    · rw [h1]
      unfold Lib.cutV Lib.fromV
      rw [if_pos (Int.natCast_nonneg _)]
      simp only [Int.toNat_natCast]
      rw [hvl]
      simp only [Option.map_some, Addr.add_mid]
    · simp at hc; omega
    · have := (hs.take' u.length).fr ((Fr.refl _ w).drewN q)
      rw [List.take_left] at this
      exact this
    · split at ha <;> cases ha <;> exact hbb

set_option maxRecDepth 100000 in
set_option maxHeartbeats 1000000 in
theorem until_yes (B : Nat) (w : World) (rb : Nat) (ad : Option Addr) (cap : Nat) (u v : List UInt8) (c : UInt8) (h : Rd B w rb ad cap (u ++ c :: v)) (hu : c ∉ u) (hl : (u ++ c :: v).length < 4294967281) (m : Int) (hm : w.cell? ⟨0, 0, none⟩ = some (.int .i64 m)) :
    Calls Tryz.prog 41 #[.pointer (some ⟨rb, 0, none⟩), .string ⟨#[c]⟩] w (RdPost B w rb (.tuple #[.string ⟨u.toArray⟩, .bool true]) v) := by
  have HR := hid h
  have c0 := h.blk.cell 0
  simp only [List.getElem?_cons_zero] at c0
  obtain ⟨w1, cc, hcv, hsy, f1⟩ := conv_in w [c]
  have HC := hid (cut_yes B w1 ad cap u v c (h.src.fr f1) h.cap _ cc h.low hsy hu hl m (cell_fr f1 hm))
  have hcp := h.cap
  have HF1 := hid f1
  have HB1 := hid (f1.blk h.blk (fun h => h))
  have HS1 := hid (h.src.fr f1)
  have HD : Hid (∀ q, Rd B (w1.drewN q) rb ad cap (u ++ c :: v)) := fun q => ⟨((Fr.refl (fun _ => False) w1).drewN q).blk HB1.out (fun h => h), hcp, HS1.out.fr ((Fr.refl _ w1).drewN q), HR.out.low⟩
  have HFd : Hid (∀ q, Fr (fun _ => False) w (w1.drewN q)) := fun q => f1.drewN q
  clear h f1 hsy hm hu hl HR HF1 HB1 HS1
  have hcv' : (convert 9 22 (.string ⟨#[c]⟩)).run Tryz.prog w = .ok (.slice (some ⟨w.heap.size, 0, none⟩) 1 cc) w1 := hcv
  clear hcv
  generalize hnn : (u ++ c :: v).length = n at *
  have HNn := hid hnn
  clear hnn
  go_enter Tryz.func41, Tryz.ntmps41
  go_wp2_with (go_at_call 68; refine HC.out.mono ?_; rintro e w2 ⟨ad', cap', rfl, hle, hsv, hsu, hlo, q, rfl⟩; have HLo := hid hlo; have hb := (HD.out q).blk; rw [HNn.out] at hb; have c2 := hb.cell 0; have fz2 := hb.frozen 0; simp only [List.getElem?_cons_zero] at c2; have hcvu := conv_bytes (Rd.keep (HD.out q) (fr_set rb (Fr.refl _ _) (.slice ad' v.length cap')) hsu) cap; have HSv := hid (Rd.keep (HD.out q) (fr_set rb (Fr.refl _ _) (.slice ad' v.length cap')) hsv); have HB2 := hid (hb.setCell 0 (.slice ad' v.length cap')); have HF2 := hid (fr_set rb (HFd.out q) (.slice ad' v.length cap')); have hlv := hle; clear hb hsv hsu hle hlo)
  go_ret2
  exact ⟨rfl, HF2.out, ad', cap', HB2.out, hlv, HSv.out, HLo.out⟩

set_option maxRecDepth 100000 in
theorem kindOf_any (w : World) (s : List UInt8) : Calls Tryz.prog 44 #[.string ⟨s.toArray⟩] w fun e w' => e = .returned (.int .i64 (if s = [102] then 1 else if s = [108] then 3 else 0)) ∧ w' = w := by
  by_cases h1 : s = [102]
  · subst h1
    go_enter Tryz.func44, Tryz.ntmps44
    go_wp2
    go_ret
    exact ⟨rfl, rfl⟩
  · by_cases h2 : s = [108]
    · subst h2
      go_enter Tryz.func44, Tryz.ntmps44
      go_wp2
      go_ret
      exact ⟨rfl, rfl⟩
    · have h1' : (s == [102]) = false := by simpa using h1
      have h2' : (s == [108]) = false := by simpa using h2
      have HV : Hid ((if s = [102] then (1 : Int) else if s = [108] then 3 else 0) = 0) := by unfold Hid; rw [if_neg h1, if_neg h2]
      rw [HV.out]
      go_enter Tryz.func44, Tryz.ntmps44
      go_wp2
      go_ret
      exact ⟨rfl, rfl⟩

end Go.Proofs.YtipppagkajcheaaGreatDoor.Tr
