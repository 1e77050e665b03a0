/- The walk of the law TreeBytes. -/
import Derived.Test.YtipppagkajcheaaDoorDig
namespace Go.Proofs.YtipppagkajcheaaDoor.Tr
open Go.RowKit

theorem owns_set {W : World} {B g n cap : Nat} {c : List UInt8} (h : W.ownsRow B 5 1 (.slice (some ⟨g, 0, none⟩) n cap) n (bs c)) (j : Nat) (hj : j < n) (x : UInt8) : (W.setCell ⟨g, j, none⟩ (bv x)).ownsRow B 5 1 (.slice (some ⟨g, 0, none⟩) n cap) n (bs (c.set j x)) ∧ (∃ v0, W.cell? ⟨g, j, none⟩ = some v0) ∧ W.frozen? ⟨g, j, none⟩ = false := by
  rcases h.2 with ⟨h0, _⟩ | ⟨g', cap', cur, h0, hb, hg, hn, hm, hs, ht⟩
  · cases h0
  · cases h0
    have hB : Blk W g 5 cur.toList := by unfold Blk; rw [hg]
    have hB' := hB.setCell j (bv x)
    have hcl : cur.toList.length = cap := by rw [Array.length_toList, hs]; omega
    refine ⟨⟨by have := h.1; simpa [bs_length] using this, .inr ⟨g, cap, _, rfl, hb, hB', hn, hm, by simp; omega, ?_⟩⟩, ⟨cur.toList[j]'(by omega), by rw [hB.cell, List.getElem?_eq_getElem]⟩, hB.frozen j⟩
    rw [Nat.mul_one] at ht ⊢
    rw [List.take_set, ht]
    simp [bs, List.map_set]

set_option maxRecDepth 100000 in
set_option maxHeartbeats 4000000 in
theorem tby_walk (w : World) (ad : Option Addr) (L : List Ent) (cap : Nat) (hL : Ents w ad L) (hn : L.length * 48 ≤ 140737488351232) (hT : Tab w)
    (hb : ∀ x ∈ L, x.path.length ≤ 140737488351232 ∧ x.data.length ≤ 140737488351232 ∧ -9223372036854775808 ≤ x.kind ∧ x.kind ≤ 9223372036854775807) :
    Calls Tryd.prog 3 #[.slice ad L.length cap] w fun e w' => e = .returned (.bool true) ∧ Fr (fun _ => False) w w' := by
  have HL := hid hL
  have HT := hid hT
  have HBd := hid hb
  have HSh := hid (shown_any w hT)
  have hbl := bytesL_len L
  clear hL hT hb
  go_enter Tryd.func3, Tryd.ntmps3
  go_wp2_with (first
    | (go_at_call 6; refine HSh.out.mono ?_; rintro e w1 ⟨rfl, f1⟩; have F1 := hid f1; clear f1)
    | (go_at_call 7; refine (copied_any _ ad L cap (HL.out.fr F1.out) hn).mono ?_; rintro e w2 ⟨v2, rfl, hC⟩; obtain ⟨oa, oc, rfl, hoc, hoE⟩ := hC.ents HBd.out; have F2 := hid (F1.out.trans hC.f (fun _ h => h.elim)); have E2 := hid hoE; clear hC hoE)
    | (go_at_call 8; refine (right_any _ oa L oc E2.out hoc).mono ?_; rintro e w3 ⟨rfl, f3⟩; have F3 := hid (F2.out.trans f3 (fun _ h => h.elim)); have E3 := hid (E2.out.fr f3); clear f3)
    | (go_at_call 9; refine (bytes_any _ oa L oc E3.out hoc (HT.out.fr F3.out)).mono ?_; rintro e w4 ⟨v4, rfl, ho4, f4⟩; obtain ⟨va4, vc4, rfl⟩ := own_len ho4; have O4 := hid ho4; have F4 := hid f4; clear ho4 f4)
    | (go_at_call 10; refine (digest_any _ oa L oc (E3.out.fr F4.out) hoc ((HT.out.fr F3.out).fr F4.out)).mono ?_; rintro e w5 ⟨rfl, f5⟩; have O5 := hid (owns_of_eq O4.out (fun k hk => f5.block k (O4.out.lt k hk).2 (fun h => h))); have F5 := hid (F4.out.trans f5 (fun _ h => h.elim)); clear f5)
    | (go_at_call 11; refine (same_any _ oa ad L L oc cap (E3.out.fr F5.out) (HL.out.fr (F3.out.trans F5.out (fun _ h => h.elim))) (by omega)).mono ?_; rintro e w6 ⟨rfl, n6, rfl⟩; rw [decide_eq_true (rfl : L = L)]; have O6 := hid (owns_of_eq (w' := w5.drewN n6) O5.out (fun k hk => rfl)); have F6 := hid (F5.out.drewN n6); refine Hid.out ?_))
  refine hid ?_
  generalize w5.drewN n6 = w6 at *
  have HL3 := hid (HL.out.fr F3.out)
  have HT3 := hid (HT.out.fr F3.out)
  have HRb := hid (rbytes_any w6 ad L cap (HL3.out.fr F6.out))
  clear O4 O5 F4 F5 E2 F2 F1 HSh HL HT HBd
  generalize hbb : bytesL L = b at *
  have HBb := hid hbb
  clear hbb
  go_wp2_with (go_at_call 12; refine HRb.out.mono ?_; rintro e w7 ⟨v7, rfl, ho7, f7⟩; obtain ⟨va7, vc7, rfl⟩ := own_len ho7; have hcv7 := conv_bytes (src_own ho7) vc7; have hcv8 := conv_bytes (src_own (owns_of_eq O6.out (fun k hk => f7.block k (O6.out.lt k hk).2 (fun h => h)))) vc4; have O7 := hid (owns_of_eq O6.out (fun k hk => f7.block k (O6.out.lt k hk).2 (fun h => h))); have F7 := hid (F6.out.trans f7 (fun _ h => h.elim)); clear f7 ho7)
  go_loopw [11] (fun iv wr => ∃ (i : Nat) (c : List UInt8), i ≤ b.length ∧ iv = .int .i64 (i : Int) ∧ wr.ownsRow w3.heap.size 5 1 (.slice va4 b.length vc4) b.length (bs c) ∧ Fr (fun _ => False) w3 wr) (fun iv _ => b.length - (intOf iv).toNat)
  case atStart => exact ⟨0, b, Nat.zero_le _, rfl, O7.out, F7.out⟩
  case round =>
    obtain ⟨i, c, hi, rfl, hO, hF⟩ := hrel
    have HF := hid hF
    clear hcv7 hcv8 O6 O7 F6 F7 HRb
    by_cases hlt : i < b.length
    · have hi1 : (i : Int) < ((b.length : Nat) : Int) := by omega
      have hi0 : (0 : Int) ≤ (i : Int) := Int.natCast_nonneg _
      obtain ⟨g, cap', hv, hg1, _⟩ := World.ownsRow.form hO (by omega)
      cases hv
      obtain ⟨hO', ⟨v0, hc0⟩, hfz⟩ := owns_set hO i hlt 9
      have HO' := hid hO'
      have HF' : Hid (Fr (fun _ => False) w3 (wr.setCell ⟨g, i, none⟩ (.int .u8 9))) := hF.setCell (.inr hg1) _
      clear hO hF hO'
      go_wp2
      exact ⟨⟨i + 1, _, by omega, by go_num, HO'.out, HF'.out⟩, by simp [intOf]; omega⟩
    · obtain rfl : i = b.length := by omega
      have hkn : ¬ ((b.length : Nat) : Int) < ((b.length : Nat) : Int) := by omega
      clear hO hF
      have HR := hid (rright_any wr ad L cap (HL3.out.fr HF.out))
      have HDg := hid (fun (W : World) (f : Fr (fun _ => False) w3 W) => rdigest_any W ad L cap (HL3.out.fr f))
      have HBy := hid (fun (W : World) (f : Fr (fun _ => False) w3 W) => bytes_any W oa L oc (E3.out.fr f) hoc (HT3.out.fr f))
      rw [HBb.out] at HBy
      generalize rightB L = r at *
      generalize digL L = dg at *
      have hrr : (r == r) = true := by simp
      go_wp2_with (first
        | (go_at_call 13; refine HR.out.mono ?_; rintro e w8 ⟨rfl, f8⟩; have F8 := hid (HF.out.trans f8 (fun _ h => h.elim)); clear f8)
        | (go_at_call 14; refine (HDg.out _ F8.out).mono ?_; rintro e w9 ⟨rfl, f9⟩; have F9 := hid (F8.out.trans f9 (fun _ h => h.elim)); clear f9)
        | (go_at_call 9; refine (HBy.out _ F9.out).mono ?_; rintro e w10 ⟨v10, rfl, ho10, f10⟩; obtain ⟨va10, vc10, rfl⟩ := own_len ho10; have hcv10 := conv_bytes (src_own ho10) vc10; have F10 := hid (F9.out.trans f10 (fun _ h => h.elim)); clear f10 ho10))
      go_ret
      exact ⟨rfl, F3.out.trans F10.out (fun _ h => h.elim)⟩

end Go.Proofs.YtipppagkajcheaaDoor.Tr
