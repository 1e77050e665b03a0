/- The walk of SumOne. -/
import Derived.Test.YtlgpojdkcbjkkaaTellsWalk
import Derived.Test.YtlgpojdkcbjkkaaArgs
namespace Go.Proofs.Ytlgpojdkcbjkkaa.Sm
open Go.RowKit

theorem xor_ne (a y : UInt8) (hy : ¬ y.toNat = 0) : a ^^^ y ≠ a := by
  intro h
  apply hy
  have e := congrArg UInt8.toNat h
  rw [UInt8.toNat_xor] at e
  have : (a.toNat ^^^ y.toNat) ^^^ a.toNat = a.toNat ^^^ a.toNat := by rw [e]
  rwa [Nat.xor_comm a.toNat y.toNat, xor_back, Nat.xor_self] at this
theorem range_set {w : World} {g : Nat} {b : List UInt8} (h : w.rangeAt g 0 (bs b)) {j : Nat} (hj : j < b.length) {v0 : Value} (hc : w.cell? ⟨g, j, none⟩ = some v0) (c : UInt8) :
    ((w.setCell ⟨g, j, none⟩ (.int .u8 (c.toNat : Int))).drew).rangeAt g 0 (bs (b.set j c)) := by
  intro i v hv
  rw [Nat.zero_add]
  show (w.setCell ⟨g, j, none⟩ (.int .u8 (c.toNat : Int))).cell? ⟨g, i, none⟩ = some v
  by_cases hij : j = i
  · subst hij
    rw [World.cell?_setCell_same w _ _ hc, ← hv]
    simp [bs, bv, hj]
  · rw [World.cell?_setCell_other w (a := ⟨g, j, none⟩) (b := ⟨g, i, none⟩) (h := fun e => hij (congrArg Addr.off e))]
    have := h i v (by
      rw [← hv]
      simp only [bs, List.getElem?_map]
      rw [List.getElem?_set_ne hij])
    rwa [Nat.zero_add] at this

set_option maxRecDepth 100000 in
set_option maxHeartbeats 1000000 in
theorem one_walk (w : World) (ad : Option Addr) (b : List UInt8) (cap : Nat) (hl : b.length ≤ 140737488351232) (hsrc : Src w ad b) (at0 : Int) (ha0 : -9223372036854775808 ≤ at0) (ha1 : at0 ≤ 9223372036854775807) (y : UInt8) :
    Calls Try.prog 6 #[.slice ad b.length cap, .int .i64 at0, .int .u8 (y.toNat : Int)] w fun e w' => e = .returned (.bool true) ∧ Fr (fun _ => False) w w' := by
  have HS := hid hsrc
  have HL : Hid (b.length ≤ 140737488355328) := by unfold Hid; omega
  clear hsrc
  by_cases hb : b.length = 0
  · have hbi : ((b.length : Nat) : Int) = 0 := by omega
    go_enter Try.func6, Try.ntmps6
    go_wp2_with fail
    refine (shown_any w).mono ?_
    rintro e w1 ⟨rfl, f1⟩
    have F1 := hid f1
    clear f1
    go_wp2
    go_ret
    exact ⟨rfl, F1.out⟩
  · have hbi : ¬ ((b.length : Nat) : Int) = 0 := by omega
    by_cases hy : y.toNat = 0
    · have hyi : ((y.toNat : Nat) : Int) = 0 := by omega
      go_enter Try.func6, Try.ntmps6
      go_wp2_with fail
      refine (shown_any w).mono ?_
      rintro e w1 ⟨rfl, f1⟩
      have F1 := hid f1
      clear f1
      go_wp2
      go_ret
      exact ⟨rfl, F1.out⟩
    · have hyi : ¬ ((y.toNat : Nat) : Int) = 0 := by omega
      have hyl := UInt8.toNat_lt y
      have hne : b ≠ [] := fun h => hb (by rw [h]; rfl)
      have hpos : 0 < b.length := by omega
      have hbq : ((b.length : Int) == 0) = false := beq_eq_false_iff_ne.2 hbi
      have hyq : ((y.toNat : Int) == 0) = false := beq_eq_false_iff_ne.2 hyi
      obtain ⟨at1, hat⟩ : ∃ a : Nat, (at0 = -(a : Int) - 1 ∨ (at0 = (a : Int) ∧ ¬ (a : Int) < 0)) ∧ a ≤ 9223372036854775807 := by
        rcases Int.lt_or_le at0 0 with h | h
        · exact ⟨(-(at0 + 1)).toNat, .inl (by omega), by omega⟩
        · exact ⟨at0.toNat, .inr ⟨by omega, by omega⟩, by omega⟩
      obtain ⟨hat, hat1⟩ := hat
      clear ha0 ha1
      obtain ⟨j, hj⟩ : ∃ j : Nat, j = at1 % b.length := ⟨_, rfl⟩
      have hjl : j < b.length := by rw [hj]; exact Nat.mod_lt _ hpos
      have HJ := hid hj
      have hji : (at1 : Int).tmod ((b.length : Nat) : Int) = (j : Int) := by rw [hj]; exact (Int.ofNat_tmod ..).symm
      clear hj
      rcases hat with rfl | ⟨rfl, hnn⟩
      · have hneg : -(at1 : Int) - 1 < 0 := by omega
        go_enter Try.func6, Try.ntmps6
        go_wp2_with fail
        refine (shown_any w).mono ?_
        rintro e w1 ⟨rfl, f1⟩
        have F1 := hid f1
        have HS1 := hid (HS.out.fr f1)
        have hO : Hid ((w1.alloc (.cells #[] 5)).ownsRow w1.heap.size 5 1 (.slice (some ⟨w1.heap.size, 0, none⟩) 0 0) 0 []) := by
          have := World.ownsRow_made (base := w1.heap.size) (e := 5) (size := 1) w1 #[] 0 (Nat.le_refl _) (by unfold maxLen; omega) (by simp)
          unfold Hid; simpa using this
        clear f1
        go_wp2_with (at_builtin; refine wpList_append_bytes (by rfl) _ _ (by rfl) w1.heap.size 0 (.slice (some ⟨w1.heap.size, 0, none⟩) 0 0) [] b ad cap (by rfl) (by rfl) (by exact hO.out) (by simp) (by omega) (fun hb => by obtain ⟨bb, bo, e1, e2⟩ := HS1.out hb; exact ⟨bb, bo, e1, World.rangeAt_alloc e2 _⟩) ?_
                     intro v2 w2 hown hgrow
                     have HO2 : Hid (w2.ownsRow w1.heap.size 5 1 v2 b.length (bs b)) := by have := hown; unfold Hid; simpa using this
                     have HF2 : Hid (Fr (fun _ => False) w1 w2) := ((Fr.refl _ w1).alloc _).grown hgrow (fun k hk => .inr (Nat.le_of_eq (Option.some.inj hk)))
                     clear hown hgrow
                     obtain ⟨g3, cap3, cur3, rfl, hg3, hle3, hm3, hc3, hs3, hr3⟩ := owned_src HO2.out hne
                     have HR3 := hid hr3
                     have HC3 := hid hc3
                     clear hr3 hc3)
        have hcl : w2.cell? ⟨g3, j, none⟩ = some (.int .u8 ((b[j]).toNat : Int)) := by
          have := HR3.out j _ (bs_at b j hjl)
          rwa [Nat.zero_add] at this
        have hfz : w2.frozen? ⟨g3, j, none⟩ = false := by
          have hh := HC3.out
          simp [World.frozen?, hh]
        have hj0 : (0 : Int) ≤ (j : Int) := Int.natCast_nonneg _
        have hj1 : (j : Int) < ((b.length : Nat) : Int) := by omega
        have hx : bits .xor .u8 ((b[j]).toNat : Int) (y.toNat : Int) = ((b[j] ^^^ y).toNat : Int) := by
          rw [u8_xor_nat _ _ (UInt8.toNat_lt _) (UInt8.toNat_lt _), UInt8.toNat_xor]
        have HN := hid (xor_ne b[j] y hy)
        generalize hc : b[j] ^^^ y = c at *
        have HRn : Hid (w2.setCell ⟨g3, j, none⟩ (.int .u8 (c.toNat : Int)) |>.drew.rangeAt g3 0 (bs (b.set j c))) := range_set HR3.out hjl hcl c
        have HFn : Hid (Fr (fun _ => False) w1 ((w2.setCell ⟨g3, j, none⟩ (.int .u8 (c.toNat : Int))).drew)) := (HF2.out.setCell (.inr hg3) _).drew
        have HSo : Hid (Src ((w2.setCell ⟨g3, j, none⟩ (.int .u8 (c.toNat : Int))).drew) (some ⟨g3, 0, none⟩) (b.set j c)) := fun _ => ⟨g3, 0, rfl, HRn.out⟩
        have HSb := hid (HS1.out.fr HFn.out)
        have HD := hid (upd_one beg beg_lt b j hjl c HN.out)
        have hll : (b.set j c).length = b.length := List.length_set
        have HU1 := hid (sum_any _ (some ⟨g3, 0, none⟩) (b.set j c) cap3 (by rw [hll]; omega) HSo.out)
        have HU2 := hid (sum_any _ ad b cap HL.out HSb.out)
        have l1 := upd_lt beg (b.set j c) beg_lt
        have l2 := upd_lt beg b beg_lt
        rw [hll] at HU1
        have HTn : Hid (low (upd beg (b.set j c)) 16 ≠ low (upd beg b) 16) := fun h => HD.out (low_inj l1 l2 h)
        go_region
        clear hc hll hcl hfz
        generalize upd beg (b.set j c) = S1 at *
        generalize hS2 : upd beg b = S2 at *
        have HS2 := hid hS2
        clear hS2
        generalize (w2.setCell ⟨g3, j, none⟩ (.int .u8 (c.toNat : Int))).drew = w3 at *
        have hdq : ((S1 : Int) == (S2 : Int)) = false := beq_eq_false_iff_ne.2 (fun e => HD.out (by omega))
        have hnq : ((S1 : Int) != (S2 : Int)) = true := by simp [bne, hdq]
        have htq : (low S1 16 == low S2 16) = false := beq_eq_false_iff_ne.2 HTn.out
        go_wp2_with fail
        refine HU1.out.mono ?_
        rintro e w4 ⟨rfl, rfl⟩
        go_wp2_with fail
        refine HU2.out.mono ?_
        rintro e w4 ⟨rfl, rfl⟩
        go_wp2_with fail
        refine HU1.out.mono ?_
        rintro e w4 ⟨rfl, rfl⟩
        go_wp2_with fail
        refine (text_any w4 S1 l1).mono ?_
        rintro e w5 ⟨rfl, f5⟩
        have F5 := hid f5
        have HU3 := hid (sum_any w5 ad b cap HL.out (HSb.out.fr f5))
        rw [HS2.out] at HU3
        clear f5
        go_wp2_with fail
        refine HU3.out.mono ?_
        rintro e w6 ⟨rfl, rfl⟩
        go_wp2_with fail
        refine (text_any w6 S2 l2).mono ?_
        rintro e w7 ⟨rfl, f7⟩
        have F7 := hid (F1.out.tr (HFn.out.tr (F5.out.tr f7)))
        clear f7
        go_wp2
        go_ret
        exact ⟨by simp, F7.out⟩
      · go_enter Try.func6, Try.ntmps6
        go_wp2_with fail
        refine (shown_any w).mono ?_
        rintro e w1 ⟨rfl, f1⟩
        have F1 := hid f1
        have HS1 := hid (HS.out.fr f1)
        have hO : Hid ((w1.alloc (.cells #[] 5)).ownsRow w1.heap.size 5 1 (.slice (some ⟨w1.heap.size, 0, none⟩) 0 0) 0 []) := by
          have := World.ownsRow_made (base := w1.heap.size) (e := 5) (size := 1) w1 #[] 0 (Nat.le_refl _) (by unfold maxLen; omega) (by simp)
          unfold Hid; simpa using this
        clear f1
        go_wp2_with (at_builtin; refine wpList_append_bytes (by rfl) _ _ (by rfl) w1.heap.size 0 (.slice (some ⟨w1.heap.size, 0, none⟩) 0 0) [] b ad cap (by rfl) (by rfl) (by exact hO.out) (by simp) (by omega) (fun hb => by obtain ⟨bb, bo, e1, e2⟩ := HS1.out hb; exact ⟨bb, bo, e1, World.rangeAt_alloc e2 _⟩) ?_
                     intro v2 w2 hown hgrow
                     have HO2 : Hid (w2.ownsRow w1.heap.size 5 1 v2 b.length (bs b)) := by have := hown; unfold Hid; simpa using this
                     have HF2 : Hid (Fr (fun _ => False) w1 w2) := ((Fr.refl _ w1).alloc _).grown hgrow (fun k hk => .inr (Nat.le_of_eq (Option.some.inj hk)))
                     clear hown hgrow
                     obtain ⟨g3, cap3, cur3, rfl, hg3, hle3, hm3, hc3, hs3, hr3⟩ := owned_src HO2.out hne
                     have HR3 := hid hr3
                     have HC3 := hid hc3
                     clear hr3 hc3)
        have hcl : w2.cell? ⟨g3, j, none⟩ = some (.int .u8 ((b[j]).toNat : Int)) := by
          have := HR3.out j _ (bs_at b j hjl)
          rwa [Nat.zero_add] at this
        have hfz : w2.frozen? ⟨g3, j, none⟩ = false := by
          have hh := HC3.out
          simp [World.frozen?, hh]
        have hj0 : (0 : Int) ≤ (j : Int) := Int.natCast_nonneg _
        have hj1 : (j : Int) < ((b.length : Nat) : Int) := by omega
        have hx : bits .xor .u8 ((b[j]).toNat : Int) (y.toNat : Int) = ((b[j] ^^^ y).toNat : Int) := by
          rw [u8_xor_nat _ _ (UInt8.toNat_lt _) (UInt8.toNat_lt _), UInt8.toNat_xor]
        have HN := hid (xor_ne b[j] y hy)
        generalize hc : b[j] ^^^ y = c at *
        have HRn : Hid (w2.setCell ⟨g3, j, none⟩ (.int .u8 (c.toNat : Int)) |>.drew.rangeAt g3 0 (bs (b.set j c))) := range_set HR3.out hjl hcl c
        have HFn : Hid (Fr (fun _ => False) w1 ((w2.setCell ⟨g3, j, none⟩ (.int .u8 (c.toNat : Int))).drew)) := (HF2.out.setCell (.inr hg3) _).drew
        have HSo : Hid (Src ((w2.setCell ⟨g3, j, none⟩ (.int .u8 (c.toNat : Int))).drew) (some ⟨g3, 0, none⟩) (b.set j c)) := fun _ => ⟨g3, 0, rfl, HRn.out⟩
        have HSb := hid (HS1.out.fr HFn.out)
        have HD := hid (upd_one beg beg_lt b j hjl c HN.out)
        have hll : (b.set j c).length = b.length := List.length_set
        have HU1 := hid (sum_any _ (some ⟨g3, 0, none⟩) (b.set j c) cap3 (by rw [hll]; omega) HSo.out)
        have HU2 := hid (sum_any _ ad b cap HL.out HSb.out)
        have l1 := upd_lt beg (b.set j c) beg_lt
        have l2 := upd_lt beg b beg_lt
        rw [hll] at HU1
        have HTn : Hid (low (upd beg (b.set j c)) 16 ≠ low (upd beg b) 16) := fun h => HD.out (low_inj l1 l2 h)
        go_region
        clear hc hll hcl hfz
        generalize upd beg (b.set j c) = S1 at *
        generalize hS2 : upd beg b = S2 at *
        have HS2 := hid hS2
        clear hS2
        generalize (w2.setCell ⟨g3, j, none⟩ (.int .u8 (c.toNat : Int))).drew = w3 at *
        have hdq : ((S1 : Int) == (S2 : Int)) = false := beq_eq_false_iff_ne.2 (fun e => HD.out (by omega))
        have hnq : ((S1 : Int) != (S2 : Int)) = true := by simp [bne, hdq]
        have htq : (low S1 16 == low S2 16) = false := beq_eq_false_iff_ne.2 HTn.out
        go_wp2_with fail
        refine HU1.out.mono ?_
        rintro e w4 ⟨rfl, rfl⟩
        go_wp2_with fail
        refine HU2.out.mono ?_
        rintro e w4 ⟨rfl, rfl⟩
        go_wp2_with fail
        refine HU1.out.mono ?_
        rintro e w4 ⟨rfl, rfl⟩
        go_wp2_with fail
        refine (text_any w4 S1 l1).mono ?_
        rintro e w5 ⟨rfl, f5⟩
        have F5 := hid f5
        have HU3 := hid (sum_any w5 ad b cap HL.out (HSb.out.fr f5))
        rw [HS2.out] at HU3
        clear f5
        go_wp2_with fail
        refine HU3.out.mono ?_
        rintro e w6 ⟨rfl, rfl⟩
        go_wp2_with fail
        refine (text_any w6 S2 l2).mono ?_
        rintro e w7 ⟨rfl, f7⟩
        have F7 := hid (F1.out.tr (HFn.out.tr (F5.out.tr f7)))
        clear f7
        go_wp2
        go_ret
        exact ⟨by simp, F7.out⟩

end Go.Proofs.Ytlgpojdkcbjkkaa.Sm
