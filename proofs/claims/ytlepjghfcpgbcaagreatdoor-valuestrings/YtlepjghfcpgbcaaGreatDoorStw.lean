/- The walk of ValueStrings. -/
import Derived.Test.YtlepjghfcpgbcaaGreatDoorStp
namespace Go.Proofs.YtlepjghfcpgbcaaGreatDoor.Tr
open Go.RowKit

theorem three_cells {W : World} {n : Nat} {x y z : Vv} (h : Blk W n 26 x.cs ∧ Blk W (n + 1) 26 y.cs ∧ Blk W (n + 1 + 1) 26 z.cs) : six W n x ∧ six W (n + 1) y ∧ six W (n + 1 + 1) z := ⟨h.1.six, h.2.1.six, h.2.2.six⟩

theorem laid_dn {w w1 w2 : World} (f1 : Fr (fun _ => False) w w1) (f2 : Fr (· = w1.heap.size) (vBox w1 vZ) w2) : Fr (fun _ => False) w w2 :=
  ((f1.trans (vFr w1 vZ) (fun _ h => h.elim)).trans f2 (fun i hi => .inr (by rw [hi]; exact f1.size)))

set_option maxRecDepth 100000 in
set_option maxHeartbeats 2000000 in
theorem strings_walk (w : World) (a b c : List UInt8) (ha0 : a.length ≤ 140737488351232) (hb0 : b.length ≤ 140737488351232) (hc0 : c.length ≤ 140737488351232) (hT : Tw w) : Calls Tryz.prog 11 #[.string ⟨a.toArray⟩, .string ⟨b.toArray⟩, .string ⟨c.toArray⟩] w fun e w' => e = .returned (.bool true) ∧ Fr (fun _ => False) w w' := by
  have HS := hid (shown_any w hT)
  have hst := fun (W : World) (a : Addr) (m : Mode) (f : Nat) => run_store Tryz.prog W a (.float .f64 f) m rfl
  clear hT
  by_cases ha : 1024 < a.length
  · have ha' : ((a.length : Nat) : Int) > 1024 := by omega
    go_enter Tryz.func11, Tryz.ntmps11
    go_wp2_with fail
    refine HS.out.mono ?_
    rintro e w0 ⟨rfl, f0⟩
    have F0 := hid f0
    clear f0 HS
    go_wp2_with fail
    go_ret
    exact ⟨rfl, F0.out⟩
  have ha' : ¬ ((a.length : Nat) : Int) > 1024 := by omega
  by_cases hb : 1024 < b.length
  · have hb' : ((b.length : Nat) : Int) > 1024 := by omega
    go_enter Tryz.func11, Tryz.ntmps11
    go_wp2_with fail
    refine HS.out.mono ?_
    rintro e w0 ⟨rfl, f0⟩
    have F0 := hid f0
    clear f0 HS
    go_wp2_with fail
    go_ret
    exact ⟨rfl, F0.out⟩
  have hb' : ¬ ((b.length : Nat) : Int) > 1024 := by omega
  by_cases hc : 1024 < c.length
  · have hc' : ((c.length : Nat) : Int) > 1024 := by omega
    go_enter Tryz.func11, Tryz.ntmps11
    go_wp2_with fail
    refine HS.out.mono ?_
    rintro e w0 ⟨rfl, f0⟩
    have F0 := hid f0
    clear f0 HS
    go_wp2_with fail
    go_ret
    exact ⟨rfl, F0.out⟩
  have hc' : ¬ ((c.length : Nat) : Int) > 1024 := by omega
  have Hxx := hid (fun W => less_str W a a (by omega) (by omega))
  have Hxy := hid (fun W => less_str W a b (by omega) (by omega))
  have Hyz := hid (fun W => less_str W b c (by omega) (by omega))
  have Hxz := hid (fun W => less_str W a c (by omega) (by omega))
  have Hyx := hid (fun W => less_str W b a (by omega) (by omega))
  have HE := hid (fun W => Equal_str W a b (by omega) (by omega))
  have HR := hid (fun W => reckon_str W a b (by omega) (by omega))
  rw [bl_irrefl] at Hxx
  have H3 := hid (bl_three a b)
  have HT := hid (bl_trans a b c)
  generalize hxy : Op.bytesLess a b = bxy at *
  generalize hyz : Op.bytesLess b c = byz at *
  generalize hxz : Op.bytesLess a c = bxz at *
  generalize hyx : Op.bytesLess b a = byx at *
  clear hxy hyz hxz hyx
  go_enter Tryz.func11, Tryz.ntmps11
  go_wp2_with fail
  refine HS.out.mono ?_
  rintro e w0 ⟨rfl, f0⟩
  have F0 := hid f0
  have HB := hid (three_blk w0 (vS a) (vS b) (vS c))
  have HF := hid (f0.trans (three_fr w0 (vS a) (vS b) (vS c)) (fun _ h => h.elim))
  clear f0 HS F0
  go_wp2_with fail
  refine (Hxx.out _).mono ?_
  rintro e w1 ⟨rfl, f⟩
  have B1 := hid (And.intro (f.blk HB.out.1 (fun h => h)) (And.intro (f.blk HB.out.2.1 (fun h => h)) (f.blk HB.out.2.2 (fun h => h))))
  have F1 := hid (HF.out.trans f (fun _ h => h.elim))
  clear f HB HF
  obtain ⟨⟨c0, c1, c2, c3, c4, c5⟩, ⟨d0, d1, d2, d3, d4, d5⟩, ⟨g0, g1, g2, g3, g4, g5⟩⟩ := three_cells B1.out
  go_wp2_with fail
  refine (Hxy.out _).mono ?_
  rintro e w2 ⟨rfl, f⟩
  have B2 := hid (And.intro (f.blk B1.out.1 (fun h => h)) (And.intro (f.blk B1.out.2.1 (fun h => h)) (f.blk B1.out.2.2 (fun h => h))))
  have F2 := hid (F1.out.trans f (fun _ h => h.elim))
  clear f B1 F1
  clear c0 c1 c2 c3 c4 c5 d0 d1 d2 d3 d4 d5 g0 g1 g2 g3 g4 g5
  obtain ⟨⟨c0, c1, c2, c3, c4, c5⟩, ⟨d0, d1, d2, d3, d4, d5⟩, ⟨g0, g1, g2, g3, g4, g5⟩⟩ := three_cells B2.out
  go_wp2_with fail
  refine (Hyz.out _).mono ?_
  rintro e w3 ⟨rfl, f⟩
  have B3 := hid (And.intro (f.blk B2.out.1 (fun h => h)) (And.intro (f.blk B2.out.2.1 (fun h => h)) (f.blk B2.out.2.2 (fun h => h))))
  have F3 := hid (F2.out.trans f (fun _ h => h.elim))
  clear f B2 F2
  clear c0 c1 c2 c3 c4 c5 d0 d1 d2 d3 d4 d5 g0 g1 g2 g3 g4 g5
  obtain ⟨⟨c0, c1, c2, c3, c4, c5⟩, ⟨d0, d1, d2, d3, d4, d5⟩, ⟨g0, g1, g2, g3, g4, g5⟩⟩ := three_cells B3.out
  go_wp2_with fail
  refine (Hxz.out _).mono ?_
  rintro e w4 ⟨rfl, f⟩
  have B4 := hid (And.intro (f.blk B3.out.1 (fun h => h)) (And.intro (f.blk B3.out.2.1 (fun h => h)) (f.blk B3.out.2.2 (fun h => h))))
  have F4 := hid (F3.out.trans f (fun _ h => h.elim))
  clear f B3 F3
  clear c0 c1 c2 c3 c4 c5 d0 d1 d2 d3 d4 d5 g0 g1 g2 g3 g4 g5
  obtain ⟨⟨c0, c1, c2, c3, c4, c5⟩, ⟨d0, d1, d2, d3, d4, d5⟩, ⟨g0, g1, g2, g3, g4, g5⟩⟩ := three_cells B4.out
  go_wp2_with fail
  refine (HE.out _).mono ?_
  rintro e w5 ⟨rfl, f⟩
  have B5 := hid (And.intro (f.blk B4.out.1 (fun h => h)) (And.intro (f.blk B4.out.2.1 (fun h => h)) (f.blk B4.out.2.2 (fun h => h))))
  have F5 := hid (F4.out.trans f (fun _ h => h.elim))
  clear f B4 F4
  clear c0 c1 c2 c3 c4 c5 d0 d1 d2 d3 d4 d5 g0 g1 g2 g3 g4 g5
  obtain ⟨⟨c0, c1, c2, c3, c4, c5⟩, ⟨d0, d1, d2, d3, d4, d5⟩, ⟨g0, g1, g2, g3, g4, g5⟩⟩ := three_cells B5.out
  go_wp2_with fail
  refine (Hyx.out _).mono ?_
  rintro e w6 ⟨rfl, f⟩
  have B6 := hid (And.intro (f.blk B5.out.1 (fun h => h)) (And.intro (f.blk B5.out.2.1 (fun h => h)) (f.blk B5.out.2.2 (fun h => h))))
  have F6 := hid (F5.out.trans f (fun _ h => h.elim))
  clear f B5 F5
  clear c0 c1 c2 c3 c4 c5 d0 d1 d2 d3 d4 d5 g0 g1 g2 g3 g4 g5
  obtain ⟨⟨c0, c1, c2, c3, c4, c5⟩, ⟨d0, d1, d2, d3, d4, d5⟩, ⟨g0, g1, g2, g3, g4, g5⟩⟩ := three_cells B6.out
  rcases H3.out with ⟨rfl, rfl, hne⟩ | ⟨rfl, rfl, hne⟩ | ⟨rfl, rfl, hne⟩
  · have hq : (a == b) = false := by simpa using hne
    clear hne
    cases byz with
    | false =>
      go_wp2_with fail
      refine (HR.out _).mono ?_
      rintro e w7 ⟨rfl, f7⟩
      have F7 := hid (F6.out.trans f7 (fun _ h => h.elim))
      have HBz := hid (vBlk w7 vZ)
      clear f7
      by_cases hl : 1024 < a.length + b.length
      · have e : joinT a b = (vZ, 20) := if_pos hl
        rw [e]
        have hl' : ((a.length : Nat) : Int) + ((b.length : Nat) : Int) > 1024 := by omega
        clear e
        go_wp2_with (refine wpList_storeV vZ (by rfl) _ _ (by rfl) HBz.out (by rfl) (by rfl) ?_; intro w8 b8 f8)
        have F8 := hid (laid_dn F7.out f8)
        clear b8 f8
        go_wp2_with fail
        go_ret
        exact ⟨rfl, F8.out⟩
      · have e : joinT a b = (vS (a ++ b), 0) := if_neg hl
        rw [e]
        have hl' : ¬ ((a.length : Nat) : Int) + ((b.length : Nat) : Int) > 1024 := by omega
        have hcat := str_cat a b
        clear e
        go_wp2_with (refine wpList_storeV (vS (a ++ b)) (by rfl) _ _ (by rfl) HBz.out (by rfl) (by rfl) ?_; intro w8 b8 f8; obtain ⟨k0, k1, k2, k3, k4, k5⟩ := b8.six)
        have F8 := hid (laid_dn F7.out f8)
        clear b8 f8
        go_wp2_with fail
        go_ret
        exact ⟨by first | rfl | simp, F8.out⟩
    | true =>
      obtain rfl := HT.out rfl rfl
      go_wp2_with fail
      refine (HR.out _).mono ?_
      rintro e w7 ⟨rfl, f7⟩
      have F7 := hid (F6.out.trans f7 (fun _ h => h.elim))
      have HBz := hid (vBlk w7 vZ)
      clear f7
      by_cases hl : 1024 < a.length + b.length
      · have e : joinT a b = (vZ, 20) := if_pos hl
        rw [e]
        have hl' : ((a.length : Nat) : Int) + ((b.length : Nat) : Int) > 1024 := by omega
        clear e
        go_wp2_with (refine wpList_storeV vZ (by rfl) _ _ (by rfl) HBz.out (by rfl) (by rfl) ?_; intro w8 b8 f8)
        have F8 := hid (laid_dn F7.out f8)
        clear b8 f8
        go_wp2_with fail
        go_ret
        exact ⟨rfl, F8.out⟩
      · have e : joinT a b = (vS (a ++ b), 0) := if_neg hl
        rw [e]
        have hl' : ¬ ((a.length : Nat) : Int) + ((b.length : Nat) : Int) > 1024 := by omega
        have hcat := str_cat a b
        clear e
        go_wp2_with (refine wpList_storeV (vS (a ++ b)) (by rfl) _ _ (by rfl) HBz.out (by rfl) (by rfl) ?_; intro w8 b8 f8; obtain ⟨k0, k1, k2, k3, k4, k5⟩ := b8.six)
        have F8 := hid (laid_dn F7.out f8)
        clear b8 f8
        go_wp2_with fail
        go_ret
        exact ⟨by first | rfl | simp, F8.out⟩
  · have hq : (a == b) = false := by simpa using hne
    clear hne
    go_wp2_with fail
    refine (HR.out _).mono ?_
    rintro e w7 ⟨rfl, f7⟩
    have F7 := hid (F6.out.trans f7 (fun _ h => h.elim))
    have HBz := hid (vBlk w7 vZ)
    clear f7
    by_cases hl : 1024 < a.length + b.length
    · have e : joinT a b = (vZ, 20) := if_pos hl
      rw [e]
      have hl' : ((a.length : Nat) : Int) + ((b.length : Nat) : Int) > 1024 := by omega
      clear e
      go_wp2_with (refine wpList_storeV vZ (by rfl) _ _ (by rfl) HBz.out (by rfl) (by rfl) ?_; intro w8 b8 f8)
      have F8 := hid (laid_dn F7.out f8)
      clear b8 f8
      go_wp2_with fail
      go_ret
      exact ⟨rfl, F8.out⟩
    · have e : joinT a b = (vS (a ++ b), 0) := if_neg hl
      rw [e]
      have hl' : ¬ ((a.length : Nat) : Int) + ((b.length : Nat) : Int) > 1024 := by omega
      have hcat := str_cat a b
      clear e
      go_wp2_with (refine wpList_storeV (vS (a ++ b)) (by rfl) _ _ (by rfl) HBz.out (by rfl) (by rfl) ?_; intro w8 b8 f8; obtain ⟨k0, k1, k2, k3, k4, k5⟩ := b8.six)
      have F8 := hid (laid_dn F7.out f8)
      clear b8 f8
      go_wp2_with fail
      go_ret
      exact ⟨by first | rfl | simp, F8.out⟩
  · have hq : (a == b) = true := by simpa using hne
    clear hne
    go_wp2_with fail
    refine (HR.out _).mono ?_
    rintro e w7 ⟨rfl, f7⟩
    have F7 := hid (F6.out.trans f7 (fun _ h => h.elim))
    have HBz := hid (vBlk w7 vZ)
    clear f7
    by_cases hl : 1024 < a.length + b.length
    · have e : joinT a b = (vZ, 20) := if_pos hl
      rw [e]
      have hl' : ((a.length : Nat) : Int) + ((b.length : Nat) : Int) > 1024 := by omega
      clear e
      go_wp2_with (refine wpList_storeV vZ (by rfl) _ _ (by rfl) HBz.out (by rfl) (by rfl) ?_; intro w8 b8 f8)
      have F8 := hid (laid_dn F7.out f8)
      clear b8 f8
      go_wp2_with fail
      go_ret
      exact ⟨rfl, F8.out⟩
    · have e : joinT a b = (vS (a ++ b), 0) := if_neg hl
      rw [e]
      have hl' : ¬ ((a.length : Nat) : Int) + ((b.length : Nat) : Int) > 1024 := by omega
      have hcat := str_cat a b
      clear e
      go_wp2_with (refine wpList_storeV (vS (a ++ b)) (by rfl) _ _ (by rfl) HBz.out (by rfl) (by rfl) ?_; intro w8 b8 f8; obtain ⟨k0, k1, k2, k3, k4, k5⟩ := b8.six)
      have F8 := hid (laid_dn F7.out f8)
      clear b8 f8
      go_wp2_with fail
      go_ret
      exact ⟨by first | rfl | simp, F8.out⟩
end Go.Proofs.YtlepjghfcpgbcaaGreatDoor.Tr
