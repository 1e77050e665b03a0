/- The contract of Reckon over two sets; sets as trees. -/
import Derived.Test.YtlepjghfcpgbcaaGreatDoorPow
namespace Go.Proofs.YtlepjghfcpgbcaaGreatDoor.Tr
open Go.RowKit

set_option maxRecDepth 100000 in
set_option maxHeartbeats 1000000 in
theorem isSign_over (w : World) : Calls Tryz.prog 63 #[.string ⟨#[47, 47]⟩] w fun e w' => e = .returned (.bool true) ∧ w = w' := by
  go_enter Tryz.func63, Tryz.ntmps63
  go_wp2
  go_ret
  exact ⟨rfl, rfl⟩

set_option maxRecDepth 100000 in
set_option maxHeartbeats 4000000 in
theorem reckon_over (w : World) (x y : Vv) (A B : List Et) (hx : RightOf w x true) (hy : RightOf w y true) (h5 : x.k = 6) (h5' : y.k = 6) (hX : SetIn w x A) (hY : SetIn w y B) : Calls Tryz.prog 31 #[.string ⟨#[47, 47]⟩, x.v, y.v] w (OverPost w (mg A B)) := by
  have HB := hid (three_blk w x y vZ)
  have HF := hid (three_fr w x y vZ)
  have HS := hid (fun W => isSign_over W)
  have HRa := hid hx
  have HRb := hid hy
  have HA := hid (fun W => areBoth_any W 6 x y)
  have HJ : Hid (∀ W, Env w W → Calls Tryz.prog 65 #[x.v, y.v] W (OverPost W (mg A B))) := fun W e => putOver_any W x y A B (hX.env e) (hY.env e)
  clear hx hy hX hY
  unfold RightOf at HRa HRb
  obtain ⟨k, n, f, t, na, nl, nc, ia, il, ic⟩ := x
  obtain ⟨k', n', f', t', na', nl', nc', ia', il', ic'⟩ := y
  simp only at h5 h5'
  subst h5 h5'
  generalize mg A B = RR at *
  simp only [Vv.v] at *
  go_enter Tryz.func31, Tryz.ntmps31
  go_wp2_with fail
  refine (HS.out _).mono ?_
  rintro e w1 ⟨rfl, rfl⟩
  go_wp2_with fail
  refine (HRa.out _ (Env.of HF.out)).mono ?_
  rintro e w1 ⟨rfl, f1⟩
  have HB1 := hid (And.intro (f1.blk HB.out.1 (fun h => h)) (And.intro (f1.blk HB.out.2.1 (fun h => h)) (f1.blk HB.out.2.2 (fun h => h))))
  have HF1 := hid (HF.out.trans f1 (fun _ h => h.elim))
  clear f1 HB HF HRa HS
  obtain ⟨d0, d1, d2, d3, d4, d5⟩ := HB1.out.2.1.six
  go_wp2_with fail
  refine (HRb.out _ (Env.of HF1.out)).mono ?_
  rintro e w2 ⟨rfl, f2⟩
  have HB2 := hid (And.intro (f2.blk HB1.out.1 (fun h => h)) (And.intro (f2.blk HB1.out.2.1 (fun h => h)) (f2.blk HB1.out.2.2 (fun h => h))))
  have HF2 := hid (HF1.out.trans f2 (fun _ h => h.elim))
  clear f2 HB1 HF1 HRb d0 d1 d2 d3 d4 d5
  obtain ⟨c0, c1, c2, c3, c4, c5⟩ := HB2.out.1.six
  obtain ⟨d0, d1, d2, d3, d4, d5⟩ := HB2.out.2.1.six
  go_wp2_with fail
  refine (HA.out _).mono ?_
  rintro e w3 ⟨rfl, f3⟩
  have HB3 := hid (And.intro (f3.blk HB2.out.1 (fun h => h)) (And.intro (f3.blk HB2.out.2.1 (fun h => h)) (f3.blk HB2.out.2.2 (fun h => h))))
  have HF3 := hid (HF2.out.trans f3 (fun _ h => h.elim))
  clear f3 HB2 HF2 HA c0 c1 c2 c3 c4 c5 d0 d1 d2 d3 d4 d5
  obtain ⟨c0, c1, c2, c3, c4, c5⟩ := HB3.out.1.six
  obtain ⟨d0, d1, d2, d3, d4, d5⟩ := HB3.out.2.1.six
  go_wp2_with fail
  refine (HJ.out _ (Env.of HF3.out)).mono ?_
  rintro e w4 ⟨f4, ⟨hgt, rfl⟩ | ⟨hle, na0, nc0, ja, jc, rfl, ho, hv⟩⟩
  · have HB4 := hid (f4.blk HB3.out.2.2 (fun h => h))
    have HF4 := hid (HF3.out.trans f4 (fun _ h => h.elim))
    clear f4 HB3 HF3 HJ c0 c1 c2 c3 c4 c5 d0 d1 d2 d3 d4 d5
    go_wp2_with (refine wpList_storeV vZ (by rfl) _ _ (by rfl) HB4.out (by rfl) (by rfl) ?_; intro w5 b5 f5)
    have HF5 := hid (HF4.out.trans f5 (fun i hi => .inr (by omega)))
    have HB5 := hid b5
    clear f5 b5 HB4 HF4
    go_wp2_with fail
    exact bodyPost_ret (resVE rfl rfl HB5.out) rfl ⟨HF5.out, .inl ⟨hgt, rfl⟩⟩
  · have HB4 := hid (f4.blk HB3.out.2.2 (fun h => h))
    have HF4 := hid (HF3.out.trans f4 (fun _ h => h.elim))
    have HO := hid (own_down (B' := w.heap.size + 1 + 1 + 1) ho (by have := HB3.out.2.2.lt; omega))
    have HV := hid (own_down (B' := w.heap.size + 1 + 1 + 1) hv (by have := HB3.out.2.2.lt; omega))
    clear f4 HB3 HF3 HJ c0 c1 c2 c3 c4 c5 d0 d1 d2 d3 d4 d5 ho hv
    go_wp2_with (refine wpList_storeV ⟨6, 0, 0, [], na0, RR.length, nc0, ja, RR.length, jc⟩ (by rfl) _ _ (by rfl) HB4.out (by rfl) (by rfl) ?_; intro w5 b5 f5)
    have HF5 := hid (HF4.out.trans f5 (fun i hi => .inr (by omega)))
    have HB5 := hid b5
    have HO5 := hid (own_down (B' := w.heap.size) (own_keep HO.out (by omega) f5) (by omega))
    have HV5 := hid (own_down (B' := w.heap.size) (own_keep HV.out (by omega) f5) (by omega))
    clear f5 b5 HB4 HF4 HO HV
    go_wp2_with fail
    exact bodyPost_ret (resVE rfl rfl HB5.out) rfl ⟨HF5.out, .inr ⟨hle, na0, nc0, ja, jc, rfl, HO5.out, HV5.out⟩⟩
end Go.Proofs.YtlepjghfcpgbcaaGreatDoor.Tr
