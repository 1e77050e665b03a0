/- The document's examples hold. -/
import Derived.Test.YtangnoicnogddaaMlvM
namespace Go.Proofs.Ytangnoicnogddaa.Tr
open Go.RowKit

theorem obsField (x0 x1 x2 : Value) (W : World) : (Instr.field 33 (.agg #[x0, x1, x2]) 2).run Try.prog W = .ok x2 W := by kernel_rfl
def uA : Ac := ⟨6, [117], ⟨[], 0, []⟩, ⟨[117], [114, 117, 110], [], []⟩⟩
def vA : Ac := ⟨6, [118], ⟨[], 0, []⟩, ⟨[118], [114, 117, 110], [[119]], []⟩⟩
def sA : Ac := ⟨1, [117], ⟨[], 0, []⟩, ⟨[], [], [], []⟩⟩
def s0 : St := ⟨[], [], [], []⟩
def s1 : St := ⟨[], [], [⟨[117], [114, 117, 110], [], []⟩], []⟩
def s2 : St := ⟨[], [], [⟨[117], [114, 117, 110], [], []⟩], [true, false]⟩
def s3 : St := ⟨[], [], [⟨[117], [114, 117, 110], [], []⟩], [false]⟩
theorem ex1 : doF s0 uA = (s1, 0) := by kernel_rfl
theorem ex2 : doF s1 uA = (s1, 0) := by kernel_rfl
theorem ex3 : doF s1 vA = (s1, 70) := by kernel_rfl
theorem ex4 : doF s2 sA = (s3, 71) := by kernel_rfl
theorem ex5 : doF s3 sA = (s0, 0) := by kernel_rfl
theorem ex6 : doF s0 sA = (s0, 0) := by kernel_rfl
def uZv : Zv := ⟨6, [117], xZ, ⟨[117], [114, 117, 110], none, 0, 0, none, 0, 0⟩⟩
def vZv (b : Nat) : Zv := ⟨6, [118], xZ, ⟨[118], [114, 117, 110], some ⟨b, 0, none⟩, 1, 1, none, 0, 0⟩⟩
def sZv : Zv := ⟨1, [117], xZ, uZ⟩
theorem entv_zero (w : World) : EntV w ⟨[], 0, []⟩ none 0 := ⟨fun h => absurd rfl h, Nat.le_refl _, by simp, by simp, by simp, by simp⟩
theorem ak_u (K : Nat → Prop) (w : World) : AK K w uA uZv := ⟨rfl, rfl, ek_zero w, ⟨⟨rfl, rfl, rfl, rfl, fun h => absurd rfl h, fun h => absurd rfl h, ⟨by simp [uA, lim], by simp [uA, lim], by simp [uA, lim16], by simp [uA, lim16], by simp [uA], by simp [uA]⟩⟩, fun h => by simp [uA] at h, fun h => by simp [uA] at h⟩⟩
theorem ak_s (K : Nat → Prop) (w : World) : AK K w sA sZv := ⟨rfl, rfl, ek_zero w, ⟨⟨rfl, rfl, rfl, rfl, fun h => absurd rfl h, fun h => absurd rfl h, ⟨by simp [sA], by simp [sA], by simp [sA], by simp [sA], by simp [sA], by simp [sA]⟩⟩, fun h => by simp [sA] at h, fun h => by simp [sA] at h⟩⟩
theorem ak_v {K : Nat → Prop} {w : World} {b : Nat} (hb : K b) (hB : Blk w b 9 [.string ⟨#[119]⟩]) : AK K w vA (vZv b) := ⟨rfl, rfl, ek_zero w, ⟨⟨rfl, rfl, rfl, rfl, fun _ => ⟨b, 0, rfl, fun i hi => by
  obtain rfl : i = 0 := by simpa [vA] using hi
  exact hB.cell 0⟩, fun h => absurd rfl h, ⟨by simp [vA, lim], by simp [vA, lim], by simp [vA, lim16], by simp [vA, lim16], by simp [vA, lim], by simp [vA]⟩⟩, fun _ x hx => by cases hx; exact hb, fun h => by simp [vA] at h⟩⟩
set_option maxRecDepth 100000 in
set_option maxHeartbeats 8000000 in
theorem shown_any (w : World) : Calls Try.prog 6 #[] w fun e w' => e = .returned (.bool true) ∧ Fr (fun _ => False) w w' := by
  go_enter Try.func6, Try.ntmps6
  go_wp2_with fail
  refine (lv_new w).mono ?_
  rintro e w1 ⟨mb, rfl, f1, l1⟩
  have F1 := hid f1
  have L1 : Hid (Lv (fun k => k < w.heap.size) w1 mb s0) := hid l1
  clear f1 l1
  go_wp2_with fail
  -- the walk
  obtain ⟨W3, hW3⟩ : ∃ W3, W3 = zBox ((zBox w1 uZv).alloc (.cells #[.string ⟨#[119]⟩] 9)) (vZv (w1.heap.size + 1)) := ⟨_, rfl⟩
  have hs2 : (zBox w1 uZv).heap.size = w1.heap.size + 1 := by rw [World.size_alloc]
  have hs3 : ((zBox w1 uZv).alloc (.cells #[.string ⟨#[119]⟩] 9)).heap.size = w1.heap.size + 1 + 1 := by rw [World.size_alloc, hs2]
  have hsW : W3.heap.size = w1.heap.size + 1 + 1 + 1 := by rw [hW3, World.size_alloc, hs3]
  have f3 : Fr (fun _ => False) w1 W3 := by rw [hW3]; exact (((Fr.refl _ w1).alloc _).alloc _).alloc _
  have bu : Blk W3 w1.heap.size 43 uZv.cs := by rw [hW3]; exact ((Blk.new w1 _ uZv.cs).alloc _).alloc _
  have bw : Blk W3 (w1.heap.size + 1) 9 [.string ⟨#[119]⟩] := by
    have h := (Blk.new (zBox w1 uZv) 9 [.string ⟨#[119]⟩]).alloc (.cells (vZv (w1.heap.size + 1)).cs.toArray 43)
    rw [hs2] at h
    rw [hW3]; exact h
  have bv : Blk W3 (w1.heap.size + 1 + 1) 43 (vZv (w1.heap.size + 1)).cs := by
    have h := Blk.new ((zBox w1 uZv).alloc (.cells #[.string ⟨#[119]⟩] 9)) 43 (vZv (w1.heap.size + 1)).cs
    rw [hs3] at h
    rw [hW3]; exact h
  have l3 := L1.out.more f3
  obtain ⟨K3, hK3⟩ : ∃ K3 : Nat → Prop, K3 = fun k => k < w.heap.size ∨ Bt w1.heap.size W3.heap.size k := ⟨_, rfl⟩
  rw [← hK3] at l3
  have hKu : K3 w1.heap.size := by rw [hK3]; exact .inr ⟨by omega, by omega⟩
  have hKw : K3 (w1.heap.size + 1) := by rw [hK3]; exact .inr ⟨by omega, by omega⟩
  have hKv : K3 (w1.heap.size + 1 + 1) := by rw [hK3]; exact .inr ⟨by omega, by omega⟩
  have HK0 : Hid (∀ k, k < w.heap.size → K3 k) := fun k hk => by rw [hK3]; exact .inl hk
  have F3 := hid (F1.out.trans f3 (fun _ h => h.elim))
  have HKu := hid hKu
  have HKw := hid hKw
  have HKv := hid hKv
  have BU3 := hid bu
  have BW3 := hid bw
  have BV3 := hid bv
  have L3 := hid l3
  have hz3 : Hid (w.heap.size ≤ w1.heap.size) := F1.out.size
  have HW3 := hid hW3
  clear hs2 hs3 hsW f3 bu bw bv l3 hK3 hKu hKw hKv hW3
  have HC3 := hid (lv_do L3.out uA uZv (ak_u K3 W3))
  rw [HW3.out] at HC3
  refine HC3.out.mono ?_
  rintro e w4 ⟨he, l4, k4⟩
  rw [← HW3.out] at k4
  rw [show (doF s0 uA) = _ from ex1] at he l4
  subst he
  have L4 := hid l4
  have G4 := hid k4
  have BU4 := hid (k4.blk BU3.out (fun hn => hn HKu.out))
  have BW4 := hid (k4.blk BW3.out (fun hn => hn HKw.out))
  have BV4 := hid (k4.blk BV3.out (fun hn => hn HKv.out))
  clear l4 k4
  clear HC3 HW3
  have a0 := BU4.out.cell 0
  have a1 := BU4.out.cell 1
  have a2 := BU4.out.cell 2
  have a3 := BU4.out.cell 3
  have a4 := BU4.out.cell 4
  have a5 := BU4.out.cell 5
  have a6 := BU4.out.cell 6
  have a7 := BU4.out.cell 7
  have a8 := BU4.out.cell 8
  simp only [Zv.cs, uZv, xZ, List.getElem?_cons_zero, List.getElem?_cons_succ] at a0 a1 a2 a3 a4 a5 a6 a7 a8
  go_wp2_with fail
  clear a0 a1 a2 a3 a4 a5 a6 a7 a8
  refine (lv_do L4.out uA uZv (ak_u K3 w4)).mono ?_
  rintro e w5 ⟨he, l5, k5⟩
  rw [show (doF s1 uA) = _ from ex2] at he l5
  subst he
  have L5 := hid l5
  have G5 := hid k5
  have BU5 := hid (k5.blk BU4.out (fun hn => hn HKu.out))
  have BW5 := hid (k5.blk BW4.out (fun hn => hn HKw.out))
  have BV5 := hid (k5.blk BV4.out (fun hn => hn HKv.out))
  clear l5 k5
  have a0 := BV5.out.cell 0
  have a1 := BV5.out.cell 1
  have a2 := BV5.out.cell 2
  have a3 := BV5.out.cell 3
  have a4 := BV5.out.cell 4
  have a5 := BV5.out.cell 5
  have a6 := BV5.out.cell 6
  have a7 := BV5.out.cell 7
  have a8 := BV5.out.cell 8
  simp only [Zv.cs, vZv, xZ, List.getElem?_cons_zero, List.getElem?_cons_succ] at a0 a1 a2 a3 a4 a5 a6 a7 a8
  go_wp2_with fail
  clear a0 a1 a2 a3 a4 a5 a6 a7 a8
  refine (lv_do L5.out vA (vZv (w1.heap.size + 1)) (ak_v HKw.out BW5.out)).mono ?_
  rintro e w6 ⟨he, l6, k6⟩
  rw [show (doF s1 vA) = _ from ex3] at he l6
  subst he
  have L6 := hid l6
  have G6 := hid k6
  clear l6 k6
  go_wp2_with fail
  have f7 : Fr (fun _ => False) w6 (w6.alloc (.cells #[.bool true, .bool false] 4)) := (Fr.refl _ w6).alloc _
  have B7 := Blk.new w6 4 [.bool true, .bool false]
  have L7 := hid (L6.out.keep f7)
  have HB7 : Hid (Bools (w6.alloc (.cells #[.bool true, .bool false] 4)) (some ⟨w6.heap.size, 0, none⟩) [true, false]) := fun _ => ⟨w6.heap.size, 0, rfl, fun i hi => by
    rw [Nat.zero_add]
    match i, hi with
    | 0, _ => exact B7.cell 0
    | 1, _ => exact B7.cell 1⟩
  have F7 := hid f7
  clear f7 B7
  refine (lv_plan L7.out [true, false] (some ⟨w6.heap.size, 0, none⟩) 2 HB7.out (by simp)).mono ?_
  rintro e w8 ⟨rfl, l8, k8⟩
  have L8 := hid l8
  have G8 := hid k8
  clear l8 k8
  go_wp2_with fail
  have L9 := hid (L8.out.more ((Fr.refl (fun _ => False) w8).alloc (.cells sZv.cs.toArray 43)))
  have BS9 := hid (Blk.new w8 43 sZv.cs)
  have F9 : Hid (Fr (fun _ => False) w8 (zBox w8 sZv)) := (Fr.refl _ w8).alloc _
  obtain ⟨K9, hK9⟩ : ∃ K9 : Nat → Prop, K9 = fun k => K3 k ∨ Bt w8.heap.size (zBox w8 sZv).heap.size k := ⟨_, rfl⟩
  rw [← hK9] at L9
  have HKs : Hid (K9 w8.heap.size) := by unfold Hid; rw [hK9]; exact .inr ⟨Nat.le_refl _, by rw [World.size_alloc]; omega⟩
  have HK39 : Hid (∀ k, K3 k → K9 k) := fun k hk => by rw [hK9]; exact .inl hk
  clear hK9
  refine (lv_do (s := s2) L9.out sA sZv (ak_s K9 (zBox w8 sZv))).mono ?_
  rintro e w10 ⟨he, l10, k10⟩
  rw [show (doF s2 sA) = _ from ex4] at he l10
  subst he
  have L10 := hid l10
  have G10 := hid k10
  have BS10 := hid (k10.blk BS9.out (fun hn => hn HKs.out))
  clear l10 k10
  have a0 := BS10.out.cell 0
  have a1 := BS10.out.cell 1
  have a2 := BS10.out.cell 2
  have a3 := BS10.out.cell 3
  have a4 := BS10.out.cell 4
  have a5 := BS10.out.cell 5
  have a6 := BS10.out.cell 6
  have a7 := BS10.out.cell 7
  have a8 := BS10.out.cell 8
  simp only [Zv.cs, sZv, uZ, xZ, List.getElem?_cons_zero, List.getElem?_cons_succ] at a0 a1 a2 a3 a4 a5 a6 a7 a8
  go_wp2_with fail
  clear a0 a1 a2 a3 a4 a5 a6 a7 a8
  refine (lv_do L10.out sA sZv (ak_s K9 w10)).mono ?_
  rintro e w11 ⟨he, l11, k11⟩
  rw [show (doF s3 sA) = _ from ex5] at he l11
  subst he
  have L11 := hid l11
  have G11 := hid k11
  have BS11 := hid (k11.blk BS10.out (fun hn => hn HKs.out))
  clear l11 k11
  have a0 := BS11.out.cell 0
  have a1 := BS11.out.cell 1
  have a2 := BS11.out.cell 2
  have a3 := BS11.out.cell 3
  have a4 := BS11.out.cell 4
  have a5 := BS11.out.cell 5
  have a6 := BS11.out.cell 6
  have a7 := BS11.out.cell 7
  have a8 := BS11.out.cell 8
  simp only [Zv.cs, sZv, uZ, xZ, List.getElem?_cons_zero, List.getElem?_cons_succ] at a0 a1 a2 a3 a4 a5 a6 a7 a8
  go_wp2_with fail
  clear a0 a1 a2 a3 a4 a5 a6 a7 a8
  refine (lv_do L11.out sA sZv (ak_s K9 w11)).mono ?_
  rintro e w12 ⟨he, l12, k12⟩
  rw [show (doF s0 sA) = _ from ex6] at he l12
  subst he
  have L12 := hid l12
  have G12 := hid k12
  clear l12 k12
  go_wp2_with fail
  refine (lv_obs L12.out).mono ?_
  rintro e w13 ⟨f13, ⟨a1, a2, a3, a4, a5, a6, a7, a8, a9⟩, rfl, hv⟩
  have hl := (hv w13 (fun k _ => rfl)).rl
  simp only [s0, List.length_nil] at hl
  subst hl
  have F13 := hid f13
  clear f13 hv
  simp only [Ov.v, Ov.cs]
  have hfld := obsField (.slice a1 a2 a3) (.slice a4 a5 a6) (.slice a7 0 a9)
  go_wp2_with fail
  go_ret
  refine ⟨rfl, ?_⟩
  have e1 := (G4.out.trans G5.out (fun _ h => .inl h)).trans G6.out (fun _ h => .inl h)
  have e2 := ((e1.trans F7.out.upO (fun _ h => .inl h)).trans G8.out (fun _ h => .inl h)).trans F9.out.upO (fun _ h => .inl h)
  have e3 : Fr (fun k => ¬ K3 k) w12 w13 := F13.out.upO
  have e4 := (G10.out.trans G11.out (fun _ h => .inl h)).trans G12.out (fun _ h => .inl h)
  have e5 := (e2.trans (e4.mono (fun k hk h3 => hk (HK39.out k h3))) (fun _ h => .inl h)).trans e3 (fun _ h => .inl h)
  have e6 : Fr (fun k => ¬ K3 k) w W3 := F3.out.upO
  have e7 := e6.trans e5 (fun _ h => .inl h)
  exact ⟨e7.os, e7.tape, e7.output, e7.size, fun k hk _ => e7.block k hk (fun hn => hn (HK0.out k hk))⟩
end Go.Proofs.Ytangnoicnogddaa.Tr
