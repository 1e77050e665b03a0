/- AllocLays. -/
import Derived.Test.YtehoiahgkbnjdaaRly
namespace Go.Proofs.Ytehoiahgkbnjdaa.Al
open Go.RowKit Go.Shelf Dk Wl

theorem ly_cells {W : World} {b : Nat} {t : TypeId} {y : Ly} (h : Blk W b t y.cells) : (W.cell? ⟨b, 0, none⟩ = some (.int .i64 (y.s : Int)) ∧ W.cell? ⟨b, 1, none⟩ = some (.int .i64 (y.lg : Int)) ∧ W.cell? ⟨b, 2, none⟩ = some (.int .i64 (y.ll : Int)) ∧ W.cell? ⟨b, 3, none⟩ = some (.int .i64 (y.mp : Int))) ∧ W.cell? ⟨b, 4, none⟩ = some (.int .i64 (y.nd : Int)) ∧ W.cell? ⟨b, 5, none⟩ = some (.int .i64 (y.tb : Int)) ∧ W.cell? ⟨b, 6, none⟩ = some (.int .i64 (y.no : Int)) ∧ W.cell? ⟨b, 7, none⟩ = some (.int .i64 (y.da : Int)) :=
  ⟨⟨h.cell 0, h.cell 1, h.cell 2, h.cell 3⟩, h.cell 4, h.cell 5, h.cell 6, h.cell 7⟩

set_option maxRecDepth 100000 in
set_option maxHeartbeats 4000000 in
theorem lays_walk (G : Nat → Prop) (w : World) (hG : ∀ k, G k → k < w.heap.size) (n : Int) : Calls Try.prog 3 #[.int .i64 n] w fun x w' => x = .returned (.bool true) ∧ Kp G w w' := by
  have HSh := hid (shown_al G w hG)
  by_cases h : n < 64 ∨ 1024 < n
  · have HL := hid (fun W => Lay_no W n h)
    have HR := hid (fun W => RLay_no W n h)
    clear h
    unfold noLay Ly.v Ly.cells at HL
    unfold rC at HR
    simp only at HL
    go_enter Try.func3, Try.ntmps3
    go_wp2_with fail
    refine HSh.out.mono ?_
    rintro x w1 ⟨rfl, k1⟩
    have HK1 := hid k1
    clear HSh k1
    go_wp2_with fail
    refine (HL.out w1).mono ?_
    rintro x w2 ⟨rfl, f2⟩
    have HK2 : Hid (Kp G w (w2.alloc (.cells (noLay.cells).toArray 24))) := Kp.trans HK1.out (Nw.kp (show Nw w1 _ from Fr.alloc f2 _))
    clear HL HK1 f2
    go_wp2_with fail
    refine (HR.out _).mono ?_
    rintro x w3 ⟨rfl, f3⟩
    have bY : Blk w3 w2.heap.size 24 noLay.cells := Fr.blk f3 (Blk.new w2 24 noLay.cells) id
    have HK3 : Hid (Kp G w (w3.alloc (.cells #[.int .i64 0, .int .i64 0, .int .i64 0, .int .i64 0, .int .i64 0, .int .i64 0, .int .i64 0] 29))) := Kp.trans HK2.out (Nw.kp (show Nw _ _ from Fr.alloc f3 _))
    obtain ⟨⟨c0, c1, c2, c3⟩, c4, c5, c6, c7⟩ := ly_cells (bY.alloc (.cells #[.int .i64 0, .int .i64 0, .int .i64 0, .int .i64 0, .int .i64 0, .int .i64 0, .int .i64 0] 29))
    simp only [noLay] at c0 c1 c2 c3 c4 c5 c6 c7
    clear f3 bY HR HK2
    go_wp2
    go_ret
    exact ⟨rfl, HK3.out⟩
  · obtain ⟨n, rfl⟩ : ∃ m : Nat, n = m := ⟨n.toNat, by omega⟩
    have h1 : 64 ≤ n := by omega
    have h2 : n ≤ 1024 := by omega
    have HL := hid (fun W => Lay_ok W n h1 h2)
    have HR := hid (fun W => RLay_ok W n h1 h2)
    have Hs : Hid (lay n = { s := n, lg := 1, ll := (lay n).ll, mp := (lay n).mp, nd := (lay n).nd, tb := (lay n).tb, no := (lay n).no, da := (lay n).da }) := rfl
    clear h h1 h2
    generalize lay n = y at *
    obtain ⟨s, lg, ll, mp, nd, tb, no, da⟩ := y
    simp only at Hs HR
    obtain ⟨rfl, rfl⟩ : s = n ∧ lg = 1 := by have := Hs.out; simp at this; exact this
    clear Hs
    unfold Ly.v Ly.cells at HL
    unfold rC at HR
    simp only at HL
    go_enter Try.func3, Try.ntmps3
    go_wp2_with fail
    refine HSh.out.mono ?_
    rintro x w1 ⟨rfl, k1⟩
    have HK1 := hid k1
    clear HSh k1
    go_wp2_with fail
    refine (HL.out w1).mono ?_
    rintro x w2 ⟨rfl, f2⟩
    have HK2 : Hid (Kp G w (w2.alloc (.cells ((⟨s, 1, ll, mp, nd, tb, no, da⟩ : Ly).cells).toArray 24))) := Kp.trans HK1.out (Nw.kp (show Nw w1 _ from Fr.alloc f2 _))
    clear HL HK1 f2
    go_wp2_with fail
    refine (HR.out _).mono ?_
    rintro x w3 ⟨rfl, f3⟩
    have bY : Blk w3 w2.heap.size 24 (⟨s, 1, ll, mp, nd, tb, no, da⟩ : Ly).cells := Fr.blk f3 (Blk.new w2 24 (⟨s, 1, ll, mp, nd, tb, no, da⟩ : Ly).cells) id
    have HK3 : Hid (Kp G w ((w3.alloc (.cells #[.int .i64 s, .int .i64 ll, .int .i64 mp, .int .i64 nd, .int .i64 tb, .int .i64 no, .int .i64 da] 29)).alloc (.cells #[.int .i64 s, .int .i64 1, .int .i64 ll, .int .i64 mp, .int .i64 nd, .int .i64 tb, .int .i64 no, .int .i64 da] 24))) := Kp.trans HK2.out (Nw.kp (show Nw _ _ from Fr.alloc (Fr.alloc f3 _) _))
    obtain ⟨⟨c0, c1, c2, c3⟩, c4, c5, c6, c7⟩ := ly_cells ((bY.alloc (.cells #[.int .i64 s, .int .i64 ll, .int .i64 mp, .int .i64 nd, .int .i64 tb, .int .i64 no, .int .i64 da] 29)).alloc (.cells #[.int .i64 s, .int .i64 1, .int .i64 ll, .int .i64 mp, .int .i64 nd, .int .i64 tb, .int .i64 no, .int .i64 da] 24))
    simp only at c0 c1 c2 c3 c4 c5 c6 c7
    clear f3 bY HR HK2
    go_wp2
    go_ret
    exact ⟨rfl, HK3.out⟩

end Go.Proofs.Ytehoiahgkbnjdaa.Al
