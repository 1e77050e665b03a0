/- The walk of ValueInts. -/
import Derived.Test.YtlepjghfcpgbcaaGreatDoorShn
import Derived.Test.YtlepjghfcpgbcaaGreatDoorHnd
namespace Go.Proofs.YtlepjghfcpgbcaaGreatDoor.Tr
open Go.RowKit

def sumV (a b : Int) : Vv := if I64 (a + b) then vI (a + b) else vZ
def proV (a b : Int) : Vv := if I64 (a * b) then vI (a * b) else vZ

theorem fr_more {w : World} {a : World} (F : Nat → Prop) (h : Fr (fun _ => False) a w) : Fr F a w := h.mono (fun _ h => h.elim)

theorem quot_rest_low (b : Int) : wrap64 (wrap64 (-Int.tdiv 9223372036854775808 b * b) + -(9223372036854775808 % b)) = -9223372036854775808 := by
  have h := quot_rest (b := b) (a := -9223372036854775808) (by decide)
  rw [Int.neg_tdiv, Int.neg_tmod, Int.tmod_eq_emod_of_nonneg (by decide)] at h
  exact h

/-- A result that is laid down. -/
theorem laid_down {w w1 w2 : World} (f1 : Fr (fun _ => False) w w1) (f2 : Fr (· = w1.heap.size) (vBox w1 vZ) w2) : Fr (fun _ => False) w w2 :=
  ((f1.trans (vFr w1 vZ) (fun _ h => h.elim)).trans f2 (fun i hi => .inr (by rw [hi]; exact f1.size)))

set_option maxRecDepth 100000 in
set_option maxHeartbeats 8000000 in
theorem ints_walk (w : World) (a b : Int) (ha : I64 a) (hb : I64 b) (hT : Tw w) : Calls Tryz.prog 6 #[.int .i64 a, .int .i64 b] w fun e w' => e = .returned (.bool true) ∧ Fr (fun _ => False) w w' := by
  have HS := hid (shown_any w hT)
  have HP := hid (fun W => reckon_ints W 43 (.inl rfl) a b _ _ (ints_plus a b ha hb))
  have HP2 := hid (fun W => reckon_ints W 43 (.inl rfl) b a _ _ (ints_plus b a hb ha))
  have HM := hid (fun W => reckon_ints W 42 (.inr (.inr (.inl rfl))) a b _ _ (ints_times a b ha hb))
  have HM2 := hid (fun W => reckon_ints W 42 (.inr (.inr (.inl rfl))) b a _ _ (ints_times b a hb ha))
  have ec : b + a = a + b := Int.add_comm b a
  have em : b * a = a * b := Int.mul_comm b a
  rw [ec] at HP2
  rw [em] at HM2
  clear ec em
  obtain ⟨X, hX⟩ : ∃ X, X = (if I64 (a * b) then vI (a * b) else vZ) := ⟨_, rfl⟩
  obtain ⟨er, her⟩ : ∃ er : Int, er = (if I64 (a * b) then (0 : Int) else 16) := ⟨_, rfl⟩
  have HEr : Hid (er = 0 ∨ er = 16) := by unfold Hid; rw [her]; by_cases h : I64 (a * b) <;> simp [h]
  rw [← hX, ← her] at HM HM2
  clear hX her
  obtain ⟨Z, ez, HQ, HC⟩ : ∃ (Z : Vv) (ez : Int), Hid (∀ W, Calls Tryz.prog 31 #[.string ⟨#[47]⟩, (vI a).v, (vI b).v] W fun e w' => e = .returned (.tuple #[Z.v, .int .i64 ez]) ∧ Fr (fun _ => False) W w') ∧ Hid ((b = 0 ∧ Z = vZ ∧ ez = 17) ∨ (Z = vZ ∧ ez = 16 ∧ a = -9223372036854775808 ∧ b = -1 ∧ True) ∨ (Z = vI (a.tdiv b) ∧ ez = 0 ∧ b ≠ 0 ∧ (a = -9223372036854775808 → b ≠ -1) ∧ I64 (a.tdiv b))) := by
    by_cases h0 : b = 0
    · subst h0
      exact ⟨vZ, 17, fun W => reckon_ints W 47 (.inr (.inr (.inr rfl))) a 0 _ _ (ints_zero a), .inl ⟨rfl, rfl, rfl⟩⟩
    · have h := fun W => reckon_ints W 47 (.inr (.inr (.inr rfl))) a b _ _ (ints_quo a b ha hb h0)
      by_cases hl : a = -9223372036854775808 ∧ b = -1
      · rw [if_pos hl, if_pos hl] at h
        exact ⟨vZ, 16, h, .inr (.inl ⟨rfl, rfl, hl.1, hl.2, trivial⟩)⟩
      · rw [if_neg hl, if_neg hl] at h
        exact ⟨vI (a.tdiv b), 0, h, .inr (.inr ⟨rfl, rfl, h0, fun h1 h2 => hl ⟨h1, h2⟩, I64.tdiv ha hb hl⟩)⟩
  by_cases hp : I64 (a + b)
  · rw [if_pos hp, if_pos hp] at HP HP2
    have HD := hid (fun W => reckon_ints W 45 (.inr (.inl rfl)) (a + b) b _ _ (ints_minus (a + b) b hp hb))
    have e : a + b - b = a := by omega
    rw [e, if_pos ha, if_pos ha] at HD
    have HAB := hid (And.intro ha hb)
    clear hp e ha hb hT
    go_enter Tryz.func6, Tryz.ntmps6
    go_wp2_with fail
    refine HS.out.mono ?_
    rintro e w0 ⟨rfl, f0⟩
    have F0 := hid f0
    clear f0 HS
    go_wp2_with fail
    refine (whole_any _ a).mono ?_
    rintro e w1 ⟨rfl, f1⟩
    go_wp2_with fail
    refine (whole_any _ b).mono ?_
    rintro e w2 ⟨rfl, f2⟩
    go_wp2_with fail
    refine (HP.out _).mono ?_
    rintro e w3 ⟨rfl, f3⟩
    have F3 := hid (F0.out.trans (f1.trans (f2.trans f3 (fun _ h => h.elim)) (fun _ h => h.elim)) (fun _ h => h.elim))
    have HBz := hid (vBlk w3 vZ)
    have HFs3 := hid F3.out.size
    clear f1 f2 f3 F0 HP
    go_wp2_with (refine wpList_storeV (vI (a + b)) (by rfl) _ _ (by rfl) HBz.out (by rfl) (by rfl) ?_; intro w4 b4 f4)
    have F4 := hid (laid_down F3.out f4)
    have B4 := hid b4
    clear f4 b4 HBz F3
    have HAw : Hid (w.heap.size ≤ w3.heap.size) := HFs3.out
    generalize w3.heap.size = A at *
    go_wp2_with fail
    refine (whole_any _ b).mono ?_
    rintro e w5 ⟨rfl, f5⟩
    go_wp2_with fail
    refine (whole_any _ a).mono ?_
    rintro e w6 ⟨rfl, f6⟩
    go_wp2_with fail
    refine (HP2.out _).mono ?_
    rintro e w7 ⟨rfl, f7⟩
    have G7 := hid (f5.trans (f6.trans f7 (fun _ h => h.elim)) (fun _ h => h.elim))
    have B7 := hid (G7.out.blk B4.out (fun h => h))
    have F7 := hid (F4.out.trans G7.out (fun _ h => h.elim))
    have HBz := hid (vBlk w7 vZ)
    clear f5 f6 f7 G7 B4 F4 HP2
    go_wp2_with (refine wpList_storeV (vI (a + b)) (by rfl) _ _ (by rfl) HBz.out (by rfl) (by rfl) ?_; intro w8 b8 f8; have C8 := hid b8; have B8 := hid (f8.blk (B7.out.alloc _) (by have := B7.out.lt; omega)); obtain ⟨c0, c1, c2, c3, c4, c5⟩ := B8.out.six; obtain ⟨d0, d1, d2, d3, d4, d5⟩ := C8.out.six)
    have F8 := hid (laid_down F7.out f8)
    have HNe : Hid (A < w7.heap.size) := B7.out.lt
    have HCw : Hid (w.heap.size ≤ w7.heap.size) := F7.out.size
    clear f8 b8 HBz F7 B7
    generalize w7.heap.size = C at *
    have hA8 : A < w8.heap.size := B8.out.lt
    have hC8 : C < w8.heap.size := C8.out.lt
    have HK : Hid (∀ W', Fr (fun k => w8.heap.size ≤ k) w8 W' → six W' A (vI (a + b))) := fun W' hf => (hf.blk B8.out (by omega)).six
    have HD0 : Hid (Fr (fun k => w8.heap.size ≤ k) w8 w8.drew) := (Fr.refl _ w8).drew
    clear c0 c1 c2 c3 c4 c5 d0 d1 d2 d3 d4 d5
    refine wp_region_noPanic ?_
    refine wp_region_held_drew (S := (fun W' => six W' A (vI (a + b)))) (by kernel_rfl) (HK.out _ HD0.out) (fun _ => ?_)
    refine takeH (i := 0) (d := some 47) ((vI (a + b)).v) rfl (by kernel_rfl) (by kernel_rfl) (by kernel_rfl) (fun _ _ _ _ h => h) (HK.out _ HD0.out) (fun o ho => by cases ho; exact .inl ⟨by rfl, fun w hSw => by (obtain ⟨hs0, hs1, hs2, hs3, hs4, hs5⟩ := hSw; go_simp)⟩) ?_
    simp only [Act.put, List.setIfInBounds_toArray, List.set_cons_zero, List.set_cons_succ]
    refine takeH (i := 1) (d := some 48) (.int .i64 b) rfl (by kernel_rfl) (by kernel_rfl) (by kernel_rfl) (fun _ _ _ _ h => h) (HK.out _ HD0.out) (fun o ho => by cases ho; exact .inl ⟨by rfl, fun w hSw => by (obtain ⟨hs0, hs1, hs2, hs3, hs4, hs5⟩ := hSw; go_simp)⟩) ?_
    simp only [Act.put, List.setIfInBounds_toArray, List.set_cons_zero, List.set_cons_succ]
    refine twoH (i := 2) (j := 7) (by kernel_rfl) (fun o ho K' hK => ?_) (fun o ho K' hK => ?_) (by decide) (by decide)
    · skip
      cases ho
      rw [if_pos (by rfl)]
      go_simp
      refine (whole_any _ b).mono ?_
      rintro e w9 ⟨rfl, f1⟩
      have HD1 := hid (HD0.out.trans f1 (fun _ h => h.elim))
      refine hK.out _ _ (HK.out _ HD1.out) ?_
      clear hK K'
      try simp only [Act.put, List.setIfInBounds_toArray, List.set_cons_zero, List.set_cons_succ]
      clear f1
      refine twoH (i := 3) (j := 7) (by kernel_rfl) (fun o ho K' hK => ?_) (fun o ho K' hK => ?_) (by decide) (by decide)
      · skip
        cases ho
        rw [if_pos (by rfl)]
        go_simp
        refine (HD.out _).mono ?_
        rintro e w10 ⟨rfl, f2⟩
        have HD2 := hid (HD1.out.trans f2 (fun _ h => h.elim))
        refine hK.out _ _ (HK.out _ HD2.out) ?_
        clear hK K'
        try simp only [Act.put, List.setIfInBounds_toArray, List.set_cons_zero, List.set_cons_succ]
        clear f2
        refine takeH (i := 4) (d := some 46) (.tuple #[(vI a).v, .int .i64 0]) rfl (by kernel_rfl) (by kernel_rfl) (by kernel_rfl) (fun _ _ _ _ h => h) (HK.out _ HD2.out) (fun o ho => by cases ho; exact .inl ⟨by rfl, fun w hSw => by (obtain ⟨hs0, hs1, hs2, hs3, hs4, hs5⟩ := hSw; go_simp)⟩) ?_
        simp only [Act.put, List.setIfInBounds_toArray, List.set_cons_zero, List.set_cons_succ]
        refine takeH (i := 5) (d := some 51) ((vI a).v) rfl (by kernel_rfl) (by kernel_rfl) (by kernel_rfl) (fun _ _ _ _ h => h) (HK.out _ HD2.out) (fun o ho => by cases ho; exact .inl ⟨by rfl, fun w hSw => by (obtain ⟨hs0, hs1, hs2, hs3, hs4, hs5⟩ := hSw; go_simp)⟩) ?_
        simp only [Act.put, List.setIfInBounds_toArray, List.set_cons_zero, List.set_cons_succ]
        refine takeH (i := 6) (d := some 52) (.int .i64 0) rfl (by kernel_rfl) (by kernel_rfl) (by kernel_rfl) (fun _ _ _ _ h => h) (HK.out _ HD2.out) (fun o ho => by cases ho; exact .inl ⟨by rfl, fun w hSw => by (obtain ⟨hs0, hs1, hs2, hs3, hs4, hs5⟩ := hSw; go_simp)⟩) ?_
        simp only [Act.put, List.setIfInBounds_toArray, List.set_cons_zero, List.set_cons_succ]
        refine oneH (i := 7) (by kernel_rfl) (fun o ho K' hK => ?_) (by decide)
        cases ho
        rw [if_pos (by rfl)]
        go_simp
        have HD3 := hid (HD2.out.alloc (.cells #[.int .i64 0, .int .i64 0, .float .f64 0, .string ⟨#[]⟩, .slice none 0 0, .slice none 0 0] 26))
        refine hK.out _ _ (HK.out _ HD3.out) ?_
        clear hK K'
        try simp only [Act.put, List.setIfInBounds_toArray, List.set_cons_zero, List.set_cons_succ]
        have HBZ := hid (vBlk w10 vZ)
        have HN := hid (show w8.heap.size ≤ w10.heap.size from HD2.out.size)
        refine oneH (i := 8) (by kernel_rfl) (fun o ho K' hK => ?_) (by decide)
        cases ho
        rw [if_pos (by rfl)]
        refine wp_storeV (vI a) _ _ (by rfl) HBZ.out (by rfl) (by rfl) (by rfl) ?_
        intro w11 b11 f11
        have HE := hid (And.intro b11 (HD3.out.trans f11 (fun i hi => .inl (by rw [hi]; exact HN.out))))
        refine hK.out _ _ (HK.out _ HE.out.2) ?_
        clear hK K' b11 f11
        try simp only [Act.put, List.setIfInBounds_toArray, List.set_cons_zero, List.set_cons_succ]
        refine takeH (i := 9) (d := some 11) (.int .i64 0) rfl (by kernel_rfl) (by kernel_rfl) (by kernel_rfl) (fun _ _ _ _ h => h) (HK.out _ HE.out.2) (fun o ho => by cases ho; exact .inl ⟨by rfl, fun w hSw => by (obtain ⟨hs0, hs1, hs2, hs3, hs4, hs5⟩ := hSw; go_simp)⟩) ?_
        simp only [Act.put, List.setIfInBounds_toArray, List.set_cons_zero, List.set_cons_succ]
        refine wpAnyH_done (by kernel_rfl) (NoPanic.normal ?_) _
        have B11 := hid (HE.out.2.blk B8.out (by omega))
        have C11 := hid (HE.out.2.blk C8.out (by omega))
        have F11 : Hid (Fr (fun _ => False) w w11) := F8.out.trans HE.out.2 (fun i hi => .inr (Nat.le_trans F8.out.size hi))
        obtain ⟨d0, d1, d2, d3, d4, d5⟩ := HE.out.1.six
        clear HBZ HN HE HK B8 C8 F8 HD hA8 hC8
        go_wp2_with fail
        clear d0 d1 d2 d3 d4 d5
        refine (whole_any _ a).mono ?_
        rintro e w12 ⟨rfl, f12⟩
        go_wp2_with fail
        refine (whole_any _ b).mono ?_
        rintro e w13 ⟨rfl, f13⟩
        have G13 := hid (f12.trans f13 (fun _ h => h.elim))
        clear f12 f13
        go_wp2_with fail
        refine (HM.out _).mono ?_
        rintro e w14 ⟨rfl, f14⟩
        have G14 := hid (G13.out.trans f14 (fun _ h => h.elim))
        have B14 := hid (G14.out.blk B11.out (fun h => h))
        have C14 := hid (G14.out.blk C11.out (fun h => h))
        have F14 := hid (F11.out.trans G14.out (fun _ h => h.elim))
        clear f14 G13 G14 B11 C11 F11 HM
        go_wp2_with (refine wpList_storeV X (by rfl) _ _ (by rfl) B14.out (by rfl) (by rfl) ?_; intro w15 b15 f15)
        have C15 := hid (f15.blk C14.out (by have := HNe.out; omega))
        have B15 := hid b15
        have F15 := hid (F14.out.trans f15 (fun i hi => .inr (by rw [hi]; exact HAw.out)))
        clear b15 f15 B14 C14 F14
        go_wp2_with fail
        refine (whole_any _ b).mono ?_
        rintro e w16 ⟨rfl, f16⟩
        go_wp2_with fail
        refine (whole_any _ a).mono ?_
        rintro e w17 ⟨rfl, f17⟩
        have G17 := hid (f16.trans f17 (fun _ h => h.elim))
        clear f16 f17
        go_wp2_with fail
        refine (HM2.out _).mono ?_
        rintro e w18 ⟨rfl, f18⟩
        have G18 := hid (G17.out.trans f18 (fun _ h => h.elim))
        have B18 := hid (G18.out.blk B15.out (fun h => h))
        have C18 := hid (G18.out.blk C15.out (fun h => h))
        have F18 := hid (F15.out.trans G18.out (fun _ h => h.elim))
        clear f18 G17 G18 B15 C15 F15 HM2
        rcases HEr.out with h16 | h16
        · subst h16
          go_wp2_with (refine wpList_storeV X (by rfl) _ _ (by rfl) C18.out (by rfl) (by rfl) ?_; intro w19 b19 f19; have C19 := hid b19; have B19 := hid (f19.blk B18.out (by have := HNe.out; omega)); obtain ⟨c0, c1, c2, c3, c4, c5⟩ := B19.out.six; obtain ⟨d0, d1, d2, d3, d4, d5⟩ := C19.out.six)
          have F19 := hid (F18.out.trans f19 (fun i hi => .inr (by rw [hi]; exact HCw.out)))
          clear b19 f19 B18 C18 F18 c0 c1 c2 c3 c4 c5 d0 d1 d2 d3 d4 d5 B19 C19
          refine (whole_any _ a).mono ?_
          rintro e w20 ⟨rfl, f20⟩
          go_wp2_with fail
          refine (whole_any _ b).mono ?_
          rintro e w21 ⟨rfl, f21⟩
          have F21 := hid (F19.out.trans (f20.trans f21 (fun _ h => h.elim)) (fun _ h => h.elim))
          clear f20 f21 F19
          go_wp2_with fail
          refine (HQ.out _).mono ?_
          rintro e w22 ⟨rfl, f22⟩
          have F22 := hid (F21.out.trans f22 (fun _ h => h.elim))
          have HBz := hid (vBlk w22 vZ)
          clear f22 F21 HQ
          rcases HC.out with ⟨h1, h2, h3⟩ | ⟨h1, h2, h3, h4, h5⟩ | ⟨h1, h2, h3, h4, h5⟩
          · subst h1
            subst h2
            subst h3
            go_wp2_with (refine wpList_storeV _ (by rfl) _ _ (by rfl) HBz.out (by rfl) (by rfl) ?_; intro w23 b23 f23)
            have F23 := hid (laid_down F22.out f23)
            clear b23 f23
            go_wp2_with fail
            go_ret
            exact ⟨rfl, F23.out⟩
          · subst h1
            subst h2
            subst h3
            subst h4
            go_wp2_with (refine wpList_storeV _ (by rfl) _ _ (by rfl) HBz.out (by rfl) (by rfl) ?_; intro w23 b23 f23)
            have F23 := hid (laid_down F22.out f23)
            clear b23 f23
            go_wp2_with fail
            go_ret
            exact ⟨rfl, F23.out⟩
          · subst h1
            subst h2
            have HC5 := hid h5
            have h4' : (a == -9223372036854775808) = true → (b == -1) = false := by simpa using h4
            have HQR := hid (quot_rest (b := b) HAB.out.1)
            clear h4 h5
            go_wp2_with (refine wpList_storeV _ (by rfl) _ _ (by rfl) HBz.out (by rfl) (by rfl) ?_; intro w23 b23 f23; obtain ⟨c0, c1, c2, c3, c4, c5⟩ := b23.six)
            all_goals
              have F23 := hid (laid_down F22.out f23)
              clear b23 f23
              have hm1 : (b == 0) = false := by simpa using h3
              go_quiet (fail)
              have F24 := hid (F23.out.drewN nq)
              go_wp2_with fail
              go_ret
              refine ⟨?_, F24.out⟩
              first
                | (have ha := ‹a = -9223372036854775808›
                   simp
                   exact quot_rest_low b)
                | (try simp only [HQR.out]
                   first | rfl | simp)
        · subst h16
          go_wp2_with (refine wpList_storeV X (by rfl) _ _ (by rfl) C18.out (by rfl) (by rfl) ?_; intro w19 b19 f19; have C19 := hid b19; have B19 := hid (f19.blk B18.out (by have := HNe.out; omega)); obtain ⟨c0, c1, c2, c3, c4, c5⟩ := B19.out.six; obtain ⟨d0, d1, d2, d3, d4, d5⟩ := C19.out.six)
          have F19 := hid (F18.out.trans f19 (fun i hi => .inr (by rw [hi]; exact HCw.out)))
          clear b19 f19 B18 C18 F18 c0 c1 c2 c3 c4 c5 d0 d1 d2 d3 d4 d5 B19 C19
          refine (whole_any _ a).mono ?_
          rintro e w20 ⟨rfl, f20⟩
          go_wp2_with fail
          refine (whole_any _ b).mono ?_
          rintro e w21 ⟨rfl, f21⟩
          have F21 := hid (F19.out.trans (f20.trans f21 (fun _ h => h.elim)) (fun _ h => h.elim))
          clear f20 f21 F19
          go_wp2_with fail
          refine (HQ.out _).mono ?_
          rintro e w22 ⟨rfl, f22⟩
          have F22 := hid (F21.out.trans f22 (fun _ h => h.elim))
          have HBz := hid (vBlk w22 vZ)
          clear f22 F21 HQ
          rcases HC.out with ⟨h1, h2, h3⟩ | ⟨h1, h2, h3, h4, h5⟩ | ⟨h1, h2, h3, h4, h5⟩
          · subst h1
            subst h2
            subst h3
            go_wp2_with (refine wpList_storeV _ (by rfl) _ _ (by rfl) HBz.out (by rfl) (by rfl) ?_; intro w23 b23 f23)
            have F23 := hid (laid_down F22.out f23)
            clear b23 f23
            go_wp2_with fail
            go_ret
            exact ⟨rfl, F23.out⟩
          · subst h1
            subst h2
            subst h3
            subst h4
            go_wp2_with (refine wpList_storeV _ (by rfl) _ _ (by rfl) HBz.out (by rfl) (by rfl) ?_; intro w23 b23 f23)
            have F23 := hid (laid_down F22.out f23)
            clear b23 f23
            go_wp2_with fail
            go_ret
            exact ⟨rfl, F23.out⟩
          · subst h1
            subst h2
            have HC5 := hid h5
            have h4' : (a == -9223372036854775808) = true → (b == -1) = false := by simpa using h4
            have HQR := hid (quot_rest (b := b) HAB.out.1)
            clear h4 h5
            go_wp2_with (refine wpList_storeV _ (by rfl) _ _ (by rfl) HBz.out (by rfl) (by rfl) ?_; intro w23 b23 f23; obtain ⟨c0, c1, c2, c3, c4, c5⟩ := b23.six)
            all_goals
              have F23 := hid (laid_down F22.out f23)
              clear b23 f23
              have hm1 : (b == 0) = false := by simpa using h3
              go_quiet (fail)
              have F24 := hid (F23.out.drewN nq)
              go_wp2_with fail
              go_ret
              refine ⟨?_, F24.out⟩
              first
                | (have ha := ‹a = -9223372036854775808›
                   simp
                   exact quot_rest_low b)
                | (try simp only [HQR.out]
                   first | rfl | simp)
      · skip
        cases ho
        rw [if_pos (by rfl)]
        go_simp
        have HD2 := hid (HD1.out.alloc (.cells #[.int .i64 0, .int .i64 0, .float .f64 0, .string ⟨#[]⟩, .slice none 0 0, .slice none 0 0] 26))
        refine hK.out _ _ (HK.out _ HD2.out) ?_
        clear hK K'
        try simp only [Act.put, List.setIfInBounds_toArray, List.set_cons_zero, List.set_cons_succ]
        refine oneH (i := 3) (by kernel_rfl) (fun o ho K' hK => ?_) (by decide)
        cases ho
        rw [if_pos (by rfl)]
        go_simp
        refine (HD.out _).mono ?_
        rintro e w10 ⟨rfl, f2⟩
        have HD3 := hid (HD2.out.trans f2 (fun _ h => h.elim))
        have HBZ := hid (f2.blk (vBlk w9 vZ) (fun h => h))
        refine hK.out _ _ (HK.out _ HD3.out) ?_
        clear hK K'
        try simp only [Act.put, List.setIfInBounds_toArray, List.set_cons_zero, List.set_cons_succ]
        clear f2
        have HN := hid (show w8.heap.size ≤ w9.heap.size from HD1.out.size)
        refine takeH (i := 4) (d := some 46) (.tuple #[(vI a).v, .int .i64 0]) rfl (by kernel_rfl) (by kernel_rfl) (by kernel_rfl) (fun _ _ _ _ h => h) (HK.out _ HD3.out) (fun o ho => by cases ho; exact .inl ⟨by rfl, fun w hSw => by (obtain ⟨hs0, hs1, hs2, hs3, hs4, hs5⟩ := hSw; go_simp)⟩) ?_
        simp only [Act.put, List.setIfInBounds_toArray, List.set_cons_zero, List.set_cons_succ]
        refine takeH (i := 5) (d := some 51) ((vI a).v) rfl (by kernel_rfl) (by kernel_rfl) (by kernel_rfl) (fun _ _ _ _ h => h) (HK.out _ HD3.out) (fun o ho => by cases ho; exact .inl ⟨by rfl, fun w hSw => by (obtain ⟨hs0, hs1, hs2, hs3, hs4, hs5⟩ := hSw; go_simp)⟩) ?_
        simp only [Act.put, List.setIfInBounds_toArray, List.set_cons_zero, List.set_cons_succ]
        refine takeH (i := 6) (d := some 52) (.int .i64 0) rfl (by kernel_rfl) (by kernel_rfl) (by kernel_rfl) (fun _ _ _ _ h => h) (HK.out _ HD3.out) (fun o ho => by cases ho; exact .inl ⟨by rfl, fun w hSw => by (obtain ⟨hs0, hs1, hs2, hs3, hs4, hs5⟩ := hSw; go_simp)⟩) ?_
        simp only [Act.put, List.setIfInBounds_toArray, List.set_cons_zero, List.set_cons_succ]
        refine oneH (i := 8) (by kernel_rfl) (fun o ho K' hK => ?_) (by decide)
        cases ho
        rw [if_pos (by rfl)]
        refine wp_storeV (vI a) _ _ (by rfl) HBZ.out (by rfl) (by rfl) (by rfl) ?_
        intro w11 b11 f11
        have HE := hid (And.intro b11 (HD3.out.trans f11 (fun i hi => .inl (by rw [hi]; exact HN.out))))
        refine hK.out _ _ (HK.out _ HE.out.2) ?_
        clear hK K' b11 f11
        try simp only [Act.put, List.setIfInBounds_toArray, List.set_cons_zero, List.set_cons_succ]
        refine takeH (i := 9) (d := some 11) (.int .i64 0) rfl (by kernel_rfl) (by kernel_rfl) (by kernel_rfl) (fun _ _ _ _ h => h) (HK.out _ HE.out.2) (fun o ho => by cases ho; exact .inl ⟨by rfl, fun w hSw => by (obtain ⟨hs0, hs1, hs2, hs3, hs4, hs5⟩ := hSw; go_simp)⟩) ?_
        simp only [Act.put, List.setIfInBounds_toArray, List.set_cons_zero, List.set_cons_succ]
        refine wpAnyH_done (by kernel_rfl) (NoPanic.normal ?_) _
        have B11 := hid (HE.out.2.blk B8.out (by omega))
        have C11 := hid (HE.out.2.blk C8.out (by omega))
        have F11 : Hid (Fr (fun _ => False) w w11) := F8.out.trans HE.out.2 (fun i hi => .inr (Nat.le_trans F8.out.size hi))
        obtain ⟨d0, d1, d2, d3, d4, d5⟩ := HE.out.1.six
        clear HBZ HN HE HK B8 C8 F8 HD hA8 hC8
        go_wp2_with fail
        clear d0 d1 d2 d3 d4 d5
        refine (whole_any _ a).mono ?_
        rintro e w12 ⟨rfl, f12⟩
        go_wp2_with fail
        refine (whole_any _ b).mono ?_
        rintro e w13 ⟨rfl, f13⟩
        have G13 := hid (f12.trans f13 (fun _ h => h.elim))
        clear f12 f13
        go_wp2_with fail
        refine (HM.out _).mono ?_
        rintro e w14 ⟨rfl, f14⟩
        have G14 := hid (G13.out.trans f14 (fun _ h => h.elim))
        have B14 := hid (G14.out.blk B11.out (fun h => h))
        have C14 := hid (G14.out.blk C11.out (fun h => h))
        have F14 := hid (F11.out.trans G14.out (fun _ h => h.elim))
        clear f14 G13 G14 B11 C11 F11 HM
        go_wp2_with (refine wpList_storeV X (by rfl) _ _ (by rfl) B14.out (by rfl) (by rfl) ?_; intro w15 b15 f15)
        have C15 := hid (f15.blk C14.out (by have := HNe.out; omega))
        have B15 := hid b15
        have F15 := hid (F14.out.trans f15 (fun i hi => .inr (by rw [hi]; exact HAw.out)))
        clear b15 f15 B14 C14 F14
        go_wp2_with fail
        refine (whole_any _ b).mono ?_
        rintro e w16 ⟨rfl, f16⟩
        go_wp2_with fail
        refine (whole_any _ a).mono ?_
        rintro e w17 ⟨rfl, f17⟩
        have G17 := hid (f16.trans f17 (fun _ h => h.elim))
        clear f16 f17
        go_wp2_with fail
        refine (HM2.out _).mono ?_
        rintro e w18 ⟨rfl, f18⟩
        have G18 := hid (G17.out.trans f18 (fun _ h => h.elim))
        have B18 := hid (G18.out.blk B15.out (fun h => h))
        have C18 := hid (G18.out.blk C15.out (fun h => h))
        have F18 := hid (F15.out.trans G18.out (fun _ h => h.elim))
        clear f18 G17 G18 B15 C15 F15 HM2
        rcases HEr.out with h16 | h16
        · subst h16
          go_wp2_with (refine wpList_storeV X (by rfl) _ _ (by rfl) C18.out (by rfl) (by rfl) ?_; intro w19 b19 f19; have C19 := hid b19; have B19 := hid (f19.blk B18.out (by have := HNe.out; omega)); obtain ⟨c0, c1, c2, c3, c4, c5⟩ := B19.out.six; obtain ⟨d0, d1, d2, d3, d4, d5⟩ := C19.out.six)
          have F19 := hid (F18.out.trans f19 (fun i hi => .inr (by rw [hi]; exact HCw.out)))
          clear b19 f19 B18 C18 F18 c0 c1 c2 c3 c4 c5 d0 d1 d2 d3 d4 d5 B19 C19
          refine (whole_any _ a).mono ?_
          rintro e w20 ⟨rfl, f20⟩
          go_wp2_with fail
          refine (whole_any _ b).mono ?_
          rintro e w21 ⟨rfl, f21⟩
          have F21 := hid (F19.out.trans (f20.trans f21 (fun _ h => h.elim)) (fun _ h => h.elim))
          clear f20 f21 F19
          go_wp2_with fail
          refine (HQ.out _).mono ?_
          rintro e w22 ⟨rfl, f22⟩
          have F22 := hid (F21.out.trans f22 (fun _ h => h.elim))
          have HBz := hid (vBlk w22 vZ)
          clear f22 F21 HQ
          rcases HC.out with ⟨h1, h2, h3⟩ | ⟨h1, h2, h3, h4, h5⟩ | ⟨h1, h2, h3, h4, h5⟩
          · subst h1
            subst h2
            subst h3
            go_wp2_with (refine wpList_storeV _ (by rfl) _ _ (by rfl) HBz.out (by rfl) (by rfl) ?_; intro w23 b23 f23)
            have F23 := hid (laid_down F22.out f23)
            clear b23 f23
            go_wp2_with fail
            go_ret
            exact ⟨rfl, F23.out⟩
          · subst h1
            subst h2
            subst h3
            subst h4
            go_wp2_with (refine wpList_storeV _ (by rfl) _ _ (by rfl) HBz.out (by rfl) (by rfl) ?_; intro w23 b23 f23)
            have F23 := hid (laid_down F22.out f23)
            clear b23 f23
            go_wp2_with fail
            go_ret
            exact ⟨rfl, F23.out⟩
          · subst h1
            subst h2
            have HC5 := hid h5
            have h4' : (a == -9223372036854775808) = true → (b == -1) = false := by simpa using h4
            have HQR := hid (quot_rest (b := b) HAB.out.1)
            clear h4 h5
            go_wp2_with (refine wpList_storeV _ (by rfl) _ _ (by rfl) HBz.out (by rfl) (by rfl) ?_; intro w23 b23 f23; obtain ⟨c0, c1, c2, c3, c4, c5⟩ := b23.six)
            all_goals
              have F23 := hid (laid_down F22.out f23)
              clear b23 f23
              have hm1 : (b == 0) = false := by simpa using h3
              go_quiet (fail)
              have F24 := hid (F23.out.drewN nq)
              go_wp2_with fail
              go_ret
              refine ⟨?_, F24.out⟩
              first
                | (have ha := ‹a = -9223372036854775808›
                   simp
                   exact quot_rest_low b)
                | (try simp only [HQR.out]
                   first | rfl | simp)
        · subst h16
          go_wp2_with (refine wpList_storeV X (by rfl) _ _ (by rfl) C18.out (by rfl) (by rfl) ?_; intro w19 b19 f19; have C19 := hid b19; have B19 := hid (f19.blk B18.out (by have := HNe.out; omega)); obtain ⟨c0, c1, c2, c3, c4, c5⟩ := B19.out.six; obtain ⟨d0, d1, d2, d3, d4, d5⟩ := C19.out.six)
          have F19 := hid (F18.out.trans f19 (fun i hi => .inr (by rw [hi]; exact HCw.out)))
          clear b19 f19 B18 C18 F18 c0 c1 c2 c3 c4 c5 d0 d1 d2 d3 d4 d5 B19 C19
          refine (whole_any _ a).mono ?_
          rintro e w20 ⟨rfl, f20⟩
          go_wp2_with fail
          refine (whole_any _ b).mono ?_
          rintro e w21 ⟨rfl, f21⟩
          have F21 := hid (F19.out.trans (f20.trans f21 (fun _ h => h.elim)) (fun _ h => h.elim))
          clear f20 f21 F19
          go_wp2_with fail
          refine (HQ.out _).mono ?_
          rintro e w22 ⟨rfl, f22⟩
          have F22 := hid (F21.out.trans f22 (fun _ h => h.elim))
          have HBz := hid (vBlk w22 vZ)
          clear f22 F21 HQ
          rcases HC.out with ⟨h1, h2, h3⟩ | ⟨h1, h2, h3, h4, h5⟩ | ⟨h1, h2, h3, h4, h5⟩
          · subst h1
            subst h2
            subst h3
            go_wp2_with (refine wpList_storeV _ (by rfl) _ _ (by rfl) HBz.out (by rfl) (by rfl) ?_; intro w23 b23 f23)
            have F23 := hid (laid_down F22.out f23)
            clear b23 f23
            go_wp2_with fail
            go_ret
            exact ⟨rfl, F23.out⟩
          · subst h1
            subst h2
            subst h3
            subst h4
            go_wp2_with (refine wpList_storeV _ (by rfl) _ _ (by rfl) HBz.out (by rfl) (by rfl) ?_; intro w23 b23 f23)
            have F23 := hid (laid_down F22.out f23)
            clear b23 f23
            go_wp2_with fail
            go_ret
            exact ⟨rfl, F23.out⟩
          · subst h1
            subst h2
            have HC5 := hid h5
            have h4' : (a == -9223372036854775808) = true → (b == -1) = false := by simpa using h4
            have HQR := hid (quot_rest (b := b) HAB.out.1)
            clear h4 h5
            go_wp2_with (refine wpList_storeV _ (by rfl) _ _ (by rfl) HBz.out (by rfl) (by rfl) ?_; intro w23 b23 f23; obtain ⟨c0, c1, c2, c3, c4, c5⟩ := b23.six)
            all_goals
              have F23 := hid (laid_down F22.out f23)
              clear b23 f23
              have hm1 : (b == 0) = false := by simpa using h3
              go_quiet (fail)
              have F24 := hid (F23.out.drewN nq)
              go_wp2_with fail
              go_ret
              refine ⟨?_, F24.out⟩
              first
                | (have ha := ‹a = -9223372036854775808›
                   simp
                   exact quot_rest_low b)
                | (try simp only [HQR.out]
                   first | rfl | simp)
    · skip
      cases ho
      rw [if_pos (by rfl)]
      go_simp
      have HD1 := hid (HD0.out.alloc (.cells #[.int .i64 0, .int .i64 0, .float .f64 0, .string ⟨#[]⟩, .slice none 0 0, .slice none 0 0] 26))
      refine hK.out _ _ (HK.out _ HD1.out) ?_
      clear hK K'
      try simp only [Act.put, List.setIfInBounds_toArray, List.set_cons_zero, List.set_cons_succ]
      refine oneH (i := 2) (by kernel_rfl) (fun o ho K' hK => ?_) (by decide)
      cases ho
      rw [if_pos (by rfl)]
      go_simp
      refine (whole_any _ b).mono ?_
      rintro e w9 ⟨rfl, f1⟩
      have HD2 := hid (HD1.out.trans f1 (fun _ h => h.elim))
      have HBY : Hid (Blk w9 w8.heap.size 26 vZ.cs) := f1.blk (vBlk w8.drew vZ) (fun h => h)
      refine hK.out _ _ (HK.out _ HD2.out) ?_
      clear hK K'
      try simp only [Act.put, List.setIfInBounds_toArray, List.set_cons_zero, List.set_cons_succ]
      clear f1
      refine oneH (i := 3) (by kernel_rfl) (fun o ho K' hK => ?_) (by decide)
      cases ho
      rw [if_pos (by rfl)]
      go_simp
      refine (HD.out _).mono ?_
      rintro e w10 ⟨rfl, f2⟩
      have HD3 := hid (HD2.out.trans f2 (fun _ h => h.elim))
      have HBZ := hid (f2.blk HBY.out (fun h => h))
      refine hK.out _ _ (HK.out _ HD3.out) ?_
      clear hK K'
      try simp only [Act.put, List.setIfInBounds_toArray, List.set_cons_zero, List.set_cons_succ]
      clear f2
      have HN := hid (show w8.heap.size ≤ w8.drew.heap.size from Nat.le_refl _)
      refine takeH (i := 4) (d := some 46) (.tuple #[(vI a).v, .int .i64 0]) rfl (by kernel_rfl) (by kernel_rfl) (by kernel_rfl) (fun _ _ _ _ h => h) (HK.out _ HD3.out) (fun o ho => by cases ho; exact .inl ⟨by rfl, fun w hSw => by (obtain ⟨hs0, hs1, hs2, hs3, hs4, hs5⟩ := hSw; go_simp)⟩) ?_
      simp only [Act.put, List.setIfInBounds_toArray, List.set_cons_zero, List.set_cons_succ]
      refine takeH (i := 5) (d := some 51) ((vI a).v) rfl (by kernel_rfl) (by kernel_rfl) (by kernel_rfl) (fun _ _ _ _ h => h) (HK.out _ HD3.out) (fun o ho => by cases ho; exact .inl ⟨by rfl, fun w hSw => by (obtain ⟨hs0, hs1, hs2, hs3, hs4, hs5⟩ := hSw; go_simp)⟩) ?_
      simp only [Act.put, List.setIfInBounds_toArray, List.set_cons_zero, List.set_cons_succ]
      refine takeH (i := 6) (d := some 52) (.int .i64 0) rfl (by kernel_rfl) (by kernel_rfl) (by kernel_rfl) (fun _ _ _ _ h => h) (HK.out _ HD3.out) (fun o ho => by cases ho; exact .inl ⟨by rfl, fun w hSw => by (obtain ⟨hs0, hs1, hs2, hs3, hs4, hs5⟩ := hSw; go_simp)⟩) ?_
      simp only [Act.put, List.setIfInBounds_toArray, List.set_cons_zero, List.set_cons_succ]
      refine oneH (i := 8) (by kernel_rfl) (fun o ho K' hK => ?_) (by decide)
      cases ho
      rw [if_pos (by rfl)]
      refine wp_storeV (vI a) _ _ (by rfl) HBZ.out (by rfl) (by rfl) (by rfl) ?_
      intro w11 b11 f11
      have HE := hid (And.intro b11 (HD3.out.trans f11 (fun i hi => .inl (by rw [hi]; exact HN.out))))
      refine hK.out _ _ (HK.out _ HE.out.2) ?_
      clear hK K' b11 f11
      try simp only [Act.put, List.setIfInBounds_toArray, List.set_cons_zero, List.set_cons_succ]
      refine takeH (i := 9) (d := some 11) (.int .i64 0) rfl (by kernel_rfl) (by kernel_rfl) (by kernel_rfl) (fun _ _ _ _ h => h) (HK.out _ HE.out.2) (fun o ho => by cases ho; exact .inl ⟨by rfl, fun w hSw => by (obtain ⟨hs0, hs1, hs2, hs3, hs4, hs5⟩ := hSw; go_simp)⟩) ?_
      simp only [Act.put, List.setIfInBounds_toArray, List.set_cons_zero, List.set_cons_succ]
      refine wpAnyH_done (by kernel_rfl) (NoPanic.normal ?_) _
      have B11 := hid (HE.out.2.blk B8.out (by omega))
      have C11 := hid (HE.out.2.blk C8.out (by omega))
      have F11 : Hid (Fr (fun _ => False) w w11) := F8.out.trans HE.out.2 (fun i hi => .inr (Nat.le_trans F8.out.size hi))
      obtain ⟨d0, d1, d2, d3, d4, d5⟩ := HE.out.1.six
      clear HBZ HN HE HK B8 C8 F8 HD hA8 hC8
      go_wp2_with fail
      clear d0 d1 d2 d3 d4 d5
      refine (whole_any _ a).mono ?_
      rintro e w12 ⟨rfl, f12⟩
      go_wp2_with fail
      refine (whole_any _ b).mono ?_
      rintro e w13 ⟨rfl, f13⟩
      have G13 := hid (f12.trans f13 (fun _ h => h.elim))
      clear f12 f13
      go_wp2_with fail
      refine (HM.out _).mono ?_
      rintro e w14 ⟨rfl, f14⟩
      have G14 := hid (G13.out.trans f14 (fun _ h => h.elim))
      have B14 := hid (G14.out.blk B11.out (fun h => h))
      have C14 := hid (G14.out.blk C11.out (fun h => h))
      have F14 := hid (F11.out.trans G14.out (fun _ h => h.elim))
      clear f14 G13 G14 B11 C11 F11 HM
      go_wp2_with (refine wpList_storeV X (by rfl) _ _ (by rfl) B14.out (by rfl) (by rfl) ?_; intro w15 b15 f15)
      have C15 := hid (f15.blk C14.out (by have := HNe.out; omega))
      have B15 := hid b15
      have F15 := hid (F14.out.trans f15 (fun i hi => .inr (by rw [hi]; exact HAw.out)))
      clear b15 f15 B14 C14 F14
      go_wp2_with fail
      refine (whole_any _ b).mono ?_
      rintro e w16 ⟨rfl, f16⟩
      go_wp2_with fail
      refine (whole_any _ a).mono ?_
      rintro e w17 ⟨rfl, f17⟩
      have G17 := hid (f16.trans f17 (fun _ h => h.elim))
      clear f16 f17
      go_wp2_with fail
      refine (HM2.out _).mono ?_
      rintro e w18 ⟨rfl, f18⟩
      have G18 := hid (G17.out.trans f18 (fun _ h => h.elim))
      have B18 := hid (G18.out.blk B15.out (fun h => h))
      have C18 := hid (G18.out.blk C15.out (fun h => h))
      have F18 := hid (F15.out.trans G18.out (fun _ h => h.elim))
      clear f18 G17 G18 B15 C15 F15 HM2
      rcases HEr.out with h16 | h16
      · subst h16
        go_wp2_with (refine wpList_storeV X (by rfl) _ _ (by rfl) C18.out (by rfl) (by rfl) ?_; intro w19 b19 f19; have C19 := hid b19; have B19 := hid (f19.blk B18.out (by have := HNe.out; omega)); obtain ⟨c0, c1, c2, c3, c4, c5⟩ := B19.out.six; obtain ⟨d0, d1, d2, d3, d4, d5⟩ := C19.out.six)
        have F19 := hid (F18.out.trans f19 (fun i hi => .inr (by rw [hi]; exact HCw.out)))
        clear b19 f19 B18 C18 F18 c0 c1 c2 c3 c4 c5 d0 d1 d2 d3 d4 d5 B19 C19
        refine (whole_any _ a).mono ?_
        rintro e w20 ⟨rfl, f20⟩
        go_wp2_with fail
        refine (whole_any _ b).mono ?_
        rintro e w21 ⟨rfl, f21⟩
        have F21 := hid (F19.out.trans (f20.trans f21 (fun _ h => h.elim)) (fun _ h => h.elim))
        clear f20 f21 F19
        go_wp2_with fail
        refine (HQ.out _).mono ?_
        rintro e w22 ⟨rfl, f22⟩
        have F22 := hid (F21.out.trans f22 (fun _ h => h.elim))
        have HBz := hid (vBlk w22 vZ)
        clear f22 F21 HQ
        rcases HC.out with ⟨h1, h2, h3⟩ | ⟨h1, h2, h3, h4, h5⟩ | ⟨h1, h2, h3, h4, h5⟩
        · subst h1
          subst h2
          subst h3
          go_wp2_with (refine wpList_storeV _ (by rfl) _ _ (by rfl) HBz.out (by rfl) (by rfl) ?_; intro w23 b23 f23)
          have F23 := hid (laid_down F22.out f23)
          clear b23 f23
          go_wp2_with fail
          go_ret
          exact ⟨rfl, F23.out⟩
        · subst h1
          subst h2
          subst h3
          subst h4
          go_wp2_with (refine wpList_storeV _ (by rfl) _ _ (by rfl) HBz.out (by rfl) (by rfl) ?_; intro w23 b23 f23)
          have F23 := hid (laid_down F22.out f23)
          clear b23 f23
          go_wp2_with fail
          go_ret
          exact ⟨rfl, F23.out⟩
        · subst h1
          subst h2
          have HC5 := hid h5
          have h4' : (a == -9223372036854775808) = true → (b == -1) = false := by simpa using h4
          have HQR := hid (quot_rest (b := b) HAB.out.1)
          clear h4 h5
          go_wp2_with (refine wpList_storeV _ (by rfl) _ _ (by rfl) HBz.out (by rfl) (by rfl) ?_; intro w23 b23 f23; obtain ⟨c0, c1, c2, c3, c4, c5⟩ := b23.six)
          all_goals
            have F23 := hid (laid_down F22.out f23)
            clear b23 f23
            have hm1 : (b == 0) = false := by simpa using h3
            go_quiet (fail)
            have F24 := hid (F23.out.drewN nq)
            go_wp2_with fail
            go_ret
            refine ⟨?_, F24.out⟩
            first
              | (have ha := ‹a = -9223372036854775808›
                 simp
                 exact quot_rest_low b)
              | (try simp only [HQR.out]
                 first | rfl | simp)
      · subst h16
        go_wp2_with (refine wpList_storeV X (by rfl) _ _ (by rfl) C18.out (by rfl) (by rfl) ?_; intro w19 b19 f19; have C19 := hid b19; have B19 := hid (f19.blk B18.out (by have := HNe.out; omega)); obtain ⟨c0, c1, c2, c3, c4, c5⟩ := B19.out.six; obtain ⟨d0, d1, d2, d3, d4, d5⟩ := C19.out.six)
        have F19 := hid (F18.out.trans f19 (fun i hi => .inr (by rw [hi]; exact HCw.out)))
        clear b19 f19 B18 C18 F18 c0 c1 c2 c3 c4 c5 d0 d1 d2 d3 d4 d5 B19 C19
        refine (whole_any _ a).mono ?_
        rintro e w20 ⟨rfl, f20⟩
        go_wp2_with fail
        refine (whole_any _ b).mono ?_
        rintro e w21 ⟨rfl, f21⟩
        have F21 := hid (F19.out.trans (f20.trans f21 (fun _ h => h.elim)) (fun _ h => h.elim))
        clear f20 f21 F19
        go_wp2_with fail
        refine (HQ.out _).mono ?_
        rintro e w22 ⟨rfl, f22⟩
        have F22 := hid (F21.out.trans f22 (fun _ h => h.elim))
        have HBz := hid (vBlk w22 vZ)
        clear f22 F21 HQ
        rcases HC.out with ⟨h1, h2, h3⟩ | ⟨h1, h2, h3, h4, h5⟩ | ⟨h1, h2, h3, h4, h5⟩
        · subst h1
          subst h2
          subst h3
          go_wp2_with (refine wpList_storeV _ (by rfl) _ _ (by rfl) HBz.out (by rfl) (by rfl) ?_; intro w23 b23 f23)
          have F23 := hid (laid_down F22.out f23)
          clear b23 f23
          go_wp2_with fail
          go_ret
          exact ⟨rfl, F23.out⟩
        · subst h1
          subst h2
          subst h3
          subst h4
          go_wp2_with (refine wpList_storeV _ (by rfl) _ _ (by rfl) HBz.out (by rfl) (by rfl) ?_; intro w23 b23 f23)
          have F23 := hid (laid_down F22.out f23)
          clear b23 f23
          go_wp2_with fail
          go_ret
          exact ⟨rfl, F23.out⟩
        · subst h1
          subst h2
          have HC5 := hid h5
          have h4' : (a == -9223372036854775808) = true → (b == -1) = false := by simpa using h4
          have HQR := hid (quot_rest (b := b) HAB.out.1)
          clear h4 h5
          go_wp2_with (refine wpList_storeV _ (by rfl) _ _ (by rfl) HBz.out (by rfl) (by rfl) ?_; intro w23 b23 f23; obtain ⟨c0, c1, c2, c3, c4, c5⟩ := b23.six)
          all_goals
            have F23 := hid (laid_down F22.out f23)
            clear b23 f23
            have hm1 : (b == 0) = false := by simpa using h3
            go_quiet (fail)
            have F24 := hid (F23.out.drewN nq)
            go_wp2_with fail
            go_ret
            refine ⟨?_, F24.out⟩
            first
              | (have ha := ‹a = -9223372036854775808›
                 simp
                 exact quot_rest_low b)
              | (try simp only [HQR.out]
                 first | rfl | simp)
  · rw [if_neg hp, if_neg hp] at HP HP2
    have HAB := hid (And.intro ha hb)
    clear hp ha hb hT
    go_enter Tryz.func6, Tryz.ntmps6
    go_wp2_with fail
    refine HS.out.mono ?_
    rintro e w0 ⟨rfl, f0⟩
    have F0 := hid f0
    clear f0 HS
    go_wp2_with fail
    refine (whole_any _ a).mono ?_
    rintro e w1 ⟨rfl, f1⟩
    go_wp2_with fail
    refine (whole_any _ b).mono ?_
    rintro e w2 ⟨rfl, f2⟩
    go_wp2_with fail
    refine (HP.out _).mono ?_
    rintro e w3 ⟨rfl, f3⟩
    have F3 := hid (F0.out.trans (f1.trans (f2.trans f3 (fun _ h => h.elim)) (fun _ h => h.elim)) (fun _ h => h.elim))
    have HBz := hid (vBlk w3 vZ)
    have HFs3 := hid F3.out.size
    clear f1 f2 f3 F0 HP
    go_wp2_with (refine wpList_storeV vZ (by rfl) _ _ (by rfl) HBz.out (by rfl) (by rfl) ?_; intro w4 b4 f4)
    have F4 := hid (laid_down F3.out f4)
    have B4 := hid b4
    clear f4 b4 HBz F3
    have HAw : Hid (w.heap.size ≤ w3.heap.size) := HFs3.out
    generalize w3.heap.size = A at *
    go_wp2_with fail
    refine (whole_any _ b).mono ?_
    rintro e w5 ⟨rfl, f5⟩
    go_wp2_with fail
    refine (whole_any _ a).mono ?_
    rintro e w6 ⟨rfl, f6⟩
    go_wp2_with fail
    refine (HP2.out _).mono ?_
    rintro e w7 ⟨rfl, f7⟩
    have G7 := hid (f5.trans (f6.trans f7 (fun _ h => h.elim)) (fun _ h => h.elim))
    have B7 := hid (G7.out.blk B4.out (fun h => h))
    have F7 := hid (F4.out.trans G7.out (fun _ h => h.elim))
    have HBz := hid (vBlk w7 vZ)
    clear f5 f6 f7 G7 B4 F4 HP2
    go_wp2_with (refine wpList_storeV vZ (by rfl) _ _ (by rfl) HBz.out (by rfl) (by rfl) ?_; intro w8 b8 f8; have C8 := hid b8; have B8 := hid (f8.blk (B7.out.alloc _) (by have := B7.out.lt; omega)); obtain ⟨c0, c1, c2, c3, c4, c5⟩ := B8.out.six; obtain ⟨d0, d1, d2, d3, d4, d5⟩ := C8.out.six)
    have F8 := hid (laid_down F7.out f8)
    have HNe : Hid (A < w7.heap.size) := B7.out.lt
    have HCw : Hid (w.heap.size ≤ w7.heap.size) := F7.out.size
    clear f8 b8 HBz F7 B7
    generalize w7.heap.size = C at *
    have B11 := B8
    have C11 := C8
    have F11 := F8
    clear B8 C8 F8 c0 c1 c2 c3 c4 c5 d0 d1 d2 d3 d4 d5
    refine (whole_any _ a).mono ?_
    rintro e w12 ⟨rfl, f12⟩
    go_wp2_with fail
    refine (whole_any _ b).mono ?_
    rintro e w13 ⟨rfl, f13⟩
    have G13 := hid (f12.trans f13 (fun _ h => h.elim))
    clear f12 f13
    go_wp2_with fail
    refine (HM.out _).mono ?_
    rintro e w14 ⟨rfl, f14⟩
    have G14 := hid (G13.out.trans f14 (fun _ h => h.elim))
    have B14 := hid (G14.out.blk B11.out (fun h => h))
    have C14 := hid (G14.out.blk C11.out (fun h => h))
    have F14 := hid (F11.out.trans G14.out (fun _ h => h.elim))
    clear f14 G13 G14 B11 C11 F11 HM
    go_wp2_with (refine wpList_storeV X (by rfl) _ _ (by rfl) B14.out (by rfl) (by rfl) ?_; intro w15 b15 f15)
    have C15 := hid (f15.blk C14.out (by have := HNe.out; omega))
    have B15 := hid b15
    have F15 := hid (F14.out.trans f15 (fun i hi => .inr (by rw [hi]; exact HAw.out)))
    clear b15 f15 B14 C14 F14
    go_wp2_with fail
    refine (whole_any _ b).mono ?_
    rintro e w16 ⟨rfl, f16⟩
    go_wp2_with fail
    refine (whole_any _ a).mono ?_
    rintro e w17 ⟨rfl, f17⟩
    have G17 := hid (f16.trans f17 (fun _ h => h.elim))
    clear f16 f17
    go_wp2_with fail
    refine (HM2.out _).mono ?_
    rintro e w18 ⟨rfl, f18⟩
    have G18 := hid (G17.out.trans f18 (fun _ h => h.elim))
    have B18 := hid (G18.out.blk B15.out (fun h => h))
    have C18 := hid (G18.out.blk C15.out (fun h => h))
    have F18 := hid (F15.out.trans G18.out (fun _ h => h.elim))
    clear f18 G17 G18 B15 C15 F15 HM2
    rcases HEr.out with h16 | h16
    · subst h16
      go_wp2_with (refine wpList_storeV X (by rfl) _ _ (by rfl) C18.out (by rfl) (by rfl) ?_; intro w19 b19 f19; have C19 := hid b19; have B19 := hid (f19.blk B18.out (by have := HNe.out; omega)); obtain ⟨c0, c1, c2, c3, c4, c5⟩ := B19.out.six; obtain ⟨d0, d1, d2, d3, d4, d5⟩ := C19.out.six)
      have F19 := hid (F18.out.trans f19 (fun i hi => .inr (by rw [hi]; exact HCw.out)))
      clear b19 f19 B18 C18 F18 c0 c1 c2 c3 c4 c5 d0 d1 d2 d3 d4 d5 B19 C19
      refine (whole_any _ a).mono ?_
      rintro e w20 ⟨rfl, f20⟩
      go_wp2_with fail
      refine (whole_any _ b).mono ?_
      rintro e w21 ⟨rfl, f21⟩
      have F21 := hid (F19.out.trans (f20.trans f21 (fun _ h => h.elim)) (fun _ h => h.elim))
      clear f20 f21 F19
      go_wp2_with fail
      refine (HQ.out _).mono ?_
      rintro e w22 ⟨rfl, f22⟩
      have F22 := hid (F21.out.trans f22 (fun _ h => h.elim))
      have HBz := hid (vBlk w22 vZ)
      clear f22 F21 HQ
      rcases HC.out with ⟨h1, h2, h3⟩ | ⟨h1, h2, h3, h4, h5⟩ | ⟨h1, h2, h3, h4, h5⟩
      · subst h1
        subst h2
        subst h3
        go_wp2_with (refine wpList_storeV _ (by rfl) _ _ (by rfl) HBz.out (by rfl) (by rfl) ?_; intro w23 b23 f23)
        have F23 := hid (laid_down F22.out f23)
        clear b23 f23
        go_wp2_with fail
        go_ret
        exact ⟨rfl, F23.out⟩
      · subst h1
        subst h2
        subst h3
        subst h4
        go_wp2_with (refine wpList_storeV _ (by rfl) _ _ (by rfl) HBz.out (by rfl) (by rfl) ?_; intro w23 b23 f23)
        have F23 := hid (laid_down F22.out f23)
        clear b23 f23
        go_wp2_with fail
        go_ret
        exact ⟨rfl, F23.out⟩
      · subst h1
        subst h2
        have HC5 := hid h5
        have h4' : (a == -9223372036854775808) = true → (b == -1) = false := by simpa using h4
        have HQR := hid (quot_rest (b := b) HAB.out.1)
        clear h4 h5
        go_wp2_with (refine wpList_storeV _ (by rfl) _ _ (by rfl) HBz.out (by rfl) (by rfl) ?_; intro w23 b23 f23; obtain ⟨c0, c1, c2, c3, c4, c5⟩ := b23.six)
        all_goals
          have F23 := hid (laid_down F22.out f23)
          clear b23 f23
          have hm1 : (b == 0) = false := by simpa using h3
          go_quiet (fail)
          have F24 := hid (F23.out.drewN nq)
          go_wp2_with fail
          go_ret
          refine ⟨?_, F24.out⟩
          first
            | (have ha := ‹a = -9223372036854775808›
               simp
               exact quot_rest_low b)
            | (try simp only [HQR.out]
               first | rfl | simp)
    · subst h16
      go_wp2_with (refine wpList_storeV X (by rfl) _ _ (by rfl) C18.out (by rfl) (by rfl) ?_; intro w19 b19 f19; have C19 := hid b19; have B19 := hid (f19.blk B18.out (by have := HNe.out; omega)); obtain ⟨c0, c1, c2, c3, c4, c5⟩ := B19.out.six; obtain ⟨d0, d1, d2, d3, d4, d5⟩ := C19.out.six)
      have F19 := hid (F18.out.trans f19 (fun i hi => .inr (by rw [hi]; exact HCw.out)))
      clear b19 f19 B18 C18 F18 c0 c1 c2 c3 c4 c5 d0 d1 d2 d3 d4 d5 B19 C19
      refine (whole_any _ a).mono ?_
      rintro e w20 ⟨rfl, f20⟩
      go_wp2_with fail
      refine (whole_any _ b).mono ?_
      rintro e w21 ⟨rfl, f21⟩
      have F21 := hid (F19.out.trans (f20.trans f21 (fun _ h => h.elim)) (fun _ h => h.elim))
      clear f20 f21 F19
      go_wp2_with fail
      refine (HQ.out _).mono ?_
      rintro e w22 ⟨rfl, f22⟩
      have F22 := hid (F21.out.trans f22 (fun _ h => h.elim))
      have HBz := hid (vBlk w22 vZ)
      clear f22 F21 HQ
      rcases HC.out with ⟨h1, h2, h3⟩ | ⟨h1, h2, h3, h4, h5⟩ | ⟨h1, h2, h3, h4, h5⟩
      · subst h1
        subst h2
        subst h3
        go_wp2_with (refine wpList_storeV _ (by rfl) _ _ (by rfl) HBz.out (by rfl) (by rfl) ?_; intro w23 b23 f23)
        have F23 := hid (laid_down F22.out f23)
        clear b23 f23
        go_wp2_with fail
        go_ret
        exact ⟨rfl, F23.out⟩
      · subst h1
        subst h2
        subst h3
        subst h4
        go_wp2_with (refine wpList_storeV _ (by rfl) _ _ (by rfl) HBz.out (by rfl) (by rfl) ?_; intro w23 b23 f23)
        have F23 := hid (laid_down F22.out f23)
        clear b23 f23
        go_wp2_with fail
        go_ret
        exact ⟨rfl, F23.out⟩
      · subst h1
        subst h2
        have HC5 := hid h5
        have h4' : (a == -9223372036854775808) = true → (b == -1) = false := by simpa using h4
        have HQR := hid (quot_rest (b := b) HAB.out.1)
        clear h4 h5
        go_wp2_with (refine wpList_storeV _ (by rfl) _ _ (by rfl) HBz.out (by rfl) (by rfl) ?_; intro w23 b23 f23; obtain ⟨c0, c1, c2, c3, c4, c5⟩ := b23.six)
        all_goals
          have F23 := hid (laid_down F22.out f23)
          clear b23 f23
          have hm1 : (b == 0) = false := by simpa using h3
          go_quiet (fail)
          have F24 := hid (F23.out.drewN nq)
          go_wp2_with fail
          go_ret
          refine ⟨?_, F24.out⟩
          first
            | (have ha := ‹a = -9223372036854775808›
               simp
               exact quot_rest_low b)
            | (try simp only [HQR.out]
               first | rfl | simp)
end Go.Proofs.YtlepjghfcpgbcaaGreatDoor.Tr
