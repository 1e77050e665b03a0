/- The walk of ValueLists. -/
import Derived.Test.YtlepjghfcpgbcaaGreatDoorRcl
import Derived.Test.YtlepjghfcpgbcaaGreatDoorOdd
import Derived.Test.YtlepjghfcpgbcaaGreatDoorCpw
namespace Go.Proofs.YtlepjghfcpgbcaaGreatDoor.Tr
open Go.RowKit

/-- A right list has at most 256 items. -/
theorem rt_items {v : Vt} (h : rtB v 32 = true) (h5 : v.k = 5) : v.its.length ≤ 256 := by
  cases v with
  | mk k n f t ns its =>
    simp only [Vt.k] at h5
    subst h5
    rw [rtB, if_pos rfl] at h
    simp only [Bool.and_eq_true, decide_eq_true_eq] at h
    exact h.1.1.2
theorem box_fr {w1 w2 : World} (f2 : Fr (· = w1.heap.size) (vBox w1 vZ) w2) : Fr (fun _ => False) w1 w2 :=
  ((vFr w1 vZ).trans f2 (fun i hi => .inr (by omega)))

def LsSt (w w6 : World) (N vb : Nat) (x y xv : Vv) (iv : Value) (wr : World) : Prop := ∃ i : Nat, i ≤ N ∧ iv = .int .i64 (i : Int) ∧ Fr (fun _ => False) w6 wr ∧ Blk wr w.heap.size 26 x.cs ∧ Blk wr (w.heap.size + 1) 26 y.cs ∧ Blk wr vb 26 xv.cs

/-- What must be known for the walk of the main part. -/
structure LsK (w : World) (u v : Vt) (x y : Vv) (X Y : List Vv) : Prop where
  hx : VIn w u x
  hy : VIn w v y
  hX : X.length = u.its.length
  hY : Y.length = v.its.length

set_option maxRecDepth 100000 in
set_option maxHeartbeats 8000000 in
theorem lists_walk (w : World) (u v : Vt) (x y : Vv) (hx : VIn w u x) (hy : VIn w v y) (hT : Tw w) : Calls Tryz.prog 12 #[x.v, y.v] w fun e w' => e = .returned (.bool true) ∧ Fr (fun _ => False) w w' := by
  have HB := hid (two_blk w x y)
  have HF := hid (two_fr w x y)
  have HS := hid (shown_any _ (hT.env (Env.of (two_fr w x y))))
  have HSa : Hid (∀ W, Env w W → Calls Tryz.prog 15 #[x.v, .int .i64 3000] W fun e w' => e = .returned (.int .i64 (smF u 3000)) ∧ Fr (fun _ => False) W w') := fun W e => small_any _ u (Nat.le_refl _) x W 3000 (VIn.env e _ _ hx) (by omega) (by omega)
  have HSb : Hid (∀ W, Env w W → Calls Tryz.prog 15 #[y.v, .int .i64 3000] W fun e w' => e = .returned (.int .i64 (smF v 3000)) ∧ Fr (fun _ => False) W w') := fun W e => small_any _ v (Nat.le_refl _) y W 3000 (VIn.env e _ _ hy) (by omega) (by omega)
  have HRa : Hid (RightOf w x (rtB u 32)) := right_any hx
  have HRb : Hid (RightOf w y (rtB v 32)) := right_any hy
  have HE : Hid (∀ W, Env w W → Calls Tryz.prog 25 #[x.v, x.v] W fun e w' => e = .returned (.tuple #[.bool (if (rtB u 32 && rtB u 32) = true then (eqV u u).1 else false), .int .i64 (if (rtB u 32 && rtB u 32) = true then (eqV u u).2 else 1)]) ∧ Fr (fun _ => False) W w') := fun W e => Equal_any W x x _ _ _ (right_any (VIn.env e _ _ hx)) (right_any (VIn.env e _ _ hx)) (fun _ _ => equal_of (VIn.env e _ _ hx) (VIn.env e _ _ hx))
  have HO : Hid (∀ W, Env w W → Calls Tryz.prog 41 #[x.v] W fun e w' => e = .returned (.bool (oddB u)) ∧ Fr (fun _ => False) W w') := fun W e => odd_any (VIn.env e _ _ hx)
  have HEO := hid (eq_or_odd u)
  obtain ⟨X, hXl, hXc, hXv⟩ := hx.parts.2.2.2.2.fields
  obtain ⟨Y, hYl, hYc, hYv⟩ := hy.parts.2.2.2.2.fields
  have hk1 : x.k = u.k := hx.parts.1.1
  have hk2 : y.k = v.k := hy.parts.1.1
  have hil1 : x.il = X.length := by rw [hXl]; exact hx.parts.2.2.2.1.1
  have hil2 : y.il = Y.length := by rw [hYl]; exact hy.parts.2.2.2.1.1
  have HI1 := hid (fun (h : rtB u 32 = true) (h5 : x.k = 5) => rt_items h (hk1.symm.trans h5))
  have HI2 := hid (fun (h : rtB v 32 = true) (h5 : y.k = 5) => rt_items h (hk2.symm.trans h5))
  rw [← hXl] at HI1
  rw [← hYl] at HI2
  have HRk : Hid (∀ W, Env w W → rtB u 32 = true → rtB v 32 = true → x.k = 5 → y.k = 5 → X.length ≤ 256 → Y.length ≤ 256 → Calls Tryz.prog 31 #[.string ⟨#[43, 43]⟩, x.v, y.v] W (CatPost W X Y)) := fun W e h1 h2 h3 h4 h5 h6 => reckon_cat W x y X Y (h1 ▸ right_any (VIn.env e _ _ hx)) (h2 ▸ right_any (VIn.env e _ _ hy)) h3 h4 hil1 hil2 (SrcV.env hXc e) (SrcV.env hYc e) h5 h6
  have HX := hid hXv
  have HY := hid hYv
  have HXl := hid hXl
  have HYl := hid hYl
  have HVx := hid hx
  have HVy := hid hy
  clear hx hy hT hXc hYc hXv hYv hXl hYl hk1 hk2
  generalize smF u 3000 = m1 at *
  generalize smF v 3000 = m2 at *
  generalize rtB u 32 = r1 at *
  generalize rtB v 32 = r2 at *
  generalize eqV u u = Q at *
  generalize oddB u = od at *
  obtain ⟨k, n, f, t, na, nl, nc, ia, il, ic⟩ := x
  obtain ⟨k', n', f', t', na', nl', nc', ia', il', ic'⟩ := y
  simp only at hil1 hil2
  subst hil1 hil2
  unfold RightOf at HRa HRb
  simp only [Vv.v] at *
  go_enter Tryz.func12, Tryz.ntmps12
  go_wp2_with fail
  refine HS.out.mono ?_
  rintro e w1 ⟨rfl, f1⟩
  have HB1 := hid (And.intro (f1.blk HB.out.1 (fun h => h)) (f1.blk HB.out.2 (fun h => h)))
  have HF1 := hid (HF.out.trans f1 (fun _ h => h.elim))
  clear f1 HB HF HS
  obtain ⟨c0, c1, c2, c3, c4, c5⟩ := HB1.out.1.six
  obtain ⟨d0, d1, d2, d3, d4, d5⟩ := HB1.out.2.six
  go_wp2_with fail
  refine (HSa.out _ (Env.of HF1.out)).mono ?_
  rintro e w2 ⟨rfl, f2⟩
  have HB2 := hid (And.intro (f2.blk HB1.out.1 (fun h => h)) (f2.blk HB1.out.2 (fun h => h)))
  have HF2 := hid (HF1.out.trans f2 (fun _ h => h.elim))
  clear f2 HB1 HF1 HSa c0 c1 c2 c3 c4 c5 d0 d1 d2 d3 d4 d5
  by_cases h1 : m1 = 0
  · subst h1
    go_wp2_with fail
    go_ret
    exact ⟨rfl, HF2.out⟩
  have h1' : (m1 == 0) = false := by simpa using h1
  clear h1
  obtain ⟨c0, c1, c2, c3, c4, c5⟩ := HB2.out.1.six
  obtain ⟨d0, d1, d2, d3, d4, d5⟩ := HB2.out.2.six
  go_wp2_with fail
  refine (HSb.out _ (Env.of HF2.out)).mono ?_
  rintro e w3 ⟨rfl, f3⟩
  have HB3 := hid (And.intro (f3.blk HB2.out.1 (fun h => h)) (f3.blk HB2.out.2 (fun h => h)))
  have HF3 := hid (HF2.out.trans f3 (fun _ h => h.elim))
  clear f3 HB2 HF2 HSb c0 c1 c2 c3 c4 c5 d0 d1 d2 d3 d4 d5
  by_cases h2 : m2 = 0
  · subst h2
    go_wp2_with fail
    go_ret
    exact ⟨rfl, HF3.out⟩
  have h2' : (m2 == 0) = false := by simpa using h2
  clear h2
  obtain ⟨c0, c1, c2, c3, c4, c5⟩ := HB3.out.1.six
  obtain ⟨d0, d1, d2, d3, d4, d5⟩ := HB3.out.2.six
  go_wp2_with fail
  refine (HRa.out _ (Env.of HF3.out)).mono ?_
  rintro e w4 ⟨rfl, f4⟩
  have HB4 := hid (And.intro (f4.blk HB3.out.1 (fun h => h)) (f4.blk HB3.out.2 (fun h => h)))
  have HF4 := hid (HF3.out.trans f4 (fun _ h => h.elim))
  clear f4 HB3 HF3 HRa c0 c1 c2 c3 c4 c5 d0 d1 d2 d3 d4 d5
  cases r1 with
  | false =>
    go_wp2_with fail
    go_ret
    exact ⟨rfl, HF4.out⟩
  | true =>
  obtain ⟨c0, c1, c2, c3, c4, c5⟩ := HB4.out.1.six
  obtain ⟨d0, d1, d2, d3, d4, d5⟩ := HB4.out.2.six
  go_wp2_with fail
  refine (HRb.out _ (Env.of HF4.out)).mono ?_
  rintro e w5 ⟨rfl, f5⟩
  have HB5 := hid (And.intro (f5.blk HB4.out.1 (fun h => h)) (f5.blk HB4.out.2 (fun h => h)))
  have HF5 := hid (HF4.out.trans f5 (fun _ h => h.elim))
  clear f5 HB4 HF4 HRb c0 c1 c2 c3 c4 c5 d0 d1 d2 d3 d4 d5
  obtain ⟨c0, c1, c2, c3, c4, c5⟩ := HB5.out.1.six
  obtain ⟨d0, d1, d2, d3, d4, d5⟩ := HB5.out.2.six
  cases r2 with
  | false =>
    go_wp2_with fail
    go_ret
    exact ⟨rfl, HF5.out⟩
  | true =>
  by_cases h5 : k = 5
  case neg =>
    have h5' : (k != 5) = true := by simpa using h5
    go_wp2_with fail
    go_ret
    exact ⟨rfl, HF5.out⟩
  by_cases h6 : k' = 5
  case neg =>
    subst h5
    have h6' : (k' != 5) = true := by simpa using h6
    go_wp2_with fail
    go_ret
    exact ⟨rfl, HF5.out⟩
  subst h5 h6
  have hXb : X.length ≤ 256 := HI1.out (by first | rfl | trivial) (by first | rfl | trivial)
  have hYb : Y.length ≤ 256 := HI2.out (by first | rfl | trivial) (by first | rfl | trivial)
  have HRK := hid (HRk.out w5 (Env.of HF5.out) (by first | rfl | trivial) (by first | rfl | trivial) (by first | rfl | trivial) (by first | rfl | trivial) hXb hYb)
  clear HRk HI1 HI2
  go_wp2_with fail
  refine HRK.out.mono ?_
  clear HRK
  rintro e w6 ⟨f6, ⟨hgt, rfl⟩ | ⟨hle, ja, jc, rfl, ho⟩⟩
  · have HB6 := hid (And.intro (f6.blk HB5.out.1 (fun h => h)) (f6.blk HB5.out.2 (fun h => h)))
    have HF6 := hid (HF5.out.trans f6 (fun _ h => h.elim))
    have HBz := hid (vBlk w6 vZ)
    clear f6 HB5 HF5 c0 c1 c2 c3 c4 c5 d0 d1 d2 d3 d4 d5
    have hg' : ((X.length : Nat) : Int) + ((Y.length : Nat) : Int) > 256 := by omega
    go_wp2_with (refine wpList_storeV vZ (by rfl) _ _ (by rfl) HBz.out (by rfl) (by rfl) ?_; intro w7 b7 f7; have HF7 := hid (box_fr f7); have HB7 := hid (And.intro (HF7.out.blk HB6.out.1 (fun h => h)) (HF7.out.blk HB6.out.2 (fun h => h))); clear b7 f7; obtain ⟨c0, c1, c2, c3, c4, c5⟩ := HB7.out.1.six; obtain ⟨d0, d1, d2, d3, d4, d5⟩ := HB7.out.2.six)
    go_ret
    exact ⟨rfl, HF6.out.trans HF7.out (fun _ h => h.elim)⟩
  · have HB6 := hid (And.intro (f6.blk HB5.out.1 (fun h => h)) (f6.blk HB5.out.2 (fun h => h)))
    have HF6 := hid (HF5.out.trans f6 (fun _ h => h.elim))
    have HBz := hid (vBlk w6 vZ)
    have ho' : w6.ownsRow w5.heap.size 26 6 (.slice ja (X.length + Y.length) jc) (u.its ++ v.its).length (flatV (X ++ Y)) := by rw [List.length_append, ← HXl.out, ← HYl.out]; exact ho
    obtain ⟨ja', jc', e', hvin⟩ := vin_of_own ho' (by rw [List.length_append, List.length_append, HXl.out, HYl.out]) (fun i h1 h2 => by
      by_cases hi : i < u.its.length
      · rw [List.getElem_append_left hi, List.getElem_append_left (by rw [HXl.out]; exact hi)]
        exact VIn.env (Env.of HF6.out) _ _ (HX.out i hi _)
      · rw [List.getElem_append_right (by omega), List.getElem_append_right (by rw [HXl.out]; omega)]
        have := HY.out (i - u.its.length) (by rw [List.length_append] at h1; omega) (by rw [HYl.out]; rw [List.length_append] at h1; omega)
        simp only [HXl.out]
        exact VIn.env (Env.of HF6.out) _ _ this) (by rw [List.length_append, ← HXl.out, ← HYl.out]; omega)
    have e2 : (u.its ++ v.its).length = X.length + Y.length := by rw [List.length_append, HXl.out, HYl.out]
    rw [e2] at e' hvin
    simp only [Value.slice.injEq, true_and] at e'
    obtain ⟨rfl, rfl⟩ := e'
    have HVI := hid hvin
    clear f6 HB5 HF5 c0 c1 c2 c3 c4 c5 d0 d1 d2 d3 d4 d5 ho ho' hvin e2
    have hg' : ¬ (((X.length : Nat) : Int) + ((Y.length : Nat) : Int) > 256) := by omega
    have hq' : (((X.length + Y.length : Nat) : Int) != ((X.length : Nat) : Int) + ((Y.length : Nat) : Int)) = false := by simp
    go_wp2_with (refine wpList_storeV ⟨5, 0, 0, [], none, 0, 0, ja, X.length + Y.length, jc⟩ (by rfl) _ _ (by rfl) HBz.out (by rfl) (by rfl) ?_; intro w7 b7 f7; have HF7 := hid (box_fr f7); have HB7 := hid (And.intro (HF7.out.blk HB6.out.1 (fun h => h)) (HF7.out.blk HB6.out.2 (fun h => h))); have HV7 := hid b7; clear b7 f7; obtain ⟨c0, c1, c2, c3, c4, c5⟩ := HB7.out.1.six; obtain ⟨d0, d1, d2, d3, d4, d5⟩ := HB7.out.2.six; obtain ⟨g0, g1, g2, g3, g4, g5⟩ := HV7.out.six)
    clear c0 c1 c2 c3 c4 c5 d0 d1 d2 d3 d4 d5 g0 g1 g2 g3 g4 g5 HBz HB6
    go_loopw [9, 10, 11] (fun iv _ _ wr => LsSt w w6 (X.length + Y.length) w6.heap.size ⟨5, n, f, t, na, nl, nc, ia, X.length, ic⟩ ⟨5, n', f', t', na', nl', nc', ia', Y.length, ic'⟩ ⟨5, 0, 0, [], none, 0, 0, ja, X.length + Y.length, jc⟩ iv wr) (fun iv _ _ _ => X.length + Y.length - (intOf iv).toNat)
    case atStart => exact ⟨0, Nat.zero_le _, rfl, HF7.out, HB7.out.1, HB7.out.2, HV7.out⟩
    case round =>
      obtain ⟨i, hi, rfl, hF, hA, hB, hV⟩ := hrel
      have HFr := hid hF
      have HA := hid hA
      have HB := hid hB
      have HV := hid hV
      have HBz := hid (vBlk wr vZ)
      have HEw := hid ((Env.of HF6.out).trans (Env.of hF))
      clear hF hA hB hV HF7 HB7 HV7
      obtain ⟨d0, d1, d2, d3, d4, d5⟩ := HB.out.six
      obtain ⟨g0, g1, g2, g3, g4, g5⟩ := HV.out.six
      by_cases hlt : i < X.length + Y.length
      · obtain ⟨b, o, z, e1, e2, e3⟩ := HVI.out.item i (show i < (u.its ++ v.its).length by rw [List.length_append, ← HXl.out, ← HYl.out]; exact hlt)
        simp only at e1
        subst e1
        have hlt' : (i : Int) < ((X.length + Y.length : Nat) : Int) := by omega
        by_cases hin : i < X.length
        · obtain ⟨ba, oa, za, a1, a2, a3⟩ := HVx.out.item i (by rw [← HXl.out]; exact hin)
          simp only at a1
          subst a1
          have e4 : VIn w6 (u.its[i]'(by rw [← HXl.out]; exact hin)) z := by
            have h : (Vt.mk 5 0 0 [] [] (u.its ++ v.its)).its[i]'(show i < (u.its ++ v.its).length by rw [List.length_append, ← HXl.out, ← HYl.out]; exact hlt) = u.its[i]'(by rw [← HXl.out]; exact hin) := List.getElem_append_left _
            rw [← h]; exact e3
          have HC : Hid (∀ W, Fr (fun _ => False) wr W → Calls Tryz.prog 23 #[z.v, za.v] W fun e w' => e = .returned (.bool true) ∧ Fr (fun _ => False) W w') := fun W hf => by
            have := sm_of (u.its[i]'(by rw [← HXl.out]; exact hin)) _ z za W (VIn.env ((Env.of HFr.out).trans (Env.of hf)) _ _ e4) (VIn.env (HEw.out.trans (Env.of hf)) _ _ a3)
            rw [sam_refl] at this
            exact this
          have HK : Hid (∀ W', Fr (fun _ => False) wr W' → W'.cell? ⟨w6.heap.size, 5, none⟩ = some (.slice (some ⟨b, o, none⟩) (X.length + Y.length) jc) ∧ sixB W' b (o + i * 6) z ∧ sixB W' ba (oa + i * 6) za) := fun W' hf => ⟨(Env.of hf).cell g5, (e2.env ((Env.of HFr.out).trans (Env.of hf))).six, (a2.env (HEw.out.trans (Env.of hf))).six⟩
          clear e2 e3 e4 a2 a3
          have hin' : (i : Int) < ((X.length : Nat) : Int) := by omega
          go_wp2_with (first | (refine wpList_storeV ⟨5, n, f, t, na, nl, nc, some ⟨ba, oa, none⟩, X.length, ic⟩ (by rfl) _ _ (by rfl) HW8.out (by rfl) (by rfl) ?_; intro w9 b9 f9; have HF9 := hid (HF8.out.trans f9 (fun i hi => .inr (by omega))); have HW9 := hid b9; clear b9 f9) | (refine wpList_storeV ⟨5, n', f', t', na', nl', nc', ia', Y.length, ic'⟩ (by rfl) _ _ (by rfl) HBz.out (by rfl) (by rfl) ?_; intro w8 b8 f8; have HF8 := hid (box_fr f8); have HW8 := hid b8; clear b8 f8; obtain ⟨c0, c1, c2, c3, c4, c5⟩ := (HF8.out.blk HA.out (fun h => h)).six) | fail)
          have HS9 := hid (HW9.out.cell 5)
          go_region_held3 (fun W' => (W'.cell? ⟨w6.heap.size, 5, none⟩ = some (.slice (some ⟨b, o, none⟩) (X.length + Y.length) jc) ∧ sixB W' b (o + i * 6) z ∧ sixB W' ba (oa + i * 6) za) ∧ W'.cell? ⟨wr.heap.size, 5, none⟩ = some (.slice (some ⟨ba, oa, none⟩) X.length ic))
            (first | exact ⟨HK.out _ HF9.out.drew, HS9.out⟩ | exact ⟨HK.out _ F1.out, G1.out⟩)
            ((go_at_call 23; refine (HC.out _ HF9.out.drew).mono ?_; rintro e w2 ⟨rfl, f2⟩; have F1 : Hid (Fr (fun _ => False) wr w2) := HF9.out.drew.trans f2 (fun _ h => h.elim); have G1 : Hid (w2.cell? ⟨wr.heap.size, 5, none⟩ = some (.slice (some ⟨ba, oa, none⟩) X.length ic)) := (f2.blk HW9.out (fun h => h)).cell 5))
          have HF2 := hid (HFr.out.trans F1.out (fun _ h => h.elim))
          go_wp2_with fail
          exact ⟨⟨i + 1, by omega, by first | rfl | (congr 1), HF2.out, F1.out.blk HA.out (fun h => h), F1.out.blk HB.out (fun h => h), F1.out.blk HV.out (fun h => h)⟩, by simp [intOf]; omega⟩
        · obtain ⟨j, hij⟩ : ∃ j, i = X.length + j := ⟨i - X.length, by omega⟩
          obtain ⟨ba, oa, za, a1, a2, a3⟩ := HVy.out.item j (by rw [← HYl.out]; omega)
          simp only at a1
          subst a1
          have e4 : VIn w6 (v.its[j]'(by rw [← HYl.out]; omega)) z := by
            have h : (Vt.mk 5 0 0 [] [] (u.its ++ v.its)).its[i]'(show i < (u.its ++ v.its).length by rw [List.length_append, ← HXl.out, ← HYl.out]; exact hlt) = v.its[j]'(by rw [← HYl.out]; omega) := by
              show (u.its ++ v.its)[i]'_ = _
              rw [List.getElem_append_right (by rw [← HXl.out]; omega)]
              congr 1
              rw [← HXl.out]; omega
            rw [← h]; exact e3
          have HC : Hid (∀ W, Fr (fun _ => False) wr W → Calls Tryz.prog 23 #[z.v, za.v] W fun e w' => e = .returned (.bool true) ∧ Fr (fun _ => False) W w') := fun W hf => by
            have := sm_of (v.its[j]'(by rw [← HYl.out]; omega)) _ z za W (VIn.env ((Env.of HFr.out).trans (Env.of hf)) _ _ e4) (VIn.env (HEw.out.trans (Env.of hf)) _ _ a3)
            rw [sam_refl] at this
            exact this
          have HK : Hid (∀ W', Fr (fun _ => False) wr W' → W'.cell? ⟨w6.heap.size, 5, none⟩ = some (.slice (some ⟨b, o, none⟩) (X.length + Y.length) jc) ∧ sixB W' b (o + i * 6) z ∧ sixB W' ba (oa + j * 6) za) := fun W' hf => ⟨(Env.of hf).cell g5, (e2.env ((Env.of HFr.out).trans (Env.of hf))).six, (a2.env (HEw.out.trans (Env.of hf))).six⟩
          clear e2 e3 e4 a2 a3
          have hin' : ¬ ((i : Int) < ((X.length : Nat) : Int)) := by omega
          have hjl : (j : Int) < ((Y.length : Nat) : Int) := by omega
          have hsub : (i : Int) - ((X.length : Nat) : Int) = (j : Int) := by omega
          have HIJ := hid hij
          clear hij hin
          go_wp2_with (first | (refine wpList_storeV ⟨5, n', f', t', na', nl', nc', some ⟨ba, oa, none⟩, Y.length, ic'⟩ (by rfl) _ _ (by rfl) HBz.out (by rfl) (by rfl) ?_; intro w9 b9 f9; have HF9 := hid (box_fr f9); have HW9 := hid b9; clear b9 f9) | fail)
          have HS9 := hid (HW9.out.cell 5)
          go_region_held3 (fun W' => (W'.cell? ⟨w6.heap.size, 5, none⟩ = some (.slice (some ⟨b, o, none⟩) (X.length + Y.length) jc) ∧ sixB W' b (o + i * 6) z ∧ sixB W' ba (oa + j * 6) za) ∧ W'.cell? ⟨wr.heap.size, 5, none⟩ = some (.slice (some ⟨ba, oa, none⟩) Y.length ic'))
            (first | exact ⟨HK.out _ HF9.out.drew, HS9.out⟩ | exact ⟨HK.out _ F1.out, G1.out⟩)
            ((go_at_call 23; refine (HC.out _ HF9.out.drew).mono ?_; rintro e w2 ⟨rfl, f2⟩; have F1 : Hid (Fr (fun _ => False) wr w2) := HF9.out.drew.trans f2 (fun _ h => h.elim); have G1 : Hid (w2.cell? ⟨wr.heap.size, 5, none⟩ = some (.slice (some ⟨ba, oa, none⟩) Y.length ic')) := (f2.blk HW9.out (fun h => h)).cell 5))
          have HF2 := hid (HFr.out.trans F1.out (fun _ h => h.elim))
          clear hsub
          go_wp2_with fail
          exact ⟨⟨i + 1, by omega, by first | rfl | (congr 1), HF2.out, F1.out.blk HA.out (fun h => h), F1.out.blk HB.out (fun h => h), F1.out.blk HV.out (fun h => h)⟩, by simp [intOf]; omega⟩
      · have hlt' : ¬ ((i : Int) < ((X.length + Y.length : Nat) : Int)) := by omega
        have HE2 := hid (HE.out wr HEw.out)
        have HO2 := hid (fun W e => HO.out W (HEw.out.trans e))
        have HFw := hid (HF6.out.trans HFr.out (fun _ h => h.elim))
        obtain ⟨q1, q2⟩ := Q
        simp only [Bool.and_self, if_true] at HE2
        obtain ⟨c0, c1, c2, c3, c4, c5⟩ := HA.out.six
        clear HE HO HVx HVy HX HY HXl HYl HVI HBz
        go_wp2_with fail
        refine HE2.out.mono ?_
        rintro e wa ⟨rfl, fa⟩
        have HFa := hid (HFw.out.trans fa (fun _ h => h.elim))
        have HEa := hid (Env.of fa)
        have HAa := hid (fa.blk HA.out (fun h => h))
        clear fa c0 c1 c2 c3 c4 c5
        obtain ⟨c0, c1, c2, c3, c4, c5⟩ := HAa.out.six
        have HEQ : Hid ((q1 = true ∧ q2 = 0) ∨ od = true) := by
          rcases HEO.out with h | h
          · simp only [Prod.mk.injEq] at h; exact .inl h
          · exact .inr h
        rcases HEQ.out with ⟨rfl, rfl⟩ | rfl
        · go_wp2_with fail
          go_ret
          exact ⟨rfl, HFa.out⟩
        · by_cases h11 : q2 = 11
          · subst h11
            go_wp2_with fail
            go_ret
            exact ⟨rfl, HFa.out⟩
          have h11' : (q2 == 11) = false := by simpa using h11
          clear h11
          cases q1 with
          | true =>
            go_wp2_with fail
            go_ret
            exact ⟨rfl, HFa.out⟩
          | false =>
            go_wp2_with fail
            refine (HO2.out _ HEa.out).mono ?_
            rintro e wb ⟨rfl, fb⟩
            have HFb := hid (HFa.out.trans fb (fun _ h => h.elim))
            clear fb
            go_wp2_with fail
            go_ret
            exact ⟨rfl, HFb.out⟩
end Go.Proofs.YtlepjghfcpgbcaaGreatDoor.Tr
