/- The walk of ValueCompares. -/
import Derived.Test.YtlepjghfcpgbcaaGreatDoorDle
import Derived.Test.YtlepjghfcpgbcaaGreatDoorVsm
namespace Go.Proofs.YtlepjghfcpgbcaaGreatDoor.Tr
open Go.RowKit

set_option maxRecDepth 100000 in
set_option maxHeartbeats 4000000 in
theorem compares_walk (w : World) (u v : Vt) (x y : Vv) (hx : VIn w u x) (hy : VIn w v y) (hT : Tw w) : Calls Tryz.prog 4 #[x.v, y.v] w fun e w' => e = .returned (.bool true) ∧ Fr (fun _ => False) w w' := by
  have HB := hid (two_blk w x y)
  have HF := hid (two_fr w x y)
  have HS := hid (shown_any _ (hT.env (Env.of (two_fr w x y))))
  have HSa : Hid (∀ W, Env w W → Calls Tryz.prog 15 #[x.v, .int .i64 5000] W fun e w' => e = .returned (.int .i64 (smF u 5000)) ∧ Fr (fun _ => False) W w') := fun W e => small_any _ u (Nat.le_refl _) x W 5000 (VIn.env e _ _ hx) (by omega) (by omega)
  have HSb : Hid (∀ W, Env w W → Calls Tryz.prog 15 #[y.v, .int .i64 5000] W fun e w' => e = .returned (.int .i64 (smF v 5000)) ∧ Fr (fun _ => False) W w') := fun W e => small_any _ v (Nat.le_refl _) y W 5000 (VIn.env e _ _ hy) (by omega) (by omega)
  have HE : Hid (∀ W, Env w W → Calls Tryz.prog 25 #[x.v, y.v] W fun e w' => e = .returned (.tuple #[.bool (if (rtB u 32 && rtB v 32) = true then (eqV u v).1 else false), .int .i64 (if (rtB u 32 && rtB v 32) = true then (eqV u v).2 else 1)]) ∧ Fr (fun _ => False) W w') := fun W e => Equal_any W x y _ _ _ (right_any (VIn.env e _ _ hx)) (right_any (VIn.env e _ _ hy)) (fun _ _ => equal_of (VIn.env e _ _ hx) (VIn.env e _ _ hy))
  have HR : Hid (∀ W, Env w W → Calls Tryz.prog 26 #[x.v, y.v] W fun e w' => e = .returned (.tuple #[.bool (if (rtB u 32 && rtB v 32) = true then (eqV u v).1 else false), .int .i64 (if (rtB u 32 && rtB v 32) = true then (eqV u v).2 else 1)]) ∧ Fr (fun _ => False) W w') := fun W e => REqual_any W u v x y (VIn.env e _ _ hx) (VIn.env e _ _ hy)
  have HL : Hid (∀ W, Env w W → Calls Tryz.prog 27 #[x.v, y.v] W fun e w' => e = .returned (.tuple #[.bool (lessV (rtB u 32) (rtB v 32) x y).1, .int .i64 (lessV (rtB u 32) (rtB v 32) x y).2]) ∧ Fr (fun _ => False) W w') := fun W e => less_any W x y _ _ (right_any (VIn.env e _ _ hx)) (right_any (VIn.env e _ _ hy))
  have HK : Hid (∀ W, Env w W → Calls Tryz.prog 28 #[x.v, y.v] W fun e w' => e = .returned (.tuple #[.bool (lessV (rtB u 32) (rtB v 32) x y).1, .int .i64 (lessV (rtB u 32) (rtB v 32) x y).2]) ∧ Fr (fun _ => False) W w') := fun W e => RLess_any W x y _ _ (rright_any (VIn.env e _ _ hx)) (rright_any (VIn.env e _ _ hy))
  clear hx hy hT
  generalize smF u 5000 = m1 at *
  generalize smF v 5000 = m2 at *
  generalize (if (rtB u 32 && rtB v 32) = true then (eqV u v).1 else false) = q1 at *
  generalize (if (rtB u 32 && rtB v 32) = true then (eqV u v).2 else 1) = q2 at *
  generalize lessV (rtB u 32) (rtB v 32) x y = LV at *
  obtain ⟨l1, l2⟩ := LV
  obtain ⟨k, n, f, t, na, nl, nc, ia, il, ic⟩ := x
  obtain ⟨k', n', f', t', na', nl', nc', ia', il', ic'⟩ := y
  simp only [Vv.v] at *
  go_enter Tryz.func4, Tryz.ntmps4
  go_wp2_with fail
  refine HS.out.mono ?_
  rintro e w1 ⟨rfl, f1⟩
  have HB1 := hid (And.intro (f1.blk HB.out.1 (fun h => h)) (f1.blk HB.out.2 (fun h => h)))
  have HF1 := hid (HF.out.trans f1 (fun _ h => h.elim))
  clear f1 HB HF HS
  obtain ⟨c0, c1, c2, c3, c4, c5⟩ := HB1.out.1.six
  obtain ⟨d0, d1, d2, d3, d4, d5⟩ := HB1.out.2.six
  go_wp2_with fail
  refine (HSa.out _ (Env.of HF1.out)).mono ?_
  rintro e w2 ⟨rfl, f2⟩
  have HB2 := hid (And.intro (f2.blk HB1.out.1 (fun h => h)) (f2.blk HB1.out.2 (fun h => h)))
  have HF2 := hid (HF1.out.trans f2 (fun _ h => h.elim))
  clear f2 HB1 HF1 HSa c0 c1 c2 c3 c4 c5 d0 d1 d2 d3 d4 d5
  by_cases h1 : m1 = 0
  · subst h1
    go_wp2_with fail
    go_ret
    exact ⟨rfl, HF2.out⟩
  have h1' : (m1 == 0) = false := by simpa using h1
  clear h1
  obtain ⟨c0, c1, c2, c3, c4, c5⟩ := HB2.out.1.six
  obtain ⟨d0, d1, d2, d3, d4, d5⟩ := HB2.out.2.six
  go_wp2_with fail
  refine (HSb.out _ (Env.of HF2.out)).mono ?_
  rintro e w3 ⟨rfl, f3⟩
  have HB3 := hid (And.intro (f3.blk HB2.out.1 (fun h => h)) (f3.blk HB2.out.2 (fun h => h)))
  have HF3 := hid (HF2.out.trans f3 (fun _ h => h.elim))
  clear f3 HB2 HF2 HSb c0 c1 c2 c3 c4 c5 d0 d1 d2 d3 d4 d5
  by_cases h2 : m2 = 0
  · subst h2
    go_wp2_with fail
    go_ret
    exact ⟨rfl, HF3.out⟩
  have h2' : (m2 == 0) = false := by simpa using h2
  clear h2
  obtain ⟨c0, c1, c2, c3, c4, c5⟩ := HB3.out.1.six
  obtain ⟨d0, d1, d2, d3, d4, d5⟩ := HB3.out.2.six
  go_wp2_with fail
  refine (HE.out _ (Env.of HF3.out)).mono ?_
  rintro e w4 ⟨rfl, f4⟩
  have HB4 := hid (And.intro (f4.blk HB3.out.1 (fun h => h)) (f4.blk HB3.out.2 (fun h => h)))
  have HF4 := hid (HF3.out.trans f4 (fun _ h => h.elim))
  clear f4 HB3 HF3 HE c0 c1 c2 c3 c4 c5 d0 d1 d2 d3 d4 d5
  obtain ⟨c0, c1, c2, c3, c4, c5⟩ := HB4.out.1.six
  obtain ⟨d0, d1, d2, d3, d4, d5⟩ := HB4.out.2.six
  go_wp2_with fail
  refine (HR.out _ (Env.of HF4.out)).mono ?_
  rintro e w5 ⟨rfl, f5⟩
  have HB5 := hid (And.intro (f5.blk HB4.out.1 (fun h => h)) (f5.blk HB4.out.2 (fun h => h)))
  have HF5 := hid (HF4.out.trans f5 (fun _ h => h.elim))
  clear f5 HB4 HF4 HR c0 c1 c2 c3 c4 c5 d0 d1 d2 d3 d4 d5
  obtain ⟨c0, c1, c2, c3, c4, c5⟩ := HB5.out.1.six
  obtain ⟨d0, d1, d2, d3, d4, d5⟩ := HB5.out.2.six
  go_wp2_with fail
  refine (HL.out _ (Env.of HF5.out)).mono ?_
  rintro e w6 ⟨rfl, f6⟩
  have HB6 := hid (And.intro (f6.blk HB5.out.1 (fun h => h)) (f6.blk HB5.out.2 (fun h => h)))
  have HF6 := hid (HF5.out.trans f6 (fun _ h => h.elim))
  clear f6 HB5 HF5 HL c0 c1 c2 c3 c4 c5 d0 d1 d2 d3 d4 d5
  obtain ⟨c0, c1, c2, c3, c4, c5⟩ := HB6.out.1.six
  obtain ⟨d0, d1, d2, d3, d4, d5⟩ := HB6.out.2.six
  go_wp2_with fail
  refine (HK.out _ (Env.of HF6.out)).mono ?_
  rintro e w7 ⟨rfl, f7⟩
  have HF7 := hid (HF6.out.trans f7 (fun _ h => h.elim))
  clear f7 HB6 HF6 HK c0 c1 c2 c3 c4 c5 d0 d1 d2 d3 d4 d5
  go_wp2_with fail
  go_ret
  exact ⟨rfl, HF7.out⟩
end Go.Proofs.YtlepjghfcpgbcaaGreatDoor.Tr
