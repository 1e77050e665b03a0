/- The document's equal and Equal of any values. -/
import Derived.Test.YtlepjghfcpgbcaaGreatDoorDer
namespace Go.Proofs.YtlepjghfcpgbcaaGreatDoor.Tr
open Go.RowKit

theorem rq_tree : ∀ (m : Nat) (u : Vt), SizeOf.sizeOf u ≤ m → RqOf u := by
  intro m
  induction m with
  | zero =>
    intro v hv
    exfalso
    cases v
    simp only [Vt.mk.sizeOf_spec] at hv
    omega
  | succ m ih =>
    intro u hs hu v x y w hv hx hy
    have IH : ∀ z ∈ u.its, RqOf z := fun z hz => ih z (by have := Vt.its_lt hz; omega)
    have hku := rg_kind hu
    cases hnb : (numB u.nv && numB v.nv) with
    | true =>
      have h : (u.k = 2 ∨ u.k = 3) ∧ (v.k = 2 ∨ v.k = 3) := by
        simp only [numB, Vt.nv, Bool.and_eq_true, Bool.or_eq_true] at hnb
        exact ⟨hnb.1.imp of_decide_eq_true of_decide_eq_true, hnb.2.imp of_decide_eq_true of_decide_eq_true⟩
      rcases h with ⟨h1 | h1, h2 | h2⟩
      · exact rq_22 u v x y w hu hv hx hy h1 h2
      · exact rq_23 u v x y w hu hv hx hy h1 h2
      · exact rq_32 u v x y w hu hv hx hy h1 h2
      · exact rq_33 u v x y w hu hv hx hy h1 h2
    | false =>
      by_cases hd : u.k = v.k
      · have h23 : u.k ≠ 2 ∧ u.k ≠ 3 := by
          constructor
          · intro h; rw [show numB u.nv = true by simp [numB, Vt.nv, h], show numB v.nv = true by simp [numB, Vt.nv, ← hd, h]] at hnb; cases hnb
          · intro h; rw [show numB u.nv = true by simp [numB, Vt.nv, h], show numB v.nv = true by simp [numB, Vt.nv, ← hd, h]] at hnb; cases hnb
        have : u.k = 0 ∨ u.k = 1 ∨ u.k = 4 ∨ u.k = 5 ∨ u.k = 6 ∨ u.k = 7 := by omega
        rcases this with h | h | h | h | h | h
        · exact rq_k0 u v x y w hu hv hx hy h (by omega)
        · exact rq_k1 u v x y w hu hv hx hy h (by omega)
        · exact rq_k4 u v x y w hu hv hx hy h (by omega)
        · exact rq_k5 u v x y w hu hv hx hy h (by omega) IH
        · exact rq_k6 u v x y w hu hv hx hy h (by omega) IH
        · exact rq_k7 u v x y w hu hv hx hy h (by omega)
      · exact rq_diff u v x y w hu hv hx hy hnb hd
theorem rq_of (u : Vt) : RqOf u := rq_tree _ u (Nat.le_refl _)

/-- A right value is right but for its depth. -/
theorem rg_of_rt {v : Vt} (h : rtB v 32 = true) : rgB v = true := by
  rw [rt_same, Bool.and_eq_true] at h
  exact h.2

set_option maxRecDepth 100000 in
set_option maxHeartbeats 4000000 in
set_option linter.unusedSimpArgs false in
theorem REqual_any (w : World) (u v : Vt) (x y : Vv) (hx : VIn w u x) (hy : VIn w v y) : Calls Tryz.prog 26 #[x.v, y.v] w fun e w' => e = .returned (.tuple #[.bool (if (rtB u 32 && rtB v 32) = true then (eqV u v).1 else false), .int .i64 (if (rtB u 32 && rtB v 32) = true then (eqV u v).2 else 1)]) ∧ Fr (fun _ => False) w w' := by
  have HB := hid (two_blk w x y)
  have HF := hid (two_fr w x y)
  have HX := hid (rright_any hx)
  have HY := hid (rright_any hy)
  have HE : Hid (rtB u 32 = true → rtB v 32 = true → ∀ W, Env w W → Calls Tryz.prog 55 #[x.v, y.v] W fun e w' => e = .returned (.tuple #[.bool (eqV u v).1, .int .i64 (eqV u v).2]) ∧ Fr (fun _ => False) W w') := fun h1 h2 W e => rq_of u (rg_of_rt h1) v x y W (rg_of_rt h2) (VIn.env e _ _ hx) (VIn.env e _ _ hy)
  clear hx hy
  generalize rtB u 32 = r1 at *
  generalize rtB v 32 = r2 at *
  generalize eqV u v = R at *
  obtain ⟨R1, R2⟩ := R
  unfold RRightOf at HX HY
  obtain ⟨k, n, f, t, na, nl, nc, ia, il, ic⟩ := x
  obtain ⟨k', n', f', t', na', nl', nc', ia', il', ic'⟩ := y
  simp only [Vv.v] at *
  cases r1
  all_goals
    cases r2
    all_goals
      simp only [Bool.and_self, Bool.and_true, Bool.and_false, Bool.true_and, Bool.false_and, if_true, if_false, Bool.false_eq_true, reduceIte]
      go_enter Tryz.func26, Tryz.ntmps26
      go_wp2_with fail
      refine (HX.out _ (Env.of HF.out)).mono ?_
      rintro e w1 ⟨rfl, f1⟩
      have HB1 := hid (And.intro (f1.blk HB.out.1 (fun h => h)) (f1.blk HB.out.2 (fun h => h)))
      have HF1 := hid (HF.out.trans f1 (fun _ h => h.elim))
      clear f1 HB HF HX
      obtain ⟨c0, c1, c2, c3, c4, c5⟩ := HB1.out.1.six
      obtain ⟨d0, d1, d2, d3, d4, d5⟩ := HB1.out.2.six
      go_wp2_with fail
      refine (HY.out _ (Env.of HF1.out)).mono ?_
      rintro e w2 ⟨rfl, f2⟩
      have HB2 := hid (And.intro (f2.blk HB1.out.1 (fun h => h)) (f2.blk HB1.out.2 (fun h => h)))
      have HF2 := hid (HF1.out.trans f2 (fun _ h => h.elim))
      clear f2 HB1 HF1 HY c0 c1 c2 c3 c4 c5 d0 d1 d2 d3 d4 d5
      obtain ⟨c0, c1, c2, c3, c4, c5⟩ := HB2.out.1.six
      obtain ⟨d0, d1, d2, d3, d4, d5⟩ := HB2.out.2.six
      go_wp2_with fail
      first
        | (go_ret2
           exact ⟨rfl, HF2.out⟩)
        | (refine (HE.out (by first | rfl | trivial) (by first | rfl | trivial) _ (Env.of HF2.out)).mono ?_
           rintro e w3 ⟨rfl, f3⟩
           have HF3 := hid (HF2.out.trans f3 (fun _ h => h.elim))
           clear f3
           go_wp2_with fail
           go_ret2
           exact ⟨rfl, HF3.out⟩)
end Go.Proofs.YtlepjghfcpgbcaaGreatDoor.Tr
