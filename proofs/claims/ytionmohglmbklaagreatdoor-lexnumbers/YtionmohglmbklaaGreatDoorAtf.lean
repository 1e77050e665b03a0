/- The contract of atof64 where no digit was left out, over what atof64exact gives. -/
import Derived.Test.YtionmohglmbklaaGreatDoorPfb
namespace Go.Proofs.YtionmohglmbklaaGreatDoor.Tr
open Go.RowKit

/-- What atof64exact gives. -/
def Exq (w0 : World) (ex : Nat → Int → Option Nat) : Prop := ∀ w, Env w0 w → ∀ (m : Nat) (p : Int), m ≠ 0 → m < 10000000000000000000 → -345 ≤ p → p ≤ 310 →
  Calls Tryz.prog 151 #[.int .u64 (m : Int), .int .i64 p, .bool false] w fun e w' => (∃ f0, e = .returned (.tuple #[.float .f64 ((ex m p).getD f0), .bool (ex m p).isSome])) ∧ w = w'
/-- What atof64 gives of a mantissa and an exponent. -/
def atofN (T : Nat → Nat × Nat) (ex : Nat → Int → Option Nat) (m : Nat) (p : Int) : Nat × Bool :=
  if m = 0 then (0, false)
  else if 310 < p then (9218868437227405312, true)
  else if p < -345 then (0, false)
  else match ex m p with
    | some f => (f, false)
    | none => pf64 T m (p + 348).toNat

theorem results3 {fn : Func} {t1 t2 t3 : Tmp} (h : fn.results = #[.tmp t1, .tmp t2, .tmp t3]) {tmps : Array Value} {W : World} {v1 v2 v3 : Value} (h1 : tmps.getD t1 undef = v1) (h2 : tmps.getD t2 undef = v2) (h3 : tmps.getD t3 undef = v3) :
    (results fn tmps).run Tryz.prog W = .ok (.tuple #[v1, v2, v3]) W := by
  have e1 : tmps[t1]?.getD undef = v1 := by simpa using h1
  have e2 : tmps[t2]?.getD undef = v2 := by simpa using h2
  have e3 : tmps[t3]?.getD undef = v3 := by simpa using h3
  simp [results, h, e1, e2, e3, go_sem]

set_option maxRecDepth 100000 in
set_option maxHeartbeats 4000000 in
theorem atof_nt {w : World} {T : Nat → Nat × Nat} {ex : Nat → Int → Option Nat} (hT : Pw w T) (hG : 11 < w.heap.size) (hO : w.cell? ⟨5, 0, none⟩ = some (.bool true)) (hX : Exq w ex) {t : List UInt8} (h0 : 0 < t.length) (hd : isDig t[0] = true) (m : Nat) (p : Int)
    (hm : m < 10000000000000000000) (hp0 : -300000 ≤ p) (hp1 : p ≤ 300000)
    (hR : Calls Tryz.prog 141 #[.string ⟨t.toArray⟩] w fun e w' => e = .returned (.tuple #[.int .u64 (m : Int), .int .i64 p, .bool false, .bool false, .bool false, .int .i64 (t.length : Int), .bool true]) ∧ w' = w) :
    Calls Tryz.prog 121 #[.string ⟨t.toArray⟩] w fun e w' => e = .returned (.tuple #[.float .f64 (atofN T ex m p).1, .int .i64 (t.length : Int), errV (atofN T ex m p).2]) ∧ Fr (fun _ => False) w w' := by
  have HR := hid hR
  have HS := hid (special_digit w h0 hd)
  have hz : (bits BinOp.or .u64 0 0).toNat = 0 := by decide +kernel
  have hi : (bits BinOp.or .u64 0 9218868437227405312).toNat = 9218868437227405312 := by decide +kernel
  have hfb := fun n => frombits_any w n
  obtain ⟨R, hRR⟩ : ∃ R, R = atofN T ex m p := ⟨_, rfl⟩
  rw [← hRR]
  unfold atofN at hRR
  clear hR
  by_cases hm0 : m = 0
  · rw [if_pos hm0] at hRR
    subst hRR hm0
    clear hX hT
    go_enter Tryz.func121, Tryz.ntmps121
    go_wp2_with fail
    refine HS.out.mono ?_
    rintro e w' ⟨rfl, rfl⟩
    clear HS
    go_wp2_with fail
    refine HR.out.mono ?_
    rintro e w' ⟨rfl, hw⟩
    rw [hw]
    clear HR hw
    go_wp2_with fail
    refine (bool2u_any w false).mono ?_
    rintro e w' ⟨rfl, rfl⟩
    go_wp2_with fail
    exact bodyPost_ret (results3 rfl rfl rfl rfl) rfl ⟨rfl, Fr.refl _ _⟩
  rw [if_neg hm0] at hRR
  have hm1 : ((m : Int) == 0) = false := by simp; omega
  have hm2 : ¬ (m : Int) = 0 := by omega
  by_cases hq1 : 310 < p
  · rw [if_pos hq1] at hRR
    subst hRR
    have hq1' : decide (p > 310) = true := decide_eq_true hq1
    clear hX hT
    go_enter Tryz.func121, Tryz.ntmps121
    go_wp2_with fail
    refine HS.out.mono ?_
    rintro e w' ⟨rfl, rfl⟩
    clear HS
    go_wp2_with fail
    refine HR.out.mono ?_
    rintro e w' ⟨rfl, hw⟩
    rw [hw]
    clear HR hw
    go_wp2_with fail
    refine (bool2u_any w false).mono ?_
    rintro e w' ⟨rfl, rfl⟩
    go_wp2_with fail
    exact bodyPost_ret (results3 rfl rfl rfl rfl) rfl ⟨rfl, Fr.refl _ _⟩
  rw [if_neg hq1] at hRR
  have hq1' : decide (p > 310) = false := decide_eq_false (by omega)
  by_cases hq2 : p < -345
  · rw [if_pos hq2] at hRR
    subst hRR
    have hq2' : decide (p < -345) = true := decide_eq_true hq2
    clear hX hT
    go_enter Tryz.func121, Tryz.ntmps121
    go_wp2_with fail
    refine HS.out.mono ?_
    rintro e w' ⟨rfl, rfl⟩
    clear HS
    go_wp2_with fail
    refine HR.out.mono ?_
    rintro e w' ⟨rfl, hw⟩
    rw [hw]
    clear HR hw
    go_wp2_with fail
    refine (bool2u_any w false).mono ?_
    rintro e w' ⟨rfl, rfl⟩
    go_wp2_with fail
    exact bodyPost_ret (results3 rfl rfl rfl rfl) rfl ⟨rfl, Fr.refl _ _⟩
  rw [if_neg hq2] at hRR
  have hq2' : decide (p < -345) = false := decide_eq_false (by omega)
  have HXq := hid (hX w (Env.refl w) m p hm0 hm (by omega) (by omega))
  cases hex : ex m p with
  | some f =>
    rw [hex] at hRR HXq
    simp only at hRR
    subst hRR
    clear hX hT
    go_enter Tryz.func121, Tryz.ntmps121
    go_wp2_with fail
    refine HS.out.mono ?_
    rintro e w' ⟨rfl, rfl⟩
    clear HS
    go_wp2_with fail
    refine HR.out.mono ?_
    rintro e w' ⟨rfl, hw⟩
    rw [hw]
    clear HR hw
    go_wp2_with fail
    refine (bool2u_any w false).mono ?_
    rintro e w' ⟨rfl, rfl⟩
    go_wp2_with fail
    refine HXq.out.mono ?_
    rintro e w' ⟨⟨f0, rfl⟩, rfl⟩
    simp only [Option.getD_some, Option.isSome_some]
    clear HXq
    go_wp2_with fail
    exact bodyPost_ret (results3 rfl rfl rfl rfl) rfl ⟨rfl, Fr.refl _ _⟩
  | none =>
    rw [hex] at hRR HXq
    simp only at hRR
    obtain ⟨i, hi1⟩ : ∃ i : Nat, p = (i : Int) - 348 := ⟨(p + 348).toNat, by omega⟩
    have hpi : (p + 348).toNat = i := by omega
    rw [hpi] at hRR
    have HPf := hid (pf64_any hT hG m i hm0 (by omega) (by omega) (by omega))
    rw [← hRR, ← hi1] at HPf
    clear hX hT hRR hpi hi1
    go_enter Tryz.func121, Tryz.ntmps121
    go_wp2_with fail
    refine HS.out.mono ?_
    rintro e w' ⟨rfl, rfl⟩
    clear HS
    go_wp2_with fail
    refine HR.out.mono ?_
    rintro e w' ⟨rfl, hw⟩
    rw [hw]
    clear HR hw
    go_wp2_with fail
    refine (bool2u_any w false).mono ?_
    rintro e w' ⟨rfl, rfl⟩
    go_wp2_with fail
    refine HXq.out.mono ?_
    rintro e w' ⟨⟨f0, rfl⟩, rfl⟩
    simp only [Option.getD_none, Option.isSome_none]
    clear HXq
    go_wp2_with fail
    refine HPf.out.mono ?_
    rintro e w2 ⟨rfl, f2⟩
    have HF := hid f2
    clear f2 HPf
    obtain ⟨R1, R2⟩ := R
    cases R2
    all_goals
      simp only [errV, if_true, Bool.false_eq_true, if_false]
      go_wp2_with fail
      exact bodyPost_ret (results3 rfl rfl rfl rfl) rfl ⟨rfl, HF.out⟩

end Go.Proofs.YtionmohglmbklaaGreatDoor.Tr
