/- The contract of atof64 where digits were left out that don't matter. -/
import Derived.Test.YtionmohglmbklaaGreatDoorPfd
namespace Go.Proofs.YtionmohglmbklaaGreatDoor.Tr
open Go.RowKit

/-- The digits that were left out don't matter. -/
def sameT (T : Nat → Nat × Nat) (m : Nat) (p : Int) : Bool := FloatKind.f64.format.order (pf64 T m (p + 348).toNat).1 (pf64 T (m + 1) (p + 348).toNat).1 == some .eq
/-- What atof64 gives of a mantissa that was cut, and an exponent. -/
def atofT (T : Nat → Nat × Nat) (m : Nat) (p : Int) : Nat × Bool :=
  if m = 0 then (0, false)
  else if 310 < p then (9218868437227405312, true)
  else if p < -345 then (0, false)
  else pf64 T m (p + 348).toNat

set_option maxRecDepth 100000 in
set_option maxHeartbeats 4000000 in
theorem atof_tr {w : World} {T : Nat → Nat × Nat} (hT : Pw w T) (hG : 11 < w.heap.size) (hO : w.cell? ⟨5, 0, none⟩ = some (.bool true)) {t : List UInt8} (h0 : 0 < t.length) (hd : isDig t[0] = true) (m : Nat) (p : Int)
    (hm : m < 10000000000000000000) (hp0 : -300000 ≤ p) (hp1 : p ≤ 300000) (hS : m ≠ 0 → -345 ≤ p → p ≤ 310 → sameT T m p = true)
    (hR : Calls Tryz.prog 141 #[.string ⟨t.toArray⟩] w fun e w' => e = .returned (.tuple #[.int .u64 (m : Int), .int .i64 p, .bool false, .bool true, .bool false, .int .i64 (t.length : Int), .bool true]) ∧ w' = w) :
    Calls Tryz.prog 121 #[.string ⟨t.toArray⟩] w fun e w' => e = .returned (.tuple #[.float .f64 (atofT T m p).1, .int .i64 (t.length : Int), errV (atofT T m p).2]) ∧ Fr (fun _ => False) w w' := by
  have HR := hid hR
  have HS := hid (special_digit w h0 hd)
  have hz : (bits BinOp.or .u64 0 0).toNat = 0 := by decide +kernel
  have hi : (bits BinOp.or .u64 0 9218868437227405312).toNat = 9218868437227405312 := by decide +kernel
  have hfb := fun n => frombits_any w n
  obtain ⟨R, hRR⟩ : ∃ R, R = atofT T m p := ⟨_, rfl⟩
  rw [← hRR]
  unfold atofT at hRR
  clear hR
  have HSame := hid hS
  clear hS
  by_cases hm0 : m = 0
  · rw [if_pos hm0] at hRR
    subst hRR hm0
    clear hT
    go_enter Tryz.func121, Tryz.ntmps121
    go_wp2_with fail
    refine HS.out.mono ?_
    rintro e w' ⟨rfl, rfl⟩
    clear HS
    go_wp2_with fail
    refine HR.out.mono ?_
    rintro e w' ⟨rfl, hw⟩
    rw [hw]
    clear HR hw
    go_wp2_with fail
    refine (bool2u_any w false).mono ?_
    rintro e w' ⟨rfl, rfl⟩
    go_wp2_with fail
    exact bodyPost_ret (results3 rfl rfl rfl rfl) rfl ⟨rfl, Fr.refl _ _⟩
  rw [if_neg hm0] at hRR
  have hm1 : ((m : Int) == 0) = false := by simp; omega
  have hm2 : ¬ (m : Int) = 0 := by omega
  by_cases hq1 : 310 < p
  · rw [if_pos hq1] at hRR
    subst hRR
    have hq1' : decide (p > 310) = true := decide_eq_true hq1
    clear hT
    go_enter Tryz.func121, Tryz.ntmps121
    go_wp2_with fail
    refine HS.out.mono ?_
    rintro e w' ⟨rfl, rfl⟩
    clear HS
    go_wp2_with fail
    refine HR.out.mono ?_
    rintro e w' ⟨rfl, hw⟩
    rw [hw]
    clear HR hw
    go_wp2_with fail
    refine (bool2u_any w false).mono ?_
    rintro e w' ⟨rfl, rfl⟩
    go_wp2_with fail
    exact bodyPost_ret (results3 rfl rfl rfl rfl) rfl ⟨rfl, Fr.refl _ _⟩
  rw [if_neg hq1] at hRR
  have hq1' : decide (p > 310) = false := decide_eq_false (by omega)
  by_cases hq2 : p < -345
  · rw [if_pos hq2] at hRR
    subst hRR
    have hq2' : decide (p < -345) = true := decide_eq_true hq2
    clear hT
    go_enter Tryz.func121, Tryz.ntmps121
    go_wp2_with fail
    refine HS.out.mono ?_
    rintro e w' ⟨rfl, rfl⟩
    clear HS
    go_wp2_with fail
    refine HR.out.mono ?_
    rintro e w' ⟨rfl, hw⟩
    rw [hw]
    clear HR hw
    go_wp2_with fail
    refine (bool2u_any w false).mono ?_
    rintro e w' ⟨rfl, rfl⟩
    go_wp2_with fail
    exact bodyPost_ret (results3 rfl rfl rfl rfl) rfl ⟨rfl, Fr.refl _ _⟩
  rw [if_neg hq2] at hRR
  have hq2' : decide (p < -345) = false := decide_eq_false (by omega)
  obtain ⟨i, hi1⟩ : ∃ i : Nat, p = (i : Int) - 348 := ⟨(p + 348).toNat, by omega⟩
  have hpi : (p + 348).toNat = i := by omega
  have hsm := HSame.out hm0 (by omega) (by omega)
  clear HSame
  unfold sameT at hsm
  rw [hpi] at hRR hsm
  have HPf := hid (pf64_any hT hG m i hm0 (by omega) (by omega) (by omega))
  have HPg := hid (fun W (f : Fr (fun _ => False) w W) => pf64_any (hT.env ((Env.refl w).fr f (fun _ h => h.elim))) (Nat.lt_of_lt_of_le hG f.size) (m + 1) i (by omega) (by omega) (by omega) (by omega))
  rw [← hRR] at HPf hsm
  rw [← hi1] at HPf HPg
  have hm3 : ((m + 1 : Nat) : Int) = (m : Int) + 1 := by omega
  rw [hm3] at HPg
  generalize pf64 T (m + 1) i = R' at HPg hsm
  clear hT hRR hpi hi1 hm3
  have hb1 : (m : Int) + 1 < 18446744073709551616 := by omega
  obtain ⟨R1, R2⟩ := R
  obtain ⟨S1, S2⟩ := R'
  simp only at hsm
  have hsm2 : FloatKind.f64.format.order R1 S1 = some Ordering.eq := by simpa using hsm
  go_enter Tryz.func121, Tryz.ntmps121
  go_wp2_with fail
  refine HS.out.mono ?_
  rintro e w' ⟨rfl, rfl⟩
  clear HS
  go_wp2_with fail
  refine HR.out.mono ?_
  rintro e w' ⟨rfl, hw⟩
  rw [hw]
  clear HR hw
  go_wp2_with fail
  refine (bool2u_any w false).mono ?_
  rintro e w' ⟨rfl, rfl⟩
  go_wp2_with fail
  refine HPf.out.mono ?_
  rintro e w2 ⟨rfl, f2⟩
  have HF := hid f2
  have HPh := hid (HPg.out w2 f2)
  clear f2 HPf HPg
  go_wp2_with fail
  refine HPh.out.mono ?_
  rintro e w3 ⟨rfl, f3⟩
  have HF3 : Hid (Fr (fun _ => False) w w3) := HF.out.same f3
  clear f3 HF HPh
  cases R2 <;> cases S2
  all_goals
    simp only [errV, if_true, Bool.false_eq_true, if_false]
    go_wp2_with fail
    exact bodyPost_ret (results3 rfl rfl rfl rfl) rfl ⟨rfl, HF3.out⟩

/-- What atof64 gives where digits were left out that don't matter. -/
theorem ato_cut {w0 : World} {T : Nat → Nat × Nat} {Q : Nat → Nat} (h : Tbs w0 T Q) {t : List UInt8} {p q : Nat} (ht : FTx t p q) (htr : (rfAt t q).tr = true) (dp : Int) (hd0 : -200000 ≤ dp) (hd1 : dp ≤ 200000)
    (hR : ∀ w, Calls Tryz.prog 141 #[.string ⟨t.toArray⟩] w fun e w' => e = .returned (rfV (rfAt t q) t dp) ∧ w' = w)
    (x : Int) (hx : x = if (rfAt t q).m = 0 then 0 else dp - ((rfAt t q).nm : Int)) (hS : -345 ≤ x → x ≤ 310 → sameT T (rfAt t q).m x = true) :
    Ato w0 t (atofT T (rfAt t q).m x) := by
  intro w hE
  have H := h.env hE
  have hi := RI.at ht q (Nat.le_refl _)
  have h0 : 0 < t.length := by have := ht.pq; have := ht.ql; omega
  have hnm := hi.nm
  refine atof_tr H.tab H.lay H.opt h0 (ht.dg 0 h0 (by have := ht.pq; omega) (by have := ht.pos; omega)) _ _ (pow_le19 hi.mb hi.nm) (by rw [hx]; split <;> omega) (by rw [hx]; split <;> omega) (fun _ => hS) ?_
  refine (hR w).mono ?_
  rintro e w' ⟨rfl, rfl⟩
  refine ⟨?_, rfl⟩
  unfold rfV
  rw [htr, hx]

theorem cut_plain {w0 : World} {T : Nat → Nat × Nat} {Q : Nat → Nat} (h : Tbs w0 T Q) {t : List UInt8} {p : Nat} (ht : FTx t p t.length) (htr : (rfAt t t.length).tr = true)
    (x : Int) (hx : x = if (rfAt t t.length).m = 0 then 0 else (rfAt t t.length).dp - ((rfAt t t.length).nm : Int)) (hS : -345 ≤ x → x ≤ 310 → sameT T (rfAt t t.length).m x = true) :
    Ato w0 t (atofT T (rfAt t t.length).m x) := by
  have hi := RI.at ht t.length (Nat.le_refl _)
  have hl := ht.len
  exact ato_cut h ht htr _ (by have := hi.lo; omega) (by have := hi.hi; omega) (fun w => readFloat_plain w ht) x hx hS

theorem cut_exp {w0 : World} {T : Nat → Nat × Nat} {Q : Nat → Nat} (h : Tbs w0 T Q) {t : List UInt8} {p q r : Nat} {sg : Int} (ht : FTx t p q) (hx : EXx t q r sg) (htr : (rfAt t q).tr = true)
    (x : Int) (hxx : x = if (rfAt t q).m = 0 then 0 else (rfAt t q).dp + (exAt t r t.length : Int) * sg - ((rfAt t q).nm : Int)) (hS : -345 ≤ x → x ≤ 310 → sameT T (rfAt t q).m x = true) :
    Ato w0 t (atofT T (rfAt t q).m x) := by
  have hi := RI.at ht q (Nat.le_refl _)
  have hl := ht.len
  have hq := ht.ql
  have h1 := hi.lo
  have h2 := hi.hi
  have he := exAt_le hx.dg t.length (Nat.le_of_lt hx.rl) (Nat.le_refl _)
  have hsg : sg = 1 ∨ sg = -1 := by
    rcases hx.rq with ⟨_, e, _⟩ | ⟨_, e, _⟩ | ⟨_, e, _⟩
    · exact .inl e
    · exact .inl e
    · exact .inr e
  refine ato_cut h ht htr _ ?_ ?_ (fun w => readFloat_exp w ht hx) x hxx hS
  · rcases hsg with rfl | rfl <;> omega
  · rcases hsg with rfl | rfl <;> omega

end Go.Proofs.YtionmohglmbklaaGreatDoor.Tr
