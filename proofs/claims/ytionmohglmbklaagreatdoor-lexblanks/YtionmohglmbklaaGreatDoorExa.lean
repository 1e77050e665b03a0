/- The contract of atof64exact over any mantissa and exponent. -/
import Derived.Test.YtionmohglmbklaaGreatDoorAtf
import Derived.Laws.FloatArith
namespace Go.Proofs.YtionmohglmbklaaGreatDoor.Tr
open Go.RowKit

/-- A word that is no NaN. -/
def NoNaN (x : Nat) : Prop := (Ieee.double.read x).isNaN = false
/-- A word of a number that isn't zero. -/
def Fin1 (y : Nat) : Prop := ∃ n j, Ieee.double.read y = .number false n j ∧ n ≠ 0

theorem read_word {s : Bool} {r : Nat} (h : r ≤ Ieee.double.infRung) : NoNaN (Ieee.double.word s r) := by
  have e1 : Ieee.double.signWeight = 9223372036854775808 := by decide +kernel
  have e2 : Ieee.double.infRung = 9218868437227405312 := by decide +kernel
  rw [e2] at h
  have e3 : Ieee.double.word s r % 9223372036854775808 = r := by
    unfold Ieee.Format.word
    rw [e1]
    cases s
    · rw [if_neg (by simp)]; omega
    · rw [if_pos rfl]; omega
  unfold NoNaN Ieee.Format.read
  simp only [e1, e2, e3]
  split
  · rfl
  · split
    · rfl
    · split
      · rfl
      · rename_i a b c; omega

theorem nan_write {d : Ieee.Datum} (h : d.isNaN = false) : NoNaN (Ieee.double.write d) := by
  cases d with
  | number s m i =>
    unfold Ieee.Format.write Ieee.Format.nearest
    simp only
    split
    · exact read_word (Nat.zero_le _)
    · exact read_word (Nat.min_le_right _ _)
  | infinity s => exact read_word (Nat.le_refl _)
  | nan s f => simp [Ieee.Datum.isNaN] at h

theorem fi_nan (n : Int) : NoNaN (floatOfInt .f64 n) := nan_write (d := .number (n < 0) n.natAbs 0) rfl

def mulF (x y : Nat) : Nat := (Ieee.double.mul x y).getD 0
def divF (x y : Nat) : Nat := (Ieee.double.div x y).getD 0

theorem mul_some {x y : Nat} (hx : NoNaN x) (hy : Fin1 y) : floatBits .mul .f64 x y = some (mulF x y) ∧ NoNaN (mulF x y) := by
  obtain ⟨n, j, hr, hn⟩ := hy
  have : ∃ d, (Ieee.double.read x).product (Ieee.double.read y) = some d ∧ d.isNaN = false := by
    rw [hr]
    unfold NoNaN at hx
    cases hX : Ieee.double.read x with
    | number s m i => exact ⟨_, rfl, rfl⟩
    | infinity s => exact ⟨.infinity (s ^^ false), by simp [Ieee.Datum.product, hn], rfl⟩
    | nan s f => rw [hX] at hx; simp [Ieee.Datum.isNaN] at hx
  obtain ⟨d, hd, hdn⟩ := this
  have e : Ieee.double.mul x y = some (Ieee.double.write d) := by unfold Ieee.Format.mul; rw [hd]; rfl
  refine ⟨?_, ?_⟩
  · show Ieee.double.mul x y = _
    unfold mulF; rw [e]; rfl
  · unfold mulF; rw [e]; exact nan_write hdn
theorem div_some {x y : Nat} (hx : NoNaN x) (hy : Fin1 y) : floatBits .quo .f64 x y = some (divF x y) ∧ NoNaN (divF x y) := by
  obtain ⟨n, j, hr, hn⟩ := hy
  have : ∃ d, (Ieee.double.read x).quotient (Ieee.double.fractionBits + 2) (Ieee.double.read y) = some d ∧ d.isNaN = false := by
    rw [hr]
    unfold NoNaN at hx
    cases hX : Ieee.double.read x with
    | number s m i => exact ⟨_, by simp only [Ieee.Datum.quotient, if_neg hn]; rfl, rfl⟩
    | infinity s => exact ⟨_, rfl, rfl⟩
    | nan s f => rw [hX] at hx; simp [Ieee.Datum.isNaN] at hx
  obtain ⟨d, hd, hdn⟩ := this
  have e : Ieee.double.div x y = some (Ieee.double.write d) := by unfold Ieee.Format.div; rw [hd]; rfl
  refine ⟨?_, ?_⟩
  · show Ieee.double.div x y = _
    unfold divF; rw [e]; rfl
  · unfold divF; rw [e]; exact nan_write hdn

/-- Too great, or too small, for one more factor. -/
def far (f : Nat) : Bool := (FloatKind.f64.format.order f 4831355200913801216 == some .gt) || (FloatKind.f64.format.order f 14054727237768577024 == some .lt)
/-- What atof64exact gives, over the powers of ten. -/
def exF (Q : Nat → Nat) (m : Nat) (p : Int) : Option Nat :=
  if 4503599627370496 ≤ m then none
  else if p = 0 then some (floatOfInt .f64 (m : Int))
  else if 22 < p ∧ p ≤ 37 then
    (if far (mulF (floatOfInt .f64 (m : Int)) (Q (p - 22).toNat)) then none else some (mulF (mulF (floatOfInt .f64 (m : Int)) (Q (p - 22).toNat)) (Q 22)))
  else if 0 < p ∧ p ≤ 22 then
    (if far (floatOfInt .f64 (m : Int)) then none else some (mulF (floatOfInt .f64 (m : Int)) (Q p.toNat)))
  else if p < 0 ∧ -22 ≤ p then some (divF (floatOfInt .f64 (m : Int)) (Q (-p).toNat))
  else none

/-- The table of powers of ten. -/
structure P10 (w : World) (Q : Nat → Nat) : Prop where
  mb : w.cell? ⟨6, 0, none⟩ = some (.int .u64 52)
  pow : ∃ a cap, w.cell? ⟨9, 0, none⟩ = some (.slice (some a) 23 cap) ∧ ∀ i, 0 < i → i < 23 → w.cell? ⟨a.block, a.off + i, none⟩ = some (.float .f64 (Q i))
  fin : ∀ i, i < 23 → Fin1 (Q i)
theorem P10.env {w0 W : World} {Q : Nat → Nat} (h : P10 w0 Q) (e : Env w0 W) : P10 W Q := by
  obtain ⟨h1, a, cap, h3, h4⟩ := h.1, h.2
  exact ⟨e.cell h.1, ⟨a, cap, e.cell h3, fun i h0 hi => e.cell (h4 i h0 hi)⟩, h.3⟩

theorem ex_cv (w : World) (m : Int) : (convert 73 35 (.int .u64 m)).run Tryz.prog w = .ok (.float .f64 (floatOfInt .f64 m)) w :=
  run_convert_int_float w _ _ _ _ _ (by kernel_rfl) (by kernel_rfl)

set_option maxRecDepth 100000 in
set_option maxHeartbeats 1000000 in
theorem ex_big {w : World} {Q : Nat → Nat} (h : P10 w Q) (m : Nat) (p : Int) (hm : 4503599627370496 ≤ m) (hm2 : m < 10000000000000000000) : Calls Tryz.prog 151 #[.int .u64 (m : Int), .int .i64 p, .bool false] w fun e w' => e = .returned (.tuple #[.float .f64 0, .bool false]) ∧ w = w' := by
  have h1 := h.1
  clear h
  have hs := shr_run w (m : Int) 52 (by omega) .u64
  have e1 : (((m : Int) / 2 ^ 52) != 0) = true := by simp; omega
  generalize (m : Int) / 2 ^ 52 = z at hs e1
  go_enter Tryz.func151, Tryz.ntmps151
  go_wp2
  go_ret2
  exact ⟨rfl, rfl⟩

theorem sh_small {m : Nat} (hm : m < 4503599627370496) : (((m : Int) / 2 ^ 52) != 0) = false := by
  have : (m : Int) / 2 ^ 52 = 0 := by omega
  rw [this]; rfl

set_option maxRecDepth 100000 in
set_option maxHeartbeats 1000000 in
theorem ex_zero {w : World} {Q : Nat → Nat} (h : P10 w Q) (m : Nat) (hm : m < 4503599627370496) : Calls Tryz.prog 151 #[.int .u64 (m : Int), .int .i64 0, .bool false] w fun e w' => e = .returned (.tuple #[.float .f64 (floatOfInt .f64 (m : Int)), .bool true]) ∧ w = w' := by
  have h1 := h.1
  clear h
  have hs := shr_run w (m : Int) 52 (by omega) .u64
  have e1 := sh_small hm
  generalize (m : Int) / 2 ^ 52 = z at hs e1
  have hcv := ex_cv w (m : Int)
  generalize floatOfInt .f64 (m : Int) = F at hcv ⊢
  go_enter Tryz.func151, Tryz.ntmps151
  go_wp2
  go_ret2
  exact ⟨rfl, rfl⟩

set_option maxRecDepth 100000 in
set_option maxHeartbeats 1000000 in
theorem ex_mid {w : World} {Q : Nat → Nat} (h : P10 w Q) (m k : Nat) (hm : m < 4503599627370496) (hk0 : 0 < k) (hk : k ≤ 22) (hf : far (floatOfInt .f64 (m : Int)) = false) : Calls Tryz.prog 151 #[.int .u64 (m : Int), .int .i64 (k : Int), .bool false] w fun e w' => e = .returned (.tuple #[.float .f64 (mulF (floatOfInt .f64 (m : Int)) (Q k)), .bool true]) ∧ w = w' := by
  have h1 := h.1
  obtain ⟨a, cap, h3, h4⟩ := h.2
  have hq : w.cell? (a.add k) = some (.float .f64 (Q k)) := by
    have e : a.add k = ⟨a.block, a.off + k, none⟩ := if_neg (by omega)
    rw [e]; exact h4 k (by omega) (by omega)
  have hmul := run_float_arith (P := Tryz.prog) w .mul 35 .f64 _ _ _ (mul_some (fi_nan (m : Int)) (h.3 k (by omega))).1
  clear h h4
  have hs := shr_run w (m : Int) 52 (by omega) .u64
  have e1 := sh_small hm
  generalize (m : Int) / 2 ^ 52 = z at hs e1
  have hcv := ex_cv w (m : Int)
  unfold far at hf
  rw [Bool.or_eq_false_iff] at hf
  obtain ⟨o1, o3⟩ := hf
  generalize mulF (floatOfInt .f64 (m : Int)) (Q k) = Z at hmul ⊢
  generalize Q k = Y at hq hmul
  generalize floatOfInt .f64 (m : Int) = F at hcv o1 o3 hmul
  have o2 : ¬ FloatKind.f64.format.order F 4831355200913801216 = some Ordering.gt := by simpa using o1
  have c1 : ((k : Int) == 0) = false := by simp; omega
  have c2 : (0 : Int) < (k : Int) := by omega
  have c3 : (k : Int) ≤ 37 := by omega
  have c4 : ¬ (22 : Int) < (k : Int) := by omega
  have c5 : (k : Int) < 23 := by omega
  have c6 : (0 : Int) ≤ (k : Int) := by omega
  go_enter Tryz.func151, Tryz.ntmps151
  go_wp2
  go_ret2
  exact ⟨rfl, rfl⟩

set_option maxRecDepth 100000 in
set_option maxHeartbeats 1000000 in
theorem ex_midF {w : World} {Q : Nat → Nat} (h : P10 w Q) (m k : Nat) (hm : m < 4503599627370496) (hk0 : 0 < k) (hk : k ≤ 22) (hf : far (floatOfInt .f64 (m : Int)) = true) : Calls Tryz.prog 151 #[.int .u64 (m : Int), .int .i64 (k : Int), .bool false] w fun e w' => e = .returned (.tuple #[.float .f64 (floatOfInt .f64 (m : Int)), .bool false]) ∧ w = w' := by
  have h1 := h.1
  clear h
  have hs := shr_run w (m : Int) 52 (by omega) .u64
  have e1 := sh_small hm
  generalize (m : Int) / 2 ^ 52 = z at hs e1
  have hcv := ex_cv w (m : Int)
  unfold far at hf
  generalize floatOfInt .f64 (m : Int) = F at hcv hf ⊢
  have c1 : ((k : Int) == 0) = false := by simp; omega
  have c2 : (0 : Int) < (k : Int) := by omega
  have c3 : (k : Int) ≤ 37 := by omega
  have c4 : ¬ (22 : Int) < (k : Int) := by omega
  by_cases o : FloatKind.f64.format.order F 4831355200913801216 = some Ordering.gt
  · have o1 : (FloatKind.f64.format.order F 4831355200913801216 == some Ordering.gt) = true := by simpa using o
    clear hf
    go_enter Tryz.func151, Tryz.ntmps151
    go_wp2
    go_ret2
    exact ⟨rfl, rfl⟩
  · have o1 : (FloatKind.f64.format.order F 4831355200913801216 == some Ordering.gt) = false := by simpa using o
    have o3 : (FloatKind.f64.format.order F 14054727237768577024 == some Ordering.lt) = true := by rw [o1] at hf; simpa using hf
    clear hf
    go_enter Tryz.func151, Tryz.ntmps151
    go_wp2
    go_ret2
    exact ⟨rfl, rfl⟩

set_option maxRecDepth 100000 in
set_option maxHeartbeats 1000000 in
theorem ex_div {w : World} {Q : Nat → Nat} (h : P10 w Q) (m k : Nat) (hm : m < 4503599627370496) (hk0 : 0 < k) (hk : k ≤ 22) : Calls Tryz.prog 151 #[.int .u64 (m : Int), .int .i64 (-(k : Int)), .bool false] w fun e w' => e = .returned (.tuple #[.float .f64 (divF (floatOfInt .f64 (m : Int)) (Q k)), .bool true]) ∧ w = w' := by
  have h1 := h.1
  obtain ⟨a, cap, h3, h4⟩ := h.2
  have hq : w.cell? (a.add k) = some (.float .f64 (Q k)) := by
    have e : a.add k = ⟨a.block, a.off + k, none⟩ := if_neg (by omega)
    rw [e]; exact h4 k (by omega) (by omega)
  have hdiv := run_float_arith (P := Tryz.prog) w .quo 35 .f64 _ _ _ (div_some (fi_nan (m : Int)) (h.3 k (by omega))).1
  clear h h4
  have hs := shr_run w (m : Int) 52 (by omega) .u64
  have e1 := sh_small hm
  generalize (m : Int) / 2 ^ 52 = z at hs e1
  have hcv := ex_cv w (m : Int)
  generalize divF (floatOfInt .f64 (m : Int)) (Q k) = Z at hdiv ⊢
  generalize Q k = Y at hq hdiv
  generalize floatOfInt .f64 (m : Int) = F at hcv hdiv
  have c1 : ((-(k : Int)) == 0) = false := by simp; omega
  have c1' : ¬ k = 0 := by omega
  have c2 : ¬ (0 : Int) < -(k : Int) := by omega
  have c3 : -(k : Int) < 0 := by omega
  have c4 : (-22 : Int) ≤ -(k : Int) := by omega
  have c5 : (k : Int) < 23 := by omega
  have c6 : (0 : Int) ≤ (k : Int) := by omega
  go_enter Tryz.func151, Tryz.ntmps151
  go_wp2
  go_ret2
  exact ⟨rfl, rfl⟩

set_option maxRecDepth 100000 in
set_option maxHeartbeats 1000000 in
theorem ex_out {w : World} {Q : Nat → Nat} (h : P10 w Q) (m : Nat) (p : Int) (hm : m < 4503599627370496) (hp : 37 < p ∨ p < -22) : Calls Tryz.prog 151 #[.int .u64 (m : Int), .int .i64 p, .bool false] w fun e w' => e = .returned (.tuple #[.float .f64 (floatOfInt .f64 (m : Int)), .bool false]) ∧ w = w' := by
  have h1 := h.1
  clear h
  have hs := shr_run w (m : Int) 52 (by omega) .u64
  have e1 := sh_small hm
  generalize (m : Int) / 2 ^ 52 = z at hs e1
  have hcv := ex_cv w (m : Int)
  generalize floatOfInt .f64 (m : Int) = F at hcv ⊢
  have c1 : (p == 0) = false := by simp; omega
  have c1' : ¬ p = 0 := by omega
  rcases hp with hp | hp
  · have c2 : (0 : Int) < p := by omega
    have c3 : ¬ p ≤ 37 := by omega
    have c4 : ¬ p < 0 := by omega
    go_enter Tryz.func151, Tryz.ntmps151
    go_wp2
    go_ret2
    exact ⟨rfl, rfl⟩
  · have c2 : ¬ (0 : Int) < p := by omega
    have c3 : ¬ -22 ≤ p := by omega
    have c4 : p < 0 := by omega
    go_enter Tryz.func151, Tryz.ntmps151
    go_wp2
    go_ret2
    exact ⟨rfl, rfl⟩

set_option maxRecDepth 100000 in
set_option maxHeartbeats 1000000 in
theorem ex_far {w : World} {Q : Nat → Nat} (h : P10 w Q) (m k : Nat) (p : Int) (hp : p = (k : Int) + 22) (hm : m < 4503599627370496) (hk0 : 0 < k) (hk : k ≤ 15) : Calls Tryz.prog 151 #[.int .u64 (m : Int), .int .i64 p, .bool false] w fun e w' => e = .returned (.tuple (if far (mulF (floatOfInt .f64 (m : Int)) (Q k)) then #[.float .f64 (mulF (floatOfInt .f64 (m : Int)) (Q k)), .bool false] else #[.float .f64 (mulF (mulF (floatOfInt .f64 (m : Int)) (Q k)) (Q 22)), .bool true])) ∧ w = w' := by
  have h1 := h.1
  obtain ⟨a, cap, h3, h4⟩ := h.2
  have hq : w.cell? (a.add k) = some (.float .f64 (Q k)) := by
    have e : a.add k = ⟨a.block, a.off + k, none⟩ := if_neg (by omega)
    rw [e]; exact h4 k (by omega) (by omega)
  have hq2 := h4 22 (by omega) (by omega)
  have hM := mul_some (fi_nan (m : Int)) (h.3 k (by omega))
  have hmul := run_float_arith (P := Tryz.prog) w .mul 35 .f64 _ _ _ hM.1
  have hmul2 := run_float_arith (P := Tryz.prog) w .mul 35 .f64 _ _ _ (mul_some hM.2 (h.3 22 (by omega))).1
  clear h h4 hM
  have hs := shr_run w (m : Int) 52 (by omega) .u64
  have e1 := sh_small hm
  generalize (m : Int) / 2 ^ 52 = z at hs e1
  have hcv := ex_cv w (m : Int)
  generalize mulF (mulF (floatOfInt .f64 (m : Int)) (Q k)) (Q 22) = Z2 at hmul2 ⊢
  generalize mulF (floatOfInt .f64 (m : Int)) (Q k) = Z at hmul hmul2 ⊢
  generalize Q k = Y at hq hmul
  generalize Q 22 = Y2 at hq2 hmul2
  generalize floatOfInt .f64 (m : Int) = F at hcv hmul
  have c1 : (p == 0) = false := by simp; omega
  have c1' : ¬ p = 0 := by omega
  have c2 : (0 : Int) < p := by omega
  have c3 : p ≤ 37 := by omega
  have c4 : (22 : Int) < p := by omega
  have c5 : (k : Int) < 23 := by omega
  have c6 : (0 : Int) ≤ (k : Int) := by omega
  have c7 : p - 22 = (k : Int) := by omega
  have c8 : (p - 22).toNat = k := by omega
  clear hp
  cases hf : far Z with
  | false =>
    rw [if_neg (by simp)]
    unfold far at hf
    rw [Bool.or_eq_false_iff] at hf
    obtain ⟨o1, o3⟩ := hf
    have o2 : ¬ FloatKind.f64.format.order Z 4831355200913801216 = some Ordering.gt := by simpa using o1
    go_enter Tryz.func151, Tryz.ntmps151
    go_wp2
    go_ret2
    exact ⟨rfl, rfl⟩
  | true =>
    rw [if_pos rfl]
    unfold far at hf
    by_cases o : FloatKind.f64.format.order Z 4831355200913801216 = some Ordering.gt
    · have o1 : (FloatKind.f64.format.order Z 4831355200913801216 == some Ordering.gt) = true := by simpa using o
      clear hf
      go_enter Tryz.func151, Tryz.ntmps151
      go_wp2
      go_ret2
      exact ⟨rfl, rfl⟩
    · have o1 : (FloatKind.f64.format.order Z 4831355200913801216 == some Ordering.gt) = false := by simpa using o
      have o3 : (FloatKind.f64.format.order Z 14054727237768577024 == some Ordering.lt) = true := by rw [o1] at hf; simpa using hf
      clear hf
      go_enter Tryz.func151, Tryz.ntmps151
      go_wp2
      go_ret2
      exact ⟨rfl, rfl⟩

theorem ex_any {w0 : World} {Q : Nat → Nat} (h0 : P10 w0 Q) : Exq w0 (exF Q) := by
  intro w e m p hm0 hm hp0 hp1
  have h := h0.env e
  unfold exF
  by_cases hb : 4503599627370496 ≤ m
  · rw [if_pos hb]
    exact (ex_big h m p hb hm).mono fun _ _ ⟨a, b⟩ => ⟨⟨0, a⟩, b⟩
  rw [if_neg hb]
  by_cases hz : p = 0
  · rw [if_pos hz]; subst hz
    exact (ex_zero h m (by omega)).mono fun _ _ ⟨a, b⟩ => ⟨⟨0, a⟩, b⟩
  rw [if_neg hz]
  by_cases hc : 22 < p ∧ p ≤ 37
  · rw [if_pos hc]
    refine (ex_far h m (p - 22).toNat p (by omega) (by omega) (by omega) (by omega)).mono ?_
    intro e1 w1 ⟨a, b⟩
    refine ⟨⟨mulF (floatOfInt .f64 (m : Int)) (Q (p - 22).toNat), ?_⟩, b⟩
    rw [a]
    split <;> rfl
  rw [if_neg hc]
  by_cases hd : 0 < p ∧ p ≤ 22
  · rw [if_pos hd]
    obtain ⟨k, rfl⟩ : ∃ k : Nat, p = (k : Int) := ⟨p.toNat, by omega⟩
    have ek : ((k : Int)).toNat = k := by omega
    rw [ek]
    cases hf : far (floatOfInt .f64 (m : Int)) with
    | true =>
      rw [if_pos rfl]
      exact (ex_midF h m k (by omega) (by omega) (by omega) hf).mono fun _ _ ⟨a, b⟩ => ⟨⟨_, a⟩, b⟩
    | false =>
      rw [if_neg (by simp)]
      exact (ex_mid h m k (by omega) (by omega) (by omega) hf).mono fun _ _ ⟨a, b⟩ => ⟨⟨0, a⟩, b⟩
  rw [if_neg hd]
  by_cases hg : p < 0 ∧ -22 ≤ p
  · rw [if_pos hg]
    obtain ⟨k, rfl⟩ : ∃ k : Nat, p = -(k : Int) := ⟨(-p).toNat, by omega⟩
    have ek : (-(-(k : Int))).toNat = k := by omega
    rw [ek]
    exact (ex_div h m k (by omega) (by omega) (by omega)).mono fun _ _ ⟨a, b⟩ => ⟨⟨0, a⟩, b⟩
  · rw [if_neg hg]
    exact (ex_out h m p (by omega) (by omega)).mono fun _ _ ⟨a, b⟩ => ⟨⟨_, a⟩, b⟩

end Go.Proofs.YtionmohglmbklaaGreatDoor.Tr
