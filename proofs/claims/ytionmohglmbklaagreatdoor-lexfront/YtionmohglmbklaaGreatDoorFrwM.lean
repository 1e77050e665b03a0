import Derived.Test.YtionmohglmbklaaGreatDoorAsl
import Derived.Laws.BitsAllLaws
import Derived.Test.YtionmohglmbklaaGreatDoorRna
import Derived.Test.YtionmohglmbklaaGreatDoorTeq
import Derived.Test.YtionmohglmbklaaGreatDoorPlc
import Derived.Test.YtionmohglmbklaaGreatDoorShw
/- No float's text is read as a NaN. -/
namespace Go.Proofs.YtionmohglmbklaaGreatDoor.Tr
open Go.RowKit

theorem noNaN_le {n : Nat} (h : n ≤ 9218868437227405312) : NoNaN n := by
  have e2 : Ieee.double.infRung = 9218868437227405312 := by decide +kernel
  have := read_word (s := false) (r := n) (by rw [e2]; exact h)
  have e : Ieee.double.word false n = n := by
    unfold Ieee.Format.word
    simp
  rw [e] at this; exact this

theorem exF_nan {Q : Nat → Nat} (hQ : ∀ i, i < 23 → Fin1 (Q i)) {m : Nat} {p : Int} {f : Nat} (h : exF Q m p = some f) : NoNaN f := by
  unfold exF at h
  split at h
  · cases h
  split at h
  · injection h with h; subst h; exact fi_nan _
  split at h
  · rename_i hp
    split at h
    · cases h
    · injection h with h; subst h
      exact (mul_some (mul_some (fi_nan _) (hQ _ (by omega))).2 (hQ 22 (by omega))).2
  split at h
  · rename_i hp
    split at h
    · cases h
    · injection h with h; subst h
      exact (mul_some (fi_nan _) (hQ _ (by omega))).2
  split at h
  · rename_i hp
    injection h with h; subst h
    exact (div_some (fi_nan _) (hQ _ (by omega))).2
  · cases h

theorem and2047 (s : Nat) (h : s < 2048) : bits BinOp.and .i64 (s : Int) 2047 = (s : Int) := by
  have : ∀ k : Fin 2048, bits BinOp.and .i64 ((k.val : Nat) : Int) 2047 = ((k.val : Nat) : Int) := by decide +kernel
  exact this ⟨s, h⟩
theorem fbOut_le {m e : Int} (h0 : 0 ≤ m) (h1 : m < 18446744073709551616) (h2 : -1023 ≤ e) (h3 : e ≤ 1023) : (fbOut m e).toNat ≤ 9218868437227405312 := by
  obtain ⟨M, rfl⟩ : ∃ M : Nat, m = (M : Int) := ⟨m.toNat, by omega⟩
  obtain ⟨E, hE⟩ : ∃ E : Nat, e + 1023 = (E : Int) := ⟨(e + 1023).toNat, by omega⟩
  unfold fbOut
  have a1 : bits BinOp.and .u64 (M : Int) 4503599627370495 = ((M % 2 ^ 52 : Nat) : Int) := and_mask M 52 (by omega) (by omega)
  have hm : M % 2 ^ 52 < 2 ^ 52 := Nat.mod_lt _ (by decide)
  have w1 : IntKind.u64.wrap (E : Int) = (E : Int) := u64w (by omega) (by omega)
  have w2 : IntKind.u64.wrap ((E : Int) * 4503599627370496) = (E : Int) * 4503599627370496 := u64w (by omega) (by omega)
  rw [a1, hE, and2047 E (by omega), w1, w2]
  have e1 : ((E : Int) * 4503599627370496) = ((2 ^ 52 * E : Nat) : Int) := by
    rw [show (2 ^ 52 : Nat) = 4503599627370496 by decide]; omega
  rw [e1, u64_or_nat _ _ (by omega) (by rw [show (2 ^ 52 : Nat) = 4503599627370496 by decide]; omega), Nat.or_comm, ← Nat.two_pow_add_eq_or_of_lt hm]
  rw [show (2 ^ 52 : Nat) = 4503599627370496 by decide] at hm ⊢
  omega

theorem riS_u (n : Int) (c : UInt8) : U64 (riS n c) := U64.wrap _
theorem riA_u (L : List UInt8) : ∀ i, U64 (riA L i) := by
  intro i
  unfold riA
  suffices h : ∀ (l : List UInt8) (n : Int), U64 n → U64 (l.foldl riS n) from h _ 0 ⟨by decide, by decide⟩
  intro l
  induction l with
  | nil => intro n h; exact h
  | cons c r ih => intro n _; exact ih _ (riS_u n c)
theorem riB_u : ∀ (j : Nat) (n : Int), U64 n → U64 (riB j n)
  | 0, _, h => h
  | j + 1, _, _ => riB_u j _ (U64.wrap _)
theorem rInt_u (s : DC) : U64 (rInt s) := by
  unfold rInt
  split
  · exact ⟨by decide, by decide⟩
  · simp only
    split
    · exact U64.wrap _
    · exact riB_u _ _ (riA_u _ _)

theorem fbM_le {m e : Int} (hm : U64 m) (h2 : -1022 ≤ e) (h3 : e + 1023 < 2047) (h : (fbM m e).2 = false) : (fbM m e).1.toNat ≤ 9218868437227405312 := by
  have a := hm.1
  have b := hm.2
  unfold fbM at h ⊢
  split at h
  · rename_i hm2
    rw [if_pos hm2]
    split at h
    · cases h
    · rename_i hov
      rw [if_neg hov]
      exact fbOut_le (by omega) (by omega) (by omega) (by omega)
  · rename_i hm2
    rw [if_neg hm2]
    exact fbOut_le a b (by split <;> omega) (by split <;> omega)
theorem fbE_le {C : Nat → Nat × List UInt8} {s : DC} {e : Int} (h2 : -1022 ≤ e) (h : (fbE C s e).2 = false) : (fbE C s e).1.toNat ≤ 9218868437227405312 := by
  unfold fbE at h ⊢
  split at h
  · cases h
  · rename_i hov
    rw [if_neg hov]
    exact fbM_le (rInt_u _) h2 (by omega) h
theorem fbF_le {C : Nat → Nat × List UInt8} {s : DC} (h : (fbF C s).2 = false) : (fbF C s).1.toNat ≤ 9218868437227405312 := by
  unfold fbF at h ⊢
  split at h
  · cases h
  rename_i h1
  rw [if_neg h1]
  split at h
  · rename_i h2
    rw [if_pos h2]
    exact fbOut_le (by omega) (by omega) (by omega) (by omega)
  rename_i h2
  rw [if_neg h2]
  unfold fbD at h ⊢
  split at h
  · rename_i h3
    rw [if_pos h3]
    exact fbE_le (by omega) h
  · rename_i h3
    rw [if_neg h3]
    exact fbE_le (by omega) h

theorem packF_le {m : Nat} {e : Int} (hm : m ≤ 9007199254740992) (h0 : -1075 ≤ e) (h : (packF (m : Int) e).2 = false) : (packF (m : Int) e).1 ≤ 9218868437227405312 := by
  unfold packF at h ⊢
  split at h
  · rename_i h1
    rw [if_pos h1]
    simp only
    omega
  · rename_i h1
    rw [if_neg h1]
    split at h
    · cases h
    · rename_i h2
      rw [if_neg h2]
      simp only
      have hm2 : m < 9007199254740992 := by
        rcases Nat.lt_or_ge m 9007199254740992 with h | h
        · exact h
        · obtain rfl : m = 9007199254740992 := by omega
          exact absurd (show (bits BinOp.and .u64 ((9007199254740992 : Nat) : Int) 4503599627370496 == 0) = true by decide +kernel) h1
      have a1 : bits BinOp.andNot .u64 (m : Int) 4503599627370496 = ((m &&& (18446744073709551615 - 4503599627370496) : Nat) : Int) := u64_andNot_nat m 4503599627370496 (by omega) (by omega)
      have b1 : bits BinOp.and .u64 (m : Int) 4503599627370496 = ((m &&& 4503599627370496 : Nat) : Int) := u64_and_nat m 4503599627370496 (by omega) (by omega)
      obtain ⟨E, hE⟩ : ∃ E : Nat, (1075 + e) = (E : Int) := ⟨(1075 + e).toNat, by omega⟩
      have hx : m &&& (18446744073709551615 - 4503599627370496) < 2 ^ 52 := by
        have hne : m &&& 4503599627370496 ≠ 0 := by
          intro e0
          rw [b1, e0] at h1
          exact h1 rfl
        have hge : 2 ^ 52 ≤ m := by
          rcases Nat.lt_or_ge m (2 ^ 52) with h | h
          · exfalso
            apply hne
            rw [show (4503599627370496 : Nat) = 2 ^ 52 by decide]
            apply Nat.eq_of_testBit_eq
            intro i
            rw [Nat.testBit_and, Nat.testBit_two_pow, Nat.zero_testBit]
            by_cases hi : 52 = i
            · subst hi
              rw [Nat.testBit_lt_two_pow h]; rfl
            · simp [hi]
          · exact h
        have e5 : m = 2 ^ 52 * 1 + (m - 2 ^ 52) := by omega
        have hlt : m - 2 ^ 52 < 2 ^ 52 := by rw [show (2 ^ 52 : Nat) = 4503599627370496 by decide]; omega
        rw [e5, Nat.two_pow_add_eq_or_of_lt hlt, Nat.and_or_distrib_right]
        have z : 2 ^ 52 * 1 &&& (18446744073709551615 - 4503599627370496) = 0 := by decide +kernel
        rw [z, Nat.zero_or]
        exact Nat.lt_of_le_of_lt Nat.and_le_left hlt
      rw [a1, hE]
      have e1 : ((E : Int) * 4503599627370496) = ((2 ^ 52 * E : Nat) : Int) := by
        rw [show (2 ^ 52 : Nat) = 4503599627370496 by decide]; omega
      generalize (m &&& (18446744073709551615 - 4503599627370496)) = y at hx ⊢
      have hp : (2 ^ 52 : Nat) = 4503599627370496 := by decide
      rw [e1, u64_or_nat _ _ (by omega) (by rw [hp]; omega), Nat.or_comm, ← Nat.two_pow_add_eq_or_of_lt hx]
      rw [hp] at hx ⊢
      omega

theorem rndF_le {u : Int} (h0 : 0 ≤ u) (h1 : u < 36028797018963968) : 0 ≤ rndF u ∧ rndF u ≤ 9007199254740992 := by
  obtain ⟨U, rfl⟩ : ∃ U : Nat, u = (U : Int) := ⟨u.toNat, by omega⟩
  unfold rndF
  have a : (U : Int) / 4 = ((U / 4 : Nat) : Int) := by omega
  have b : bits BinOp.and .u64 ((U / 4 : Nat) : Int) 1 = ((U / 4 &&& 1 : Nat) : Int) := u64_and_nat (U / 4) 1 (by omega) (by omega)
  have c : U / 4 &&& 1 ≤ 1 := Nat.and_le_right
  rw [a, b]
  generalize U / 4 &&& 1 = z at c
  have w1 : IntKind.u64.wrap ((U : Int) + 1) = (U : Int) + 1 := u64w (by omega) (by omega)
  rw [w1, u64w (by omega) (by omega)]
  omega
theorem or_lt {a b k : Nat} (ha : a < 2 ^ k) (hb : b < 2 ^ k) : a ||| b < 2 ^ k := Nat.or_lt_two_pow ha hb
theorem usF_lt {x hi lo s : Nat} (hx : x < 18446744073709551616) (hh : hi < 18446744073709551616) (hs : 8 ≤ s) : 0 ≤ usF x hi lo s ∧ usF x hi lo s < 72057594037927936 := by
  have hH : x * hi / 18446744073709551616 < 18446744073709551616 := by
    apply Nat.div_lt_of_lt_mul
    exact Nat.mul_lt_mul'' hx hh
  have key : ∀ (y : Int) (z : Nat), 0 ≤ y → y < 18446744073709551616 → z ≤ 1 → 0 ≤ bits BinOp.or .u64 (y / 2 ^ s) (z : Int) ∧ bits BinOp.or .u64 (y / 2 ^ s) (z : Int) < 72057594037927936 := by
    intro y z h0 h1 hz
    obtain ⟨Y, rfl⟩ : ∃ Y : Nat, y = (Y : Int) := ⟨y.toNat, by omega⟩
    have e : (Y : Int) / 2 ^ s = ((Y / 2 ^ s : Nat) : Int) := by simp
    have hlt : Y / 2 ^ s < 2 ^ 56 := by
      apply Nat.div_lt_of_lt_mul
      have h1 : 2 ^ 8 ≤ 2 ^ s := Nat.pow_le_pow_right (by decide) hs
      have h2 : 2 ^ 8 * 2 ^ 56 ≤ 2 ^ s * 2 ^ 56 := Nat.mul_le_mul_right _ h1
      have h3 : (2 ^ 8 * 2 ^ 56 : Nat) = 18446744073709551616 := by decide
      omega
    have hp : (2 ^ 56 : Nat) = 72057594037927936 := by decide
    rw [e, u64_or_nat _ _ (by omega) (by omega)]
    have := or_lt hlt (show z < 2 ^ 56 by omega)
    omega
  unfold usF
  simp only
  generalize x * hi / 18446744073709551616 = H at *
  split
  · exact key (H : Int) 1 (by omega) (by omega) (by omega)
  · generalize ((H : Int) - (if decide (x * hi % 18446744073709551616 < x * lo / 18446744073709551616) = true then 1 else 0)) = y
    have hw := U64.wrap y
    generalize IntKind.u64.wrap y = y' at hw
    generalize decide (1 < IntKind.u64.wrap _) = d
    cases d
    · exact key y' 0 hw.1 hw.2 (by omega)
    · exact key y' 1 hw.1 hw.2 (by omega)

theorem pf64_le {T : Nat → Nat × Nat} (hT : ∀ i, i < 696 → (T i).1 < 18446744073709551616) {d i : Nat} (h0 : d ≠ 0) (hd : d < 18446744073709551616) (hi : i < 696) (h : (pf64 T d i).2 = false) : (pf64 T d i).1 ≤ 9218868437227405312 := by
  have hb := len_bounds h0 hd
  unfold pf64 at h ⊢
  simp only at h ⊢
  split at h
  · rename_i hs; rw [if_pos hs]; omega
  · rename_i hs
    rw [if_neg hs]
    generalize Lib.bitLen d = b at *
    have hs8 : 8 ≤ (-(min 1074 (53 - (b : Int) - ((i : Int) - 348) * 108853 / 32768) - (64 - (b : Int)) + ((i : Int) - 348) * 108853 / 32768 + 3)).toNat := by omega
    have hu := usF_lt (x := (IntKind.u64.wrap ((d : Int) * 2 ^ (64 - b))).toNat) (lo := (T i).2) (by have := (U64.wrap ((d : Int) * 2 ^ (64 - b))); unfold U64 at this; omega) (hT i hi) hs8
    generalize usF _ (T i).1 (T i).2 _ = u at *
    have hE : -1075 ≤ -(min 1074 (53 - (b : Int) - ((i : Int) - 348) * 108853 / 32768) - ((if decide (36028797018963966 ≤ u) = true then 1 else 0 : Nat) : Int)) := by
      split <;> omega
    have hr : 0 ≤ rndF (bits BinOp.or .u64 (u / 2 ^ (if decide (36028797018963966 ≤ u) = true then 1 else 0 : Nat)) (bits BinOp.and .u64 u 1)) ∧ rndF (bits BinOp.or .u64 (u / 2 ^ (if decide (36028797018963966 ≤ u) = true then 1 else 0 : Nat)) (bits BinOp.and .u64 u 1)) ≤ 9007199254740992 := by
      obtain ⟨U, rfl⟩ : ∃ U : Nat, u = (U : Int) := ⟨u.toNat, by omega⟩
      have b1 : bits BinOp.and .u64 (U : Int) 1 = ((U &&& 1 : Nat) : Int) := u64_and_nat U 1 (by omega) (by omega)
      have c1 : U &&& 1 ≤ 1 := Nat.and_le_right
      have hp : (2 ^ 55 : Nat) = 36028797018963968 := by decide
      rw [b1]
      generalize U &&& 1 = z at c1
      split
      · have e : (U : Int) / 2 ^ 1 = ((U / 2 : Nat) : Int) := by omega
        rw [e, u64_or_nat _ _ (by omega) (by omega)]
        have := or_lt (k := 55) (show U / 2 < 2 ^ 55 by omega) (show z < 2 ^ 55 by omega)
        exact rndF_le (by omega) (by omega)
      · rename_i hlt
        have hlt' : (U : Int) < 36028797018963966 := by simpa using hlt
        have e : (U : Int) / 2 ^ 0 = ((U : Nat) : Int) := by omega
        rw [e, u64_or_nat _ _ (by omega) (by omega)]
        have := or_lt (k := 55) (show U < 2 ^ 55 by omega) (show z < 2 ^ 55 by omega)
        exact rndF_le (by omega) (by omega)
    generalize rndF _ = r at *
    obtain ⟨R, rfl⟩ : ∃ R : Nat, r = (R : Int) := ⟨r.toNat, by omega⟩
    have e0 : bits BinOp.or .u64 0 (R : Int) = (R : Int) := by
      have := u64_or_nat 0 R (by omega) (by omega)
      rw [Nat.zero_or] at this; exact this
    rw [e0] at h ⊢
    exact packF_le (by omega) hE h

theorem floatEq_self {n : Nat} (h : NoNaN n) : Op.floatEq .f64 n n = true := by
  unfold Op.floatEq
  show ((Ieee.double.read n).order (Ieee.double.read n) == some .eq) = true
  unfold NoNaN at h
  cases hd : Ieee.double.read n with
  | number s m i => simp [Ieee.Datum.order]
  | infinity s => simp [Ieee.Datum.order]
  | nan s f => rw [hd] at h; simp [Ieee.Datum.isNaN] at h

theorem atofA_nan {T : Nat → Nat × Nat} {Q : Nat → Nat} {C : Nat → Nat × List UInt8} (hT : ∀ i, i < 696 → (T i).1 < 18446744073709551616) (hQ : ∀ i, i < 23 → Fin1 (Q i)) {t : List UInt8} {p q : Nat} {ex : Int} (ht : FTx t p q) (h : (atofA T Q C t q ex).2 = false) : NoNaN (atofA T Q C t q ex).1 := by
  have hi := RI.at ht q (Nat.le_refl _)
  have hm := pow_le19 hi.mb hi.nm
  unfold atofA at h ⊢
  simp only at h ⊢
  generalize (if (rfAt t q).m = 0 then (0 : Int) else (rfAt t q).dp + ex - ((rfAt t q).nm : Int)) = x at *
  have hpf : ∀ i : Nat, i < 696 → (rfAt t q).m ≠ 0 → (pf64 T (rfAt t q).m i).2 = false → NoNaN (pf64 T (rfAt t q).m i).1 := fun i hi' h0 hb => noNaN_le (pf64_le hT h0 (by omega) hi' hb)
  split at h
  · rename_i htr
    rw [if_pos htr]
    unfold atofN at h ⊢
    split at h
    · rename_i h1; rw [if_pos h1]; exact noNaN_le (by decide)
    rename_i h1
    rw [if_neg h1]
    split at h
    · cases h
    rename_i h2
    rw [if_neg h2]
    split at h
    · rename_i h3; rw [if_pos h3]; exact noNaN_le (by decide)
    rename_i h3
    rw [if_neg h3]
    split at h
    · rename_i f hf
      exact exF_nan hQ hf
    · exact hpf _ (by omega) h1 h
  · rename_i htr
    rw [if_neg htr]
    split at h
    · rename_i hS
      rw [if_pos hS]
      exact noNaN_le (fbF_le h)
    · rename_i hS
      rw [if_neg hS]
      unfold atofT at h ⊢
      split at h
      · rename_i h1; rw [if_pos h1]; exact noNaN_le (by decide)
      rename_i h1
      rw [if_neg h1]
      split at h
      · cases h
      rename_i h2
      rw [if_neg h2]
      split at h
      · rename_i h3; rw [if_pos h3]; exact noNaN_le (by decide)
      rename_i h3
      rw [if_neg h3]
      exact hpf _ (by omega) h1 h

end Go.Proofs.YtionmohglmbklaaGreatDoor.Tr
/- Every text is read somehow, and no float of it is a NaN. -/
namespace Go.Proofs.YtionmohglmbklaaGreatDoor.Tr
open Go.RowKit

/-- Numbers are read, all of them, and no float is a NaN. -/
structure Nums2 (w0 : World) : Prop where
  flt : ∀ (t : List UInt8) (p q : Nat) (ex : Int), FTx t p q → FEnd t q ex → (∃ f, PFok w0 t f ∧ Op.floatEq .f64 f f = true) ∨ PFno w0 t
  int : ∀ t : List UInt8, t.all isDig = true → t.length ≤ 4096 → 0 < t.length → (∃ n, PIok w0 t n) ∨ PIno w0 t
theorem nums2_of {w0 : World} {T : Nat → Nat × Nat} {Q : Nat → Nat} {C : Nat → Nat × List UInt8} (h : Tbs w0 T Q) (hC : FbT w0 C) (hT : ∀ i, i < 696 → (T i).1 < 18446744073709551616) (hQ : ∀ i, i < 23 → Fin1 (Q i)) : Nums2 w0 := by
  refine ⟨fun t p q ex ht hx => ?_, fun t hd hl hne => ?_⟩
  · have hp := pf_of h ht.len (ato_any h hC ht hx)
    cases hb : (atofA T Q C t q ex).2 with
    | false => exact .inl ⟨_, hp.1 hb, floatEq_self (atofA_nan hT hQ ht hb)⟩
    | true => exact .inr (hp.2 hb)
  · rcases Nat.lt_or_ge (val t) 9223372036854775808 with hv | hv
    · exact .inl ⟨_, pint_ok hd hl hne hv⟩
    · exact .inr (pint_no h.rng hd hl hne hv)

/-- A token's float equals itself. -/
def Step.good : Step → Prop
  | .tok x _ => Op.floatEq .f64 x.flt x.flt = true
  | .bad _ _ => True
theorem here_ex2 {w0 : World} (hN : Nums2 w0) {t : List UInt8} (hl : t.length ≤ 4096) {k : Nat} (hk : k ≤ t.length) : ∃ s, Here w0 t k s ∧ s.fits t k ∧ s.good := by
  rcases Nat.lt_or_ge k t.length with hlt | hge
  · cases hb : begN (at0 t k) with
    | true =>
      refine ⟨_, .name hlt hb, ⟨upto_le hk, fun _ => upto_gt hlt ?_⟩, floatEq0⟩
      rw [at0_lt hlt] at hb
      unfold inN; rw [hb]; rfl
    | false =>
      cases hd : isDig (at0 t k) with
      | true =>
        have hd' : isDig t[k] = true := by rw [← at0_lt hlt]; exact hd
        have hg := upto_gt hlt hd'
        have hul := upto_le (p := isDig) hk
        by_cases hz : 1 < upto isDig t k - k ∧ (at0 t k == 48) = true
        · exact ⟨_, .zero hlt hb hd hz.1 hz.2, ⟨Nat.le_refl _, hk, by decide⟩, trivial⟩
        · have hz' : 1 < upto isDig t k - k → (at0 t k == 48) = false := fun h => by
            cases hq : (at0 t k == 48) with
            | false => rfl
            | true => exact absurd ⟨h, hq⟩ hz
          by_cases hf : (at0 t (upto isDig t k) == 46) = true ∧ isDig (at0 t (upto isDig t k + 1)) = true
          · obtain ⟨p, q, ex, h1, h2⟩ := ftx_of hl hlt hd hf.1 hf.2
            rcases hN.flt _ p q ex h1 h2 with ⟨f, h3, h4⟩ | h3
            · have hfl := frac_le (at0_pos (by decide) hf.1)
              have hfg := frac_ge t (upto isDig t k)
              exact ⟨_, .flt hlt hb hd hz' hf.1 hf.2 h3, ⟨hfl, fun _ => by omega⟩, h4⟩
            · exact ⟨_, .fltno hlt hb hd hz' hf.1 hf.2 h3, ⟨Nat.le_refl _, hk, by decide⟩, trivial⟩
          · have hf' : (at0 t (upto isDig t k) == 46) = true → isDig (at0 t (upto isDig t k + 1)) = false := fun h => by
              cases hq : isDig (at0 t (upto isDig t k + 1)) with
              | false => rfl
              | true => exact absurd ⟨h, hq⟩ hf
            have hlen := sub_length t k (upto isDig t k) hul
            have hall : (sub t k (upto isDig t k)).all isDig = true := by
              rw [List.all_eq_true]
              intro x hx
              obtain ⟨j, hj, rfl⟩ := List.getElem_of_mem hx
              rw [sub_get t k _ _ hul hj]
              exact upto_all j k (k + j) (by omega) rfl (by omega)
            rcases hN.int _ hall (by omega) (by omega) with ⟨n, h3⟩ | h3
            · exact ⟨_, .int hlt hb hd hz' hf' h3, ⟨hul, fun _ => hg⟩, floatEq0⟩
            · exact ⟨_, .intno hlt hb hd hz' hf' h3, ⟨Nat.le_refl _, hk, by decide⟩, trivial⟩
      | false =>
        cases h34 : (at0 t k == 34) with
        | true =>
          obtain ⟨o, ho⟩ := str_ex t t.length (k + 1) [] (by omega) hlt
          exact ⟨_, .str hlt h34 ho, strO_fits ho (by omega) hlt, by cases o <;> first | exact floatEq0 | trivial⟩
        | false =>
          by_cases hs : signLen t k = 0
          · exact ⟨_, .byte hlt hb hd h34 hs, ⟨Nat.le_refl _, hk, by decide⟩, trivial⟩
          · exact ⟨_, .sign hlt hb hd h34 hs, ⟨sign_le hlt, fun _ => by omega⟩, floatEq0⟩
  · obtain rfl : k = t.length := by omega
    exact ⟨_, .fin, ⟨Nat.le_refl _, fun h => absurd rfl h⟩, floatEq0⟩
theorem run_ex2 {w0 : World} (hN : Nums2 w0) {t : List UInt8} (hl : t.length ≤ 4096) : ∀ (n k : Nat), t.length - k ≤ n → k ≤ t.length → ∃ L o, Run w0 t k L o ∧ L.length ≤ t.length - k + 1 ∧ ∀ x ∈ L, Op.floatEq .f64 x.flt x.flt = true
  | n, k, hn, hk => by
    obtain ⟨k1, hs⟩ := skp_ex t t.length (upto isBlank t k) (by omega) (upto_le hk)
    have h1 := upto_ge isBlank t k
    have h2 := hs.ge
    have h3 := hs.le (upto_le hk)
    obtain ⟨s, hh, hf, hgd⟩ := here_ex2 hN hl h3
    cases s with
    | bad a e => exact ⟨_, _, .bad hs hh, by simp, by simp⟩
    | tok x k2 =>
      obtain ⟨hf1, hf2⟩ := hf
      by_cases hx : x.kind = 0
      · exact ⟨_, _, .fin hs hh hx, by simp, fun y hy => by rw [List.mem_singleton.1 hy]; exact hgd⟩
      · have hg := hf2 hx
        cases n with
        | zero => omega
        | succ n =>
          obtain ⟨L, o, hr, hL, hGL⟩ := run_ex2 hN hl n k2 (by omega) hf1
          exact ⟨_, _, .tok hs hh hx hr, by simp; omega, fun y hy => (List.mem_cons.1 hy).elim (fun e => by rw [e]; exact hgd) (hGL y)⟩

end Go.Proofs.YtionmohglmbklaaGreatDoor.Tr
/- A text that is cut behind a token is read alike up to there. -/
namespace Go.Proofs.YtionmohglmbklaaGreatDoor.Tr
open Go.RowKit

theorem at0_take {t : List UInt8} {c k : Nat} (h : k < c) (hc : c ≤ t.length) : at0 (t.take c) k = at0 t k := by
  rw [at0_lt (by rw [List.length_take]; omega), at0_lt (by omega), List.getElem_take]
theorem at0_cut {t : List UInt8} {c k : Nat} (h : c ≤ k) : at0 (t.take c) k = 0 := at0_ge (by rw [List.length_take]; omega)
theorem upto_take {p : UInt8 → Bool} {t : List UInt8} {c : Nat} (hc : c ≤ t.length) : ∀ (d k : Nat), c - k = d → k ≤ c → upto p (t.take c) k = min (upto p t k) c
  | 0, k, hd, hk => by
    obtain rfl : k = c := by omega
    rw [upto_end (by rw [List.length_take]; omega)]
    have := upto_ge p t k
    omega
  | d + 1, k, hd, hk => by
    have hl : (t.take c).length = c := by rw [List.length_take]; omega
    have hkt : k < t.length := by omega
    cases hp : p t[k] with
    | false =>
      rw [upto_stop (by omega) (by rw [List.getElem_take]; exact hp), upto_stop hkt hp]
      omega
    | true =>
      rw [upto_step (by omega) (by rw [List.getElem_take]; exact hp), upto_step hkt hp]
      exact upto_take hc d (k + 1) (by omega) (by omega)
theorem upto_cut {p : UInt8 → Bool} {t : List UInt8} {c k : Nat} (hc : c ≤ t.length) (hk : upto p t k ≤ c) : upto p (t.take c) k = upto p t k := by
  have := upto_ge p t k
  rw [upto_take hc (c - k) k rfl (by omega)]; omega
theorem sub_take {t : List UInt8} {c a b : Nat} (h : b ≤ c) : sub (t.take c) a b = sub t a b := by
  unfold sub
  rw [List.take_take, Nat.min_eq_left h]
/-- Skipping to a place within what is left. -/
theorem skp_take {t : List UInt8} {c k k' : Nat} (hc : c ≤ t.length) (h : Skp t k k') (hk : k' ≤ c) : Skp (t.take c) k k' := by
  induction h with
  | @done k h =>
    refine .done ?_
    rcases Nat.lt_or_ge k c with hl | hl
    · rw [at0_take hl hc]; exact h
    · rw [at0_cut hl]; decide
  | @more k k' h hr ih =>
    have h1 := upto_ge inLine t k
    have h2 := upto_ge isBlank t (upto inLine t k)
    have h3 := hr.ge
    have hlt := at0_pos (by decide) h
    have hg : k < upto inLine t k := upto_gt hlt (by
      rw [at0_lt hlt] at h
      rw [eq_of_beq h]; decide)
    have e1 : upto inLine (t.take c) k = upto inLine t k := upto_cut hc (by omega)
    have e2 : upto isBlank (t.take c) (upto inLine t k) = upto isBlank t (upto inLine t k) := upto_cut hc (by omega)
    refine .more ?_ ?_
    · rw [at0_take (by omega) hc]; exact h
    · rw [e1, e2]; exact ih hk
theorem escp_take {t : List UInt8} {c k : Nat} {x : UInt8} (hc : c ≤ t.length) (h : escp t k = some x) (hk : k + 2 ≤ c) : escp (t.take c) k = some x := by
  unfold escp at h ⊢
  rw [at0_take (by omega) hc, at0_take (by omega) hc]; exact h
/-- A string that ends within what is left. -/
theorem strO_take {t : List UInt8} {c : Nat} (hc : c ≤ t.length) {k : Nat} {b : List UInt8} {o : Oc} (h : StrO t k b o) : ∀ s k', o = .fin s k' → k' ≤ c → StrO (t.take c) k b o := by
  have hl : (t.take c).length = c := by rw [List.length_take]; omega
  induction h with
  | err _ => intro s k' e; cases e
  | bad _ _ _ _ => intro s k' e; cases e
  | @fin k b h1 h2 h3 =>
    intro s k' e hk
    injection e with e1 e2
    subst e1 e2
    have e1 : upto isPl (t.take c) k = upto isPl t k := upto_cut hc (by omega)
    have := StrO.fin (t := t.take c) (k := k) (b := b) (by rw [e1, sub_take (by omega)]; exact h1) (by rw [e1, hl]; omega) (by rw [e1, at0_take (by omega) hc]; exact h3)
    rw [e1, sub_take (by omega)] at this
    exact this
  | @esc k b x o h1 h2 h3 h4 hr ih =>
    intro s k' e hk
    have hge : upto isPl t k + 2 < k' := by
      subst e
      have : (strStep 0 (.fin s k')).fits t 0 := by
        exact strO_fits hr (by omega) (escp_lt h4)
      clear this
      suffices H : ∀ {k : Nat} {b : List UInt8} {o : Oc}, StrO t k b o → ∀ s k', o = .fin s k' → k < k' from H hr s k' rfl
      intro k b o h
      induction h with
      | err _ => intro s k' e; cases e
      | bad _ _ _ _ => intro s k' e; cases e
      | @fin k b _ _ _ =>
        intro s k' e
        injection e with _ e2
        have := upto_ge isPl t k
        omega
      | @esc k b x o _ _ _ _ _ ih =>
        intro s k' e
        have := ih s k' e
        have := upto_ge isPl t k
        omega
    have e1 : upto isPl (t.take c) k = upto isPl t k := upto_cut hc (by omega)
    have hi := ih s k' e hk
    have := StrO.esc (t := t.take c) (k := k) (b := b) (c := x) (o := o) (by rw [e1, sub_take (by omega)]; exact h1) (by rw [e1, hl]; omega) (by rw [e1, at0_take (by omega) hc]; exact h3) (by rw [e1]; exact escp_take hc h4 (by omega)) (by rw [e1, sub_take (by omega)]; exact hi)
    exact this

theorem strO_lt {t : List UInt8} {k : Nat} {b : List UInt8} {o : Oc} (h : StrO t k b o) : ∀ s k', o = .fin s k' → k < k' := by
  induction h with
  | err _ => intro s k' e; cases e
  | bad _ _ _ _ => intro s k' e; cases e
  | @fin k b _ _ _ =>
    intro s k' e
    injection e with _ e2
    have := upto_ge isPl t k
    omega
  | @esc k b x o _ _ _ _ _ ih =>
    intro s k' e
    have := ih s k' e
    have := upto_ge isPl t k
    omega
theorem exp_dig {t : List UInt8} {i : Nat} (h : expLen t i ≠ 0) : isDig (at0 t (i + expLen t i)) = true := by
  unfold expLen at h ⊢
  split
  · rename_i h1; rw [if_pos h1] at h; exact absurd rfl h
  · rename_i h1
    rw [if_neg h1] at h
    split
    · rename_i h2
      rw [if_pos h2] at h
      split
      · assumption
      · rename_i h3; rw [if_neg h3] at h; exact absurd rfl h
    · rename_i h2
      rw [if_neg h2] at h
      split
      · assumption
      · rename_i h3; rw [if_neg h3] at h; exact absurd rfl h
theorem dig0 : isDig 0 = false := by decide
theorem exp_take {t : List UInt8} {c i : Nat} (hc : c ≤ t.length) (h : expLen t i = 0 ∨ i + expLen t i < c) : expLen (t.take c) i = expLen t i := by
  have key : ∀ j, at0 (t.take c) j = at0 t j ∨ (c ≤ j ∧ at0 (t.take c) j = 0) := fun j => by
    rcases Nat.lt_or_ge j c with hj | hj
    · exact .inl (at0_take hj hc)
    · exact .inr ⟨hj, at0_cut hj⟩
  have k0 := key i
  have k1 := key (i + 1)
  have k2 := key (i + 2)
  unfold expLen at h ⊢
  generalize at0 (t.take c) i = a0 at *
  generalize at0 (t.take c) (i + 1) = a1 at *
  generalize at0 (t.take c) (i + 2) = a2 at *
  generalize at0 t i = b0 at *
  generalize at0 t (i + 1) = b1 at *
  generalize at0 t (i + 2) = b2 at *
  rcases k0 with rfl | ⟨g0, rfl⟩
  · by_cases h1 : (a0 != 101 && a0 != 69) = true
    · rw [if_pos h1, if_pos h1]
    · rw [if_neg h1] at h ⊢
      rw [if_neg h1]
      rcases k1 with rfl | ⟨g1, rfl⟩
      · by_cases h2 : (a1 == 43 || a1 == 45) = true
        · rw [if_pos h2] at h ⊢
          rw [if_pos h2]
          rcases k2 with rfl | ⟨g2, rfl⟩
          · rfl
          · rw [dig0, if_neg (by decide)]
            split at h
            · omega
            · rename_i h3; rw [if_neg h3]
        · rw [if_neg h2, if_neg h2]
      · rw [if_neg (by decide), dig0, if_neg (by decide)]
        by_cases h2 : (b1 == 43 || b1 == 45) = true
        · rw [if_pos h2] at h ⊢
          split at h
          · omega
          · rename_i h3; rw [if_neg h3]
        · rw [if_neg h2] at h ⊢
          split at h
          · omega
          · rename_i h3; rw [if_neg h3]
  · rw [if_pos (by decide)]
    split at h
    · rename_i h1; rw [if_pos h1]
    · rename_i h1
      rw [if_neg h1]
      split at h
      · rename_i h2
        rw [if_pos h2]
        split at h
        · omega
        · rename_i h3; rw [if_neg h3]
      · rename_i h2
        rw [if_neg h2]
        split at h
        · omega
        · rename_i h3; rw [if_neg h3]
theorem frac_take {t : List UInt8} {c d : Nat} (hc : c ≤ t.length) (h : fracEnd t d ≤ c) : fracEnd (t.take c) d = fracEnd t d ∧ upto isDig t (d + 1) ≤ c := by
  unfold fracEnd at h ⊢
  simp only at h ⊢
  have hle : upto isDig t (d + 1) ≤ c ∧ (expLen t (upto isDig t (d + 1)) = 0 ∨ (upto isDig t (d + 1) + expLen t (upto isDig t (d + 1)) < c ∧ upto isDig t (upto isDig t (d + 1) + expLen t (upto isDig t (d + 1))) ≤ c)) := by
    split at h
    · rename_i h0; exact ⟨h, .inl h0⟩
    · rename_i h0
      have h1 := exp_dig h0
      have hlt : upto isDig t (d + 1) + expLen t (upto isDig t (d + 1)) < t.length := by
        rcases Nat.lt_or_ge (upto isDig t (d + 1) + expLen t (upto isDig t (d + 1))) t.length with hh | hh
        · exact hh
        · rw [at0_ge hh] at h1; exact absurd h1 (by decide)
      rw [at0_lt hlt] at h1
      have hg := upto_gt hlt h1
      exact ⟨by omega, .inr ⟨by omega, h⟩⟩
  have e1 : upto isDig (t.take c) (d + 1) = upto isDig t (d + 1) := upto_cut hc hle.1
  rw [e1]
  generalize upto isDig t (d + 1) = i at *
  have e2 : expLen (t.take c) i = expLen t i := exp_take hc (hle.2.imp id (fun h => h.1))
  rw [e2]
  refine ⟨?_, hle.1⟩
  split
  · rfl
  · rename_i h0
    exact upto_cut hc (hle.2.resolve_left h0).2
theorem sign_take {t : List UInt8} {c k : Nat} (hc : c ≤ t.length) (h0 : signLen t k ≠ 0) (h : k + signLen t k ≤ c) : signLen (t.take c) k = signLen t k := by
  have hkc : k < c := by omega
  rcases Nat.lt_or_ge (k + 1) c with h2 | h2
  · unfold signLen
    rw [sub_take (by omega), at0_take hkc hc]
  · have hc1 : c = k + 1 := by omega
    subst hc1
    have hsub : sub (t.take (k + 1)) k (k + 2) = [at0 t k] := by
      have e : sub (t.take (k + 1)) k (k + 2) = sub (t.take (k + 1)) k (k + 1) := by
        unfold sub
        rw [List.take_take, List.take_take, Nat.min_eq_right (by omega), Nat.min_self]
      rw [e, sub_take (Nat.le_refl _), sub_snoc t k k (Nat.le_refl _) (by omega), sub_self, at0_lt (by omega)]; rfl
    have ht2 : ∀ x : UInt8, twos.any (· == [x]) = false := by intro x; simp [twos]
    have hone : signLen t k = 1 := by omega
    rw [hone]
    unfold signLen at hone ⊢
    rw [hsub, ht2, if_neg (by decide), at0_take hkc hc]
    split at hone
    · omega
    · split at hone
      · rename_i h3; rw [if_pos h3]
      · omega

theorem here_take {w0 : World} {t : List UInt8} {c k k' : Nat} {x : Tok} (hc : c ≤ t.length) (h : Here w0 t k (.tok x k')) (hx : x.kind ≠ 0) (hk' : k' ≤ c) : Here w0 (t.take c) k (.tok x k') := by
  have hl : (t.take c).length = c := by rw [List.length_take]; omega
  generalize hs : Step.tok x k' = s at h
  cases h with
  | fin => injection hs with e1 e2; subst e1; exact absurd rfl hx
  | name h1 h2 =>
    injection hs with e1 e2
    subst e1 e2
    have hg : k < upto inN t k := upto_gt h1 (by rw [at0_lt h1] at h2; unfold inN; rw [h2]; rfl)
    have e : upto inN (t.take c) k = upto inN t k := upto_cut hc hk'
    have := Here.name (w0 := w0) (t := t.take c) (k := k) (by omega) (by rw [at0_take (by omega) hc]; exact h2)
    unfold tokN at this ⊢
    rw [e, sub_take hk'] at this
    exact this
  | @flt _ f h1 h2 h3 h4 h5 h6 h7 =>
    injection hs with e1 e2
    subst e1 e2
    obtain ⟨f1, f2⟩ := frac_take hc hk'
    have hfg := frac_ge t (upto isDig t k)
    have hge := upto_ge isDig t k
    have hd1 : upto isDig t k + 1 < t.length := by
      rcases Nat.lt_or_ge (upto isDig t k + 1) t.length with hh | hh
      · exact hh
      · rw [at0_ge hh] at h6; exact absurd h6 (by decide)
    have hg2 := upto_gt hd1 (by rw [← at0_lt hd1]; exact h6)
    have e : upto isDig (t.take c) k = upto isDig t k := upto_cut hc (by omega)
    have := Here.flt (w0 := w0) (t := t.take c) (k := k) (f := f) (by omega) (by rw [at0_take (by omega) hc]; exact h2) (by rw [at0_take (by omega) hc]; exact h3) (by rw [e, at0_take (by omega) hc]; exact h4) (by rw [e, at0_take (by omega) hc]; exact h5) (by rw [e, at0_take (by omega) hc]; exact h6) (by rw [e, f1, sub_take hk']; exact h7)
    unfold tokF at this ⊢
    rw [e, f1, sub_take hk'] at this
    exact this
  | @str _ o h1 h2 h3 =>
    cases o with
    | fin s1 k2 =>
      injection hs with e1 e2
      subst e1 e2
      have hlt := strO_lt h3 s1 k' rfl
      exact Here.str (o := .fin s1 k') (by omega) (by rw [at0_take (by omega) hc]; exact h2) (strO_take hc h3 s1 k' rfl hk')
    | err => cases hs
    | bad _ => cases hs
  | @int _ n h1 h2 h3 h4 h5 h6 =>
    injection hs with e1 e2
    subst e1 e2
    have hd' : isDig t[k] = true := by rw [← at0_lt h1]; exact h3
    have hg := upto_gt h1 hd'
    have e : upto isDig (t.take c) k = upto isDig t k := upto_cut hc hk'
    have := Here.int (w0 := w0) (t := t.take c) (k := k) (n := n) (by omega) (by rw [at0_take (by omega) hc]; exact h2) (by rw [at0_take (by omega) hc]; exact h3) (by rw [e, at0_take (by omega) hc]; exact h4) (by
      rw [e]
      intro h
      rcases Nat.lt_or_ge (upto isDig t k) c with hh | hh
      · rw [at0_take hh hc] at h
        have h8 := h5 h
        rcases Nat.lt_or_ge (upto isDig t k + 1) c with h9 | h9
        · rw [at0_take h9 hc]; exact h8
        · rw [at0_cut h9]; decide
      · rw [at0_cut hh] at h; exact absurd h (by decide)) (by rw [e, sub_take hk']; exact h6)
    unfold tokI at this ⊢
    rw [e, sub_take hk'] at this
    exact this
  | sign h1 h2 h3 h4 h5 =>
    injection hs with e1 e2
    subst e1 e2
    have e := sign_take hc h5 hk'
    have := Here.sign (w0 := w0) (t := t.take c) (k := k) (by omega) (by rw [at0_take (by omega) hc]; exact h2) (by rw [at0_take (by omega) hc]; exact h3) (by rw [at0_take (by omega) hc]; exact h4) (by rw [e]; exact h5)
    unfold tokS at this ⊢
    rw [e, sub_take hk'] at this
    exact this
  | fltno => cases hs
  | intno => cases hs
  | zero => cases hs
  | byte => cases hs

/-- Cut where a token begins, a text has just the tokens ahead of that. -/
theorem run_take {w0 : World} {t : List UInt8} {k : Nat} {L : List Tok} {o : Option (Nat × Int)} (h : Run w0 t k L o) (hk : k ≤ t.length) : ∀ j (hj : j < L.length), Run w0 (t.take L[j].at_) k (L.take j ++ [endT (t.take L[j].at_)]) none := by
  have first : ∀ {k k1 k2 : Nat} {x : Tok}, k ≤ t.length → Skp t (upto isBlank t k) k1 → Here w0 t k1 (.tok x k2) → Run w0 (t.take x.at_) k [endT (t.take x.at_)] none := by
    intro k k1 k2 x hk hs hh
    have hk1 := hs.le (upto_le hk)
    have h2 := hs.ge
    have ha := (here_tok hh hk1).2.1
    rw [ha]
    have hl : (t.take k1).length = k1 := by rw [List.length_take]; omega
    have e : upto isBlank (t.take k1) k = upto isBlank t k := upto_cut hk1 h2
    have hfin : Here w0 (t.take k1) (t.take k1).length (.tok (endT (t.take k1)) (t.take k1).length) := .fin
    rw [hl] at hfin
    refine .fin (k1 := k1) (by rw [e]; exact skp_take hk1 hs (Nat.le_refl _)) hfin rfl
  induction h with
  | @fin k k1 k2 x hs hh hx =>
    intro j hj
    obtain rfl : j = 0 := by simpa using hj
    exact first hk hs hh
  | @bad k k1 a e hs hh => intro j hj; simp at hj
  | @tok k k1 k2 x l o hs hh hx hr ih =>
    intro j hj
    cases j with
    | zero => exact first hk hs hh
    | succ j =>
      have hk1 := hs.le (upto_le hk)
      obtain ⟨a1, a2, a3, a4, a5⟩ := here_tok hh hk1
      have hg := a4 hx
      have hjl : j < l.length := by simpa using hj
      have hp := (run_places hr a3).1
      have hge := hp.ge j hjl
      have hle := (hp.fit j hjl).le
      have h2 := hs.ge
      simp only [List.getElem_cons_succ, List.take_succ_cons, List.cons_append]
      have e : upto isBlank (t.take l[j].at_) k = upto isBlank t k := upto_cut hle (by omega)
      exact .tok (by rw [e]; exact skp_take hle hs (by omega)) (here_take hle hh hx hge) hx (ih a3 j hjl)

end Go.Proofs.YtionmohglmbklaaGreatDoor.Tr
/- The walk of LexFront. -/
namespace Go.Proofs.YtionmohglmbklaaGreatDoor.Tr
open Go.RowKit

theorem Tks.drewF {w : World} {g : Nat} {L : List Tok} (h : Tks w g L) (m : Nat) : Tks (w.drewN m) g L := ⟨h.kind, h.text, h.int, h.flt, h.at_⟩
theorem cell_fr {w w' : World} {a : Addr} {v : Value} (f : Fr (fun _ => False) w w') (h : w.cell? a = some v) : w'.cell? a = some v := ((Env.refl w).fr f (fun _ h => h.elim)).cell h
theorem Tks.fr {w w' : World} {g : Nat} {L : List Tok} (h : Tks w g L) (f : Fr (fun _ => False) w w') : Tks w' g L :=
  ⟨fun i hi => cell_fr f (h.kind i hi), fun i hi => cell_fr f (h.text i hi), fun i hi => cell_fr f (h.int i hi), fun i hi => cell_fr f (h.flt i hi), fun i hi => cell_fr f (h.at_ i hi)⟩
def FrSt (w : World) (g g2 k : Nat) (L M : List Tok) (iv : Value) (wr : World) : Prop := ∃ i : Nat, i ≤ k ∧ iv = .int .i64 (i : Int) ∧ Tks wr g L ∧ Tks wr g2 M ∧ Fr (fun _ => False) w wr

set_option maxRecDepth 100000 in
set_option maxHeartbeats 8000000 in
theorem lexFront_any {w : World} (hT : Tabs w) (hN : Nums2 w) (t : List UInt8) (hl : t.length ≤ 140737488351232) (z : Int) (hz0 : -9223372036854775808 ≤ z) (hz1 : z < 9223372036854775808) : Calls Tryz.prog 7 #[.string ⟨t.toArray⟩, .int .i64 z] w fun e w' => e = .returned (.bool true) ∧ Fr (fun _ => False) w w' := by
  have HS := hid (shown_any hT (Env.refl w))
  have hrun : ∃ L o, (∀ W, Env w W → Calls Tryz.prog 19 #[.string ⟨t.toArray⟩] W (AllPost W L o)) ∧ (o = none → t.length ≤ 4096 ∧ Plcs t 0 L ∧ L.length ≤ 5000 ∧ 0 < L.length ∧ (∀ x ∈ L, Op.floatEq .f64 x.flt x.flt = true) ∧ ∀ j (hj : j < L.length), Run w (t.take L[j].at_) 0 (L.take j ++ [endT (t.take L[j].at_)]) none) := by
    by_cases h4 : t.length ≤ 4096
    · obtain ⟨L, o, hr, hL, hG⟩ := run_ex2 hN h4 t.length 0 (by omega) (Nat.zero_le _)
      have hp := run_places hr (Nat.zero_le _)
      exact ⟨L, o, fun W e => all_any e h4 hr (by omega), fun h => ⟨h4, hp.1, by omega, (hp.2.1 h).1, hG, run_take hr (Nat.zero_le _)⟩⟩
    · exact ⟨[], some (4096, 2), fun W _ => all_long (by omega) hl, fun h => absurd h (by simp)⟩
  obtain ⟨L, o, hall, hnone⟩ := hrun
  have HAll := hid hall
  have HNone := hid hnone
  obtain ⟨z2, hz2, hz3, hz4⟩ : ∃ z2 : Int, (z2 = if z < 0 then -(z + 1) else z) ∧ 0 ≤ z2 ∧ z2 < 9223372036854775808 := ⟨_, rfl, by split <;> omega, by split <;> omega⟩
  clear hT hN hall hnone hl
  go_enter Tryz.func7, Tryz.ntmps7
  go_wp2_with fail
  refine HS.out.mono ?_
  rintro e w1 ⟨rfl, f1⟩
  have HF1 := hid f1
  have HA := hid (HAll.out w1 ((Env.refl w).fr f1 (fun _ h => h.elim)))
  clear f1 HS HAll
  cases o with
  | some ae =>
    obtain ⟨a, e⟩ := ae
    unfold AllPost at HA
    clear hz0 hz1 hz2 hz3 hz4
    go_wp2_with fail
    refine HA.out.mono ?_
    rintro ee w2 ⟨fb, rfl, g2, q2, f2⟩
    have HF2 := hid (HF1.out.same f2)
    clear g2 q2 f2 HA HF1
    go_wp2_with fail
    go_ret
    exact ⟨rfl, HF2.out⟩
  | none =>
    obtain ⟨hl, hp, hL5, hpos, hG, hcut⟩ := HNone.out rfl
    unfold AllPost at HA
    have HP := hid hp
    have HGd := hid hG
    have HCut := hid hcut
    clear hp hG hcut HNone
    obtain ⟨k, hk, hkL⟩ : ∃ k : Nat, z2.tmod (L.length : Int) = (k : Int) ∧ k < L.length := by
      have h1 := Int.tmod_eq_emod_of_nonneg (b := (L.length : Int)) hz3
      have h2 := Int.emod_nonneg z2 (show (L.length : Int) ≠ 0 by omega)
      have h3 := Int.emod_lt_of_pos z2 (show (0 : Int) < (L.length : Int) by omega)
      exact ⟨(z2 % (L.length : Int)).toNat, by rw [h1]; omega, by omega⟩
    go_wp2_with fail
    refine HA.out.mono ?_
    rintro ee w2 ⟨v, rfl, ho, f2⟩
    obtain ⟨g, cap, rfl, _, hTk⟩ := toks_own ho rfl hpos
    have hF2 := HF1.out.same f2
    have ka := hTk.at_ k hkL
    have hfit := (HP.out.fit k hkL).le
    have hR := HCut.out k hkL
    obtain ⟨c, hc⟩ : ∃ c, c = L[k].at_ := ⟨_, rfl⟩
    rw [← hc] at ka hfit hR
    have hlen : (t.take c).length = c := by rw [List.length_take]; omega
    have HA2 := hid (all_any ((Env.refl w).fr hF2 (fun _ h => h.elim)) (by rw [hlen]; omega) hR (by rw [List.length_append, List.length_take]; simp; omega))
    unfold AllPost at HA2
    have hext : (ByteArray.mk t.toArray).extract 0 c = ⟨(t.take c).toArray⟩ := by
      rw [ext_sub]
      simp [sub]
    have HTk := hid hTk
    have HF2 := hid hF2
    have hLne : ((L.length : Int) == 0) = false := by rw [beq_eq_false_iff_ne]; omega
    have qa : decide ((c : Int) < 0) = false := decide_eq_false (by omega)
    have qb : decide ((c : Int) > (t.length : Int)) = false := decide_eq_false (by omega)
    have qc : (c : Int) ≤ (t.length : Int) := by omega
    have qd : (0 : Int) ≤ (c : Int) := by omega
    have qe : (0 : Int) ≤ (k : Int) := by omega
    have qf : (k : Int) < (L.length : Int) := by omega
    have qg : (L.length : Int) ≤ 5000 := by omega
    clear ho f2 hTk hF2 HA HF1 hR HCut hc hfit
    by_cases hneg : z < 0
    all_goals
      first
        | (rw [if_pos hneg] at hz2; have qn : decide (z < 0) = true := decide_eq_true hneg; rw [hz2] at hk)
        | (rw [if_neg hneg] at hz2; have qn : decide (z < 0) = false := decide_eq_false hneg; rw [hz2] at hk; have hneg2 : 0 ≤ z := by omega)
      go_wp2_with fail
      refine HA2.out.mono ?_
      rintro ee w3 ⟨v2, rfl, ho2, f3⟩
      obtain ⟨M, hM⟩ : ∃ M, M = L.take k ++ [endT (t.take c)] := ⟨_, rfl⟩
      rw [← hM] at ho2
      have hMl : M.length = k + 1 := by rw [hM, List.length_append, List.length_take]; simp; omega
      obtain ⟨g2, cap2, rfl, _, hTm⟩ := toks_own ho2 rfl (by omega)
      have hTl := HTk.out.fr f3
      have HF3 := HF2.out.same f3
      have hMk : M[k]'(by omega) = ⟨0, [], 0, 0, c⟩ := by
        have : M[k]? = some (endT (t.take c)) := by
          rw [hM, List.getElem?_append_right (by rw [List.length_take]; omega), List.length_take, Nat.min_eq_left (by omega), Nat.sub_self]; rfl
        rw [List.getElem?_eq_getElem (by omega)] at this
        rw [Option.some.inj this]
        unfold endT
        rw [hlen]
      have hMi : ∀ i (h1 : i < M.length) (h2 : i < L.length), i < k → M[i] = L[i] := by
        intro i h1 h2 hi
        have : M[i]? = L[i]? := by
          rw [hM, List.getElem?_append_left (by rw [List.length_take]; omega), List.getElem?_take, if_pos hi]
        rw [List.getElem?_eq_getElem (by omega), List.getElem?_eq_getElem (by omega)] at this
        exact Option.some.inj this
      have k0 := hTm.kind k (by omega)
      have k1 := hTm.text k (by omega)
      have k2 := hTm.int k (by omega)
      have k3 := hTm.flt k (by omega)
      have k4 := hTm.at_ k (by omega)
      rw [hMk] at k0 k1 k2 k3 k4
      simp only at k0 k1 k2 k3 k4
      have kb := cell_fr f3 ka
      have heq := fun m => eqTokIn ⟨0, [], 0, 0, c⟩ ⟨0, [], 0, 0, c⟩ (w3.drewN m)
      rw [tokEq_refl _ floatEq0] at heq
      simp only [tokV] at heq
      have hfl := fun m => eqFlt 9998 (w3.drewN m) 0 0
      rw [floatEq0] at hfl
      have HSt : Hid (∀ m, FrSt w g g2 k L M (.int .i64 0) (w3.drewN m)) := fun m => ⟨0, Nat.zero_le _, rfl, hTl.drewF m, hTm.drewF m, HF3.drewN m⟩
      have HMi := hid hMi
      have qh : ((k : Int) + 1 != (k : Int) + 1) = false := by simp
      have qi : (k : Int) < (k : Int) + 1 := by omega
      have HMl := hid hMl
      have hMl2 : ((k + 1 : Nat) : Int) = (k : Int) + 1 := by omega
      rw [hMl]
      clear ho2 f3 hTm hTl HF3 HF2 HTk hMk hMi hM HA2 hMl ka hl hL5
      clear hz0 hz1 hz3 hz4 hneg hk
      go_wp2_with fail
      go_quiet (fail)
      go_wp2_with fail
      clear heq hfl k0 k1 k2 k3 k4 kb
      go_loopw [10] (fun iv wr => FrSt w g g2 k L M iv wr) (fun iv _ => k - (intOf iv).toNat)
      case atStart => exact HSt.out _
      case round =>
        obtain ⟨i, hi, rfl, hTl, hTm, hF⟩ := hrel
        have hi0 : (0 : Int) ≤ (i : Int) := Int.natCast_nonneg _
        rcases Nat.lt_or_ge i k with hlt | hge
        · have hML := HMl.out
          have m0 := hTm.kind i (by omega)
          have m1 := hTm.text i (by omega)
          have m2 := hTm.int i (by omega)
          have m3 := hTm.flt i (by omega)
          have m4 := hTm.at_ i (by omega)
          rw [HMi.out i (by omega) (by omega) hlt] at m0 m1 m2 m3 m4
          have l0 := hTl.kind i (by omega)
          have l1 := hTl.text i (by omega)
          have l2 := hTl.int i (by omega)
          have l3 := hTl.flt i (by omega)
          have l4 := hTl.at_ i (by omega)
          have hfe := HGd.out L[i] (List.getElem_mem (by omega))
          have HNx : Hid (∀ m, FrSt w g g2 k L M (.int .i64 ((i : Int) + 1)) (wr.drewN m)) := fun m => ⟨i + 1, hlt, rfl, hTl.drewF m, hTm.drewF m, hF.drewN m⟩
          generalize L[i] = x at *
          have heq := fun m => eqTokIn x x (wr.drewN m)
          rw [tokEq_refl _ hfe] at heq
          have hfl := fun m => eqFlt 9998 (wr.drewN m) x.flt x.flt
          rw [hfe] at hfl
          obtain ⟨xk, xt, xi, xf, xa⟩ := x
          simp only [tokV] at heq hfl m0 m1 m2 m3 m4 l0 l1 l2 l3 l4
          have q1 : (i : Int) < (k : Int) := by omega
          have q2 : (i : Int) < (k : Int) + 1 := by omega
          have q3 : (i : Int) < (L.length : Int) := by omega
          have q4 : (k : Int) ≤ 5000 := by omega
          clear hTl hTm hF hfe HSt hML
          go_wp2_with fail
          go_quiet (fail)
          go_wp2_with fail
          exact ⟨HNx.out _, by simp [intOf]; omega⟩
        · obtain rfl : i = k := by omega
          have q1 : decide ((i : Int) < (i : Int)) = false := decide_eq_false (by omega)
          have HF := hid hF
          clear hTl hTm hF HSt
          go_wp2_with fail
          go_ret
          exact ⟨rfl, HF.out⟩

end Go.Proofs.YtionmohglmbklaaGreatDoor.Tr
