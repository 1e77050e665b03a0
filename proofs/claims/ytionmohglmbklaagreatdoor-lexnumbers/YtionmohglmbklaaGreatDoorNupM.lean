import Derived.Test.YtionmohglmbklaaGreatDoorAsl
import Derived.Laws.BitsAllLaws
/- No float's text is read as a NaN. -/
namespace Go.Proofs.YtionmohglmbklaaGreatDoor.Tr
open Go.RowKit

theorem noNaN_le {n : Nat} (h : n ≤ 9218868437227405312) : NoNaN n := by
  have e2 : Ieee.double.infRung = 9218868437227405312 := by decide +kernel
  have := read_word (s := false) (r := n) (by rw [e2]; exact h)
  have e : Ieee.double.word false n = n := by
    unfold Ieee.Format.word
    simp
  rw [e] at this; exact this

theorem exF_nan {Q : Nat → Nat} (hQ : ∀ i, i < 23 → Fin1 (Q i)) {m : Nat} {p : Int} {f : Nat} (h : exF Q m p = some f) : NoNaN f := by
  unfold exF at h
  split at h
  · cases h
  split at h
  · injection h with h; subst h; exact fi_nan _
  split at h
  · rename_i hp
    split at h
    · cases h
    · injection h with h; subst h
      exact (mul_some (mul_some (fi_nan _) (hQ _ (by omega))).2 (hQ 22 (by omega))).2
  split at h
  · rename_i hp
    split at h
    · cases h
    · injection h with h; subst h
      exact (mul_some (fi_nan _) (hQ _ (by omega))).2
  split at h
  · rename_i hp
    injection h with h; subst h
    exact (div_some (fi_nan _) (hQ _ (by omega))).2
  · cases h

theorem and2047 (s : Nat) (h : s < 2048) : bits BinOp.and .i64 (s : Int) 2047 = (s : Int) := by
  have : ∀ k : Fin 2048, bits BinOp.and .i64 ((k.val : Nat) : Int) 2047 = ((k.val : Nat) : Int) := by decide +kernel
  exact this ⟨s, h⟩
theorem fbOut_le {m e : Int} (h0 : 0 ≤ m) (h1 : m < 18446744073709551616) (h2 : -1023 ≤ e) (h3 : e ≤ 1023) : (fbOut m e).toNat ≤ 9218868437227405312 := by
  obtain ⟨M, rfl⟩ : ∃ M : Nat, m = (M : Int) := ⟨m.toNat, by omega⟩
  obtain ⟨E, hE⟩ : ∃ E : Nat, e + 1023 = (E : Int) := ⟨(e + 1023).toNat, by omega⟩
  unfold fbOut
  have a1 : bits BinOp.and .u64 (M : Int) 4503599627370495 = ((M % 2 ^ 52 : Nat) : Int) := and_mask M 52 (by omega) (by omega)
  have hm : M % 2 ^ 52 < 2 ^ 52 := Nat.mod_lt _ (by decide)
  have w1 : IntKind.u64.wrap (E : Int) = (E : Int) := u64w (by omega) (by omega)
  have w2 : IntKind.u64.wrap ((E : Int) * 4503599627370496) = (E : Int) * 4503599627370496 := u64w (by omega) (by omega)
  rw [a1, hE, and2047 E (by omega), w1, w2]
  have e1 : ((E : Int) * 4503599627370496) = ((2 ^ 52 * E : Nat) : Int) := by
    rw [show (2 ^ 52 : Nat) = 4503599627370496 by decide]; omega
  rw [e1, u64_or_nat _ _ (by omega) (by rw [show (2 ^ 52 : Nat) = 4503599627370496 by decide]; omega), Nat.or_comm, ← Nat.two_pow_add_eq_or_of_lt hm]
  rw [show (2 ^ 52 : Nat) = 4503599627370496 by decide] at hm ⊢
  omega

theorem riS_u (n : Int) (c : UInt8) : U64 (riS n c) := U64.wrap _
theorem riA_u (L : List UInt8) : ∀ i, U64 (riA L i) := by
  intro i
  unfold riA
  suffices h : ∀ (l : List UInt8) (n : Int), U64 n → U64 (l.foldl riS n) from h _ 0 ⟨by decide, by decide⟩
  intro l
  induction l with
  | nil => intro n h; exact h
  | cons c r ih => intro n _; exact ih _ (riS_u n c)
theorem riB_u : ∀ (j : Nat) (n : Int), U64 n → U64 (riB j n)
  | 0, _, h => h
  | j + 1, _, _ => riB_u j _ (U64.wrap _)
theorem rInt_u (s : DC) : U64 (rInt s) := by
  unfold rInt
  split
  · exact ⟨by decide, by decide⟩
  · simp only
    split
    · exact U64.wrap _
    · exact riB_u _ _ (riA_u _ _)

theorem fbM_le {m e : Int} (hm : U64 m) (h2 : -1022 ≤ e) (h3 : e + 1023 < 2047) (h : (fbM m e).2 = false) : (fbM m e).1.toNat ≤ 9218868437227405312 := by
  have a := hm.1
  have b := hm.2
  unfold fbM at h ⊢
  split at h
  · rename_i hm2
    rw [if_pos hm2]
    split at h
    · cases h
    · rename_i hov
      rw [if_neg hov]
      exact fbOut_le (by omega) (by omega) (by omega) (by omega)
  · rename_i hm2
    rw [if_neg hm2]
    exact fbOut_le a b (by split <;> omega) (by split <;> omega)
theorem fbE_le {C : Nat → Nat × List UInt8} {s : DC} {e : Int} (h2 : -1022 ≤ e) (h : (fbE C s e).2 = false) : (fbE C s e).1.toNat ≤ 9218868437227405312 := by
  unfold fbE at h ⊢
  split at h
  · cases h
  · rename_i hov
    rw [if_neg hov]
    exact fbM_le (rInt_u _) h2 (by omega) h
theorem fbF_le {C : Nat → Nat × List UInt8} {s : DC} (h : (fbF C s).2 = false) : (fbF C s).1.toNat ≤ 9218868437227405312 := by
  unfold fbF at h ⊢
  split at h
  · cases h
  rename_i h1
  rw [if_neg h1]
  split at h
  · rename_i h2
    rw [if_pos h2]
    exact fbOut_le (by omega) (by omega) (by omega) (by omega)
  rename_i h2
  rw [if_neg h2]
  unfold fbD at h ⊢
  split at h
  · rename_i h3
    rw [if_pos h3]
    exact fbE_le (by omega) h
  · rename_i h3
    rw [if_neg h3]
    exact fbE_le (by omega) h

theorem packF_le {m : Nat} {e : Int} (hm : m ≤ 9007199254740992) (h0 : -1075 ≤ e) (h : (packF (m : Int) e).2 = false) : (packF (m : Int) e).1 ≤ 9218868437227405312 := by
  unfold packF at h ⊢
  split at h
  · rename_i h1
    rw [if_pos h1]
    simp only
    omega
  · rename_i h1
    rw [if_neg h1]
    split at h
    · cases h
    · rename_i h2
      rw [if_neg h2]
      simp only
      have hm2 : m < 9007199254740992 := by
        rcases Nat.lt_or_ge m 9007199254740992 with h | h
        · exact h
        · obtain rfl : m = 9007199254740992 := by omega
          exact absurd (show (bits BinOp.and .u64 ((9007199254740992 : Nat) : Int) 4503599627370496 == 0) = true by decide +kernel) h1
      have a1 : bits BinOp.andNot .u64 (m : Int) 4503599627370496 = ((m &&& (18446744073709551615 - 4503599627370496) : Nat) : Int) := u64_andNot_nat m 4503599627370496 (by omega) (by omega)
      have b1 : bits BinOp.and .u64 (m : Int) 4503599627370496 = ((m &&& 4503599627370496 : Nat) : Int) := u64_and_nat m 4503599627370496 (by omega) (by omega)
      obtain ⟨E, hE⟩ : ∃ E : Nat, (1075 + e) = (E : Int) := ⟨(1075 + e).toNat, by omega⟩
      have hx : m &&& (18446744073709551615 - 4503599627370496) < 2 ^ 52 := by
        have hne : m &&& 4503599627370496 ≠ 0 := by
          intro e0
          rw [b1, e0] at h1
          exact h1 rfl
        have hge : 2 ^ 52 ≤ m := by
          rcases Nat.lt_or_ge m (2 ^ 52) with h | h
          · exfalso
            apply hne
            rw [show (4503599627370496 : Nat) = 2 ^ 52 by decide]
            apply Nat.eq_of_testBit_eq
            intro i
            rw [Nat.testBit_and, Nat.testBit_two_pow, Nat.zero_testBit]
            by_cases hi : 52 = i
            · subst hi
              rw [Nat.testBit_lt_two_pow h]; rfl
            · simp [hi]
          · exact h
        have e5 : m = 2 ^ 52 * 1 + (m - 2 ^ 52) := by omega
        have hlt : m - 2 ^ 52 < 2 ^ 52 := by rw [show (2 ^ 52 : Nat) = 4503599627370496 by decide]; omega
        rw [e5, Nat.two_pow_add_eq_or_of_lt hlt, Nat.and_or_distrib_right]
        have z : 2 ^ 52 * 1 &&& (18446744073709551615 - 4503599627370496) = 0 := by decide +kernel
        rw [z, Nat.zero_or]
        exact Nat.lt_of_le_of_lt Nat.and_le_left hlt
      rw [a1, hE]
      have e1 : ((E : Int) * 4503599627370496) = ((2 ^ 52 * E : Nat) : Int) := by
        rw [show (2 ^ 52 : Nat) = 4503599627370496 by decide]; omega
      generalize (m &&& (18446744073709551615 - 4503599627370496)) = y at hx ⊢
      have hp : (2 ^ 52 : Nat) = 4503599627370496 := by decide
      rw [e1, u64_or_nat _ _ (by omega) (by rw [hp]; omega), Nat.or_comm, ← Nat.two_pow_add_eq_or_of_lt hx]
      rw [hp] at hx ⊢
      omega

theorem rndF_le {u : Int} (h0 : 0 ≤ u) (h1 : u < 36028797018963968) : 0 ≤ rndF u ∧ rndF u ≤ 9007199254740992 := by
  obtain ⟨U, rfl⟩ : ∃ U : Nat, u = (U : Int) := ⟨u.toNat, by omega⟩
  unfold rndF
  have a : (U : Int) / 4 = ((U / 4 : Nat) : Int) := by omega
  have b : bits BinOp.and .u64 ((U / 4 : Nat) : Int) 1 = ((U / 4 &&& 1 : Nat) : Int) := u64_and_nat (U / 4) 1 (by omega) (by omega)
  have c : U / 4 &&& 1 ≤ 1 := Nat.and_le_right
  rw [a, b]
  generalize U / 4 &&& 1 = z at c
  have w1 : IntKind.u64.wrap ((U : Int) + 1) = (U : Int) + 1 := u64w (by omega) (by omega)
  rw [w1, u64w (by omega) (by omega)]
  omega
theorem or_lt {a b k : Nat} (ha : a < 2 ^ k) (hb : b < 2 ^ k) : a ||| b < 2 ^ k := Nat.or_lt_two_pow ha hb
theorem usF_lt {x hi lo s : Nat} (hx : x < 18446744073709551616) (hh : hi < 18446744073709551616) (hs : 8 ≤ s) : 0 ≤ usF x hi lo s ∧ usF x hi lo s < 72057594037927936 := by
  have hH : x * hi / 18446744073709551616 < 18446744073709551616 := by
    apply Nat.div_lt_of_lt_mul
    exact Nat.mul_lt_mul'' hx hh
  have key : ∀ (y : Int) (z : Nat), 0 ≤ y → y < 18446744073709551616 → z ≤ 1 → 0 ≤ bits BinOp.or .u64 (y / 2 ^ s) (z : Int) ∧ bits BinOp.or .u64 (y / 2 ^ s) (z : Int) < 72057594037927936 := by
    intro y z h0 h1 hz
    obtain ⟨Y, rfl⟩ : ∃ Y : Nat, y = (Y : Int) := ⟨y.toNat, by omega⟩
    have e : (Y : Int) / 2 ^ s = ((Y / 2 ^ s : Nat) : Int) := by simp
    have hlt : Y / 2 ^ s < 2 ^ 56 := by
      apply Nat.div_lt_of_lt_mul
      have h1 : 2 ^ 8 ≤ 2 ^ s := Nat.pow_le_pow_right (by decide) hs
      have h2 : 2 ^ 8 * 2 ^ 56 ≤ 2 ^ s * 2 ^ 56 := Nat.mul_le_mul_right _ h1
      have h3 : (2 ^ 8 * 2 ^ 56 : Nat) = 18446744073709551616 := by decide
      omega
    have hp : (2 ^ 56 : Nat) = 72057594037927936 := by decide
    rw [e, u64_or_nat _ _ (by omega) (by omega)]
    have := or_lt hlt (show z < 2 ^ 56 by omega)
    omega
  unfold usF
  simp only
  generalize x * hi / 18446744073709551616 = H at *
  split
  · exact key (H : Int) 1 (by omega) (by omega) (by omega)
  · generalize ((H : Int) - (if decide (x * hi % 18446744073709551616 < x * lo / 18446744073709551616) = true then 1 else 0)) = y
    have hw := U64.wrap y
    generalize IntKind.u64.wrap y = y' at hw
    generalize decide (1 < IntKind.u64.wrap _) = d
    cases d
    · exact key y' 0 hw.1 hw.2 (by omega)
    · exact key y' 1 hw.1 hw.2 (by omega)

theorem pf64_le {T : Nat → Nat × Nat} (hT : ∀ i, i < 696 → (T i).1 < 18446744073709551616) {d i : Nat} (h0 : d ≠ 0) (hd : d < 18446744073709551616) (hi : i < 696) (h : (pf64 T d i).2 = false) : (pf64 T d i).1 ≤ 9218868437227405312 := by
  have hb := len_bounds h0 hd
  unfold pf64 at h ⊢
  simp only at h ⊢
  split at h
  · rename_i hs; rw [if_pos hs]; omega
  · rename_i hs
    rw [if_neg hs]
    generalize Lib.bitLen d = b at *
    have hs8 : 8 ≤ (-(min 1074 (53 - (b : Int) - ((i : Int) - 348) * 108853 / 32768) - (64 - (b : Int)) + ((i : Int) - 348) * 108853 / 32768 + 3)).toNat := by omega
    have hu := usF_lt (x := (IntKind.u64.wrap ((d : Int) * 2 ^ (64 - b))).toNat) (lo := (T i).2) (by have := (U64.wrap ((d : Int) * 2 ^ (64 - b))); unfold U64 at this; omega) (hT i hi) hs8
    generalize usF _ (T i).1 (T i).2 _ = u at *
    have hE : -1075 ≤ -(min 1074 (53 - (b : Int) - ((i : Int) - 348) * 108853 / 32768) - ((if decide (36028797018963966 ≤ u) = true then 1 else 0 : Nat) : Int)) := by
      split <;> omega
    have hr : 0 ≤ rndF (bits BinOp.or .u64 (u / 2 ^ (if decide (36028797018963966 ≤ u) = true then 1 else 0 : Nat)) (bits BinOp.and .u64 u 1)) ∧ rndF (bits BinOp.or .u64 (u / 2 ^ (if decide (36028797018963966 ≤ u) = true then 1 else 0 : Nat)) (bits BinOp.and .u64 u 1)) ≤ 9007199254740992 := by
      obtain ⟨U, rfl⟩ : ∃ U : Nat, u = (U : Int) := ⟨u.toNat, by omega⟩
      have b1 : bits BinOp.and .u64 (U : Int) 1 = ((U &&& 1 : Nat) : Int) := u64_and_nat U 1 (by omega) (by omega)
      have c1 : U &&& 1 ≤ 1 := Nat.and_le_right
      have hp : (2 ^ 55 : Nat) = 36028797018963968 := by decide
      rw [b1]
      generalize U &&& 1 = z at c1
      split
      · have e : (U : Int) / 2 ^ 1 = ((U / 2 : Nat) : Int) := by omega
        rw [e, u64_or_nat _ _ (by omega) (by omega)]
        have := or_lt (k := 55) (show U / 2 < 2 ^ 55 by omega) (show z < 2 ^ 55 by omega)
        exact rndF_le (by omega) (by omega)
      · rename_i hlt
        have hlt' : (U : Int) < 36028797018963966 := by simpa using hlt
        have e : (U : Int) / 2 ^ 0 = ((U : Nat) : Int) := by omega
        rw [e, u64_or_nat _ _ (by omega) (by omega)]
        have := or_lt (k := 55) (show U < 2 ^ 55 by omega) (show z < 2 ^ 55 by omega)
        exact rndF_le (by omega) (by omega)
    generalize rndF _ = r at *
    obtain ⟨R, rfl⟩ : ∃ R : Nat, r = (R : Int) := ⟨r.toNat, by omega⟩
    have e0 : bits BinOp.or .u64 0 (R : Int) = (R : Int) := by
      have := u64_or_nat 0 R (by omega) (by omega)
      rw [Nat.zero_or] at this; exact this
    rw [e0] at h ⊢
    exact packF_le (by omega) hE h

theorem floatEq_self {n : Nat} (h : NoNaN n) : Op.floatEq .f64 n n = true := by
  unfold Op.floatEq
  show ((Ieee.double.read n).order (Ieee.double.read n) == some .eq) = true
  unfold NoNaN at h
  cases hd : Ieee.double.read n with
  | number s m i => simp [Ieee.Datum.order]
  | infinity s => simp [Ieee.Datum.order]
  | nan s f => rw [hd] at h; simp [Ieee.Datum.isNaN] at h

theorem atofA_nan {T : Nat → Nat × Nat} {Q : Nat → Nat} {C : Nat → Nat × List UInt8} (hT : ∀ i, i < 696 → (T i).1 < 18446744073709551616) (hQ : ∀ i, i < 23 → Fin1 (Q i)) {t : List UInt8} {p q : Nat} {ex : Int} (ht : FTx t p q) (h : (atofA T Q C t q ex).2 = false) : NoNaN (atofA T Q C t q ex).1 := by
  have hi := RI.at ht q (Nat.le_refl _)
  have hm := pow_le19 hi.mb hi.nm
  unfold atofA at h ⊢
  simp only at h ⊢
  generalize (if (rfAt t q).m = 0 then (0 : Int) else (rfAt t q).dp + ex - ((rfAt t q).nm : Int)) = x at *
  have hpf : ∀ i : Nat, i < 696 → (rfAt t q).m ≠ 0 → (pf64 T (rfAt t q).m i).2 = false → NoNaN (pf64 T (rfAt t q).m i).1 := fun i hi' h0 hb => noNaN_le (pf64_le hT h0 (by omega) hi' hb)
  split at h
  · rename_i htr
    rw [if_pos htr]
    unfold atofN at h ⊢
    split at h
    · rename_i h1; rw [if_pos h1]; exact noNaN_le (by decide)
    rename_i h1
    rw [if_neg h1]
    split at h
    · cases h
    rename_i h2
    rw [if_neg h2]
    split at h
    · rename_i h3; rw [if_pos h3]; exact noNaN_le (by decide)
    rename_i h3
    rw [if_neg h3]
    split at h
    · rename_i f hf
      exact exF_nan hQ hf
    · exact hpf _ (by omega) h1 h
  · rename_i htr
    rw [if_neg htr]
    split at h
    · rename_i hS
      rw [if_pos hS]
      exact noNaN_le (fbF_le h)
    · rename_i hS
      rw [if_neg hS]
      unfold atofT at h ⊢
      split at h
      · rename_i h1; rw [if_pos h1]; exact noNaN_le (by decide)
      rename_i h1
      rw [if_neg h1]
      split at h
      · cases h
      rename_i h2
      rw [if_neg h2]
      split at h
      · rename_i h3; rw [if_pos h3]; exact noNaN_le (by decide)
      rename_i h3
      rw [if_neg h3]
      exact hpf _ (by omega) h1 h

end Go.Proofs.YtionmohglmbklaaGreatDoor.Tr
/- A number with few digits is not too large: the plain side of LexNumbers. -/
namespace Go.Proofs.YtionmohglmbklaaGreatDoor.Tr
open Go.RowKit

theorem grow_lt (k : Nat) : ∀ (f n r : Nat), n < 10 ^ r → (grow k f n r).1 < 10 ^ (grow k f n r).2
  | 0, n, r, h => h
  | f + 1, n, r, h => by
    unfold grow
    split
    · exact grow_lt k f (n * 10) (r + 1) (by rw [Nat.pow_succ]; omega)
    · exact h
theorem rpk_lt (k : Nat) : ∀ (L : List UInt8) (n r : Nat), isD L → n < 10 ^ r → (rpk k n r L).1 < 10 ^ (rpk k n r L).2.1
  | [], n, r, _, h => by simp only [rpk]; exact grow_lt k 20 n r h
  | c :: cs, n, r, hd, h => by
    unfold rpk
    split
    · have := dv_lt (hd c List.mem_cons_self)
      exact rpk_lt k cs (n * 10 + dv c) (r + 1) (fun x hx => hd x (List.mem_cons_of_mem _ hx)) (by rw [Nat.pow_succ]; omega)
    · exact h
theorem rsh_dp {k j : Nat} (hk : k ≤ 60) {s : DC} (hs : DOk s.L) (hj : 10 ^ j ≤ 2 ^ k) : (rsh k s).dp ≤ s.dp - (j : Int) := by
  have h1 := (rpk_ok hk (L := s.L) (n := 0) (r := 0) hs.dg (by have : 0 < 2 ^ k := Nat.pow_pos (by decide); omega) (fun _ => hs.hd)).1
  have h2 := rpk_lt k s.L 0 0 hs.dg (by decide)
  have h3 : j < (rpk k 0 0 s.L).2.1 := by
    rcases Nat.lt_or_ge j (rpk k 0 0 s.L).2.1 with h | h
    · exact h
    · have := Nat.pow_le_pow_right (n := 10) (by decide) h
      omega
  show s.dp - ((rpk k 0 0 s.L).2.1 : Int) + 1 ≤ _
  omega
theorem pow_small : ∀ d : Fin 9, 1 ≤ d.1 → 10 ^ (d.1 - 1) ≤ 2 ^ powN d.1 := by decide
theorem pow_great {d : Nat} (h : 9 ≤ d) : powN d = 27 := by
  unfold powN
  rw [List.getD_eq_getElem?_getD, List.getElem?_eq_none (by simpa using h)]; rfl
theorem rsh_small {s : DC} (hs : DOk s.L) (h0 : 0 < s.dp) (h8 : s.dp ≤ 8) : (rsh (powN s.dp.toNat) s).dp ≤ 1 := by
  have := rsh_dp (k := powN s.dp.toNat) (j := s.dp.toNat - 1) (by have := powN_le s.dp.toNat; omega) hs (pow_small ⟨s.dp.toNat, by omega⟩ (by show 1 ≤ s.dp.toNat; omega))
  omega
theorem rsh_great {s : DC} (hs : DOk s.L) (h0 : 8 < s.dp) : (rsh (powN s.dp.toNat) s).dp ≤ s.dp - 8 := by
  have := rsh_dp (k := powN s.dp.toNat) (j := 8) (by have := powN_le s.dp.toNat; omega) hs (by rw [pow_great (by omega)]; decide)
  omega
theorem sc1_one : ∀ (n : Nat) (s : DC) (e : Int), DOk s.L → s.dp ≤ 1 → hd0 s.L ≤ 48 + n → (sc1 s e).2 ≤ e + 3 * (n : Int)
  | 0, s, e, hs, _, hh => by have := hd0_ok hs; omega
  | n + 1, s, e, hs, hd, hh => by
    by_cases h0 : 0 < s.dp
    · have hp : s.dp.toNat = 1 := by omega
      have h3 : powN 1 = 3 := rfl
      have h1 := rsh_small hs h0 (by omega)
      have hm := m1_lt (k := 3) (by decide) (by decide) hs h0
      have hok := (rsh_ok (k := 3) (by decide) (by decide) hs).1
      rw [sc1_step hs h0, hp, h3]
      rw [hp, h3] at h1
      by_cases h4 : 0 < (rsh 3 s).dp
      · have := sc1_one n (rsh 3 s) (e + (3 : Nat)) hok h1 (by unfold m1 at hm; omega)
        omega
      · rw [sc1_stop h4]
        show e + (3 : Nat) ≤ _
        omega
    · rw [sc1_stop h0]
      show e ≤ _
      omega
theorem sc1_eight {s : DC} {e : Int} (hs : DOk s.L) (hd : s.dp ≤ 8) : (sc1 s e).2 ≤ e + 54 := by
  by_cases h1 : s.dp ≤ 1
  · have := sc1_one 9 s e hs h1 (by have := hd0_ok hs; omega)
    omega
  · have hp := powN_le s.dp.toNat
    have hok := (rsh_ok (k := powN s.dp.toNat) hp.1 (by omega) hs).1
    rw [sc1_step hs (by omega)]
    have := sc1_one 9 _ (e + (powN s.dp.toNat : Int)) hok (rsh_small hs (by omega) hd) (by have := hd0_ok hok; omega)
    omega
theorem sc1_most : ∀ (n : Nat) {s : DC} {e : Int}, DOk s.L → s.dp ≤ 8 + 8 * (n : Int) → (sc1 s e).2 ≤ e + (54 + 27 * (n : Int))
  | 0, s, e, hs, hd => by have := sc1_eight (e := e) hs (by omega); omega
  | n + 1, s, e, hs, hd => by
    by_cases h8 : s.dp ≤ 8
    · have := sc1_eight (e := e) hs h8; omega
    · have hp := powN_le s.dp.toNat
      have hok := (rsh_ok (k := powN s.dp.toNat) hp.1 (by omega) hs).1
      have hg := rsh_great hs (by omega)
      rw [sc1_step hs (by omega)]
      have := sc1_most n (e := e + (powN s.dp.toNat : Int)) hok (by omega)
      omega
theorem fb2_le (T : Nat → Nat × List UInt8) : ∀ (f : Nat) (s : DC) (e : Int), (fb2 T f s e).2 ≤ e
  | 0, s, e => Int.le_refl _
  | f + 1, s, e => by
    unfold fb2
    split
    · have := fb2_le T f (lshT T (powN (-s.dp).toNat) s) (e - (powN (-s.dp).toNat : Int))
      omega
    · exact Int.le_refl _
theorem fbM_no {m e : Int} (h : e ≤ 900) : (fbM m e).2 = false := by
  unfold fbM
  split
  · rw [if_neg (by omega)]
  · rfl
theorem fbE_no {T : Nat → Nat × List UInt8} {s : DC} {e : Int} (h : e ≤ 900) : (fbE T s e).2 = false := by
  unfold fbE
  rw [if_neg (by omega)]; exact fbM_no h
/-- A decimal with so few digits ahead of its point is not too large. -/
theorem fbF_no {T : Nat → Nat × List UInt8} {s : DC} (hs : DOk s.L) (h : s.dp ≤ 40) : (fbF T s).2 = false := by
  unfold fbF
  rw [if_neg (by omega)]
  split
  · rfl
  · have h1 := sc1_most 4 (e := 0) hs (by omega)
    have h2 := fb2_le T (m2 (sc1 s 0).1) (sc1 s 0).1 (sc1 s 0).2
    have h3 : (sc2 T (sc1 s 0).1 (sc1 s 0).2).2 ≤ 200 := by unfold sc2; omega
    unfold fbD
    split
    · exact fbE_no (by decide)
    · exact fbE_no (by omega)
theorem packF_no {m e : Int} (h : e < 972) : (packF m e).2 = false := by
  unfold packF
  split
  · rfl
  · rw [if_neg (by omega)]
theorem pf64_no {T : Nat → Nat × Nat} {d i : Nat} (h0 : d ≠ 0) (hd : d < 18446744073709551616) (hi : i ≤ 400) : (pf64 T d i).2 = false := by
  have hb := len_bounds h0 hd
  unfold pf64
  simp only
  split
  · rfl
  · refine packF_no ?_
    have hlp : ((i : Int) - 348) * 108853 / 32768 ≤ 173 := by omega
    have key : ∀ c : Nat, c ≤ 1 → -(min 1074 (53 - (Lib.bitLen d : Int) - ((i : Int) - 348) * 108853 / 32768) - (c : Int)) < 972 := by
      intro c hc
      omega
    exact key _ (by split <;> omega)
/-- A number with so few bytes is a float. -/
theorem atofA_no {T : Nat → Nat × Nat} {Q : Nat → Nat} {C : Nat → Nat × List UInt8} {t : List UInt8} {p q : Nat} (ht : FTx t p q) (hq : q ≤ 40) : (atofA T Q C t q 0).2 = false := by
  have hi := RI.at ht q (Nat.le_refl _)
  have h1 := hi.lo
  have h2 := hi.hi
  have hnm := hi.nm
  have hm := pow_le19 hi.mb hnm
  have hds := DSI.at ht q (Nat.le_refl _)
  unfold atofA
  simp only
  by_cases hz : (rfAt t q).m = 0
  · rw [if_pos hz]
    split
    · unfold atofN; rw [if_pos hz]
    · rw [if_neg (by intro h; exact h.1 hz)]
      unfold atofT; rw [if_pos hz]
  · rw [if_neg hz]
    have hpf : ∀ i, i ≤ 400 → (pf64 T (rfAt t q).m i).2 = false := fun i hi => pf64_no hz (by omega) hi
    split
    · unfold atofN
      rw [if_neg hz, if_neg (by omega), if_neg (by omega)]
      split
      · rfl
      · exact hpf _ (by omega)
    · split
      · unfold atofS
        exact fbF_no (ds_ok ht hz) (by show (dsAt t q).dp + 0 ≤ 40; have := hds.hi; omega)
      · unfold atofT
        rw [if_neg hz, if_neg (by omega), if_neg (by omega)]
        exact hpf _ (by omega)

end Go.Proofs.YtionmohglmbklaaGreatDoor.Tr
