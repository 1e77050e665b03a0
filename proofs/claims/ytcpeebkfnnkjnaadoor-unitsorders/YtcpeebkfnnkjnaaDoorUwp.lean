/- Groups of places as numbers. Nothing here speaks of the Go text. -/
import Derived.Test.YtcpeebkfnnkjnaaDoorUpo
import Derived.Lib.TrailingZeros
namespace Go.Proofs.YtcpeebkfnnkjnaaDoor.Tr
open Go.RowKit

/-- The places of some names, as a number. -/
def mk (R : List Ut) (xs : List Nm) : Nat := xs.foldl (fun m x => match fi R x with | some j => m ||| 2 ^ j | none => m) 0
theorem mk_snoc (R : List Ut) (xs : List Nm) (x : Nm) : mk R (xs ++ [x]) = match fi R x with | some j => mk R xs ||| 2 ^ j | none => mk R xs := by
  unfold mk
  rw [List.foldl_append]
  rfl
theorem mk_lt (R : List Ut) (xs : List Nm) : mk R xs < 2 ^ R.length := by
  rw [← List.reverse_reverse xs]
  induction xs.reverse with
  | nil => simp [mk]; exact Nat.two_pow_pos _
  | cons x r ih =>
    rw [List.reverse_cons, mk_snoc]
    cases h : fi R x with
    | none => exact ih
    | some j => exact Nat.or_lt_two_pow ih (Nat.pow_lt_pow_right (by omega) (fi_lt h))
theorem mk_bit (R : List Ut) (xs : List Nm) (j : Nat) : (mk R xs).testBit j = true ↔ ∃ x ∈ xs, fi R x = some j := by
  rw [← List.reverse_reverse xs]
  induction xs.reverse with
  | nil => simp [mk]
  | cons x r ih =>
    rw [List.reverse_cons, mk_snoc]
    cases h : fi R x with
    | none =>
      simp only
      rw [ih]
      constructor
      · rintro ⟨y, hy, e⟩; exact ⟨y, List.mem_append_left _ hy, e⟩
      · rintro ⟨y, hy, e⟩
        rcases List.mem_append.1 hy with hy | hy
        · exact ⟨y, hy, e⟩
        · rw [List.mem_singleton.1 hy, h] at e; cases e
    | some i =>
      simp only
      rw [Nat.testBit_or, Bool.or_eq_true, ih, Nat.testBit_two_pow, decide_eq_true_eq]
      constructor
      · rintro (⟨y, hy, e⟩ | e)
        · exact ⟨y, List.mem_append_left _ hy, e⟩
        · exact ⟨x, List.mem_append_right _ (List.mem_singleton.2 rfl), by rw [h, e]⟩
      · rintro ⟨y, hy, e⟩
        rcases List.mem_append.1 hy with hy | hy
        · exact .inl ⟨y, hy, e⟩
        · rw [List.mem_singleton.1 hy, h] at e
          injection e with e
          exact .inr e
/-- The first of those that are left that waits for none of them. -/
def rdB (W : Nat → Nat) (left i : Nat) : Bool := left.testBit i && decide (W i &&& left = 0)
def rdyF (n : Nat) (W : Nat → Nat) (left : Nat) : Option Nat := (List.range n).find? (rdB W left)
theorem rdyF_some {n : Nat} {W : Nat → Nat} {left i : Nat} (hi : i < n) (h : rdB W left i = true) (hn : ∀ j, j < i → rdB W left j = false) : rdyF n W left = some i := by
  unfold rdyF
  rw [List.find?_eq_some_iff_getElem]
  exact ⟨h, i, by simpa using hi, by simp, fun j hj => by simpa using hn j hj⟩
theorem rdyF_none {n : Nat} {W : Nat → Nat} {left : Nat} (hn : ∀ j, j < n → rdB W left j = false) : rdyF n W left = none := by
  unfold rdyF
  rw [List.find?_eq_none]
  intro j hj
  rw [hn j (List.mem_range.1 hj)]
  simp
theorem rdyF_is {n : Nat} {W : Nat → Nat} {left i : Nat} (h : rdyF n W left = some i) : i < n ∧ left.testBit i = true ∧ W i &&& left = 0 := by
  unfold rdyF at h
  rw [List.find?_eq_some_iff_getElem] at h
  obtain ⟨h1, j, hj, e, _⟩ := h
  simp at e hj
  subst e
  unfold rdB at h1
  simpa [hj] using h1
/-- Without one. -/
def drp (left i : Nat) : Nat := left &&& (4294967295 - 2 ^ i)
theorem drp_bit (left i q : Nat) (hi : i < 32) (hl : left < 4294967296) : (drp left i).testBit q = (left.testBit q && decide (q ≠ i)) := by
  unfold drp
  rw [Nat.testBit_and]
  have e : (4294967295 - 2 ^ i) = 2 ^ 32 - (2 ^ i + 1) := by omega
  rw [e, Nat.testBit_two_pow_sub_succ (Nat.pow_lt_pow_right (by omega) hi), Nat.testBit_two_pow]
  by_cases hq : q < 32
  · by_cases h : i = q
    · subst h; simp
    · have h2 : ¬ q = i := fun e => h e.symm
      simp [hq, h, h2]
  · have : left.testBit q = false := Nat.testBit_lt_two_pow (Nat.lt_of_lt_of_le hl (show (2 : Nat) ^ 32 ≤ 2 ^ q from Nat.pow_le_pow_right (by omega) (by omega)))
    simp [this]
theorem drp_lt {left i : Nat} (hi : i < 32) (hl : left < 4294967296) (hb : left.testBit i = true) : drp left i < left := by
  have h1 : drp left i ≤ left := Nat.and_le_left
  rcases Nat.lt_or_eq_of_le h1 with h | h
  · exact h
  · exfalso
    have := drp_bit left i i hi hl
    rw [h, hb] at this
    simp at this
/-- The places that are left. -/
def ix (n left : Nat) : List Nat := (List.range n).filter (fun i => left.testBit i)
theorem ix_drp (n left i : Nat) (hi : i < 32) (hl : left < 4294967296) : ix n (drp left i) = (ix n left).filter (fun q => decide (q ≠ i)) := by
  unfold ix
  rw [List.filter_filter]
  congr 1
  funext q
  rw [drp_bit left i q hi hl, Bool.and_comm]
theorem ix_all (n : Nat) : ix n (2 ^ n - 1) = List.range n := by
  unfold ix
  rw [List.filter_eq_self]
  intro q hq
  rw [Nat.testBit_two_pow_sub_one]
  simpa using List.mem_range.1 hq
theorem ix_nil {n left : Nat} (h : left < 2 ^ n) : ix n left = [] ↔ left = 0 := by
  unfold ix
  rw [List.filter_eq_nil_iff]
  constructor
  · intro hf
    refine Nat.eq_of_testBit_eq (fun q => ?_)
    rw [Nat.zero_testBit]
    by_cases hq : q < n
    · have := hf q (List.mem_range.2 hq)
      simpa using this
    · exact Nat.testBit_lt_two_pow (Nat.lt_of_lt_of_le h (Nat.pow_le_pow_right (by omega) (by omega)))
  · rintro rfl q _
    simp
theorem ctz_spec {left : Nat} (h0 : left ≠ 0) (hl : left < 4294967296) : left.testBit (Lib.ctz 32 left) = true ∧ ∀ q, q < Lib.ctz 32 left → left.testBit q = false := by
  have hc : Lib.ctz 32 left = Lib.ctzFrom 32 left := by unfold Lib.ctz; rw [if_neg h0]
  obtain ⟨m, hm, _⟩ := Lib.ctzFrom_spec 32 left (by omega) hl
  rw [hc]
  generalize Lib.ctzFrom 32 left = k at *
  rw [hm]
  constructor
  · rw [Nat.testBit_two_pow_mul]
    simp
  · intro q hq
    rw [Nat.testBit_two_pow_mul]
    have : ¬ k ≤ q := by omega
    simp [this]
theorem ix_head {n left : Nat} (h0 : left ≠ 0) (hl : left < 4294967296) (hn : left < 2 ^ n) : (ix n left).head? = some (Lib.ctz 32 left) ∧ Lib.ctz 32 left < n := by
  obtain ⟨h1, h2⟩ := ctz_spec h0 hl
  have hlt : Lib.ctz 32 left < n := by
    rcases Nat.lt_or_ge (Lib.ctz 32 left) n with h | h
    · exact h
    · rw [Nat.testBit_lt_two_pow (Nat.lt_of_lt_of_le hn (Nat.pow_le_pow_right (by omega) h))] at h1; cases h1
  refine ⟨?_, hlt⟩
  unfold ix
  rw [List.head?_filter]
  rw [List.find?_eq_some_iff_getElem]
  exact ⟨h1, _, by simpa using hlt, by simp, fun j hj => by simpa using h2 j hj⟩
end Go.Proofs.YtcpeebkfnnkjnaaDoor.Tr
