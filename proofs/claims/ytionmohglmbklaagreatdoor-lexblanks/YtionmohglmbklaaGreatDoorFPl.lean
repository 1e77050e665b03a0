/- Plain facts of how a float's text is read. Nothing here speaks of the Go text. -/
import Derived.Test.YtionmohglmbklaaGreatDoorByt
namespace Go.Proofs.YtionmohglmbklaaGreatDoor.Tr

structure RF where
  m : Nat
  tr : Bool
  dot : Bool
  dig : Bool
  nd : Nat
  nm : Nat
  dp : Int
def rf0 : RF := ⟨0, false, false, false, 0, 0, 0⟩
def rfP (s : RF) : RF := { s with dot := true, dp := (s.nd : Int) }
def rfZ (s : RF) : RF := { s with dig := true, dp := s.dp - 1 }
def rfM (s : RF) (c : UInt8) : RF := { s with dig := true, nd := s.nd + 1, nm := s.nm + 1, m := s.m * 10 + (c.toNat - 48) }
def rfT (s : RF) (c : UInt8) : RF := { s with dig := true, nd := s.nd + 1, tr := s.tr || c != 48 }
def rfD (s : RF) (c : UInt8) : RF := if c.toNat = 48 ∧ s.nd = 0 then rfZ s else if s.nm < 19 then rfM s c else rfT s c
def rfStep (s : RF) (c : UInt8) : RF := if c.toNat = 46 then rfP s else rfD s c
def rfAt (t : List UInt8) (k : Nat) : RF := (t.take k).foldl rfStep rf0
theorem rfAt_zero (t : List UInt8) : rfAt t 0 = rf0 := by simp [rfAt]
theorem rfAt_succ (t : List UInt8) (k : Nat) (h : k < t.length) : rfAt t (k + 1) = rfStep (rfAt t k) t[k] := by
  unfold rfAt
  rw [List.take_succ_eq_append_getElem h, List.foldl_append]; rfl

/-- Where a float's text has its point, and where its digits end. -/
structure FTx (t : List UInt8) (p q : Nat) : Prop where
  len : t.length ≤ 4096
  pos : 0 < p
  pq : p + 1 < q
  ql : q ≤ t.length
  pt : ∀ h : p < t.length, t[p].toNat = 46
  dg : ∀ k (h : k < t.length), k < q → k ≠ p → isDig t[k] = true

/-- What holds of the state at a place. -/
structure RI (k p : Nat) (s : RF) : Prop where
  nm : s.nm ≤ 19
  nd : s.nd ≤ k
  mb : s.m < 10 ^ s.nm
  lo : -(k : Int) ≤ s.dp
  hi : s.dp ≤ (k : Int)
  dot : s.dot = decide (p < k)
  dig : s.dig = decide (0 < k)
theorem pow_le18 {m n : Nat} (h : m < 10 ^ n) (hn : n < 19) : m < 1000000000000000000 := Nat.lt_of_lt_of_le h (Nat.le_trans (Nat.pow_le_pow_right (by decide) (show n ≤ 18 by omega)) (by decide))
theorem pow_le19 {m n : Nat} (h : m < 10 ^ n) (hn : n ≤ 19) : m < 10000000000000000000 := Nat.lt_of_lt_of_le h (Nat.le_trans (Nat.pow_le_pow_right (by decide) hn) (by decide))
theorem RI.zero (p : Nat) : RI 0 p rf0 := ⟨by decide, by decide, by decide, by decide, by decide, by simp [rf0], rfl⟩
theorem RI.step {k p : Nat} {s : RF} (h : RI k p s) (hp : 0 < p) (c : UInt8) (hc : (k = p ∧ c.toNat = 46) ∨ (k ≠ p ∧ isDig c = true)) : RI (k + 1) p (rfStep s c) := by
  obtain ⟨h1, h2, h3, h4, h5, h6, h7⟩ := h
  unfold rfStep
  rcases hc with ⟨rfl, hc⟩ | ⟨hk, hc⟩
  · rw [if_pos hc]
    have hdig : s.dig = decide (0 < k + 1) := by rw [h7]; simp; omega
    exact ⟨h1, by simp [rfP]; omega, h3, by simp [rfP]; omega, by simp [rfP]; omega, by simp [rfP], hdig⟩
  · rw [dig_iff] at hc
    rw [if_neg (by omega)]
    have hdot : s.dot = decide (p < k + 1) := by rw [h6]; simp; omega
    have hpw : 10 ^ (s.nm + 1) = 10 ^ s.nm * 10 := Nat.pow_succ ..
    unfold rfD
    split
    · exact ⟨h1, by simp [rfZ]; omega, h3, by simp [rfZ]; omega, by simp [rfZ]; omega, hdot, by simp [rfZ]⟩
    · split
      · exact ⟨by simp [rfM]; omega, by simp [rfM]; omega, by simp only [rfM]; rw [hpw]; omega, by simp [rfM]; omega, by simp [rfM]; omega, hdot, by simp [rfM]⟩
      · exact ⟨h1, by simp [rfT]; omega, h3, by simp [rfT]; omega, by simp [rfT]; omega, hdot, by simp [rfT]⟩
theorem RI.at {t : List UInt8} {p q : Nat} (h : FTx t p q) : ∀ k, k ≤ q → RI k p (rfAt t k)
  | 0, _ => by rw [rfAt_zero]; exact RI.zero p
  | k + 1, hk => by
    have hl : k < t.length := by have := h.ql; omega
    rw [rfAt_succ t k hl]
    refine (RI.at h k (by omega)).step h.pos _ ?_
    by_cases e : k = p
    · subst e; exact .inl ⟨rfl, h.pt hl⟩
    · exact .inr ⟨e, h.dg k hl (by omega) e⟩

/-- An exponent's digits. -/
def exS (e : Nat) (c : UInt8) : Nat := if e < 10000 then e * 10 + (c.toNat - 48) else e
def exAt (t : List UInt8) (r k : Nat) : Nat := (sub t r k).foldl exS 0
theorem exAt_self (t : List UInt8) (r : Nat) : exAt t r r = 0 := by simp [exAt, sub_self]
theorem exAt_succ (t : List UInt8) (r k : Nat) (hr : r ≤ k) (h : k < t.length) : exAt t r (k + 1) = exS (exAt t r k) t[k] := by
  unfold exAt
  rw [sub_snoc t r k hr h, List.foldl_append]; rfl
theorem exS_le {e : Nat} {c : UInt8} (h : e ≤ 100000) (hc : isDig c = true) : exS e c ≤ 100000 := by
  rw [dig_iff] at hc
  unfold exS
  split <;> omega
theorem exAt_le {t : List UInt8} {r : Nat} (hd : ∀ k (h : k < t.length), r ≤ k → isDig t[k] = true) : ∀ k, r ≤ k → k ≤ t.length → exAt t r k ≤ 100000 := by
  intro k hk
  obtain ⟨d, rfl⟩ := Nat.exists_eq_add_of_le hk
  clear hk
  induction d with
  | zero => intro _; rw [Nat.add_zero, exAt_self]; omega
  | succ d ih =>
    intro hl
    rw [← Nat.add_assoc, exAt_succ t r (r + d) (by omega) (by omega)]
    exact exS_le (ih (by omega)) (hd (r + d) (by omega) (by omega))

end Go.Proofs.YtionmohglmbklaaGreatDoor.Tr
