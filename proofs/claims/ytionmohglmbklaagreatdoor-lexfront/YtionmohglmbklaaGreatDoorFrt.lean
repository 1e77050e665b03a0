/- A text that is cut behind a token is read alike up to there. -/
import Derived.Test.YtionmohglmbklaaGreatDoorPlc
import Derived.Test.YtionmohglmbklaaGreatDoorRnb
namespace Go.Proofs.YtionmohglmbklaaGreatDoor.Tr
open Go.RowKit

theorem at0_take {t : List UInt8} {c k : Nat} (h : k < c) (hc : c ≤ t.length) : at0 (t.take c) k = at0 t k := by
  rw [at0_lt (by rw [List.length_take]; omega), at0_lt (by omega), List.getElem_take]
theorem at0_cut {t : List UInt8} {c k : Nat} (h : c ≤ k) : at0 (t.take c) k = 0 := at0_ge (by rw [List.length_take]; omega)
theorem upto_take {p : UInt8 → Bool} {t : List UInt8} {c : Nat} (hc : c ≤ t.length) : ∀ (d k : Nat), c - k = d → k ≤ c → upto p (t.take c) k = min (upto p t k) c
  | 0, k, hd, hk => by
    obtain rfl : k = c := by omega
    rw [upto_end (by rw [List.length_take]; omega)]
    have := upto_ge p t k
    omega
  | d + 1, k, hd, hk => by
    have hl : (t.take c).length = c := by rw [List.length_take]; omega
    have hkt : k < t.length := by omega
    cases hp : p t[k] with
    | false =>
      rw [upto_stop (by omega) (by rw [List.getElem_take]; exact hp), upto_stop hkt hp]
      omega
    | true =>
      rw [upto_step (by omega) (by rw [List.getElem_take]; exact hp), upto_step hkt hp]
      exact upto_take hc d (k + 1) (by omega) (by omega)
theorem upto_cut {p : UInt8 → Bool} {t : List UInt8} {c k : Nat} (hc : c ≤ t.length) (hk : upto p t k ≤ c) : upto p (t.take c) k = upto p t k := by
  have := upto_ge p t k
  rw [upto_take hc (c - k) k rfl (by omega)]; omega
theorem sub_take {t : List UInt8} {c a b : Nat} (h : b ≤ c) : sub (t.take c) a b = sub t a b := by
  unfold sub
  rw [List.take_take, Nat.min_eq_left h]
/-- Skipping to a place within what is left. -/
theorem skp_take {t : List UInt8} {c k k' : Nat} (hc : c ≤ t.length) (h : Skp t k k') (hk : k' ≤ c) : Skp (t.take c) k k' := by
  induction h with
  | @done k h =>
    refine .done ?_
    rcases Nat.lt_or_ge k c with hl | hl
    · rw [at0_take hl hc]; exact h
    · rw [at0_cut hl]; decide
  | @more k k' h hr ih =>
    have h1 := upto_ge inLine t k
    have h2 := upto_ge isBlank t (upto inLine t k)
    have h3 := hr.ge
    have hlt := at0_pos (by decide) h
    have hg : k < upto inLine t k := upto_gt hlt (by
      rw [at0_lt hlt] at h
      rw [eq_of_beq h]; decide)
    have e1 : upto inLine (t.take c) k = upto inLine t k := upto_cut hc (by omega)
    have e2 : upto isBlank (t.take c) (upto inLine t k) = upto isBlank t (upto inLine t k) := upto_cut hc (by omega)
    refine .more ?_ ?_
    · rw [at0_take (by omega) hc]; exact h
    · rw [e1, e2]; exact ih hk
theorem escp_take {t : List UInt8} {c k : Nat} {x : UInt8} (hc : c ≤ t.length) (h : escp t k = some x) (hk : k + 2 ≤ c) : escp (t.take c) k = some x := by
  unfold escp at h ⊢
  rw [at0_take (by omega) hc, at0_take (by omega) hc]; exact h
/-- A string that ends within what is left. -/
theorem strO_take {t : List UInt8} {c : Nat} (hc : c ≤ t.length) {k : Nat} {b : List UInt8} {o : Oc} (h : StrO t k b o) : ∀ s k', o = .fin s k' → k' ≤ c → StrO (t.take c) k b o := by
  have hl : (t.take c).length = c := by rw [List.length_take]; omega
  induction h with
  | err _ => intro s k' e; cases e
  | bad _ _ _ _ => intro s k' e; cases e
  | @fin k b h1 h2 h3 =>
    intro s k' e hk
    injection e with e1 e2
    subst e1 e2
    have e1 : upto isPl (t.take c) k = upto isPl t k := upto_cut hc (by omega)
    have := StrO.fin (t := t.take c) (k := k) (b := b) (by rw [e1, sub_take (by omega)]; exact h1) (by rw [e1, hl]; omega) (by rw [e1, at0_take (by omega) hc]; exact h3)
    rw [e1, sub_take (by omega)] at this
    exact this
  | @esc k b x o h1 h2 h3 h4 hr ih =>
    intro s k' e hk
    have hge : upto isPl t k + 2 < k' := by
      subst e
      have : (strStep 0 (.fin s k')).fits t 0 := by
        exact strO_fits hr (by omega) (escp_lt h4)
      clear this
      suffices H : ∀ {k : Nat} {b : List UInt8} {o : Oc}, StrO t k b o → ∀ s k', o = .fin s k' → k < k' from H hr s k' rfl
      intro k b o h
      induction h with
      | err _ => intro s k' e; cases e
      | bad _ _ _ _ => intro s k' e; cases e
      | @fin k b _ _ _ =>
        intro s k' e
        injection e with _ e2
        have := upto_ge isPl t k
        omega
      | @esc k b x o _ _ _ _ _ ih =>
        intro s k' e
        have := ih s k' e
        have := upto_ge isPl t k
        omega
    have e1 : upto isPl (t.take c) k = upto isPl t k := upto_cut hc (by omega)
    have hi := ih s k' e hk
    have := StrO.esc (t := t.take c) (k := k) (b := b) (c := x) (o := o) (by rw [e1, sub_take (by omega)]; exact h1) (by rw [e1, hl]; omega) (by rw [e1, at0_take (by omega) hc]; exact h3) (by rw [e1]; exact escp_take hc h4 (by omega)) (by rw [e1, sub_take (by omega)]; exact hi)
    exact this

theorem strO_lt {t : List UInt8} {k : Nat} {b : List UInt8} {o : Oc} (h : StrO t k b o) : ∀ s k', o = .fin s k' → k < k' := by
  induction h with
  | err _ => intro s k' e; cases e
  | bad _ _ _ _ => intro s k' e; cases e
  | @fin k b _ _ _ =>
    intro s k' e
    injection e with _ e2
    have := upto_ge isPl t k
    omega
  | @esc k b x o _ _ _ _ _ ih =>
    intro s k' e
    have := ih s k' e
    have := upto_ge isPl t k
    omega
theorem exp_dig {t : List UInt8} {i : Nat} (h : expLen t i ≠ 0) : isDig (at0 t (i + expLen t i)) = true := by
  unfold expLen at h ⊢
  split
  · rename_i h1; rw [if_pos h1] at h; exact absurd rfl h
  · rename_i h1
    rw [if_neg h1] at h
    split
    · rename_i h2
      rw [if_pos h2] at h
      split
      · assumption
      · rename_i h3; rw [if_neg h3] at h; exact absurd rfl h
    · rename_i h2
      rw [if_neg h2] at h
      split
      · assumption
      · rename_i h3; rw [if_neg h3] at h; exact absurd rfl h
theorem dig0 : isDig 0 = false := by decide
theorem exp_take {t : List UInt8} {c i : Nat} (hc : c ≤ t.length) (h : expLen t i = 0 ∨ i + expLen t i < c) : expLen (t.take c) i = expLen t i := by
  have key : ∀ j, at0 (t.take c) j = at0 t j ∨ (c ≤ j ∧ at0 (t.take c) j = 0) := fun j => by
    rcases Nat.lt_or_ge j c with hj | hj
    · exact .inl (at0_take hj hc)
    · exact .inr ⟨hj, at0_cut hj⟩
  have k0 := key i
  have k1 := key (i + 1)
  have k2 := key (i + 2)
  unfold expLen at h ⊢
  generalize at0 (t.take c) i = a0 at *
  generalize at0 (t.take c) (i + 1) = a1 at *
  generalize at0 (t.take c) (i + 2) = a2 at *
  generalize at0 t i = b0 at *
  generalize at0 t (i + 1) = b1 at *
  generalize at0 t (i + 2) = b2 at *
  rcases k0 with rfl | ⟨g0, rfl⟩
  · by_cases h1 : (a0 != 101 && a0 != 69) = true
    · rw [if_pos h1, if_pos h1]
    · rw [if_neg h1] at h ⊢
      rw [if_neg h1]
      rcases k1 with rfl | ⟨g1, rfl⟩
      · by_cases h2 : (a1 == 43 || a1 == 45) = true
        · rw [if_pos h2] at h ⊢
          rw [if_pos h2]
          rcases k2 with rfl | ⟨g2, rfl⟩
          · rfl
          · rw [dig0, if_neg (by decide)]
            split at h
            · omega
            · rename_i h3; rw [if_neg h3]
        · rw [if_neg h2, if_neg h2]
      · rw [if_neg (by decide), dig0, if_neg (by decide)]
        by_cases h2 : (b1 == 43 || b1 == 45) = true
        · rw [if_pos h2] at h ⊢
          split at h
          · omega
          · rename_i h3; rw [if_neg h3]
        · rw [if_neg h2] at h ⊢
          split at h
          · omega
          · rename_i h3; rw [if_neg h3]
  · rw [if_pos (by decide)]
    split at h
    · rename_i h1; rw [if_pos h1]
    · rename_i h1
      rw [if_neg h1]
      split at h
      · rename_i h2
        rw [if_pos h2]
        split at h
        · omega
        · rename_i h3; rw [if_neg h3]
      · rename_i h2
        rw [if_neg h2]
        split at h
        · omega
        · rename_i h3; rw [if_neg h3]
theorem frac_take {t : List UInt8} {c d : Nat} (hc : c ≤ t.length) (h : fracEnd t d ≤ c) : fracEnd (t.take c) d = fracEnd t d ∧ upto isDig t (d + 1) ≤ c := by
  unfold fracEnd at h ⊢
  simp only at h ⊢
  have hle : upto isDig t (d + 1) ≤ c ∧ (expLen t (upto isDig t (d + 1)) = 0 ∨ (upto isDig t (d + 1) + expLen t (upto isDig t (d + 1)) < c ∧ upto isDig t (upto isDig t (d + 1) + expLen t (upto isDig t (d + 1))) ≤ c)) := by
    split at h
    · rename_i h0; exact ⟨h, .inl h0⟩
    · rename_i h0
      have h1 := exp_dig h0
      have hlt : upto isDig t (d + 1) + expLen t (upto isDig t (d + 1)) < t.length := by
        rcases Nat.lt_or_ge (upto isDig t (d + 1) + expLen t (upto isDig t (d + 1))) t.length with hh | hh
        · exact hh
        · rw [at0_ge hh] at h1; exact absurd h1 (by decide)
      rw [at0_lt hlt] at h1
      have hg := upto_gt hlt h1
      exact ⟨by omega, .inr ⟨by omega, h⟩⟩
  have e1 : upto isDig (t.take c) (d + 1) = upto isDig t (d + 1) := upto_cut hc hle.1
  rw [e1]
  generalize upto isDig t (d + 1) = i at *
  have e2 : expLen (t.take c) i = expLen t i := exp_take hc (hle.2.imp id (fun h => h.1))
  rw [e2]
  refine ⟨?_, hle.1⟩
  split
  · rfl
  · rename_i h0
    exact upto_cut hc (hle.2.resolve_left h0).2
theorem sign_take {t : List UInt8} {c k : Nat} (hc : c ≤ t.length) (h0 : signLen t k ≠ 0) (h : k + signLen t k ≤ c) : signLen (t.take c) k = signLen t k := by
  have hkc : k < c := by omega
  rcases Nat.lt_or_ge (k + 1) c with h2 | h2
  · unfold signLen
    rw [sub_take (by omega), at0_take hkc hc]
  · have hc1 : c = k + 1 := by omega
    subst hc1
    have hsub : sub (t.take (k + 1)) k (k + 2) = [at0 t k] := by
      have e : sub (t.take (k + 1)) k (k + 2) = sub (t.take (k + 1)) k (k + 1) := by
        unfold sub
        rw [List.take_take, List.take_take, Nat.min_eq_right (by omega), Nat.min_self]
      rw [e, sub_take (Nat.le_refl _), sub_snoc t k k (Nat.le_refl _) (by omega), sub_self, at0_lt (by omega)]; rfl
    have ht2 : ∀ x : UInt8, twos.any (· == [x]) = false := by intro x; simp [twos]
    have hone : signLen t k = 1 := by omega
    rw [hone]
    unfold signLen at hone ⊢
    rw [hsub, ht2, if_neg (by decide), at0_take hkc hc]
    split at hone
    · omega
    · split at hone
      · rename_i h3; rw [if_pos h3]
      · omega

theorem here_take {w0 : World} {t : List UInt8} {c k k' : Nat} {x : Tok} (hc : c ≤ t.length) (h : Here w0 t k (.tok x k')) (hx : x.kind ≠ 0) (hk' : k' ≤ c) : Here w0 (t.take c) k (.tok x k') := by
  have hl : (t.take c).length = c := by rw [List.length_take]; omega
  generalize hs : Step.tok x k' = s at h
  cases h with
  | fin => injection hs with e1 e2; subst e1; exact absurd rfl hx
  | name h1 h2 =>
    injection hs with e1 e2
    subst e1 e2
    have hg : k < upto inN t k := upto_gt h1 (by rw [at0_lt h1] at h2; unfold inN; rw [h2]; rfl)
    have e : upto inN (t.take c) k = upto inN t k := upto_cut hc hk'
    have := Here.name (w0 := w0) (t := t.take c) (k := k) (by omega) (by rw [at0_take (by omega) hc]; exact h2)
    unfold tokN at this ⊢
    rw [e, sub_take hk'] at this
    exact this
  | @flt _ f h1 h2 h3 h4 h5 h6 h7 =>
    injection hs with e1 e2
    subst e1 e2
    obtain ⟨f1, f2⟩ := frac_take hc hk'
    have hfg := frac_ge t (upto isDig t k)
    have hge := upto_ge isDig t k
    have hd1 : upto isDig t k + 1 < t.length := by
      rcases Nat.lt_or_ge (upto isDig t k + 1) t.length with hh | hh
      · exact hh
      · rw [at0_ge hh] at h6; exact absurd h6 (by decide)
    have hg2 := upto_gt hd1 (by rw [← at0_lt hd1]; exact h6)
    have e : upto isDig (t.take c) k = upto isDig t k := upto_cut hc (by omega)
    have := Here.flt (w0 := w0) (t := t.take c) (k := k) (f := f) (by omega) (by rw [at0_take (by omega) hc]; exact h2) (by rw [at0_take (by omega) hc]; exact h3) (by rw [e, at0_take (by omega) hc]; exact h4) (by rw [e, at0_take (by omega) hc]; exact h5) (by rw [e, at0_take (by omega) hc]; exact h6) (by rw [e, f1, sub_take hk']; exact h7)
    unfold tokF at this ⊢
    rw [e, f1, sub_take hk'] at this
    exact this
  | @str _ o h1 h2 h3 =>
    cases o with
    | fin s1 k2 =>
      injection hs with e1 e2
      subst e1 e2
      have hlt := strO_lt h3 s1 k' rfl
      exact Here.str (o := .fin s1 k') (by omega) (by rw [at0_take (by omega) hc]; exact h2) (strO_take hc h3 s1 k' rfl hk')
    | err => cases hs
    | bad _ => cases hs
  | @int _ n h1 h2 h3 h4 h5 h6 =>
    injection hs with e1 e2
    subst e1 e2
    have hd' : isDig t[k] = true := by rw [← at0_lt h1]; exact h3
    have hg := upto_gt h1 hd'
    have e : upto isDig (t.take c) k = upto isDig t k := upto_cut hc hk'
    have := Here.int (w0 := w0) (t := t.take c) (k := k) (n := n) (by omega) (by rw [at0_take (by omega) hc]; exact h2) (by rw [at0_take (by omega) hc]; exact h3) (by rw [e, at0_take (by omega) hc]; exact h4) (by
      rw [e]
      intro h
      rcases Nat.lt_or_ge (upto isDig t k) c with hh | hh
      · rw [at0_take hh hc] at h
        have h8 := h5 h
        rcases Nat.lt_or_ge (upto isDig t k + 1) c with h9 | h9
        · rw [at0_take h9 hc]; exact h8
        · rw [at0_cut h9]; decide
      · rw [at0_cut hh] at h; exact absurd h (by decide)) (by rw [e, sub_take hk']; exact h6)
    unfold tokI at this ⊢
    rw [e, sub_take hk'] at this
    exact this
  | sign h1 h2 h3 h4 h5 =>
    injection hs with e1 e2
    subst e1 e2
    have e := sign_take hc h5 hk'
    have := Here.sign (w0 := w0) (t := t.take c) (k := k) (by omega) (by rw [at0_take (by omega) hc]; exact h2) (by rw [at0_take (by omega) hc]; exact h3) (by rw [at0_take (by omega) hc]; exact h4) (by rw [e]; exact h5)
    unfold tokS at this ⊢
    rw [e, sub_take hk'] at this
    exact this
  | fltno => cases hs
  | intno => cases hs
  | zero => cases hs
  | byte => cases hs

/-- Cut where a token begins, a text has just the tokens ahead of that. -/
theorem run_take {w0 : World} {t : List UInt8} {k : Nat} {L : List Tok} {o : Option (Nat × Int)} (h : Run w0 t k L o) (hk : k ≤ t.length) : ∀ j (hj : j < L.length), Run w0 (t.take L[j].at_) k (L.take j ++ [endT (t.take L[j].at_)]) none := by
  have first : ∀ {k k1 k2 : Nat} {x : Tok}, k ≤ t.length → Skp t (upto isBlank t k) k1 → Here w0 t k1 (.tok x k2) → Run w0 (t.take x.at_) k [endT (t.take x.at_)] none := by
    intro k k1 k2 x hk hs hh
    have hk1 := hs.le (upto_le hk)
    have h2 := hs.ge
    have ha := (here_tok hh hk1).2.1
    rw [ha]
    have hl : (t.take k1).length = k1 := by rw [List.length_take]; omega
    have e : upto isBlank (t.take k1) k = upto isBlank t k := upto_cut hk1 h2
    have hfin : Here w0 (t.take k1) (t.take k1).length (.tok (endT (t.take k1)) (t.take k1).length) := .fin
    rw [hl] at hfin
    refine .fin (k1 := k1) (by rw [e]; exact skp_take hk1 hs (Nat.le_refl _)) hfin rfl
  induction h with
  | @fin k k1 k2 x hs hh hx =>
    intro j hj
    obtain rfl : j = 0 := by simpa using hj
    exact first hk hs hh
  | @bad k k1 a e hs hh => intro j hj; simp at hj
  | @tok k k1 k2 x l o hs hh hx hr ih =>
    intro j hj
    cases j with
    | zero => exact first hk hs hh
    | succ j =>
      have hk1 := hs.le (upto_le hk)
      obtain ⟨a1, a2, a3, a4, a5⟩ := here_tok hh hk1
      have hg := a4 hx
      have hjl : j < l.length := by simpa using hj
      have hp := (run_places hr a3).1
      have hge := hp.ge j hjl
      have hle := (hp.fit j hjl).le
      have h2 := hs.ge
      simp only [List.getElem_cons_succ, List.take_succ_cons, List.cons_append]
      have e : upto isBlank (t.take l[j].at_) k = upto isBlank t k := upto_cut hle (by omega)
      exact .tok (by rw [e]; exact skp_take hle hs (by omega)) (here_take hle hh hx hge) hx (ih a3 j hjl)

end Go.Proofs.YtionmohglmbklaaGreatDoor.Tr
