import Derived.Test.YtionmohglmbklaaGreatDoorRna
import Derived.Test.YtionmohglmbklaaGreatDoorNupM
import Derived.Test.YtionmohglmbklaaGreatDoorTeq
import Derived.Test.YtionmohglmbklaaGreatDoorPlc
import Derived.Test.YtionmohglmbklaaGreatDoorShw
import Derived.Test.YtionmohglmbklaaGreatDoorFau
/- Every text is read somehow, and no float of it is a NaN. -/
namespace Go.Proofs.YtionmohglmbklaaGreatDoor.Tr
open Go.RowKit

/-- Numbers are read, all of them, and no float is a NaN. -/
structure Nums2 (w0 : World) : Prop where
  flt : ∀ (t : List UInt8) (p q : Nat) (ex : Int), FTx t p q → FEnd t q ex → (∃ f, PFok w0 t f ∧ Op.floatEq .f64 f f = true) ∨ PFno w0 t
  int : ∀ t : List UInt8, t.all isDig = true → t.length ≤ 4096 → 0 < t.length → (∃ n, PIok w0 t n) ∨ PIno w0 t
theorem nums2_of {w0 : World} {T : Nat → Nat × Nat} {Q : Nat → Nat} {C : Nat → Nat × List UInt8} (h : Tbs w0 T Q) (hC : FbT w0 C) (hT : ∀ i, i < 696 → (T i).1 < 18446744073709551616) (hQ : ∀ i, i < 23 → Fin1 (Q i)) : Nums2 w0 := by
  refine ⟨fun t p q ex ht hx => ?_, fun t hd hl hne => ?_⟩
  · have hp := pf_of h ht.len (ato_any h hC ht hx)
    cases hb : (atofA T Q C t q ex).2 with
    | false => exact .inl ⟨_, hp.1 hb, floatEq_self (atofA_nan hT hQ ht hb)⟩
    | true => exact .inr (hp.2 hb)
  · rcases Nat.lt_or_ge (val t) 9223372036854775808 with hv | hv
    · exact .inl ⟨_, pint_ok hd hl hne hv⟩
    · exact .inr (pint_no h.rng hd hl hne hv)

/-- A token's float equals itself. -/
def Step.good : Step → Prop
  | .tok x _ => Op.floatEq .f64 x.flt x.flt = true
  | .bad _ _ => True
theorem here_ex2 {w0 : World} (hN : Nums2 w0) {t : List UInt8} (hl : t.length ≤ 4096) {k : Nat} (hk : k ≤ t.length) : ∃ s, Here w0 t k s ∧ s.fits t k ∧ s.good := by
  rcases Nat.lt_or_ge k t.length with hlt | hge
  · cases hb : begN (at0 t k) with
    | true =>
      refine ⟨_, .name hlt hb, ⟨upto_le hk, fun _ => upto_gt hlt ?_⟩, floatEq0⟩
      rw [at0_lt hlt] at hb
      unfold inN; rw [hb]; rfl
    | false =>
      cases hd : isDig (at0 t k) with
      | true =>
        have hd' : isDig t[k] = true := by rw [← at0_lt hlt]; exact hd
        have hg := upto_gt hlt hd'
        have hul := upto_le (p := isDig) hk
        by_cases hz : 1 < upto isDig t k - k ∧ (at0 t k == 48) = true
        · exact ⟨_, .zero hlt hb hd hz.1 hz.2, ⟨Nat.le_refl _, hk, by decide⟩, trivial⟩
        · have hz' : 1 < upto isDig t k - k → (at0 t k == 48) = false := fun h => by
            cases hq : (at0 t k == 48) with
            | false => rfl
            | true => exact absurd ⟨h, hq⟩ hz
          by_cases hf : (at0 t (upto isDig t k) == 46) = true ∧ isDig (at0 t (upto isDig t k + 1)) = true
          · obtain ⟨p, q, ex, h1, h2⟩ := ftx_of hl hlt hd hf.1 hf.2
            rcases hN.flt _ p q ex h1 h2 with ⟨f, h3, h4⟩ | h3
            · have hfl := frac_le (at0_pos (by decide) hf.1)
              have hfg := frac_ge t (upto isDig t k)
              exact ⟨_, .flt hlt hb hd hz' hf.1 hf.2 h3, ⟨hfl, fun _ => by omega⟩, h4⟩
            · exact ⟨_, .fltno hlt hb hd hz' hf.1 hf.2 h3, ⟨Nat.le_refl _, hk, by decide⟩, trivial⟩
          · have hf' : (at0 t (upto isDig t k) == 46) = true → isDig (at0 t (upto isDig t k + 1)) = false := fun h => by
              cases hq : isDig (at0 t (upto isDig t k + 1)) with
              | false => rfl
              | true => exact absurd ⟨h, hq⟩ hf
            have hlen := sub_length t k (upto isDig t k) hul
            have hall : (sub t k (upto isDig t k)).all isDig = true := by
              rw [List.all_eq_true]
              intro x hx
              obtain ⟨j, hj, rfl⟩ := List.getElem_of_mem hx
              rw [sub_get t k _ _ hul hj]
              exact upto_all j k (k + j) (by omega) rfl (by omega)
            rcases hN.int _ hall (by omega) (by omega) with ⟨n, h3⟩ | h3
            · exact ⟨_, .int hlt hb hd hz' hf' h3, ⟨hul, fun _ => hg⟩, floatEq0⟩
            · exact ⟨_, .intno hlt hb hd hz' hf' h3, ⟨Nat.le_refl _, hk, by decide⟩, trivial⟩
      | false =>
        cases h34 : (at0 t k == 34) with
        | true =>
          obtain ⟨o, ho⟩ := str_ex t t.length (k + 1) [] (by omega) hlt
          exact ⟨_, .str hlt h34 ho, strO_fits ho (by omega) hlt, by cases o <;> first | exact floatEq0 | trivial⟩
        | false =>
          by_cases hs : signLen t k = 0
          · exact ⟨_, .byte hlt hb hd h34 hs, ⟨Nat.le_refl _, hk, by decide⟩, trivial⟩
          · exact ⟨_, .sign hlt hb hd h34 hs, ⟨sign_le hlt, fun _ => by omega⟩, floatEq0⟩
  · obtain rfl : k = t.length := by omega
    exact ⟨_, .fin, ⟨Nat.le_refl _, fun h => absurd rfl h⟩, floatEq0⟩
theorem run_ex2 {w0 : World} (hN : Nums2 w0) {t : List UInt8} (hl : t.length ≤ 4096) : ∀ (n k : Nat), t.length - k ≤ n → k ≤ t.length → ∃ L o, Run w0 t k L o ∧ L.length ≤ t.length - k + 1 ∧ ∀ x ∈ L, Op.floatEq .f64 x.flt x.flt = true
  | n, k, hn, hk => by
    obtain ⟨k1, hs⟩ := skp_ex t t.length (upto isBlank t k) (by omega) (upto_le hk)
    have h1 := upto_ge isBlank t k
    have h2 := hs.ge
    have h3 := hs.le (upto_le hk)
    obtain ⟨s, hh, hf, hgd⟩ := here_ex2 hN hl h3
    cases s with
    | bad a e => exact ⟨_, _, .bad hs hh, by simp, by simp⟩
    | tok x k2 =>
      obtain ⟨hf1, hf2⟩ := hf
      by_cases hx : x.kind = 0
      · exact ⟨_, _, .fin hs hh hx, by simp, fun y hy => by rw [List.mem_singleton.1 hy]; exact hgd⟩
      · have hg := hf2 hx
        cases n with
        | zero => omega
        | succ n =>
          obtain ⟨L, o, hr, hL, hGL⟩ := run_ex2 hN hl n k2 (by omega) hf1
          exact ⟨_, _, .tok hs hh hx hr, by simp; omega, fun y hy => (List.mem_cons.1 hy).elim (fun e => by rw [e]; exact hgd) (hGL y)⟩

end Go.Proofs.YtionmohglmbklaaGreatDoor.Tr
/- A text that is cut behind a token is read alike up to there. -/
namespace Go.Proofs.YtionmohglmbklaaGreatDoor.Tr
open Go.RowKit

theorem at0_take {t : List UInt8} {c k : Nat} (h : k < c) (hc : c ≤ t.length) : at0 (t.take c) k = at0 t k := by
  rw [at0_lt (by rw [List.length_take]; omega), at0_lt (by omega), List.getElem_take]
theorem at0_cut {t : List UInt8} {c k : Nat} (h : c ≤ k) : at0 (t.take c) k = 0 := at0_ge (by rw [List.length_take]; omega)
theorem upto_take {p : UInt8 → Bool} {t : List UInt8} {c : Nat} (hc : c ≤ t.length) : ∀ (d k : Nat), c - k = d → k ≤ c → upto p (t.take c) k = min (upto p t k) c
  | 0, k, hd, hk => by
    obtain rfl : k = c := by omega
    rw [upto_end (by rw [List.length_take]; omega)]
    have := upto_ge p t k
    omega
  | d + 1, k, hd, hk => by
    have hl : (t.take c).length = c := by rw [List.length_take]; omega
    have hkt : k < t.length := by omega
    cases hp : p t[k] with
    | false =>
      rw [upto_stop (by omega) (by rw [List.getElem_take]; exact hp), upto_stop hkt hp]
      omega
    | true =>
      rw [upto_step (by omega) (by rw [List.getElem_take]; exact hp), upto_step hkt hp]
      exact upto_take hc d (k + 1) (by omega) (by omega)
theorem upto_cut {p : UInt8 → Bool} {t : List UInt8} {c k : Nat} (hc : c ≤ t.length) (hk : upto p t k ≤ c) : upto p (t.take c) k = upto p t k := by
  have := upto_ge p t k
  rw [upto_take hc (c - k) k rfl (by omega)]; omega
theorem sub_take {t : List UInt8} {c a b : Nat} (h : b ≤ c) : sub (t.take c) a b = sub t a b := by
  unfold sub
  rw [List.take_take, Nat.min_eq_left h]
/-- Skipping to a place within what is left. -/
theorem skp_take {t : List UInt8} {c k k' : Nat} (hc : c ≤ t.length) (h : Skp t k k') (hk : k' ≤ c) : Skp (t.take c) k k' := by
  induction h with
  | @done k h =>
    refine .done ?_
    rcases Nat.lt_or_ge k c with hl | hl
    · rw [at0_take hl hc]; exact h
    · rw [at0_cut hl]; decide
  | @more k k' h hr ih =>
    have h1 := upto_ge inLine t k
    have h2 := upto_ge isBlank t (upto inLine t k)
    have h3 := hr.ge
    have hlt := at0_pos (by decide) h
    have hg : k < upto inLine t k := upto_gt hlt (by
      rw [at0_lt hlt] at h
      rw [eq_of_beq h]; decide)
    have e1 : upto inLine (t.take c) k = upto inLine t k := upto_cut hc (by omega)
    have e2 : upto isBlank (t.take c) (upto inLine t k) = upto isBlank t (upto inLine t k) := upto_cut hc (by omega)
    refine .more ?_ ?_
    · rw [at0_take (by omega) hc]; exact h
    · rw [e1, e2]; exact ih hk
theorem escp_take {t : List UInt8} {c k : Nat} {x : UInt8} (hc : c ≤ t.length) (h : escp t k = some x) (hk : k + 2 ≤ c) : escp (t.take c) k = some x := by
  unfold escp at h ⊢
  rw [at0_take (by omega) hc, at0_take (by omega) hc]; exact h
/-- A string that ends within what is left. -/
theorem strO_take {t : List UInt8} {c : Nat} (hc : c ≤ t.length) {k : Nat} {b : List UInt8} {o : Oc} (h : StrO t k b o) : ∀ s k', o = .fin s k' → k' ≤ c → StrO (t.take c) k b o := by
  have hl : (t.take c).length = c := by rw [List.length_take]; omega
  induction h with
  | err _ => intro s k' e; cases e
  | bad _ _ _ _ => intro s k' e; cases e
  | @fin k b h1 h2 h3 =>
    intro s k' e hk
    injection e with e1 e2
    subst e1 e2
    have e1 : upto isPl (t.take c) k = upto isPl t k := upto_cut hc (by omega)
    have := StrO.fin (t := t.take c) (k := k) (b := b) (by rw [e1, sub_take (by omega)]; exact h1) (by rw [e1, hl]; omega) (by rw [e1, at0_take (by omega) hc]; exact h3)
    rw [e1, sub_take (by omega)] at this
    exact this
  | @esc k b x o h1 h2 h3 h4 hr ih =>
    intro s k' e hk
    have hge : upto isPl t k + 2 < k' := by
      subst e
      have : (strStep 0 (.fin s k')).fits t 0 := by
        exact strO_fits hr (by omega) (escp_lt h4)
      clear this
      suffices H : ∀ {k : Nat} {b : List UInt8} {o : Oc}, StrO t k b o → ∀ s k', o = .fin s k' → k < k' from H hr s k' rfl
      intro k b o h
      induction h with
      | err _ => intro s k' e; cases e
      | bad _ _ _ _ => intro s k' e; cases e
      | @fin k b _ _ _ =>
        intro s k' e
        injection e with _ e2
        have := upto_ge isPl t k
        omega
      | @esc k b x o _ _ _ _ _ ih =>
        intro s k' e
        have := ih s k' e
        have := upto_ge isPl t k
        omega
    have e1 : upto isPl (t.take c) k = upto isPl t k := upto_cut hc (by omega)
    have hi := ih s k' e hk
    have := StrO.esc (t := t.take c) (k := k) (b := b) (c := x) (o := o) (by rw [e1, sub_take (by omega)]; exact h1) (by rw [e1, hl]; omega) (by rw [e1, at0_take (by omega) hc]; exact h3) (by rw [e1]; exact escp_take hc h4 (by omega)) (by rw [e1, sub_take (by omega)]; exact hi)
    exact this

theorem strO_lt {t : List UInt8} {k : Nat} {b : List UInt8} {o : Oc} (h : StrO t k b o) : ∀ s k', o = .fin s k' → k < k' := by
  induction h with
  | err _ => intro s k' e; cases e
  | bad _ _ _ _ => intro s k' e; cases e
  | @fin k b _ _ _ =>
    intro s k' e
    injection e with _ e2
    have := upto_ge isPl t k
    omega
  | @esc k b x o _ _ _ _ _ ih =>
    intro s k' e
    have := ih s k' e
    have := upto_ge isPl t k
    omega
theorem exp_dig {t : List UInt8} {i : Nat} (h : expLen t i ≠ 0) : isDig (at0 t (i + expLen t i)) = true := by
  unfold expLen at h ⊢
  split
  · rename_i h1; rw [if_pos h1] at h; exact absurd rfl h
  · rename_i h1
    rw [if_neg h1] at h
    split
    · rename_i h2
      rw [if_pos h2] at h
      split
      · assumption
      · rename_i h3; rw [if_neg h3] at h; exact absurd rfl h
    · rename_i h2
      rw [if_neg h2] at h
      split
      · assumption
      · rename_i h3; rw [if_neg h3] at h; exact absurd rfl h
theorem dig0 : isDig 0 = false := by decide
theorem exp_take {t : List UInt8} {c i : Nat} (hc : c ≤ t.length) (h : expLen t i = 0 ∨ i + expLen t i < c) : expLen (t.take c) i = expLen t i := by
  have key : ∀ j, at0 (t.take c) j = at0 t j ∨ (c ≤ j ∧ at0 (t.take c) j = 0) := fun j => by
    rcases Nat.lt_or_ge j c with hj | hj
    · exact .inl (at0_take hj hc)
    · exact .inr ⟨hj, at0_cut hj⟩
  have k0 := key i
  have k1 := key (i + 1)
  have k2 := key (i + 2)
  unfold expLen at h ⊢
  generalize at0 (t.take c) i = a0 at *
  generalize at0 (t.take c) (i + 1) = a1 at *
  generalize at0 (t.take c) (i + 2) = a2 at *
  generalize at0 t i = b0 at *
  generalize at0 t (i + 1) = b1 at *
  generalize at0 t (i + 2) = b2 at *
  rcases k0 with rfl | ⟨g0, rfl⟩
  · by_cases h1 : (a0 != 101 && a0 != 69) = true
    · rw [if_pos h1, if_pos h1]
    · rw [if_neg h1] at h ⊢
      rw [if_neg h1]
      rcases k1 with rfl | ⟨g1, rfl⟩
      · by_cases h2 : (a1 == 43 || a1 == 45) = true
        · rw [if_pos h2] at h ⊢
          rw [if_pos h2]
          rcases k2 with rfl | ⟨g2, rfl⟩
          · rfl
          · rw [dig0, if_neg (by decide)]
            split at h
            · omega
            · rename_i h3; rw [if_neg h3]
        · rw [if_neg h2, if_neg h2]
      · rw [if_neg (by decide), dig0, if_neg (by decide)]
        by_cases h2 : (b1 == 43 || b1 == 45) = true
        · rw [if_pos h2] at h ⊢
          split at h
          · omega
          · rename_i h3; rw [if_neg h3]
        · rw [if_neg h2] at h ⊢
          split at h
          · omega
          · rename_i h3; rw [if_neg h3]
  · rw [if_pos (by decide)]
    split at h
    · rename_i h1; rw [if_pos h1]
    · rename_i h1
      rw [if_neg h1]
      split at h
      · rename_i h2
        rw [if_pos h2]
        split at h
        · omega
        · rename_i h3; rw [if_neg h3]
      · rename_i h2
        rw [if_neg h2]
        split at h
        · omega
        · rename_i h3; rw [if_neg h3]
theorem frac_take {t : List UInt8} {c d : Nat} (hc : c ≤ t.length) (h : fracEnd t d ≤ c) : fracEnd (t.take c) d = fracEnd t d ∧ upto isDig t (d + 1) ≤ c := by
  unfold fracEnd at h ⊢
  simp only at h ⊢
  have hle : upto isDig t (d + 1) ≤ c ∧ (expLen t (upto isDig t (d + 1)) = 0 ∨ (upto isDig t (d + 1) + expLen t (upto isDig t (d + 1)) < c ∧ upto isDig t (upto isDig t (d + 1) + expLen t (upto isDig t (d + 1))) ≤ c)) := by
    split at h
    · rename_i h0; exact ⟨h, .inl h0⟩
    · rename_i h0
      have h1 := exp_dig h0
      have hlt : upto isDig t (d + 1) + expLen t (upto isDig t (d + 1)) < t.length := by
        rcases Nat.lt_or_ge (upto isDig t (d + 1) + expLen t (upto isDig t (d + 1))) t.length with hh | hh
        · exact hh
        · rw [at0_ge hh] at h1; exact absurd h1 (by decide)
      rw [at0_lt hlt] at h1
      have hg := upto_gt hlt h1
      exact ⟨by omega, .inr ⟨by omega, h⟩⟩
  have e1 : upto isDig (t.take c) (d + 1) = upto isDig t (d + 1) := upto_cut hc hle.1
  rw [e1]
  generalize upto isDig t (d + 1) = i at *
  have e2 : expLen (t.take c) i = expLen t i := exp_take hc (hle.2.imp id (fun h => h.1))
  rw [e2]
  refine ⟨?_, hle.1⟩
  split
  · rfl
  · rename_i h0
    exact upto_cut hc (hle.2.resolve_left h0).2
theorem sign_take {t : List UInt8} {c k : Nat} (hc : c ≤ t.length) (h0 : signLen t k ≠ 0) (h : k + signLen t k ≤ c) : signLen (t.take c) k = signLen t k := by
  have hkc : k < c := by omega
  rcases Nat.lt_or_ge (k + 1) c with h2 | h2
  · unfold signLen
    rw [sub_take (by omega), at0_take hkc hc]
  · have hc1 : c = k + 1 := by omega
    subst hc1
    have hsub : sub (t.take (k + 1)) k (k + 2) = [at0 t k] := by
      have e : sub (t.take (k + 1)) k (k + 2) = sub (t.take (k + 1)) k (k + 1) := by
        unfold sub
        rw [List.take_take, List.take_take, Nat.min_eq_right (by omega), Nat.min_self]
      rw [e, sub_take (Nat.le_refl _), sub_snoc t k k (Nat.le_refl _) (by omega), sub_self, at0_lt (by omega)]; rfl
    have ht2 : ∀ x : UInt8, twos.any (· == [x]) = false := by intro x; simp [twos]
    have hone : signLen t k = 1 := by omega
    rw [hone]
    unfold signLen at hone ⊢
    rw [hsub, ht2, if_neg (by decide), at0_take hkc hc]
    split at hone
    · omega
    · split at hone
      · rename_i h3; rw [if_pos h3]
      · omega

theorem here_take {w0 : World} {t : List UInt8} {c k k' : Nat} {x : Tok} (hc : c ≤ t.length) (h : Here w0 t k (.tok x k')) (hx : x.kind ≠ 0) (hk' : k' ≤ c) : Here w0 (t.take c) k (.tok x k') := by
  have hl : (t.take c).length = c := by rw [List.length_take]; omega
  generalize hs : Step.tok x k' = s at h
  cases h with
  | fin => injection hs with e1 e2; subst e1; exact absurd rfl hx
  | name h1 h2 =>
    injection hs with e1 e2
    subst e1 e2
    have hg : k < upto inN t k := upto_gt h1 (by rw [at0_lt h1] at h2; unfold inN; rw [h2]; rfl)
    have e : upto inN (t.take c) k = upto inN t k := upto_cut hc hk'
    have := Here.name (w0 := w0) (t := t.take c) (k := k) (by omega) (by rw [at0_take (by omega) hc]; exact h2)
    unfold tokN at this ⊢
    rw [e, sub_take hk'] at this
    exact this
  | @flt _ f h1 h2 h3 h4 h5 h6 h7 =>
    injection hs with e1 e2
    subst e1 e2
    obtain ⟨f1, f2⟩ := frac_take hc hk'
    have hfg := frac_ge t (upto isDig t k)
    have hge := upto_ge isDig t k
    have hd1 : upto isDig t k + 1 < t.length := by
      rcases Nat.lt_or_ge (upto isDig t k + 1) t.length with hh | hh
      · exact hh
      · rw [at0_ge hh] at h6; exact absurd h6 (by decide)
    have hg2 := upto_gt hd1 (by rw [← at0_lt hd1]; exact h6)
    have e : upto isDig (t.take c) k = upto isDig t k := upto_cut hc (by omega)
    have := Here.flt (w0 := w0) (t := t.take c) (k := k) (f := f) (by omega) (by rw [at0_take (by omega) hc]; exact h2) (by rw [at0_take (by omega) hc]; exact h3) (by rw [e, at0_take (by omega) hc]; exact h4) (by rw [e, at0_take (by omega) hc]; exact h5) (by rw [e, at0_take (by omega) hc]; exact h6) (by rw [e, f1, sub_take hk']; exact h7)
    unfold tokF at this ⊢
    rw [e, f1, sub_take hk'] at this
    exact this
  | @str _ o h1 h2 h3 =>
    cases o with
    | fin s1 k2 =>
      injection hs with e1 e2
      subst e1 e2
      have hlt := strO_lt h3 s1 k' rfl
      exact Here.str (o := .fin s1 k') (by omega) (by rw [at0_take (by omega) hc]; exact h2) (strO_take hc h3 s1 k' rfl hk')
    | err => cases hs
    | bad _ => cases hs
  | @int _ n h1 h2 h3 h4 h5 h6 =>
    injection hs with e1 e2
    subst e1 e2
    have hd' : isDig t[k] = true := by rw [← at0_lt h1]; exact h3
    have hg := upto_gt h1 hd'
    have e : upto isDig (t.take c) k = upto isDig t k := upto_cut hc hk'
    have := Here.int (w0 := w0) (t := t.take c) (k := k) (n := n) (by omega) (by rw [at0_take (by omega) hc]; exact h2) (by rw [at0_take (by omega) hc]; exact h3) (by rw [e, at0_take (by omega) hc]; exact h4) (by
      rw [e]
      intro h
      rcases Nat.lt_or_ge (upto isDig t k) c with hh | hh
      · rw [at0_take hh hc] at h
        have h8 := h5 h
        rcases Nat.lt_or_ge (upto isDig t k + 1) c with h9 | h9
        · rw [at0_take h9 hc]; exact h8
        · rw [at0_cut h9]; decide
      · rw [at0_cut hh] at h; exact absurd h (by decide)) (by rw [e, sub_take hk']; exact h6)
    unfold tokI at this ⊢
    rw [e, sub_take hk'] at this
    exact this
  | sign h1 h2 h3 h4 h5 =>
    injection hs with e1 e2
    subst e1 e2
    have e := sign_take hc h5 hk'
    have := Here.sign (w0 := w0) (t := t.take c) (k := k) (by omega) (by rw [at0_take (by omega) hc]; exact h2) (by rw [at0_take (by omega) hc]; exact h3) (by rw [at0_take (by omega) hc]; exact h4) (by rw [e]; exact h5)
    unfold tokS at this ⊢
    rw [e, sub_take hk'] at this
    exact this
  | fltno => cases hs
  | intno => cases hs
  | zero => cases hs
  | byte => cases hs

/-- Cut where a token begins, a text has just the tokens ahead of that. -/
theorem run_take {w0 : World} {t : List UInt8} {k : Nat} {L : List Tok} {o : Option (Nat × Int)} (h : Run w0 t k L o) (hk : k ≤ t.length) : ∀ j (hj : j < L.length), Run w0 (t.take L[j].at_) k (L.take j ++ [endT (t.take L[j].at_)]) none := by
  have first : ∀ {k k1 k2 : Nat} {x : Tok}, k ≤ t.length → Skp t (upto isBlank t k) k1 → Here w0 t k1 (.tok x k2) → Run w0 (t.take x.at_) k [endT (t.take x.at_)] none := by
    intro k k1 k2 x hk hs hh
    have hk1 := hs.le (upto_le hk)
    have h2 := hs.ge
    have ha := (here_tok hh hk1).2.1
    rw [ha]
    have hl : (t.take k1).length = k1 := by rw [List.length_take]; omega
    have e : upto isBlank (t.take k1) k = upto isBlank t k := upto_cut hk1 h2
    have hfin : Here w0 (t.take k1) (t.take k1).length (.tok (endT (t.take k1)) (t.take k1).length) := .fin
    rw [hl] at hfin
    refine .fin (k1 := k1) (by rw [e]; exact skp_take hk1 hs (Nat.le_refl _)) hfin rfl
  induction h with
  | @fin k k1 k2 x hs hh hx =>
    intro j hj
    obtain rfl : j = 0 := by simpa using hj
    exact first hk hs hh
  | @bad k k1 a e hs hh => intro j hj; simp at hj
  | @tok k k1 k2 x l o hs hh hx hr ih =>
    intro j hj
    cases j with
    | zero => exact first hk hs hh
    | succ j =>
      have hk1 := hs.le (upto_le hk)
      obtain ⟨a1, a2, a3, a4, a5⟩ := here_tok hh hk1
      have hg := a4 hx
      have hjl : j < l.length := by simpa using hj
      have hp := (run_places hr a3).1
      have hge := hp.ge j hjl
      have hle := (hp.fit j hjl).le
      have h2 := hs.ge
      simp only [List.getElem_cons_succ, List.take_succ_cons, List.cons_append]
      have e : upto isBlank (t.take l[j].at_) k = upto isBlank t k := upto_cut hle (by omega)
      exact .tok (by rw [e]; exact skp_take hle hs (by omega)) (here_take hle hh hx hge) hx (ih a3 j hjl)

end Go.Proofs.YtionmohglmbklaaGreatDoor.Tr
/- The walk of LexFront. -/
namespace Go.Proofs.YtionmohglmbklaaGreatDoor.Tr
open Go.RowKit

theorem Tks.drewF {w : World} {g : Nat} {L : List Tok} (h : Tks w g L) (m : Nat) : Tks (w.drewN m) g L := ⟨h.kind, h.text, h.int, h.flt, h.at_⟩
theorem cell_fr {w w' : World} {a : Addr} {v : Value} (f : Fr (fun _ => False) w w') (h : w.cell? a = some v) : w'.cell? a = some v := ((Env.refl w).fr f (fun _ h => h.elim)).cell h
theorem Tks.fr {w w' : World} {g : Nat} {L : List Tok} (h : Tks w g L) (f : Fr (fun _ => False) w w') : Tks w' g L :=
  ⟨fun i hi => cell_fr f (h.kind i hi), fun i hi => cell_fr f (h.text i hi), fun i hi => cell_fr f (h.int i hi), fun i hi => cell_fr f (h.flt i hi), fun i hi => cell_fr f (h.at_ i hi)⟩
def FrSt (w : World) (g g2 k : Nat) (L M : List Tok) (iv : Value) (wr : World) : Prop := ∃ i : Nat, i ≤ k ∧ iv = .int .i64 (i : Int) ∧ Tks wr g L ∧ Tks wr g2 M ∧ Fr (fun _ => False) w wr

set_option maxRecDepth 100000 in
set_option maxHeartbeats 8000000 in
theorem lexFront_any {w : World} (hT : Tabs w) (hN : Nums2 w) (t : List UInt8) (hl : t.length ≤ 140737488351232) (z : Int) (hz0 : -9223372036854775808 ≤ z) (hz1 : z < 9223372036854775808) : Calls Tryz.prog 7 #[.string ⟨t.toArray⟩, .int .i64 z] w fun e w' => e = .returned (.bool true) ∧ Fr (fun _ => False) w w' := by
  have HS := hid (shown_any hT (Env.refl w))
  have hrun : ∃ L o, (∀ W, Env w W → Calls Tryz.prog 19 #[.string ⟨t.toArray⟩] W (AllPost W L o)) ∧ (o = none → t.length ≤ 4096 ∧ Plcs t 0 L ∧ L.length ≤ 5000 ∧ 0 < L.length ∧ (∀ x ∈ L, Op.floatEq .f64 x.flt x.flt = true) ∧ ∀ j (hj : j < L.length), Run w (t.take L[j].at_) 0 (L.take j ++ [endT (t.take L[j].at_)]) none) := by
    by_cases h4 : t.length ≤ 4096
    · obtain ⟨L, o, hr, hL, hG⟩ := run_ex2 hN h4 t.length 0 (by omega) (Nat.zero_le _)
      have hp := run_places hr (Nat.zero_le _)
      exact ⟨L, o, fun W e => all_any e h4 hr (by omega), fun h => ⟨h4, hp.1, by omega, (hp.2.1 h).1, hG, run_take hr (Nat.zero_le _)⟩⟩
    · exact ⟨[], some (4096, 2), fun W _ => all_long (by omega) hl, fun h => absurd h (by simp)⟩
  obtain ⟨L, o, hall, hnone⟩ := hrun
  have HAll := hid hall
  have HNone := hid hnone
  obtain ⟨z2, hz2, hz3, hz4⟩ : ∃ z2 : Int, (z2 = if z < 0 then -(z + 1) else z) ∧ 0 ≤ z2 ∧ z2 < 9223372036854775808 := ⟨_, rfl, by split <;> omega, by split <;> omega⟩
  clear hT hN hall hnone hl
  go_enter Tryz.func7, Tryz.ntmps7
  go_wp2_with fail
  refine HS.out.mono ?_
  rintro e w1 ⟨rfl, f1⟩
  have HF1 := hid f1
  have HA := hid (HAll.out w1 ((Env.refl w).fr f1 (fun _ h => h.elim)))
  clear f1 HS HAll
  cases o with
  | some ae =>
    obtain ⟨a, e⟩ := ae
    unfold AllPost at HA
    clear hz0 hz1 hz2 hz3 hz4
    go_wp2_with fail
    refine HA.out.mono ?_
    rintro ee w2 ⟨fb, rfl, g2, q2, f2⟩
    have HF2 := hid (HF1.out.same f2)
    clear g2 q2 f2 HA HF1
    go_wp2_with fail
    go_ret
    exact ⟨rfl, HF2.out⟩
  | none =>
    obtain ⟨hl, hp, hL5, hpos, hG, hcut⟩ := HNone.out rfl
    unfold AllPost at HA
    have HP := hid hp
    have HGd := hid hG
    have HCut := hid hcut
    clear hp hG hcut HNone
    obtain ⟨k, hk, hkL⟩ : ∃ k : Nat, z2.tmod (L.length : Int) = (k : Int) ∧ k < L.length := by
      have h1 := Int.tmod_eq_emod_of_nonneg (b := (L.length : Int)) hz3
      have h2 := Int.emod_nonneg z2 (show (L.length : Int) ≠ 0 by omega)
      have h3 := Int.emod_lt_of_pos z2 (show (0 : Int) < (L.length : Int) by omega)
      exact ⟨(z2 % (L.length : Int)).toNat, by rw [h1]; omega, by omega⟩
    go_wp2_with fail
    refine HA.out.mono ?_
    rintro ee w2 ⟨v, rfl, ho, f2⟩
    obtain ⟨g, cap, rfl, _, hTk⟩ := toks_own ho rfl hpos
    have hF2 := HF1.out.same f2
    have ka := hTk.at_ k hkL
    have hfit := (HP.out.fit k hkL).le
    have hR := HCut.out k hkL
    obtain ⟨c, hc⟩ : ∃ c, c = L[k].at_ := ⟨_, rfl⟩
    rw [← hc] at ka hfit hR
    have hlen : (t.take c).length = c := by rw [List.length_take]; omega
    have HA2 := hid (all_any ((Env.refl w).fr hF2 (fun _ h => h.elim)) (by rw [hlen]; omega) hR (by rw [List.length_append, List.length_take]; simp; omega))
    unfold AllPost at HA2
    have hext : (ByteArray.mk t.toArray).extract 0 c = ⟨(t.take c).toArray⟩ := by
      rw [ext_sub]
      simp [sub]
    have HTk := hid hTk
    have HF2 := hid hF2
    have hLne : ((L.length : Int) == 0) = false := by rw [beq_eq_false_iff_ne]; omega
    have qa : decide ((c : Int) < 0) = false := decide_eq_false (by omega)
    have qb : decide ((c : Int) > (t.length : Int)) = false := decide_eq_false (by omega)
    have qc : (c : Int) ≤ (t.length : Int) := by omega
    have qd : (0 : Int) ≤ (c : Int) := by omega
    have qe : (0 : Int) ≤ (k : Int) := by omega
    have qf : (k : Int) < (L.length : Int) := by omega
    have qg : (L.length : Int) ≤ 5000 := by omega
    clear ho f2 hTk hF2 HA HF1 hR HCut hc hfit
    by_cases hneg : z < 0
    all_goals
      first
        | (rw [if_pos hneg] at hz2; have qn : decide (z < 0) = true := decide_eq_true hneg; rw [hz2] at hk)
        | (rw [if_neg hneg] at hz2; have qn : decide (z < 0) = false := decide_eq_false hneg; rw [hz2] at hk; have hneg2 : 0 ≤ z := by omega)
      go_wp2_with fail
      refine HA2.out.mono ?_
      rintro ee w3 ⟨v2, rfl, ho2, f3⟩
      obtain ⟨M, hM⟩ : ∃ M, M = L.take k ++ [endT (t.take c)] := ⟨_, rfl⟩
      rw [← hM] at ho2
      have hMl : M.length = k + 1 := by rw [hM, List.length_append, List.length_take]; simp; omega
      obtain ⟨g2, cap2, rfl, _, hTm⟩ := toks_own ho2 rfl (by omega)
      have hTl := HTk.out.fr f3
      have HF3 := HF2.out.same f3
      have hMk : M[k]'(by omega) = ⟨0, [], 0, 0, c⟩ := by
        have : M[k]? = some (endT (t.take c)) := by
          rw [hM, List.getElem?_append_right (by rw [List.length_take]; omega), List.length_take, Nat.min_eq_left (by omega), Nat.sub_self]; rfl
        rw [List.getElem?_eq_getElem (by omega)] at this
        rw [Option.some.inj this]
        unfold endT
        rw [hlen]
      have hMi : ∀ i (h1 : i < M.length) (h2 : i < L.length), i < k → M[i] = L[i] := by
        intro i h1 h2 hi
        have : M[i]? = L[i]? := by
          rw [hM, List.getElem?_append_left (by rw [List.length_take]; omega), List.getElem?_take, if_pos hi]
        rw [List.getElem?_eq_getElem (by omega), List.getElem?_eq_getElem (by omega)] at this
        exact Option.some.inj this
      have k0 := hTm.kind k (by omega)
      have k1 := hTm.text k (by omega)
      have k2 := hTm.int k (by omega)
      have k3 := hTm.flt k (by omega)
      have k4 := hTm.at_ k (by omega)
      rw [hMk] at k0 k1 k2 k3 k4
      simp only at k0 k1 k2 k3 k4
      have kb := cell_fr f3 ka
      have heq := fun m => eqTokIn ⟨0, [], 0, 0, c⟩ ⟨0, [], 0, 0, c⟩ (w3.drewN m)
      rw [tokEq_refl _ floatEq0] at heq
      simp only [tokV] at heq
      have hfl := fun m => eqFlt 9998 (w3.drewN m) 0 0
      rw [floatEq0] at hfl
      have HSt : Hid (∀ m, FrSt w g g2 k L M (.int .i64 0) (w3.drewN m)) := fun m => ⟨0, Nat.zero_le _, rfl, hTl.drewF m, hTm.drewF m, HF3.drewN m⟩
      have HMi := hid hMi
      have qh : ((k : Int) + 1 != (k : Int) + 1) = false := by simp
      have qi : (k : Int) < (k : Int) + 1 := by omega
      have HMl := hid hMl
      have hMl2 : ((k + 1 : Nat) : Int) = (k : Int) + 1 := by omega
      rw [hMl]
      clear ho2 f3 hTm hTl HF3 HF2 HTk hMk hMi hM HA2 hMl ka hl hL5
      clear hz0 hz1 hz3 hz4 hneg hk
      go_wp2_with fail
      go_quiet (fail)
      go_wp2_with fail
      clear heq hfl k0 k1 k2 k3 k4 kb
      go_loopw [10] (fun iv wr => FrSt w g g2 k L M iv wr) (fun iv _ => k - (intOf iv).toNat)
      case atStart => exact HSt.out _
      case round =>
        obtain ⟨i, hi, rfl, hTl, hTm, hF⟩ := hrel
        have hi0 : (0 : Int) ≤ (i : Int) := Int.natCast_nonneg _
        rcases Nat.lt_or_ge i k with hlt | hge
        · have hML := HMl.out
          have m0 := hTm.kind i (by omega)
          have m1 := hTm.text i (by omega)
          have m2 := hTm.int i (by omega)
          have m3 := hTm.flt i (by omega)
          have m4 := hTm.at_ i (by omega)
          rw [HMi.out i (by omega) (by omega) hlt] at m0 m1 m2 m3 m4
          have l0 := hTl.kind i (by omega)
          have l1 := hTl.text i (by omega)
          have l2 := hTl.int i (by omega)
          have l3 := hTl.flt i (by omega)
          have l4 := hTl.at_ i (by omega)
          have hfe := HGd.out L[i] (List.getElem_mem (by omega))
          have HNx : Hid (∀ m, FrSt w g g2 k L M (.int .i64 ((i : Int) + 1)) (wr.drewN m)) := fun m => ⟨i + 1, hlt, rfl, hTl.drewF m, hTm.drewF m, hF.drewN m⟩
          generalize L[i] = x at *
          have heq := fun m => eqTokIn x x (wr.drewN m)
          rw [tokEq_refl _ hfe] at heq
          have hfl := fun m => eqFlt 9998 (wr.drewN m) x.flt x.flt
          rw [hfe] at hfl
          obtain ⟨xk, xt, xi, xf, xa⟩ := x
          simp only [tokV] at heq hfl m0 m1 m2 m3 m4 l0 l1 l2 l3 l4
          have q1 : (i : Int) < (k : Int) := by omega
          have q2 : (i : Int) < (k : Int) + 1 := by omega
          have q3 : (i : Int) < (L.length : Int) := by omega
          have q4 : (k : Int) ≤ 5000 := by omega
          clear hTl hTm hF hfe HSt hML
          go_wp2_with fail
          go_quiet (fail)
          go_wp2_with fail
          exact ⟨HNx.out _, by simp [intOf]; omega⟩
        · obtain rfl : i = k := by omega
          have q1 : decide ((i : Int) < (i : Int)) = false := decide_eq_false (by omega)
          have HF := hid hF
          clear hTl hTm hF HSt
          go_wp2_with fail
          go_ret
          exact ⟨rfl, HF.out⟩

end Go.Proofs.YtionmohglmbklaaGreatDoor.Tr
/- Blanks and remarks between tokens do not matter: the plain side of LexBlanks. -/
namespace Go.Proofs.YtionmohglmbklaaGreatDoor.Tr
open Go.RowKit

/-- From a place blanks and remarks lead to another. -/
def SkB (u : List UInt8) (k k1 : Nat) : Prop := Skp u (upto isBlank u k) k1
theorem skb_blank {u : List UInt8} {k k1 : Nat} (hk : k < u.length) (hb : isBlank (at0 u k) = true) (h : SkB u (k + 1) k1) : SkB u k k1 := by
  unfold SkB at *
  rw [upto_step hk (by rw [← at0_lt hk]; exact hb)]; exact h
theorem skb_done {u : List UInt8} {k : Nat} (h1 : isBlank (at0 u k) = false) (h2 : (at0 u k == 35) = false) : SkB u k k := by
  unfold SkB
  have e : upto isBlank u k = k := by
    rcases Nat.lt_or_ge k u.length with h | h
    · exact upto_stop h (by rw [← at0_lt h]; exact h1)
    · exact upto_end h
  rw [e]; exact .done h2
theorem skb_note {u : List UInt8} {k k1 : Nat} (h : (at0 u k == 35) = true) (hr : SkB u (upto inLine u k) k1) : SkB u k k1 := by
  have hk := at0_pos (by decide) h
  unfold SkB at *
  rw [upto_stop hk (by rw [← at0_lt hk, eq_of_beq h]; decide)]
  exact .more h hr
theorem skb_blanks {u : List UInt8} {k1 : Nat} : ∀ (n a : Nat), a + n ≤ u.length → (∀ i, i < n → isBlank (at0 u (a + i)) = true) → SkB u (a + n) k1 → SkB u a k1
  | 0, _, _, _, h => h
  | n + 1, a, hl, hb, h => skb_blank (by omega) (hb 0 (by omega)) (skb_blanks n (a + 1) (by omega) (fun i hi => by rw [show a + 1 + i = a + (i + 1) by omega]; exact hb (i + 1) (by omega)) (by rw [show a + 1 + n = a + (n + 1) by omega]; exact h))

theorem upto_of {p : UInt8 → Bool} {u : List UInt8} : ∀ (n a : Nat), a + n ≤ u.length → (∀ i, i < n → p (at0 u (a + i)) = true) → (a + n = u.length ∨ p (at0 u (a + n)) = false) → upto p u a = a + n
  | 0, a, hl, _, hs => by
    rcases Nat.lt_or_ge a u.length with h | h
    · exact upto_stop h (by
        rw [← at0_lt h]
        rcases hs with e | e
        · omega
        · exact e)
    · exact upto_end h
  | n + 1, a, hl, ha, hs => by
    have h : a < u.length := by omega
    rw [upto_step h (by rw [← at0_lt h]; exact ha 0 (by omega)), upto_of n (a + 1) (by omega) (fun i hi => by rw [show a + 1 + i = a + (i + 1) by omega]; exact ha (i + 1) (by omega)) (by rw [show a + 1 + n = a + (n + 1) by omega]; exact hs)]
    omega
theorem upto_in {p : UInt8 → Bool} {t : List UInt8} : ∀ (n k j : Nat), j - k = n → k ≤ j → j < upto p t k → j < t.length ∧ p (at0 t j) = true
  | n, k, j, hn, hk, hj => by
    have hkl : k < t.length := by
      rcases Nat.lt_or_ge k t.length with h | h
      · exact h
      · rw [upto_end h] at hj; omega
    cases hp : p t[k] with
    | false => rw [upto_stop hkl hp] at hj; omega
    | true =>
      cases n with
      | zero =>
        obtain rfl : j = k := by omega
        exact ⟨hkl, by rw [at0_lt hkl]; exact hp⟩
      | succ n =>
        rw [upto_step hkl hp] at hj
        exact upto_in n (k + 1) j (by omega) (by omega) hj
theorem upto_off {p : UInt8 → Bool} {t : List UInt8} : ∀ (n k : Nat), t.length - k = n → upto p t k < t.length → p (at0 t (upto p t k)) = false
  | n, k, hn, hj => by
    have hge := upto_ge p t k
    have hkl : k < t.length := by omega
    cases hp : p t[k] with
    | false => rw [upto_stop hkl hp, at0_lt hkl]; exact hp
    | true =>
      cases n with
      | zero => omega
      | succ n =>
        rw [upto_step hkl hp] at hj ⊢
        exact upto_off n (k + 1) (by omega) hj

/-- So many bytes of a text stand in another one. -/
structure Mv (t u : List UInt8) (k a n : Nat) : Prop where
  tl : k + n ≤ t.length
  ul : a + n ≤ u.length
  eq : ∀ i, i < n → at0 u (a + i) = at0 t (k + i)
theorem Mv.cut {t u : List UInt8} {k a n m : Nat} (h : Mv t u k a n) (hm : m ≤ n) : Mv t u k a m := ⟨by have := h.tl; omega, by have := h.ul; omega, fun i hi => h.eq i (by omega)⟩
theorem Mv.upto {t u : List UInt8} {k a n : Nat} (m : Mv t u k a n) {p : UInt8 → Bool} {j e : Nat} (hj : j ≤ e) (he : Tr.upto p t (k + j) = k + e) (hen : e < n ∨ (e = n ∧ (a + n = u.length ∨ p (at0 u (a + n)) = false))) : Tr.upto p u (a + j) = a + e := by
  have htl := m.tl
  have hul := m.ul
  have h := upto_of (p := p) (u := u) (e - j) (a + j) (by omega) (fun i hi => by
    rw [show a + j + i = a + (j + i) by omega, m.eq (j + i) (by omega)]
    exact (upto_in (p := p) (t := t) i (k + j) (k + (j + i)) (by omega) (by omega) (by rw [he]; omega)).2) (by
    rw [show a + j + (e - j) = a + e by omega]
    rcases hen with h1 | ⟨rfl, h1⟩
    · refine .inr ?_
      rw [m.eq e h1, ← he]
      exact upto_off _ (k + j) rfl (by rw [he]; omega)
    · exact h1)
  rw [h]; omega
theorem Mv.sub {t u : List UInt8} {k a n : Nat} (m : Mv t u k a n) {i j : Nat} (hij : i ≤ j) (hj : j ≤ n) : Tr.sub u (a + i) (a + j) = Tr.sub t (k + i) (k + j) := by
  have htl := m.tl
  have hul := m.ul
  have e1 := sub_length u (a + i) (a + j) (by omega)
  have e2 := sub_length t (k + i) (k + j) (by omega)
  refine List.ext_getElem (by omega) (fun x h1 h2 => ?_)
  have h3 := m.eq (i + x) (by omega)
  rw [at0_lt (by omega), at0_lt (by omega)] at h3
  have g1 : (Tr.sub u (a + i) (a + j))[x]? = some (u[a + (i + x)]'(by omega)) := by
    unfold Tr.sub
    rw [List.getElem?_drop, List.getElem?_take, if_pos (by omega), Nat.add_assoc, List.getElem?_eq_getElem]
  have g2 : (Tr.sub t (k + i) (k + j))[x]? = some (t[k + (i + x)]'(by omega)) := by
    unfold Tr.sub
    rw [List.getElem?_drop, List.getElem?_take, if_pos (by omega), Nat.add_assoc, List.getElem?_eq_getElem]
  rw [List.getElem?_eq_getElem h1] at g1
  rw [List.getElem?_eq_getElem h2] at g2
  rw [Option.some.inj g1, Option.some.inj g2]
  exact h3

theorem blank_cases {c : UInt8} (h : isBlank c = true) : c = 32 ∨ c = 9 ∨ c = 10 ∨ c = 13 := by
  unfold isBlank at h
  simp only [Bool.or_eq_true, beq_iff_eq] at h
  rcases h with ((h | h) | h) | h
  · exact .inl h
  · exact .inr (.inl h)
  · exact .inr (.inr (.inl h))
  · exact .inr (.inr (.inr h))
theorem blank_inN {c : UInt8} (h : isBlank c = true) : inN c = false := by
  rcases blank_cases h with rfl | rfl | rfl | rfl <;> decide
theorem blank_dig {c : UInt8} (h : isBlank c = true) : isDig c = false := by
  rcases blank_cases h with rfl | rfl | rfl | rfl <;> decide
theorem blank_exp {c : UInt8} (h : isBlank c = true) : (c != 101 && c != 69) = true := by
  rcases blank_cases h with rfl | rfl | rfl | rfl <;> decide
theorem blank_dot {c : UInt8} (h : isBlank c = true) : (c == 46) = false := by
  rcases blank_cases h with rfl | rfl | rfl | rfl <;> decide
theorem blank_two {c : UInt8} (x : UInt8) (h : isBlank c = true) : twos.any (· == [x, c]) = false := by
  rcases blank_cases h with rfl | rfl | rfl | rfl <;> simp [twos]

theorem exp_mv {t u : List UInt8} {k a n : Nat} (m : Mv t u k a n) {i : Nat} (h0 : expLen t (k + i) ≠ 0) (h : i + expLen t (k + i) < n) : expLen u (a + i) = expLen t (k + i) := by
  have e0 := m.eq i (by omega)
  have e1 := m.eq (i + 1) (by omega)
  have e2 : expLen t (k + i) = 2 → at0 u (a + (i + 2)) = at0 t (k + (i + 2)) := fun h2 => m.eq (i + 2) (by omega)
  simp only [← Nat.add_assoc] at e1 e2
  unfold expLen at *
  rw [e0, e1]
  split
  · rfl
  · rename_i g1
    rw [if_neg g1] at e2 h0
    split
    · rename_i g2
      rw [if_pos g2] at e2 h0
      by_cases hd : isDig (at0 t (k + i + 2)) = true
      · rw [e2 (by rw [if_pos hd])]
      · rw [if_neg hd] at h0; exact absurd rfl h0
    · rfl
theorem sub_pair {u : List UInt8} {a : Nat} (h : a + 1 < u.length) : Tr.sub u a (a + 2) = [at0 u a, at0 u (a + 1)] := by
  rw [show a + 2 = a + 1 + 1 from rfl, sub_snoc u a (a + 1) (by omega) h, sub_snoc u a a (Nat.le_refl _) (by omega), sub_self, at0_lt h, at0_lt (by omega)]; rfl
theorem sign_mv {t u : List UInt8} {k a n : Nat} (m : Mv t u k a n) (h0 : n ≠ 0) (h : signLen t k = n) (hul : a + n < u.length) (hc : isBlank (at0 u (a + n)) = true) : signLen u a = n := by
  have e0 := m.eq 0 (by omega)
  simp only [Nat.add_zero] at e0
  unfold signLen at h ⊢
  split at h
  · rename_i g
    subst h
    have e := m.sub (i := 0) (j := 2) (by omega) (by omega)
    simp only [Nat.add_zero] at e
    rw [e, if_pos g]
  · split at h
    · rename_i g
      subst h
      rw [sub_pair hul, blank_two _ hc, if_neg (by decide), e0, if_pos g]
    · exact absurd h.symm h0
theorem strO_mv {t u : List UInt8} {k a n : Nat} (m : Mv t u k a n) {q : Nat} {b : List UInt8} {o : Oc} (h : StrO t q b o) : ∀ j s e, q = k + j → o = .fin s (k + e) → e ≤ n → StrO u (a + j) b (.fin s (a + e)) := by
  have hul := m.ul
  induction h with
  | err _ => intro j s e _ ho; cases ho
  | bad _ _ _ _ => intro j s e _ ho; cases ho
  | @fin q b h1 h2 h3 =>
    intro j s e hq ho he
    subst hq
    injection ho with ho1 ho2
    have hge := upto_ge isPl t (k + j)
    obtain ⟨d, hd⟩ : ∃ d, Tr.upto isPl t (k + j) = k + d := ⟨Tr.upto isPl t (k + j) - k, by omega⟩
    have hde : e = d + 1 := by omega
    subst hde
    have e1 := m.upto (p := isPl) (j := j) (e := d) (by omega) hd (.inl (by omega))
    have e2 := m.sub (i := j) (j := d) (by omega) (by omega)
    rw [hd] at h1 h3 ho1
    have := StrO.fin (t := u) (k := a + j) (b := b) (by rw [e1, e2]; exact h1) (by rw [e1]; omega) (by rw [e1, m.eq d (by omega)]; exact h3)
    rw [e1, e2, ho1] at this
    exact this
  | @esc q b x o h1 h2 h3 h4 hr ih =>
    intro j s e hq ho he
    subst hq
    have hge := upto_ge isPl t (k + j)
    obtain ⟨d, hd⟩ : ∃ d, Tr.upto isPl t (k + j) = k + d := ⟨Tr.upto isPl t (k + j) - k, by omega⟩
    have hlt := strO_lt hr s (k + e) ho
    have e1 := m.upto (p := isPl) (j := j) (e := d) (by omega) hd (.inl (by omega))
    have e2 := m.sub (i := j) (j := d) (by omega) (by omega)
    have hi := ih (d + 2) s e (by rw [hd]; omega) ho he
    rw [hd] at h1 h3 h4 hi
    have hx : escp u (a + d) = some x := by
      unfold escp at h4 ⊢
      rw [m.eq d (by omega), show a + d + 1 = a + (d + 1) by omega, m.eq (d + 1) (by omega), show k + (d + 1) = k + d + 1 by omega]
      exact h4
    refine StrO.esc (t := u) (k := a + j) (b := b) (c := x) (by rw [e1, e2]; exact h1) (by rw [e1]; omega) (by rw [e1, m.eq d (by omega)]; exact h3) (by rw [e1]; exact hx) ?_
    rw [e1, e2]
    exact hi

theorem here_mv {w0 : World} {t u : List UInt8} {k a n : Nat} {x : Tok} (h : Here w0 t k (.tok x (k + n))) (hx : x.kind ≠ 0) (hx4 : x.kind ≠ 4) (m : Mv t u k a n) (hul : a + n < u.length) (hc : isBlank (at0 u (a + n)) = true) : Here w0 u a (.tok { x with at_ := a } (a + n)) := by
  generalize hs : Step.tok x (k + n) = s at h
  cases h with
  | fin => injection hs with e1 e2; subst e1; exact absurd rfl hx
  | name h1 h2 =>
    injection hs with e1 e2
    subst e1
    have hg : k < Tr.upto inN t k := upto_gt h1 (by rw [at0_lt h1] at h2; unfold inN; rw [h2]; rfl)
    have e0 := m.eq 0 (by omega)
    simp only [Nat.add_zero] at e0
    have e := m.upto (p := inN) (j := 0) (e := n) (by omega) e2.symm (.inr ⟨rfl, .inr (blank_inN hc)⟩)
    have es := m.sub (i := 0) (j := n) (by omega) (by omega)
    simp only [Nat.add_zero] at e es
    have := Here.name (w0 := w0) (t := u) (k := a) (by omega) (by rw [e0]; exact h2)
    unfold tokN at this ⊢
    rw [e, es] at this
    rw [← e2]
    exact this
  | @flt _ f h1 h2 h3 h4 h5 h6 h7 =>
    injection hs with e1 e2
    subst e1
    have hd' : isDig t[k] = true := by rw [← at0_lt h1]; exact h3
    have hg := upto_gt h1 hd'
    have hfg := frac_ge t (Tr.upto isDig t k)
    obtain ⟨d, hd⟩ : ∃ d, Tr.upto isDig t k = k + d := ⟨Tr.upto isDig t k - k, by omega⟩
    rw [hd] at h4 h5 h6 h7 hfg e2 hg
    have hd1 : k + d + 1 < t.length := by
      rcases Nat.lt_or_ge (k + d + 1) t.length with hh | hh
      · exact hh
      · rw [at0_ge hh] at h6; exact absurd h6 (by decide)
    have hg2 := upto_gt hd1 (by rw [← at0_lt hd1]; exact h6)
    obtain ⟨i, hi⟩ : ∃ i, Tr.upto isDig t (k + d + 1) = k + i := ⟨Tr.upto isDig t (k + d + 1) - k, by omega⟩
    rw [hi] at hg2
    have e0 := m.eq 0 (by omega)
    simp only [Nat.add_zero] at e0
    have efr : fracEnd u (a + d) = a + n ∧ d + 1 < n := by
      unfold fracEnd at e2 ⊢
      simp only at e2 ⊢
      rw [hi] at e2
      by_cases hz : expLen t (k + i) = 0
      · rw [if_pos hz] at e2
        have hin : i = n := by omega
        subst hin
        have ei := m.upto (p := isDig) (j := d + 1) (e := i) (by omega) hi (.inr ⟨rfl, .inr (blank_dig hc)⟩)
        rw [← Nat.add_assoc] at ei
        rw [ei]
        have : expLen u (a + i) = 0 := by
          unfold expLen
          rw [if_pos (blank_exp hc)]
        rw [if_pos this]
        exact ⟨rfl, by omega⟩
      · rw [if_neg hz] at e2
        have hx1 := exp_dig hz
        have hlt : k + i + expLen t (k + i) < t.length := by
          rcases Nat.lt_or_ge (k + i + expLen t (k + i)) t.length with hh | hh
          · exact hh
          · rw [at0_ge hh] at hx1; exact absurd hx1 (by decide)
        have hx2 := upto_gt hlt (by rw [← at0_lt hlt]; exact hx1)
        have ei := m.upto (p := isDig) (j := d + 1) (e := i) (by omega) hi (.inl (by omega))
        rw [← Nat.add_assoc] at ei
        rw [ei]
        have hex := exp_mv m hz (by omega)
        rw [hex, if_neg hz]
        have := m.upto (p := isDig) (j := i + expLen t (k + i)) (e := n) (by omega) (by rw [← Nat.add_assoc]; exact e2.symm) (.inr ⟨rfl, .inr (blank_dig hc)⟩)
        rw [← Nat.add_assoc] at this
        exact ⟨this, by omega⟩
    have ed := m.upto (p := isDig) (j := 0) (e := d) (by omega) hd (.inl (by omega))
    have es := m.sub (i := 0) (j := n) (by omega) (by omega)
    simp only [Nat.add_zero] at ed es
    have q6 := m.eq (d + 1) efr.2
    rw [← Nat.add_assoc, ← Nat.add_assoc] at q6
    have := Here.flt (w0 := w0) (t := u) (k := a) (f := f) (by omega) (by rw [e0]; exact h2) (by rw [e0]; exact h3) (by rw [ed, e0]; intro h; exact h4 (by omega)) (by rw [ed, m.eq d (by omega)]; exact h5) (by rw [ed, q6]; exact h6) (by rw [ed, efr.1, es, e2]; exact h7)
    unfold tokF at this ⊢
    rw [ed, efr.1, es] at this
    rw [hd, ← e2]
    exact this
  | @str _ o h1 h2 h3 => exact absurd (strO_at h3 hs.symm).2 hx4
  | @int _ v h1 h2 h3 h4 h5 h6 =>
    injection hs with e1 e2
    subst e1
    have hd' : isDig t[k] = true := by rw [← at0_lt h1]; exact h3
    have hg := upto_gt h1 hd'
    have e0 := m.eq 0 (by omega)
    have e := m.upto (p := isDig) (j := 0) (e := n) (by omega) e2.symm (.inr ⟨rfl, .inr (blank_dig hc)⟩)
    have es := m.sub (i := 0) (j := n) (by omega) (by omega)
    simp only [Nat.add_zero] at e0 e es
    have := Here.int (w0 := w0) (t := u) (k := a) (n := v) (by omega) (by rw [e0]; exact h2) (by rw [e0]; exact h3) (by rw [e, e0]; intro h; exact h4 (by omega)) (by rw [e, blank_dot hc]; intro h; cases h) (by rw [e, es, e2]; exact h6)
    unfold tokI at this ⊢
    rw [e, es] at this
    rw [← e2]
    exact this
  | sign h1 h2 h3 h4 h5 =>
    injection hs with e1 e2
    subst e1
    have hn : signLen t k = n := by omega
    have e := sign_mv m (by omega) hn hul hc
    have e0 := m.eq 0 (by omega)
    have es := m.sub (i := 0) (j := n) (by omega) (by omega)
    simp only [Nat.add_zero] at e0 es
    have := Here.sign (w0 := w0) (t := u) (k := a) (by omega) (by rw [e0]; exact h2) (by rw [e0]; exact h3) (by rw [e0]; exact h4) (by rw [e]; omega)
    unfold tokS at this ⊢
    rw [e, es] at this
    rw [hn]
    exact this
  | fltno => cases hs
  | intno => cases hs
  | zero => cases hs
  | byte => cases hs
theorem here_str_mv {w0 : World} {t u : List UInt8} {k a n : Nat} {x : Tok} (h : Here w0 t k (.tok x (k + n))) (hx4 : x.kind = 4) (m : Mv t u k a n) : Here w0 u a (.tok { x with at_ := a } (a + n)) := by
  have hul := m.ul
  generalize hs : Step.tok x (k + n) = s at h
  cases h with
  | fin => injection hs with e1 e2; subst e1; exact absurd (show (0 : Int) = 4 from hx4) (by decide)
  | name _ _ => injection hs with e1 e2; subst e1; exact absurd (show (1 : Int) = 4 from hx4) (by decide)
  | flt _ _ _ _ _ _ _ => injection hs with e1 e2; subst e1; exact absurd (show (3 : Int) = 4 from hx4) (by decide)
  | int _ _ _ _ _ _ => injection hs with e1 e2; subst e1; exact absurd (show (2 : Int) = 4 from hx4) (by decide)
  | sign _ _ _ _ _ => injection hs with e1 e2; subst e1; exact absurd (show (5 : Int) = 4 from hx4) (by decide)
  | @str _ o h1 h2 h3 =>
    cases o with
    | fin s1 k2 =>
      injection hs with e1 e2
      subst e1 e2
      have hlt := strO_lt h3 s1 (k + n) rfl
      have e0 := m.eq 0 (by omega)
      simp only [Nat.add_zero] at e0
      exact Here.str (o := .fin s1 (a + n)) (by omega) (by rw [e0]; exact h2) (strO_mv m h3 1 s1 n rfl rfl (Nat.le_refl _))
    | err => cases hs
    | bad _ => cases hs
  | fltno => cases hs
  | intno => cases hs
  | zero => cases hs
  | byte => cases hs
theorem here_len {w0 : World} {t : List UInt8} {k k' : Nat} {x : Tok} (h : Here w0 t k (.tok x k')) (hk : k ≤ t.length) (hx4 : x.kind ≠ 4) : x.text.length = k' - k := by
  have hle := (here_tok h hk).2.2.1
  generalize hs : Step.tok x k' = s at h
  cases h with
  | fin => injection hs with e1 e2; subst e1 e2; simp [endT]
  | name _ _ => injection hs with e1 e2; subst e1 e2; exact sub_length _ _ _ hle
  | flt _ _ _ _ _ _ _ => injection hs with e1 e2; subst e1 e2; exact sub_length _ _ _ hle
  | int _ _ _ _ _ _ => injection hs with e1 e2; subst e1 e2; exact sub_length _ _ _ hle
  | sign _ _ _ _ _ => injection hs with e1 e2; subst e1 e2; exact sub_length _ _ _ hle
  | @str _ o h1 h2 h3 => exact absurd (strO_at h3 hs.symm).2 hx4
  | fltno => cases hs
  | intno => cases hs
  | zero => cases hs
  | byte => cases hs
theorem sign_none {t : List UInt8} {k : Nat} (hk : k < t.length) (h : isBlank (at0 t k) = true ∨ (at0 t k == 35) = true) : signLen t k = 0 := by
  have hs : ∃ r, Tr.sub t k (k + 2) = at0 t k :: r := by
    unfold Tr.sub
    rw [List.drop_eq_getElem_cons (by rw [List.length_take]; omega), List.getElem_take, at0_lt hk]
    exact ⟨_, rfl⟩
  obtain ⟨r, hr⟩ := hs
  unfold signLen
  rw [hr]
  have hc : at0 t k = 32 ∨ at0 t k = 9 ∨ at0 t k = 10 ∨ at0 t k = 13 ∨ at0 t k = 35 := by
    rcases h with h | h
    · rcases blank_cases h with h | h | h | h <;> simp [h]
    · simp [eq_of_beq h]
  rcases hc with h | h | h | h | h <;> rw [h] <;> simp [twos, signs]
theorem here_first {w0 : World} {t : List UInt8} {k k' : Nat} {x : Tok} (h : Here w0 t k (.tok x k')) (hx : x.kind ≠ 0) : isBlank (at0 t k) = false ∧ (at0 t k == 35) = false := by
  suffices H : ¬ (isBlank (at0 t k) = true ∨ (at0 t k == 35) = true) by
    constructor
    · cases e : isBlank (at0 t k)
      · rfl
      · exact absurd (.inl e) H
    · cases e : (at0 t k == 35)
      · rfl
      · exact absurd (.inr e) H
  intro hb
  have hc : at0 t k = 32 ∨ at0 t k = 9 ∨ at0 t k = 10 ∨ at0 t k = 13 ∨ at0 t k = 35 := by
    rcases hb with h | h
    · rcases blank_cases h with h | h | h | h <;> simp [h]
    · simp [eq_of_beq h]
  generalize hs : Step.tok x k' = s at h
  cases h with
  | fin => injection hs with e1 e2; subst e1; exact hx rfl
  | name _ h2 => rcases hc with h | h | h | h | h <;> rw [h] at h2 <;> exact absurd h2 (by decide)
  | flt _ _ h2 _ _ _ _ => rcases hc with h | h | h | h | h <;> rw [h] at h2 <;> exact absurd h2 (by decide)
  | int _ _ h2 _ _ _ => rcases hc with h | h | h | h | h <;> rw [h] at h2 <;> exact absurd h2 (by decide)
  | str _ h2 _ => rcases hc with h | h | h | h | h <;> rw [h] at h2 <;> exact absurd h2 (by decide)
  | sign h1 _ _ _ h2 => exact h2 (sign_none h1 hb)
  | fltno => cases hs
  | intno => cases hs
  | zero => cases hs
  | byte => cases hs

/-- What stands behind a string is let by as it was. -/
theorem gap {t u : List UInt8} {k a n k1 : Nat} (m : Mv t u k a n) (hend : k + n < t.length ∨ (a + n + 1 = u.length ∧ at0 u (a + n) = 32)) (hr : SkB u (a + n) k1) {q k3 : Nat} (h : Skp t q k3) : ∀ j, q = k + j → k3 = k + n → SkB u (a + j) k1 := by
  have htl := m.tl
  have hul := m.ul
  induction h with
  | @done q _ => intro j hq hk3; obtain rfl : j = n := by omega
                 exact hr
  | @more q k3 h hs ih =>
    intro j hq hk3
    subst hq
    have hlt := at0_pos (by decide) h
    have hg : k + j < Tr.upto inLine t (k + j) := upto_gt hlt (by rw [at0_lt hlt] at h; rw [eq_of_beq h]; decide)
    have hb := upto_ge isBlank t (Tr.upto inLine t (k + j))
    have h3 := hs.ge
    obtain ⟨l, hl⟩ : ∃ l, Tr.upto inLine t (k + j) = k + l := ⟨Tr.upto inLine t (k + j) - k, by omega⟩
    rw [hl] at hg hb h3 ih
    obtain ⟨b, hbb⟩ : ∃ b, Tr.upto isBlank t (k + l) = k + b := ⟨Tr.upto isBlank t (k + l) - k, by omega⟩
    rw [hbb] at hb h3 ih
    have hi := ih b rfl hk3
    refine skb_note (by rw [m.eq j (by omega)]; exact h) ?_
    rcases Nat.lt_or_ge l n with hln | hln
    · rw [m.upto (p := inLine) (j := j) (e := l) (by omega) hl (.inl hln)]
      refine skb_blanks (b - l) (a + l) (by omega) (fun i hi2 => ?_) (by rw [show a + l + (b - l) = a + b by omega]; exact hi)
      rw [Nat.add_assoc, m.eq (l + i) (by omega)]
      exact (upto_in (p := isBlank) (t := t) i (k + l) (k + (l + i)) (by omega) (by omega) (by rw [hbb]; omega)).2
    · obtain rfl : l = n := by omega
      have hend2 : a + l + 1 = u.length ∧ at0 u (a + l) = 32 := by
        rcases hend with h4 | h4
        · exfalso
          have h5 := upto_off (p := inLine) _ (k + j) rfl (by rw [hl]; exact h4)
          rw [hl] at h5
          have h6 : isBlank t[k + l] = true := by
            rw [at0_lt h4] at h5
            unfold inLine at h5
            have : t[k + l] = 10 := by simpa using h5
            rw [this]; decide
          have := upto_gt h4 h6
          omega
        · exact h4
      have e : Tr.upto inLine u (a + j) = u.length := by
        have := upto_of (p := inLine) (u := u) (l + 1 - j) (a + j) (by omega) (fun i hi2 => by
          rcases Nat.lt_or_ge (j + i) l with h7 | h7
          · rw [Nat.add_assoc, m.eq (j + i) h7]
            exact (upto_in (p := inLine) (t := t) i (k + j) (k + (j + i)) (by omega) (by omega) (by rw [hl]; omega)).2
          · rw [show a + j + i = a + l by omega, hend2.2]; decide) (.inl (by omega))
        rw [this]; omega
      rw [e]
      have hr2 := hr
      unfold SkB at hr2 ⊢
      rw [upto_step (by omega) (by rw [← at0_lt (by omega), hend2.2]; decide), show a + l + 1 = u.length by omega] at hr2
      exact hr2

def Noise (z : List UInt8) : Prop := z = [32] ∨ z = [10] ∨ z = [9, 13, 10, 32] ∨ z = [32, 35, 32, 97, 32, 34, 32, 98, 10]
theorem Noise.first {z : List UInt8} (h : Noise z) : ∃ c r, z = c :: r ∧ isBlank c = true := by
  rcases h with rfl | rfl | rfl | rfl
  · exact ⟨_, _, rfl, by decide⟩
  · exact ⟨_, _, rfl, by decide⟩
  · exact ⟨_, _, rfl, by decide⟩
  · exact ⟨_, _, rfl, by decide⟩
theorem at0_mid {pre z rest : List UInt8} {i : Nat} (h : i < z.length) : at0 (pre ++ (z ++ rest)) (pre.length + i) = z[i] := by
  rw [at0_lt (by simp; omega), List.getElem_append_right (by omega)]
  simp only [Nat.add_sub_cancel_left]
  rw [List.getElem_append_left h]
theorem noise_skb {u pre z rest : List UInt8} {k1 : Nat} (hz : Noise z) (hu : u = pre ++ (z ++ rest)) (h : SkB u (pre.length + z.length) k1) : SkB u pre.length k1 := by
  have hl : pre.length + z.length ≤ u.length := by rw [hu, List.length_append, List.length_append]; omega
  have ha : ∀ i (hi : i < z.length), at0 u (pre.length + i) = z[i] := fun i hi => by rw [hu]; exact at0_mid hi
  clear hu
  rcases hz with rfl | rfl | rfl | rfl
  · exact skb_blanks 1 _ hl (fun i hi => by rw [ha i hi]; obtain rfl : i = 0 := by omega
                                            rfl) h
  · exact skb_blanks 1 _ hl (fun i hi => by rw [ha i hi]; obtain rfl : i = 0 := by omega
                                            rfl) h
  · refine skb_blanks 4 _ hl (fun i hi => ?_) h
    rw [ha i hi]
    obtain rfl | rfl | rfl | rfl : i = 0 ∨ i = 1 ∨ i = 2 ∨ i = 3 := by omega
    all_goals rfl
  · have hl9 : pre.length + 9 ≤ u.length := hl
    refine skb_blanks 1 _ (by omega) (fun i hi => by rw [ha i (by simp; omega)]; obtain rfl : i = 0 := by omega
                                                     rfl) ?_
    refine skb_note (by rw [ha 1 (by decide)]; decide) ?_
    have e : Tr.upto inLine u (pre.length + 1) = pre.length + 8 := by
      have := upto_of (p := inLine) (u := u) 7 (pre.length + 1) (by omega) (fun i hi => by
        rw [Nat.add_assoc, ha (1 + i) (by simp; omega)]
        obtain rfl | rfl | rfl | rfl | rfl | rfl | rfl : i = 0 ∨ i = 1 ∨ i = 2 ∨ i = 3 ∨ i = 4 ∨ i = 5 ∨ i = 6 := by omega
        all_goals rfl) (.inr (by rw [Nat.add_assoc, ha 8 (by decide)]; decide))
      rw [this]
    rw [e]
    exact skb_blanks 1 _ (by omega) (fun i hi => by rw [Nat.add_assoc, ha (8 + i) (by simp; omega)]; obtain rfl : i = 0 := by omega
                                                    rfl) h

/-- The bytes of a token as the law takes them. -/
def pieceOf (t : List UInt8) (x : Tok) (nx : Nat) : List UInt8 := if x.kind = 4 then Tr.sub t x.at_ nx else Tr.sub t x.at_ (x.at_ + x.text.length)
/-- The text that the law makes. -/
def outs (t : List UInt8) (nz : Nat → List UInt8) : Nat → List Tok → List UInt8
  | i, x :: y :: r => nz i ++ (pieceOf t x y.at_ ++ outs t nz (i + 1) (y :: r))
  | _, _ => [32]
theorem outs_first {t : List UInt8} {nz : Nat → List UInt8} (hz : ∀ i, Noise (nz i)) : ∀ (L : List Tok) (i : Nat), ∃ c r, outs t nz i L = c :: r ∧ isBlank c = true
  | [], i => ⟨32, [], rfl, by decide⟩
  | [x], i => ⟨32, [], rfl, by decide⟩
  | x :: y :: r, i => by
    obtain ⟨c, s, h1, h2⟩ := (hz i).first
    exact ⟨c, s ++ (pieceOf t x y.at_ ++ outs t nz (i + 1) (y :: r)), by simp only [outs]; rw [h1]; rfl, h2⟩
theorem run_head {w0 : World} {t : List UInt8} {k : Nat} {l : List Tok} {o : Option (Nat × Int)} (h : Run w0 t k l o) (ho : o = none) (hk : k ≤ t.length) : ∃ y r, l = y :: r ∧ Skp t (Tr.upto isBlank t k) y.at_ ∧ k ≤ y.at_ ∧ y.at_ ≤ t.length ∧ (y.at_ = t.length → r = []) := by
  cases h with
  | @fin _ k1 k2 x hs hh hx =>
    have h1 := hs.le (upto_le hk)
    have ha := (here_tok hh h1).2.1
    have := hs.ge
    have := upto_ge isBlank t k
    exact ⟨x, [], rfl, by rw [ha]; exact hs, by omega, by omega, fun _ => rfl⟩
  | bad _ _ => cases ho
  | @tok _ k1 k2 x l o hs hh hx hr =>
    have h1 := hs.le (upto_le hk)
    obtain ⟨_, ha, hb, hc, _⟩ := here_tok hh h1
    have := hc hx
    have := hs.ge
    have := upto_ge isBlank t k
    exact ⟨x, l, rfl, by rw [ha]; exact hs, by omega, by omega, fun e => by omega⟩
theorem run_out {w0 : World} {t : List UInt8} {nz : Nat → List UInt8} (hz : ∀ i, Noise (nz i)) {k : Nat} {R : List Tok} {o : Option (Nat × Int)} (h : Run w0 t k R o) : o = none → k ≤ t.length → ∀ (i : Nat) (pre u : List UInt8) (q : Nat), u = pre ++ outs t nz i R → (∀ k1, SkB u pre.length k1 → SkB u q k1) →
    ∃ M, Run w0 u q M none ∧ M.length = R.length ∧ ∀ j (h1 : j < M.length) (h2 : j < R.length), M[j] = { R[j] with at_ := M[j].at_ } := by
  induction h with
  | @fin k k1 k2 x hs hh hx =>
    intro _ hk i pre u q hu hq
    have hx0 := (here_tok hh (hs.le (upto_le hk))).2.2.2.2 hx
    have hul : u.length = pre.length + 1 := by rw [hu]; simp [outs]
    have h0 : at0 u pre.length = 32 := by
      have := at0_mid (pre := pre) (z := [32]) (rest := []) (i := 0) (by decide)
      rw [hu]
      simpa [outs] using this
    have hsk : SkB u pre.length u.length := skb_blank (by omega) (by rw [h0]; decide) (by rw [← hul]; exact skb_done (by rw [at0_ge (Nat.le_refl _)]; decide) (by rw [at0_ge (Nat.le_refl _)]; decide))
    refine ⟨[endT u], .fin (hq _ hsk) .fin rfl, rfl, fun j h1 h2 => ?_⟩
    obtain rfl : j = 0 := by simpa using h1
    simp [hx0, endT]
  | bad _ _ => intro ho; cases ho
  | @tok k k1 k2 x l o hs hh hx hr ih =>
    intro ho hk i pre u q hu hq
    have hk1 := hs.le (upto_le hk)
    obtain ⟨a1, a2, a3, a4, a5⟩ := here_tok hh hk1
    have hg := a4 hx
    obtain ⟨y, r, rfl, hsy, hy1, hy2, hy3⟩ := run_head hr ho a3
    obtain ⟨n, hn⟩ : ∃ n, k2 = k1 + n := ⟨k2 - k1, by omega⟩
    subst hn
    simp only [outs] at hu
    obtain ⟨pc, hpc⟩ : ∃ pc, pc = pieceOf t x y.at_ := ⟨_, rfl⟩
    rw [← hpc] at hu
    obtain ⟨c, rs, hc1, hc2⟩ := outs_first (t := t) hz (y :: r) (i + 1)
    -- what the piece is
    have hpl : (x.kind ≠ 4 → pc.length = n) ∧ (x.kind = 4 → pc.length = y.at_ - k1) ∧ pc = Tr.sub t k1 (k1 + pc.length) ∧ k1 + pc.length ≤ t.length := by
      unfold pieceOf at hpc
      by_cases h4 : x.kind = 4
      · rw [if_pos h4, a2] at hpc
        have e := sub_length t k1 y.at_ hy2
        rw [← hpc] at e
        exact ⟨fun h => absurd h4 h, fun _ => e, by rw [e, show k1 + (y.at_ - k1) = y.at_ by omega]; exact hpc, by omega⟩
      · rw [if_neg h4, a2, here_len hh hk1 h4] at hpc
        have e := sub_length t k1 (k1 + (k1 + n - k1)) (by omega)
        rw [← hpc] at e
        have e2 : pc.length = n := by omega
        exact ⟨fun _ => e2, fun h => absurd h h4, by rw [e2]; rw [hpc]; congr 1; omega, by omega⟩
    obtain ⟨p1, p2, p3, p4⟩ := hpl
    obtain ⟨pre2, hpre2⟩ : ∃ pre2, pre2 = pre ++ nz i := ⟨_, rfl⟩
    have hu2 : u = pre2 ++ (pc ++ outs t nz (i + 1) (y :: r)) := by rw [hu, hpre2, List.append_assoc]
    have hpl2 : pre2.length = pre.length + (nz i).length := by rw [hpre2, List.length_append]
    have hul : u.length = pre2.length + pc.length + (outs t nz (i + 1) (y :: r)).length := by rw [hu2]; simp; omega
    have hol : (outs t nz (i + 1) (y :: r)).length = rs.length + 1 := by rw [hc1]; rfl
    have m : Mv t u k1 pre2.length pc.length := ⟨p4, by omega, fun j hj => by
      have e1 := at0_mid (pre := pre2) (z := pc) (rest := outs t nz (i + 1) (y :: r)) hj
      rw [← hu2] at e1
      rw [e1, at0_lt (by omega)]
      have e2 : pc[j]? = (Tr.sub t k1 (k1 + pc.length))[j]? := by rw [← p3]
      rw [List.getElem?_eq_getElem hj] at e2
      unfold Tr.sub at e2
      rw [List.getElem?_drop, List.getElem?_take, if_pos (by omega), List.getElem?_eq_getElem (by omega)] at e2
      exact Option.some.inj e2⟩
    have hcb : isBlank (at0 u (pre2.length + pc.length)) = true := by
      have e1 := at0_mid (pre := pre2 ++ pc) (z := outs t nz (i + 1) (y :: r)) (rest := []) (i := 0) (by omega)
      rw [List.append_nil, List.append_assoc, ← hu2, List.length_append, Nat.add_zero] at e1
      rw [e1]
      have : (outs t nz (i + 1) (y :: r))[0]? = some c := by rw [hc1]; rfl
      rw [List.getElem?_eq_getElem (by omega)] at this
      rw [Option.some.inj this]; exact hc2
    -- the way to the token
    have hf := here_first hh hx
    have hn0 : 0 < pc.length := by
      by_cases h4 : x.kind = 4
      · have := p2 h4; omega
      · have := p1 h4; omega
    have e0 := m.eq 0 hn0
    simp only [Nat.add_zero] at e0
    have hway : SkB u q pre2.length := by
      refine hq _ (noise_skb (hz i) hu ?_)
      rw [← hpl2]
      exact skb_done (by rw [e0]; exact hf.1) (by rw [e0]; exact hf.2)
    have hu3 : u = (pre2 ++ pc) ++ outs t nz (i + 1) (y :: r) := by rw [hu2, List.append_assoc]
    have hp3 : (pre2 ++ pc).length = pre2.length + pc.length := List.length_append
    have hstep : ∃ q2, Here w0 u pre2.length (.tok { x with at_ := pre2.length } q2) ∧ ∀ k9, SkB u (pre2 ++ pc).length k9 → SkB u q2 k9 := by
      by_cases h4 : x.kind = 4
      · have e := p2 h4
        refine ⟨pre2.length + n, here_str_mv hh h4 (m.cut (by omega)), fun k9 h9 => ?_⟩
        rw [hp3] at h9
        have hend : k1 + pc.length < t.length ∨ (pre2.length + pc.length + 1 = u.length ∧ at0 u (pre2.length + pc.length) = 32) := by
          rcases Nat.lt_or_ge (k1 + pc.length) t.length with h5 | h5
          · exact .inl h5
          · have hr0 := hy3 (by omega)
            subst hr0
            have : outs t nz (i + 1) [y] = [32] := rfl
            rw [this] at hu2 hul hc1
            refine .inr ⟨by simpa using hul.symm, ?_⟩
            have e1 := at0_mid (pre := pre2 ++ pc) (z := [32]) (rest := []) (i := 0) (by decide)
            rw [List.append_nil, List.append_assoc, ← hu2, List.length_append, Nat.add_zero] at e1
            rw [e1]; rfl
        obtain ⟨b, hb⟩ : ∃ b, Tr.upto isBlank t (k1 + n) = k1 + b := ⟨Tr.upto isBlank t (k1 + n) - k1, by have := upto_ge isBlank t (k1 + n); omega⟩
        have hb1 := upto_ge isBlank t (k1 + n)
        have hb2 := hsy.ge
        rw [hb] at hsy hb1 hb2
        have h6 := gap m hend h9 hsy b rfl (by omega)
        refine skb_blanks (b - n) (pre2.length + n) (by omega) (fun j hj => ?_) (by rw [show pre2.length + n + (b - n) = pre2.length + b by omega]; exact h6)
        rw [Nat.add_assoc, m.eq (n + j) (by omega)]
        exact (upto_in (p := isBlank) (t := t) j (k1 + n) (k1 + (n + j)) (by omega) (by omega) (by rw [hb]; omega)).2
      · have e := p1 h4
        rw [e] at m hcb
        exact ⟨pre2.length + n, here_mv hh hx h4 m (by omega) hcb, fun k9 h9 => by rw [hp3, e] at h9; exact h9⟩
    obtain ⟨q2, hh2, hq2⟩ := hstep
    obtain ⟨M, hM1, hM2, hM3⟩ := ih ho a3 (i + 1) (pre2 ++ pc) u q2 hu3 hq2
    refine ⟨{ x with at_ := pre2.length } :: M, .tok hway hh2 hx hM1, by simp [hM2], fun j h1 h2 => ?_⟩
    cases j with
    | zero => rfl
    | succ j => exact hM3 j (by simpa using h1) (by simpa using h2)

end Go.Proofs.YtionmohglmbklaaGreatDoor.Tr
/- The walk of LexNumbers. -/
namespace Go.Proofs.YtionmohglmbklaaGreatDoor.Tr
open Go.RowKit

/-- A number's digits. -/
def decD (n : Nat) : List UInt8 := if n < 10 then [UInt8.ofNat (48 + n)] else decD (n / 10) ++ [UInt8.ofNat (48 + n % 10)]
termination_by n
decreasing_by omega
theorem decD_low {n : Nat} (h : n < 10) : decD n = [UInt8.ofNat (48 + n)] := by rw [decD, if_pos h]
theorem decD_high {n : Nat} (h : ¬ n < 10) : decD n = decD (n / 10) ++ [UInt8.ofNat (48 + n % 10)] := by rw [decD, if_neg h]
theorem dig_nat {m : Nat} (h : m < 10) : (UInt8.ofNat (48 + m)).toNat = 48 + m := by rw [UInt8.toNat_ofNat']; omega
theorem dig_is {m : Nat} (h : m < 10) : isDig (UInt8.ofNat (48 + m)) = true := by
  unfold isDig
  rw [dig_nat h]
  simp; omega
theorem decD_all (n : Nat) : (decD n).all isDig = true := by
  induction n using Nat.strongRecOn with
  | ind n ih =>
    by_cases h : n < 10
    · rw [decD_low h, List.all_cons, dig_is h]; rfl
    · rw [decD_high h, List.all_append, ih (n / 10) (by omega), List.all_cons, dig_is (show n % 10 < 10 by omega)]; rfl
theorem decD_val (n : Nat) : val (decD n) = n := by
  induction n using Nat.strongRecOn with
  | ind n ih =>
    by_cases h : n < 10
    · rw [decD_low h]
      simp only [val, List.foldl_cons, List.foldl_nil, vstep]
      rw [dig_nat h]; omega
    · have h1 := ih (n / 10) (by omega)
      unfold val at h1 ⊢
      rw [decD_high h, List.foldl_append, h1]
      simp only [List.foldl_cons, List.foldl_nil, vstep]
      rw [dig_nat (by omega)]; omega
theorem decD_len (k : Nat) : ∀ n, n < 10 ^ (k + 1) → (decD n).length ≤ k + 1 := by
  induction k with
  | zero => intro n h; rw [decD_low (by simpa using h)]; simp
  | succ k ih =>
    intro n h
    by_cases h0 : n < 10
    · rw [decD_low h0]; simp
    · rw [decD_high h0, List.length_append]
      have := ih (n / 10) (by rw [Nat.pow_succ] at h; omega)
      simp; omega
theorem decD_pos (n : Nat) : 0 < (decD n).length := by
  by_cases h : n < 10
  · rw [decD_low h]; simp
  · rw [decD_high h]; simp
theorem decD_hd (n : Nat) (h1 : 1 ≤ n) : at0 (decD n) 0 ≠ 48 := by
  induction n using Nat.strongRecOn with
  | ind n ih =>
    by_cases h : n < 10
    · rw [decD_low h]
      intro e
      have : (UInt8.ofNat (48 + n)).toNat = 48 := by simpa [at0] using congrArg UInt8.toNat e
      rw [dig_nat h] at this
      omega
    · have := ih (n / 10) (by omega) (by omega)
      have hp := decD_pos (n / 10)
      rw [at0_lt hp] at this
      rw [decD_high h, at0_lt (by simp), List.getElem_append_left hp]
      exact this
theorem decD_one {n : Nat} (h : 1 < (decD n).length) : (at0 (decD n) 0 == 48) = false := by
  rw [beq_eq_false_iff_ne]
  refine decD_hd n ?_
  rcases Nat.eq_zero_or_pos n with e | e
  · subst e; rw [decD_low (by decide)] at h; simp at h
  · exact e
theorem all_at {p : UInt8 → Bool} {t : List UInt8} (h : t.all p = true) (i : Nat) (hi : i < t.length) : p (at0 t i) = true := by
  rw [at0_lt hi]; exact List.all_eq_true.1 h _ (List.getElem_mem hi)
theorem dig_beg {c : UInt8} (h : isDig c = true) : begN c = false ∧ isBlank c = false ∧ (c == 35) = false ∧ (c == 34) = false := by
  unfold isDig at h
  simp only [Bool.and_eq_true, decide_eq_true_eq] at h
  have hne : ∀ k : UInt8, k.toNat < 48 ∨ 57 < k.toNat → (c == k) = false := fun k hk => by
    rw [beq_eq_false_iff_ne]; rintro rfl; omega
  refine ⟨?_, ?_, hne _ (by decide), hne _ (by decide)⟩
  · unfold begN isLet
    rw [hne 95 (by decide)]
    simp
    omega
  · unfold isBlank
    rw [hne 32 (by decide), hne 9 (by decide), hne 10 (by decide), hne 13 (by decide)]; rfl
theorem skb_dig {t : List UInt8} {k : Nat} (h : isDig (at0 t k) = true) : Skp t (upto isBlank t k) k := skb_done (dig_beg h).2.1 (dig_beg h).2.2.1
theorem run_end (w0 : World) (t : List UInt8) : Run w0 t t.length [endT t] none :=
  .fin (k1 := t.length) (skb_done (by rw [at0_ge (Nat.le_refl _)]; decide) (by rw [at0_ge (Nat.le_refl _)]; decide)) .fin rfl
/-- Digits are one number. -/
theorem run_int (w0 : World) {n : Nat} (hn : n < 9223372036854775808) : Run w0 (decD n) 0 [⟨2, decD n, (n : Int), 0, 0⟩, endT (decD n)] none := by
  have hp := decD_pos n
  have ha := decD_all n
  have hl := decD_len 18 n (by omega)
  have h0 := all_at ha 0 hp
  have hu : upto isDig (decD n) 0 = (decD n).length := by
    have := upto_of (p := isDig) (u := decD n) (decD n).length 0 (by omega) (fun i hi => all_at ha _ (by omega)) (.inl (by omega))
    rw [this]; omega
  have hs : sub (decD n) 0 (decD n).length = decD n := by rw [sub_all]; rfl
  have hpi := pint_ok (w0 := w0) ha (by omega) hp (by rw [decD_val]; exact hn)
  rw [decD_val] at hpi
  have hh := Here.int (w0 := w0) (t := decD n) (k := 0) (n := (n : Int)) hp (dig_beg h0).1 h0 (by rw [hu]; intro h; exact decD_one (by omega)) (by rw [hu, at0_ge (Nat.le_refl _)]; intro h; exact absurd h (by decide)) (by rw [hu, hs]; exact hpi)
  unfold tokI at hh
  rw [hu, hs] at hh
  exact .tok (skb_dig h0) hh (show (2 : Int) ≠ 0 by decide) (run_end w0 _)
/-- With a nought ahead it is none. -/
theorem run_zero (w0 : World) (n : Nat) : Run w0 (48 :: decD n) 0 [] (some (0, 4)) := by
  have hp := decD_pos n
  have ha : (48 :: decD n).all isDig = true := by rw [List.all_cons, decD_all]; decide
  have h0 : isDig (at0 (48 :: decD n) 0) = true := all_at ha 0 (by simp)
  have hu : upto isDig (48 :: decD n) 0 = (48 :: decD n).length := by
    have := upto_of (p := isDig) (u := 48 :: decD n) (48 :: decD n).length 0 (by omega) (fun i hi => all_at ha _ (by omega)) (.inl (by omega))
    rw [this]; omega
  exact .bad (skb_dig h0) (.zero (by simp) (dig_beg h0).1 h0 (by rw [hu]; simp; omega) (by simp [at0]))
/-- With a point and digits behind it, a float. -/
theorem run_flt {w0 : World} {T : Nat → Nat × Nat} {Q : Nat → Nat} {C : Nat → Nat × List UInt8} (h : Tbs w0 T Q) (hC : FbT w0 C) {n m : Nat} (hn : n < 9223372036854775808) (hm : m < 9223372036854775808) : ∃ f, Run w0 (decD n ++ 46 :: decD m) 0 [⟨3, decD n ++ 46 :: decD m, 0, f, 0⟩, endT (decD n ++ 46 :: decD m)] none := by
  obtain ⟨t, ht⟩ : ∃ t, t = decD n ++ 46 :: decD m := ⟨_, rfl⟩
  rw [← ht]
  have hp := decD_pos n
  have hq := decD_pos m
  have ha := decD_all n
  have hb := decD_all m
  have hl1 := decD_len 18 n (by omega)
  have hl2 := decD_len 18 m (by omega)
  have hl : t.length = (decD n).length + 1 + (decD m).length := by rw [ht]; simp; omega
  have g1 : ∀ i, i < (decD n).length → at0 t i = at0 (decD n) i := fun i hi => by
    rw [at0_lt (by omega), at0_lt hi]; simp only [ht]; rw [List.getElem_append_left hi]
  have g2 : at0 t (decD n).length = 46 := by
    rw [at0_lt (by omega)]; simp only [ht]; rw [List.getElem_append_right (Nat.le_refl _)]; simp
  have g3 : ∀ i, i < (decD m).length → at0 t ((decD n).length + 1 + i) = at0 (decD m) i := fun i hi => by
    rw [at0_lt (by omega), at0_lt hi]; simp only [ht]; rw [List.getElem_append_right (by omega)]
    simp [show (decD n).length + 1 + i - (decD n).length = i + 1 by omega]
  have d1 : ∀ i, i < (decD n).length → isDig (at0 t i) = true := fun i hi => by rw [g1 i hi]; exact all_at ha i hi
  have d3 : ∀ i, i < (decD m).length → isDig (at0 t ((decD n).length + 1 + i)) = true := fun i hi => by rw [g3 i hi]; exact all_at hb i hi
  have h0 := d1 0 hp
  have hu : upto isDig t 0 = (decD n).length := by
    have := upto_of (p := isDig) (u := t) (decD n).length 0 (by omega) (fun i hi => by rw [Nat.zero_add]; exact d1 i hi) (.inr (by rw [Nat.zero_add, g2]; decide))
    rw [this]; omega
  have hu2 : upto isDig t ((decD n).length + 1) = t.length := by
    have := upto_of (p := isDig) (u := t) (decD m).length ((decD n).length + 1) (by omega) (fun i hi => d3 i hi) (.inl (by omega))
    rw [this]; omega
  have hf : fracEnd t (decD n).length = t.length := by
    unfold fracEnd
    simp only
    rw [hu2, if_pos]
    unfold expLen
    rw [at0_ge (Nat.le_refl _), if_pos (by decide)]
  have hs : sub t 0 t.length = t := by rw [sub_all]; rfl
  have hft : FTx t (decD n).length t.length := ⟨by omega, hp, by omega, Nat.le_refl _, fun hx => by rw [← at0_lt hx, g2]; rfl, fun k hk _ hne => by
    rw [← at0_lt hk]
    rcases Nat.lt_or_ge k (decD n).length with hh | hh
    · exact d1 k hh
    · have := d3 (k - ((decD n).length + 1)) (by omega)
      rw [show (decD n).length + 1 + (k - ((decD n).length + 1)) = k by omega] at this
      exact this⟩
  have hok := (pf_of h hft.len (ato_any h hC hft (.inl ⟨rfl, rfl⟩))).1 (atofA_no hft (by omega))
  have hh := Here.flt (w0 := w0) (t := t) (k := 0) (by omega) (dig_beg h0).1 h0 (by
    rw [hu]
    intro hx
    rw [g1 0 hp]
    exact decD_one (by omega)) (by rw [hu, g2]; decide) (by
    rw [hu]
    have := d3 0 hq
    rw [Nat.add_zero] at this
    exact this) (by rw [hu, hf, hs]; exact hok)
  unfold tokF at hh
  rw [hu, hf, hs] at hh
  exact ⟨_, .tok (skb_dig h0) hh (show (3 : Int) ≠ 0 by decide) (run_end w0 t)⟩

theorem str_cat (a b : List UInt8) : (ByteArray.mk a.toArray) ++ (ByteArray.mk b.toArray) = ⟨(a ++ b).toArray⟩ := by
  apply ByteArray.ext
  simp
theorem dig_bv (m : Nat) : bv (UInt8.ofNat (48 + m % 10)) = .int .u8 (48 + (m : Int) % 10) := by
  unfold bv
  congr 1
  rw [UInt8.toNat_ofNat']
  omega
theorem src_new (w : World) (c : UInt8) : Src (w.alloc (.cells #[bv c] 5)) (some ⟨w.heap.size, 0, none⟩) [c] := fun _ =>
  ⟨w.heap.size, 0, rfl, (Blk.new w 5 (bs [c])).range 0 (bs [c]) (by simp [bs])⟩
theorem conv_one (w : World) (c : UInt8) : (convert 60 9 (.slice (some ⟨w.heap.size, 0, none⟩) 1 1)).run Tryz.prog (w.alloc (.cells #[bv c] 5)) = .ok (.string ⟨#[c]⟩) (w.alloc (.cells #[bv c] 5)) :=
  conv_bytes (src_new w c) 1
/-- All digits but the last. -/
def decH (u : Nat) : List UInt8 := if u < 10 then [] else decD (u / 10)
theorem decD_end (u : Nat) : decD u = decH u ++ [UInt8.ofNat (48 + u % 10)] := by
  unfold decH
  by_cases h : u < 10
  · rw [if_pos h, decD_low h, Nat.mod_eq_of_lt h]; rfl
  · rw [if_neg h, decD_high h]

set_option maxRecDepth 100000 in
set_option maxHeartbeats 1000000 in
theorem digits_any (w : World) (N : Nat) (hN : N < 9223372036854775808) : Calls Tryz.prog 23 #[.int .i64 (N : Int)] w fun e w' => e = .returned (.string ⟨(decD N).toArray⟩) ∧ Fr (fun _ => False) w w' := by
  have hcv := conv_one w (UInt8.ofNat (48 + N % 10))
  rw [dig_bv] at hcv
  have HD := hid (decD_end N)
  have HL := hid (decD_len 18 N (by omega))
  generalize UInt8.ofNat (48 + N % 10) = c at *
  go_enter Tryz.func23, Tryz.ntmps23
  go_wp2_with fail
  clear hcv
  go_loopw [0, 3] (fun nv sv wr => ∃ (m : Nat) (t : List UInt8), m < 9223372036854775808 ∧ nv = .int .i64 (m : Int) ∧ sv = .string ⟨t.toArray⟩ ∧ decD N = decH m ++ t ∧ Fr (fun _ => False) w wr) (fun nv _ _ => (intOf nv).toNat)
  case atStart => exact ⟨N, [c], hN, rfl, rfl, HD.out, (Fr.refl _ _).alloc _⟩
  case round =>
    obtain ⟨m, t, hm, rfl, rfl, hd, hF⟩ := hrel
    clear HD
    have HD := hid hd
    have HF := hid hF
    have htl : t.length ≤ 19 := by
      have h1 := congrArg List.length hd
      have h2 := HL.out
      rw [List.length_append] at h1
      omega
    clear hd hF
    by_cases h0 : m < 10
    · have hg : decide ((m : Int) > 9) = false := by simp; omega
      have HE : Hid (decD N = t) := by unfold Hid; rw [HD.out]; unfold decH; rw [if_pos h0]; rfl
      clear HD
      go_wp2
      go_ret
      exact ⟨by rw [HE.out]; rfl, HF.out⟩
    · have hg : decide ((m : Int) > 9) = true := by simp; omega
      have HE : Hid (decD N = decH (m / 10) ++ (UInt8.ofNat (48 + m / 10 % 10) :: t)) := by
        unfold Hid; rw [HD.out]
        have e : decH m = decD (m / 10) := by unfold decH; rw [if_neg h0]
        rw [e, decD_end (m / 10)]; simp
      have hcv := conv_one wr (UInt8.ofNat (48 + m / 10 % 10))
      rw [dig_bv] at hcv
      have hq : (m : Int) / 10 = ((m / 10 : Nat) : Int) := by omega
      have HS : Hid ((ByteArray.mk #[UInt8.ofNat (48 + m / 10 % 10)]) ++ (ByteArray.mk t.toArray) = ⟨(UInt8.ofNat (48 + m / 10 % 10) :: t).toArray⟩) := str_cat [UInt8.ofNat (48 + m / 10 % 10)] t
      generalize UInt8.ofNat (48 + m / 10 % 10) = c' at *
      have hsz : (9223372036854775807 < 1 + t.length) = False := eq_false (by omega)
      have HQ := hid hq
      rw [← hq] at hcv
      clear HD hq
      go_wp2
      exact ⟨⟨m / 10, _, by omega, by rw [HQ.out], by rw [HS.out], HE.out, HF.out.alloc _⟩, by simp [intOf]; omega⟩

set_option maxRecDepth 100000 in
set_option maxHeartbeats 1000000 in
theorem whole_any (z : Int) (h0 : -9223372036854775808 ≤ z) (h1 : z < 9223372036854775808) : ∃ n : Nat, n < 9223372036854775808 ∧ ∀ w, Calls Tryz.prog 22 #[.int .i64 z] w fun e w' => e = .returned (.int .i64 (n : Int)) ∧ w = w' := by
  by_cases hz : z < 0
  · refine ⟨(-(z + 1)).toNat, by omega, fun w => ?_⟩
    have e : ((-(z + 1)).toNat : Int) = -(z + 1) := by omega
    have hd : decide (z < 0) = true := decide_eq_true hz
    rw [e]
    go_enter Tryz.func22, Tryz.ntmps22
    go_wp2
    go_ret
    exact ⟨rfl, rfl⟩
  · refine ⟨z.toNat, by omega, fun w => ?_⟩
    have e : (z.toNat : Int) = z := by omega
    have hd : decide (z < 0) = false := decide_eq_false hz
    rw [e]
    go_enter Tryz.func22, Tryz.ntmps22
    go_wp2
    go_ret
    exact ⟨rfl, rfl⟩

set_option maxRecDepth 100000 in
set_option maxHeartbeats 8000000 in
theorem lexNumbers_any {w : World} (hT : Tabs w) (hH : Hnl w) {T : Nat → Nat × Nat} {Q : Nat → Nat} {C : Nat → Nat × List UInt8} (hB : Tbs w T Q) (hC : FbT w C) (z1 z2 : Int) (h10 : -9223372036854775808 ≤ z1) (h11 : z1 < 9223372036854775808) (h20 : -9223372036854775808 ≤ z2) (h21 : z2 < 9223372036854775808) : Calls Tryz.prog 6 #[.int .i64 z1, .int .i64 z2] w fun e w' => e = .returned (.bool true) ∧ Fr (fun _ => False) w w' := by
  have HS := hid (shown_any hT (Env.refl w))
  obtain ⟨n, hn, hw1⟩ := whole_any z1 h10 h11
  obtain ⟨m, hm, hw2⟩ := whole_any z2 h20 h21
  have HW1 := hid hw1
  have HW2 := hid hw2
  have HD1 := hid (fun W => digits_any W n hn)
  have HD2 := hid (fun W => digits_any W m hm)
  have hl1 := decD_len 18 n (by omega)
  have hl2 := decD_len 18 m (by omega)
  have hR1 := run_int w hn
  have hR2 := run_zero w n
  obtain ⟨f, hR3⟩ := run_flt hB hC hn hm
  have HA1 : Hid (∀ W, Env w W → Calls Tryz.prog 19 #[.string ⟨(decD n).toArray⟩] W (AllPost W [⟨2, decD n, (n : Int), 0, 0⟩, endT (decD n)] none)) := fun W e => all_any e (by omega) hR1 (by simp)
  have HA2 : Hid (∀ W, Env w W → Calls Tryz.prog 19 #[.string ⟨(48 :: decD n).toArray⟩] W (AllPost W [] (some (0, 4)))) := fun W e => all_any e (by simp; omega) hR2 (by simp)
  have HA3 : Hid (∀ W, Env w W → Calls Tryz.prog 19 #[.string ⟨(decD n ++ 46 :: decD m).toArray⟩] W (AllPost W [⟨3, decD n ++ 46 :: decD m, 0, f, 0⟩, endT (decD n ++ 46 :: decD m)] none)) := fun W e => all_any e (by simp; omega) hR3 (by simp)
  have HHn := hid hH
  generalize decD n = d1 at *
  generalize decD m = d2 at *
  have hcat1 : ByteArray.mk #[48] ++ ByteArray.mk d1.toArray = ⟨(48 :: d1).toArray⟩ := str_cat [48] d1
  have hcat2 : ByteArray.mk d1.toArray ++ ByteArray.mk #[46] = ⟨(d1 ++ [46]).toArray⟩ := str_cat d1 [46]
  obtain ⟨u, hu⟩ : ∃ u, u = d1 ++ 46 :: d2 := ⟨_, rfl⟩
  rw [← hu] at HA3
  have hcat3 : ByteArray.mk (d1 ++ [46]).toArray ++ ByteArray.mk d2.toArray = ⟨u.toArray⟩ := by rw [str_cat, hu]; simp
  have qc1 : (9223372036854775807 < 1 + d1.length) = False := eq_false (by omega)
  have qc2 : (9223372036854775807 < d1.length + 1) = False := eq_false (by omega)
  have qc3 : (9223372036854775807 < d1.length + 1 + d2.length) = False := eq_false (by omega)
  have hn2 : (n : Int) < 9223372036854775808 := by omega
  have hn3 : (0 : Int) ≤ (n : Int) := by omega
  clear hT hH hB hC hw1 hw2 hR1 hR2 hR3 h10 h11 h20 h21 hl1 hl2 hn hm hu
  go_enter Tryz.func6, Tryz.ntmps6
  go_wp2_with fail
  refine HS.out.mono ?_
  rintro e w1 ⟨rfl, f1⟩
  have HF1 := hid f1
  clear f1 HS
  go_wp2_with fail
  refine (HW1.out w1).mono ?_
  rintro e w1' ⟨rfl, rfl⟩
  go_wp2_with fail
  refine (HW2.out w1).mono ?_
  rintro e w1' ⟨rfl, rfl⟩
  clear HW1 HW2
  go_wp2_with fail
  refine (HD1.out w1).mono ?_
  rintro e w2 ⟨rfl, f2⟩
  have HF2 := hid (HF1.out.same f2)
  clear f2 HF1 HD1
  have HA := hid (HA1.out w2 ((Env.refl w).fr HF2.out (fun _ h => h.elim)))
  unfold AllPost at HA
  clear HA1
  go_wp2_with fail
  refine HA.out.mono ?_
  rintro e w3 ⟨v, rfl, ho, f3⟩
  obtain ⟨g, cap, rfl, _, hTk⟩ := toks_own ho rfl (by simp)
  have k0 : w3.cell? ⟨g, 0, none⟩ = some (.int .i64 2) := hTk.kind 0 (by simp)
  have k1 : w3.cell? ⟨g, 1, none⟩ = some (.string ⟨d1.toArray⟩) := hTk.text 0 (by simp)
  have k2 : w3.cell? ⟨g, 2, none⟩ = some (.int .i64 (n : Int)) := hTk.int 0 (by simp)
  have k3 : w3.cell? ⟨g, 3, none⟩ = some (.float .f64 0) := hTk.flt 0 (by simp)
  have k4 : w3.cell? ⟨g, 4, none⟩ = some (.int .i64 0) := hTk.at_ 0 (by simp)
  have heq := eqTokIn ⟨2, d1, (n : Int), 0, 0⟩ ⟨2, d1, (n : Int), 0, 0⟩ w3
  rw [tokEq_refl _ floatEq0] at heq
  simp only [tokV] at heq
  have hfl := eqFlt 9998 w3 0 0
  rw [floatEq0] at hfl
  have HF3 := hid (HF2.out.same f3)
  have HB := hid (HA2.out w3 ((Env.refl w).fr HF3.out (fun _ h => h.elim)))
  unfold AllPost at HB
  clear ho f3 hTk HA HF2 HA2
  go_wp2_with fail
  refine HB.out.mono ?_
  rintro e w4 ⟨fb, rfl, hfb, q4, f4⟩
  have HF4 := hid (HF3.out.same f4)
  have HH4 : Hid (Hnl w4) := ⟨((Env.refl w).fr HF4.out (fun _ h => h.elim)).cell HHn.out.1, Nat.lt_of_lt_of_le HHn.out.2 HF4.out.size⟩
  have HC := hid (fault_hit q4 HH4.out)
  clear q4 f4 HB HF3 heq hfl k0 k1 k2 k3 k4 hfb
  go_wp2_with fail
  refine HC.out.mono ?_
  rintro e w5 ⟨rfl, f5⟩
  have HF5 := hid (HF4.out.same f5)
  clear f5 HC HF4 HH4
  go_wp2_with fail
  refine (HD2.out w5).mono ?_
  rintro e w6 ⟨rfl, f6⟩
  have HF6 := hid (HF5.out.same f6)
  clear f6 HF5 HD2
  have HA := hid (HA3.out w6 ((Env.refl w).fr HF6.out (fun _ h => h.elim)))
  unfold AllPost at HA
  clear HA3
  go_wp2_with fail
  refine HA.out.mono ?_
  rintro e w7 ⟨v, rfl, ho, f7⟩
  obtain ⟨g7, cap7, rfl, _, hTk⟩ := toks_own ho rfl (by simp)
  have k0 : w7.cell? ⟨g7, 0, none⟩ = some (.int .i64 3) := hTk.kind 0 (by simp)
  have k1 : w7.cell? ⟨g7, 1, none⟩ = some (.string ⟨u.toArray⟩) := hTk.text 0 (by simp)
  have k2 : w7.cell? ⟨g7, 2, none⟩ = some (.int .i64 0) := hTk.int 0 (by simp)
  have HF7 := hid (HF6.out.same f7)
  clear ho f7 hTk HA HF6
  go_wp2
  go_ret
  exact ⟨rfl, HF7.out⟩

end Go.Proofs.YtionmohglmbklaaGreatDoor.Tr
