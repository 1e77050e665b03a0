/- Every text is read somehow: its tokens, or where it is wrong. -/
import Derived.Test.YtionmohglmbklaaGreatDoorLag
import Derived.Test.YtionmohglmbklaaGreatDoorAll
namespace Go.Proofs.YtionmohglmbklaaGreatDoor.Tr
open Go.RowKit

theorem upto_all {p : UInt8 → Bool} {t : List UInt8} : ∀ (d k j : Nat) (h : j < t.length), j = k + d → j < upto p t k → p t[j] = true
  | 0, k, j, h, e, hj => by
    obtain rfl : j = k := by omega
    cases hp : p t[j] with
    | true => rfl
    | false => rw [upto_stop h hp] at hj; omega
  | d + 1, k, j, h, e, hj => by
    have hk : k < t.length := by omega
    cases hp : p t[k] with
    | false => rw [upto_stop hk hp] at hj; omega
    | true =>
      rw [upto_step hk hp] at hj
      exact upto_all d (k + 1) j h (by omega) hj
theorem skp_ex (t : List UInt8) : ∀ (n k : Nat), t.length - k ≤ n → k ≤ t.length → ∃ k', Skp t k k'
  | n, k, hn, hk => by
    cases h35 : (at0 t k == 35) with
    | false => exact ⟨k, .done h35⟩
    | true =>
      have hlt := at0_pos (by decide) h35
      have hg : k < upto inLine t k := upto_gt hlt (by
        rw [at0_lt hlt] at h35
        have := eq_of_beq h35
        rw [this]; decide)
      have h1 := upto_le (p := inLine) hk
      have h2 := upto_ge isBlank t (upto inLine t k)
      have h3 := upto_le (p := isBlank) h1
      cases n with
      | zero => omega
      | succ n =>
        obtain ⟨k', h⟩ := skp_ex t n (upto isBlank t (upto inLine t k)) (by omega) h3
        exact ⟨k', .more h35 h⟩
theorem str_ex (t : List UInt8) : ∀ (n k : Nat) (b : List UInt8), t.length - k ≤ n → k ≤ t.length → ∃ o, StrO t k b o
  | n, k, b, hn, hk => by
    have h1 := upto_le (p := isPl) hk
    have h2 := upto_ge isPl t k
    by_cases he : 1024 < (b ++ sub t k (upto isPl t k)).length ∨ upto isPl t k = t.length
    · exact ⟨_, .err he⟩
    · have he1 : (b ++ sub t k (upto isPl t k)).length ≤ 1024 := by omega
      have he2 : upto isPl t k < t.length := by omega
      cases h34 : (at0 t (upto isPl t k) == 34) with
      | true => exact ⟨_, .fin he1 he2 h34⟩
      | false =>
        cases hc : escp t (upto isPl t k) with
        | none => exact ⟨_, .bad he1 he2 h34 hc⟩
        | some c =>
          have h3 := escp_lt hc
          cases n with
          | zero => omega
          | succ n =>
            obtain ⟨o, h⟩ := str_ex t n (upto isPl t k + 2) (b ++ sub t k (upto isPl t k) ++ [c]) (by omega) h3
            exact ⟨o, .esc he1 he2 h34 hc h⟩

theorem sub_get (t : List UInt8) (a b j : Nat) (hb : b ≤ t.length) (h : j < (sub t a b).length) : (sub t a b)[j] = t[a + j]'(by rw [sub_length t a b hb] at h; omega) := by
  have hl := sub_length t a b hb
  have e : (sub t a b)[j]? = t[a + j]? := by
    unfold sub
    rw [List.getElem?_drop, List.getElem?_take, if_pos (by omega)]
  rw [List.getElem?_eq_getElem h, List.getElem?_eq_getElem (by omega)] at e
  exact Option.some.inj e

/-- A float's text within a text. -/
theorem ftx_of {t : List UInt8} {k : Nat} (hl : t.length ≤ 4096) (hk : k < t.length) (hd : isDig (at0 t k) = true) (hp : (at0 t (upto isDig t k) == 46) = true) (hp1 : isDig (at0 t (upto isDig t k + 1)) = true) :
    ∃ p q ex, FTx (sub t k (fracEnd t (upto isDig t k))) p q ∧ FEnd (sub t k (fracEnd t (upto isDig t k))) q ex := by
  rw [at0_lt hk] at hd
  have hg := upto_gt hk hd
  obtain ⟨d, hde⟩ : ∃ d, d = upto isDig t k := ⟨_, rfl⟩
  rw [← hde] at hp hp1 hg ⊢
  have hdl : d < t.length := at0_pos (by decide) hp
  have hd1 : d + 1 < t.length := by
    rcases Nat.lt_or_ge (d + 1) t.length with h | h
    · exact h
    · rw [at0_ge h] at hp1; exact absurd hp1 (by decide)
  rw [at0_lt hd1] at hp1
  have hg2 := upto_gt hd1 hp1
  obtain ⟨e, hee⟩ : ∃ e, e = upto isDig t (d + 1) := ⟨_, rfl⟩
  rw [← hee] at hg2
  have hel : e ≤ t.length := by rw [hee]; exact upto_le (by omega)
  have h46 : t[d].toNat = 46 := by rw [at0_lt hdl] at hp; rw [eq_of_beq hp]; rfl
  have hF : fracEnd t d = if expLen t e = 0 then e else upto isDig t (e + expLen t e) := by unfold fracEnd; rw [← hee]
  have key : ∀ f, e ≤ f → f ≤ t.length → FTx (sub t k f) (d - k) (e - k) := by
    intro f h1 h2
    have hlen := sub_length t k f h2
    refine ⟨by omega, by omega, by omega, by omega, ?_, ?_⟩
    · intro h
      rw [sub_get t k f _ h2 h]
      have : k + (d - k) = d := by omega
      simp only [this]; exact h46
    · intro j h hj hne
      rw [sub_get t k f _ h2 h]
      rcases Nat.lt_or_ge (k + j) d with h3 | h3
      · exact upto_all j k (k + j) (by omega) rfl (by omega)
      · exact upto_all (k + j - (d + 1)) (d + 1) (k + j) (by omega) (by omega) (by omega)
  rw [hF]
  by_cases he0 : expLen t e = 0
  · rw [if_pos he0]
    exact ⟨d - k, e - k, 0, key e (Nat.le_refl _) hel, .inl ⟨by rw [sub_length t k e hel], rfl⟩⟩
  · rw [if_neg he0]
    have hxl := exp_le he0
    have hdg : isDig (at0 t (e + expLen t e)) = true ∧ (at0 t e = 101 ∨ at0 t e = 69) ∧ ((expLen t e = 1) ∨ (expLen t e = 2 ∧ (at0 t (e + 1) = 43 ∨ at0 t (e + 1) = 45))) := by
      unfold expLen at he0 ⊢
      split
      · rename_i h; rw [if_pos h] at he0; exact absurd rfl he0
      · rename_i h
        rw [if_neg h] at he0
        have hee' : at0 t e = 101 ∨ at0 t e = 69 := by
          simp only [Bool.and_eq_true, bne_iff_ne, ne_eq, not_and, Decidable.not_not] at h
          by_cases h1 : at0 t e = 101
          · exact .inl h1
          · exact .inr (h h1)
        split
        · rename_i h2
          rw [if_pos h2] at he0
          have hs : at0 t (e + 1) = 43 ∨ at0 t (e + 1) = 45 := by simpa using h2
          split
          · rename_i h3; exact ⟨h3, hee', .inr ⟨rfl, hs⟩⟩
          · rename_i h3; rw [if_neg h3] at he0; exact absurd rfl he0
        · rename_i h2
          rw [if_neg h2] at he0
          split
          · rename_i h3; exact ⟨h3, hee', .inl rfl⟩
          · rename_i h3; rw [if_neg h3] at he0; exact absurd rfl he0
    obtain ⟨h1, h2, h3⟩ := hdg
    obtain ⟨x, hx⟩ : ∃ x, x = expLen t e := ⟨_, rfl⟩
    rw [← hx] at h1 h3 hxl he0 ⊢
    have hxl2 : e + x < t.length := by
      rcases Nat.lt_or_ge (e + x) t.length with h | h
      · exact h
      · rw [at0_ge h] at h1; exact absurd h1 (by decide)
    rw [at0_lt hxl2] at h1
    have hg3 := upto_gt hxl2 h1
    obtain ⟨f, hfe⟩ : ∃ f, f = upto isDig t (e + x) := ⟨_, rfl⟩
    rw [← hfe] at hg3 ⊢
    have hfl : f ≤ t.length := by rw [hfe]; exact upto_le (by omega)
    have hlen := sub_length t k f hfl
    have hdg2 : ∀ j (h : j < (sub t k f).length), e - k + x ≤ j → isDig (sub t k f)[j] = true := by
      intro j h hj
      rw [sub_get t k f _ hfl h]
      exact upto_all (k + j - (e + x)) (e + x) (k + j) (by omega) (by omega) (by omega)
    have hE : ∀ h : e - k < (sub t k f).length, (sub t k f)[e - k].toNat = 101 ∨ (sub t k f)[e - k].toNat = 69 := by
      intro h
      rw [sub_get t k f _ hfl h]
      have e1 : k + (e - k) = e := by omega
      simp only [e1]
      rw [at0_lt (by omega)] at h2
      rcases h2 with h2 | h2 <;> rw [h2]
      · exact .inl rfl
      · exact .inr rfl
    have hS : ∀ h : e - k + 1 < (sub t k f).length, (sub t k f)[e - k + 1] = at0 t (e + 1) := by
      intro h
      rw [sub_get t k f _ hfl h, at0_lt (by omega)]
      congr 1; omega
    rcases h3 with h3 | ⟨h3, hs⟩
    · subst h3
      refine ⟨d - k, e - k, _, key f (by omega) hfl, .inr ⟨e - k + 1, 1, ⟨by omega, hE, .inl ⟨rfl, rfl, fun h => hdg2 _ h (by omega)⟩, by omega, fun j h hj => hdg2 j h (by omega)⟩, rfl⟩⟩
    · subst h3
      rcases hs with hs | hs
      · refine ⟨d - k, e - k, _, key f (by omega) hfl, .inr ⟨e - k + 1 + 1, 1, ⟨by omega, hE, .inr (.inl ⟨rfl, rfl, fun h => by rw [hS h, hs]; rfl⟩), by omega, fun j h hj => hdg2 j h (by omega)⟩, rfl⟩⟩
      · refine ⟨d - k, e - k, _, key f (by omega) hfl, .inr ⟨e - k + 1 + 1, -1, ⟨by omega, hE, .inr (.inr ⟨rfl, rfl, fun h => by rw [hS h, hs]; rfl⟩), by omega, fun j h hj => hdg2 j h (by omega)⟩, rfl⟩⟩

/-- Numbers are read, all of them. -/
structure Nums (w0 : World) : Prop where
  flt : ∀ (t : List UInt8) (p q : Nat) (ex : Int), FTx t p q → FEnd t q ex → (∃ f, PFok w0 t f) ∨ PFno w0 t
  int : ∀ t : List UInt8, t.all isDig = true → t.length ≤ 4096 → 0 < t.length → (∃ n, PIok w0 t n) ∨ PIno w0 t
theorem nums_of {w0 : World} {T : Nat → Nat × Nat} {Q : Nat → Nat} {C : Nat → Nat × List UInt8} (h : Tbs w0 T Q) (hC : FbT w0 C) : Nums w0 := by
  refine ⟨fun t p q ex ht hx => ?_, fun t hd hl hne => ?_⟩
  · have hp := pf_of h ht.len (ato_any h hC ht hx)
    cases hb : (atofA T Q C t q ex).2 with
    | false => exact .inl ⟨_, hp.1 hb⟩
    | true => exact .inr (hp.2 hb)
  · rcases Nat.lt_or_ge (val t) 9223372036854775808 with hv | hv
    · exact .inl ⟨_, pint_ok hd hl hne hv⟩
    · exact .inr (pint_no h.rng hd hl hne hv)

/-- How far a step goes. -/
def Step.fits (t : List UInt8) (k : Nat) : Step → Prop
  | .tok x k' => k' ≤ t.length ∧ (x.kind ≠ 0 → k < k')
  | .bad a e => k ≤ a ∧ a ≤ t.length ∧ e ≠ 0
theorem strO_fits {t : List UInt8} {k0 k : Nat} {b : List UInt8} {o : Oc} (h : StrO t k b o) (h0 : k0 < k) (hk : k ≤ t.length) : (strStep k0 o).fits t k0 := by
  induction h with
  | err _ => exact ⟨Nat.le_refl _, by omega, by decide⟩
  | @fin k b _ h2 _ =>
    have := upto_ge isPl t k
    exact ⟨h2, fun _ => by omega⟩
  | @bad k b _ h2 _ _ =>
    have := upto_ge isPl t k
    exact ⟨by omega, by omega, by decide⟩
  | @esc k b c o _ h2 _ h4 _ ih =>
    have := upto_ge isPl t k
    exact ih (by omega) (escp_lt h4)
theorem here_ex {w0 : World} (hN : Nums w0) {t : List UInt8} (hl : t.length ≤ 4096) {k : Nat} (hk : k ≤ t.length) : ∃ s, Here w0 t k s ∧ s.fits t k := by
  rcases Nat.lt_or_ge k t.length with hlt | hge
  · cases hb : begN (at0 t k) with
    | true =>
      refine ⟨_, .name hlt hb, upto_le hk, fun _ => upto_gt hlt ?_⟩
      rw [at0_lt hlt] at hb
      unfold inN; rw [hb]; rfl
    | false =>
      cases hd : isDig (at0 t k) with
      | true =>
        have hd' : isDig t[k] = true := by rw [← at0_lt hlt]; exact hd
        have hg := upto_gt hlt hd'
        have hul := upto_le (p := isDig) hk
        by_cases hz : 1 < upto isDig t k - k ∧ (at0 t k == 48) = true
        · exact ⟨_, .zero hlt hb hd hz.1 hz.2, Nat.le_refl _, hk, by decide⟩
        · have hz' : 1 < upto isDig t k - k → (at0 t k == 48) = false := fun h => by
            cases hq : (at0 t k == 48) with
            | false => rfl
            | true => exact absurd ⟨h, hq⟩ hz
          by_cases hf : (at0 t (upto isDig t k) == 46) = true ∧ isDig (at0 t (upto isDig t k + 1)) = true
          · obtain ⟨p, q, ex, h1, h2⟩ := ftx_of hl hlt hd hf.1 hf.2
            rcases hN.flt _ p q ex h1 h2 with ⟨f, h3⟩ | h3
            · have hfl := frac_le (at0_pos (by decide) hf.1)
              have hfg := frac_ge t (upto isDig t k)
              exact ⟨_, .flt hlt hb hd hz' hf.1 hf.2 h3, hfl, fun _ => by omega⟩
            · exact ⟨_, .fltno hlt hb hd hz' hf.1 hf.2 h3, Nat.le_refl _, hk, by decide⟩
          · have hf' : (at0 t (upto isDig t k) == 46) = true → isDig (at0 t (upto isDig t k + 1)) = false := fun h => by
              cases hq : isDig (at0 t (upto isDig t k + 1)) with
              | false => rfl
              | true => exact absurd ⟨h, hq⟩ hf
            have hlen := sub_length t k (upto isDig t k) hul
            have hall : (sub t k (upto isDig t k)).all isDig = true := by
              rw [List.all_eq_true]
              intro x hx
              obtain ⟨j, hj, rfl⟩ := List.getElem_of_mem hx
              rw [sub_get t k _ _ hul hj]
              exact upto_all j k (k + j) (by omega) rfl (by omega)
            rcases hN.int _ hall (by omega) (by omega) with ⟨n, h3⟩ | h3
            · exact ⟨_, .int hlt hb hd hz' hf' h3, hul, fun _ => hg⟩
            · exact ⟨_, .intno hlt hb hd hz' hf' h3, Nat.le_refl _, hk, by decide⟩
      | false =>
        cases h34 : (at0 t k == 34) with
        | true =>
          obtain ⟨o, ho⟩ := str_ex t t.length (k + 1) [] (by omega) hlt
          exact ⟨_, .str hlt h34 ho, strO_fits ho (by omega) hlt⟩
        | false =>
          by_cases hs : signLen t k = 0
          · exact ⟨_, .byte hlt hb hd h34 hs, Nat.le_refl _, hk, by decide⟩
          · exact ⟨_, .sign hlt hb hd h34 hs, sign_le hlt, fun _ => by omega⟩
  · obtain rfl : k = t.length := by omega
    exact ⟨_, .fin, Nat.le_refl _, fun h => absurd rfl h⟩
theorem run_ex {w0 : World} (hN : Nums w0) {t : List UInt8} (hl : t.length ≤ 4096) : ∀ (n k : Nat), t.length - k ≤ n → k ≤ t.length → ∃ L o, Run w0 t k L o ∧ L.length ≤ t.length - k + 1
  | n, k, hn, hk => by
    obtain ⟨k1, hs⟩ := skp_ex t t.length (upto isBlank t k) (by omega) (upto_le hk)
    have h1 := upto_ge isBlank t k
    have h2 := hs.ge
    have h3 := hs.le (upto_le hk)
    obtain ⟨s, hh, hf⟩ := here_ex hN hl h3
    cases s with
    | bad a e => exact ⟨_, _, .bad hs hh, by simp⟩
    | tok x k2 =>
      obtain ⟨hf1, hf2⟩ := hf
      by_cases hx : x.kind = 0
      · exact ⟨_, _, .fin hs hh hx, by simp⟩
      · have hg := hf2 hx
        cases n with
        | zero => omega
        | succ n =>
          obtain ⟨L, o, hr, hL⟩ := run_ex hN hl n k2 (by omega) hf1
          exact ⟨_, _, .tok hs hh hx hr, by simp; omega⟩

end Go.Proofs.YtionmohglmbklaaGreatDoor.Tr
