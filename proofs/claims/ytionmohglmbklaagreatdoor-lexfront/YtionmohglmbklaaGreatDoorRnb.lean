/- Every text is read somehow, and no float of it is a NaN. -/
import Derived.Test.YtionmohglmbklaaGreatDoorRna
import Derived.Test.YtionmohglmbklaaGreatDoorNan
import Derived.Test.YtionmohglmbklaaGreatDoorTeq
namespace Go.Proofs.YtionmohglmbklaaGreatDoor.Tr
open Go.RowKit

/-- Numbers are read, all of them, and no float is a NaN. -/
structure Nums2 (w0 : World) : Prop where
  flt : ∀ (t : List UInt8) (p q : Nat) (ex : Int), FTx t p q → FEnd t q ex → (∃ f, PFok w0 t f ∧ Op.floatEq .f64 f f = true) ∨ PFno w0 t
  int : ∀ t : List UInt8, t.all isDig = true → t.length ≤ 4096 → 0 < t.length → (∃ n, PIok w0 t n) ∨ PIno w0 t
theorem nums2_of {w0 : World} {T : Nat → Nat × Nat} {Q : Nat → Nat} {C : Nat → Nat × List UInt8} (h : Tbs w0 T Q) (hC : FbT w0 C) (hT : ∀ i, i < 696 → (T i).1 < 18446744073709551616) (hQ : ∀ i, i < 23 → Fin1 (Q i)) : Nums2 w0 := by
  refine ⟨fun t p q ex ht hx => ?_, fun t hd hl hne => ?_⟩
  · have hp := pf_of h ht.len (ato_any h hC ht hx)
    cases hb : (atofA T Q C t q ex).2 with
    | false => exact .inl ⟨_, hp.1 hb, floatEq_self (atofA_nan hT hQ ht hb)⟩
    | true => exact .inr (hp.2 hb)
  · rcases Nat.lt_or_ge (val t) 9223372036854775808 with hv | hv
    · exact .inl ⟨_, pint_ok hd hl hne hv⟩
    · exact .inr (pint_no h.rng hd hl hne hv)

/-- A token's float equals itself. -/
def Step.good : Step → Prop
  | .tok x _ => Op.floatEq .f64 x.flt x.flt = true
  | .bad _ _ => True
theorem here_ex2 {w0 : World} (hN : Nums2 w0) {t : List UInt8} (hl : t.length ≤ 4096) {k : Nat} (hk : k ≤ t.length) : ∃ s, Here w0 t k s ∧ s.fits t k ∧ s.good := by
  rcases Nat.lt_or_ge k t.length with hlt | hge
  · cases hb : begN (at0 t k) with
    | true =>
      refine ⟨_, .name hlt hb, ⟨upto_le hk, fun _ => upto_gt hlt ?_⟩, floatEq0⟩
      rw [at0_lt hlt] at hb
      unfold inN; rw [hb]; rfl
    | false =>
      cases hd : isDig (at0 t k) with
      | true =>
        have hd' : isDig t[k] = true := by rw [← at0_lt hlt]; exact hd
        have hg := upto_gt hlt hd'
        have hul := upto_le (p := isDig) hk
        by_cases hz : 1 < upto isDig t k - k ∧ (at0 t k == 48) = true
        · exact ⟨_, .zero hlt hb hd hz.1 hz.2, ⟨Nat.le_refl _, hk, by decide⟩, trivial⟩
        · have hz' : 1 < upto isDig t k - k → (at0 t k == 48) = false := fun h => by
            cases hq : (at0 t k == 48) with
            | false => rfl
            | true => exact absurd ⟨h, hq⟩ hz
          by_cases hf : (at0 t (upto isDig t k) == 46) = true ∧ isDig (at0 t (upto isDig t k + 1)) = true
          · obtain ⟨p, q, ex, h1, h2⟩ := ftx_of hl hlt hd hf.1 hf.2
            rcases hN.flt _ p q ex h1 h2 with ⟨f, h3, h4⟩ | h3
            · have hfl := frac_le (at0_pos (by decide) hf.1)
              have hfg := frac_ge t (upto isDig t k)
              exact ⟨_, .flt hlt hb hd hz' hf.1 hf.2 h3, ⟨hfl, fun _ => by omega⟩, h4⟩
            · exact ⟨_, .fltno hlt hb hd hz' hf.1 hf.2 h3, ⟨Nat.le_refl _, hk, by decide⟩, trivial⟩
          · have hf' : (at0 t (upto isDig t k) == 46) = true → isDig (at0 t (upto isDig t k + 1)) = false := fun h => by
              cases hq : isDig (at0 t (upto isDig t k + 1)) with
              | false => rfl
              | true => exact absurd ⟨h, hq⟩ hf
            have hlen := sub_length t k (upto isDig t k) hul
            have hall : (sub t k (upto isDig t k)).all isDig = true := by
              rw [List.all_eq_true]
              intro x hx
              obtain ⟨j, hj, rfl⟩ := List.getElem_of_mem hx
              rw [sub_get t k _ _ hul hj]
              exact upto_all j k (k + j) (by omega) rfl (by omega)
            rcases hN.int _ hall (by omega) (by omega) with ⟨n, h3⟩ | h3
            · exact ⟨_, .int hlt hb hd hz' hf' h3, ⟨hul, fun _ => hg⟩, floatEq0⟩
            · exact ⟨_, .intno hlt hb hd hz' hf' h3, ⟨Nat.le_refl _, hk, by decide⟩, trivial⟩
      | false =>
        cases h34 : (at0 t k == 34) with
        | true =>
          obtain ⟨o, ho⟩ := str_ex t t.length (k + 1) [] (by omega) hlt
          exact ⟨_, .str hlt h34 ho, strO_fits ho (by omega) hlt, by cases o <;> first | exact floatEq0 | trivial⟩
        | false =>
          by_cases hs : signLen t k = 0
          · exact ⟨_, .byte hlt hb hd h34 hs, ⟨Nat.le_refl _, hk, by decide⟩, trivial⟩
          · exact ⟨_, .sign hlt hb hd h34 hs, ⟨sign_le hlt, fun _ => by omega⟩, floatEq0⟩
  · obtain rfl : k = t.length := by omega
    exact ⟨_, .fin, ⟨Nat.le_refl _, fun h => absurd rfl h⟩, floatEq0⟩
theorem run_ex2 {w0 : World} (hN : Nums2 w0) {t : List UInt8} (hl : t.length ≤ 4096) : ∀ (n k : Nat), t.length - k ≤ n → k ≤ t.length → ∃ L o, Run w0 t k L o ∧ L.length ≤ t.length - k + 1 ∧ ∀ x ∈ L, Op.floatEq .f64 x.flt x.flt = true
  | n, k, hn, hk => by
    obtain ⟨k1, hs⟩ := skp_ex t t.length (upto isBlank t k) (by omega) (upto_le hk)
    have h1 := upto_ge isBlank t k
    have h2 := hs.ge
    have h3 := hs.le (upto_le hk)
    obtain ⟨s, hh, hf, hgd⟩ := here_ex2 hN hl h3
    cases s with
    | bad a e => exact ⟨_, _, .bad hs hh, by simp, by simp⟩
    | tok x k2 =>
      obtain ⟨hf1, hf2⟩ := hf
      by_cases hx : x.kind = 0
      · exact ⟨_, _, .fin hs hh hx, by simp, fun y hy => by rw [List.mem_singleton.1 hy]; exact hgd⟩
      · have hg := hf2 hx
        cases n with
        | zero => omega
        | succ n =>
          obtain ⟨L, o, hr, hL, hGL⟩ := run_ex2 hN hl n k2 (by omega) hf1
          exact ⟨_, _, .tok hs hh hx hr, by simp; omega, fun y hy => (List.mem_cons.1 hy).elim (fun e => by rw [e]; exact hgd) (hGL y)⟩

end Go.Proofs.YtionmohglmbklaaGreatDoor.Tr
