/- The contract of LexPlaces. -/
import Derived.Test.YtionmohglmbklaaGreatDoorRna
import Derived.Test.YtionmohglmbklaaGreatDoorShw
import Derived.Test.YtionmohglmbklaaGreatDoorTeq
import Derived.Test.YtionmohglmbklaaGreatDoorFau
namespace Go.Proofs.YtionmohglmbklaaGreatDoor.Tr
open Go.RowKit

/-- A token stands where it says. -/
structure TFit (t : List UInt8) (x : Tok) : Prop where
  le : x.at_ ≤ t.length
  str : x.kind = 4 → ∃ h : x.at_ < t.length, t[x.at_] = 34
  txt : x.kind ≠ 4 → x.at_ + x.text.length ≤ t.length ∧ sub t x.at_ (x.at_ + x.text.length) = x.text
theorem TFit.sub {t : List UInt8} {kd n : Int} {f k b : Nat} (h1 : k ≤ b) (h2 : b ≤ t.length) (hk : kd ≠ 4) : TFit t ⟨kd, sub t k b, n, f, k⟩ := by
  refine ⟨by simp only; omega, fun e => absurd e hk, fun _ => ?_⟩
  have e := sub_length t k b h2
  simp only
  rw [e, show k + (b - k) = b by omega]
  exact ⟨h2, rfl⟩
theorem strO_at {t : List UInt8} {k0 k : Nat} {b : List UInt8} {o : Oc} {x : Tok} {k' : Nat} (h : StrO t k b o) (e : strStep k0 o = .tok x k') : x.at_ = k0 ∧ x.kind = 4 := by
  induction h with
  | err _ => cases e
  | fin _ _ _ => injection e with e1 _; subst e1; exact ⟨rfl, rfl⟩
  | bad _ _ _ _ => cases e
  | esc _ _ _ _ _ ih => exact ih e
theorem here_tok {w0 : World} {t : List UInt8} {k k' : Nat} {x : Tok} (h : Here w0 t k (.tok x k')) (hk : k ≤ t.length) : TFit t x ∧ x.at_ = k ∧ k' ≤ t.length ∧ (x.kind ≠ 0 → k < k') ∧ (x.kind = 0 → x = endT t) := by
  generalize hs : Step.tok x k' = s at h
  cases h with
  | fin =>
    injection hs with e1 e2
    subst e1 e2
    refine ⟨⟨Nat.le_refl _, fun e => absurd (show (0 : Int) = 4 from e) (by decide), fun _ => ⟨Nat.le_refl _, ?_⟩⟩, rfl, Nat.le_refl _, fun h => absurd rfl h, fun _ => rfl⟩
    simp only [endT, List.length_nil, Nat.add_zero]
    exact sub_self t t.length
  | name h1 h2 =>
    injection hs with e1 e2
    subst e1 e2
    have hg : k < upto inN t k := upto_gt h1 (by rw [at0_lt h1] at h2; unfold inN; rw [h2]; rfl)
    exact ⟨TFit.sub (by omega) (upto_le hk) (by decide), rfl, upto_le hk, fun _ => hg, fun e => absurd (show (1 : Int) = 0 from e) (by decide)⟩
  | flt h1 h2 h3 h4 h5 h6 h7 =>
    injection hs with e1 e2
    subst e1 e2
    have hfl := frac_le (at0_pos (by decide) h5)
    have hfg := frac_ge t (upto isDig t k)
    have hg := upto_ge isDig t k
    exact ⟨TFit.sub (by omega) hfl (by decide), rfl, hfl, fun _ => by omega, fun e => absurd (show (3 : Int) = 0 from e) (by decide)⟩
  | str h1 h2 h3 =>
    obtain ⟨ha, hkd⟩ := strO_at h3 hs.symm
    have hf := strO_fits h3 (k0 := k) (by omega) h1
    rw [← hs] at hf
    refine ⟨⟨by omega, fun _ => ⟨by omega, ?_⟩, fun e => absurd hkd e⟩, ha, hf.1, hf.2, fun e => by rw [hkd] at e; exact absurd e (by decide)⟩
    rw [at0_lt h1] at h2
    have := eq_of_beq h2
    simp only [ha]; exact this
  | int h1 h2 h3 h4 h5 h6 =>
    injection hs with e1 e2
    subst e1 e2
    have hd' : isDig t[k] = true := by rw [← at0_lt h1]; exact h3
    exact ⟨TFit.sub (upto_ge _ _ _) (upto_le hk) (by decide), rfl, upto_le hk, fun _ => upto_gt h1 hd', fun e => absurd (show (2 : Int) = 0 from e) (by decide)⟩
  | sign h1 h2 h3 h4 h5 =>
    injection hs with e1 e2
    subst e1 e2
    exact ⟨TFit.sub (by omega) (sign_le h1) (by decide), rfl, sign_le h1, fun _ => by omega, fun e => absurd (show (5 : Int) = 0 from e) (by decide)⟩
  | fltno => cases hs
  | intno => cases hs
  | zero => cases hs
  | byte => cases hs
theorem here_bad {w0 : World} {t : List UInt8} {k a : Nat} {e : Int} (h : Here w0 t k (.bad a e)) (hk : k ≤ t.length) : a ≤ t.length ∧ e ≠ 0 := by
  generalize hs : Step.bad a e = s at h
  cases h with
  | str h1 h2 h3 =>
    have hf := strO_fits h3 (k0 := k) (by omega) h1
    rw [← hs] at hf
    exact ⟨hf.2.1, hf.2.2⟩
  | fltno => injection hs with e1 e2; subst e1 e2; exact ⟨hk, by decide⟩
  | intno => injection hs with e1 e2; subst e1 e2; exact ⟨hk, by decide⟩
  | zero => injection hs with e1 e2; subst e1 e2; exact ⟨hk, by decide⟩
  | byte => injection hs with e1 e2; subst e1 e2; exact ⟨hk, by decide⟩
  | fin => cases hs
  | name => cases hs
  | flt => cases hs
  | int => cases hs
  | sign => cases hs
/-- What holds of the tokens of a text. -/
structure Plcs (t : List UInt8) (k : Nat) (L : List Tok) : Prop where
  fit : ∀ i (h : i < L.length), TFit t L[i]
  ge : ∀ i (h : i < L.length), k ≤ L[i].at_
  up : ∀ i (h : i + 1 < L.length), L[i].at_ < L[i + 1].at_
theorem run_places {w0 : World} {t : List UInt8} {k : Nat} {L : List Tok} {o : Option (Nat × Int)} (h : Run w0 t k L o) (hk : k ≤ t.length) : Plcs t k L ∧ (o = none → ∃ h : 0 < L.length, L[L.length - 1] = endT t) ∧ (∀ a e, o = some (a, e) → a ≤ t.length ∧ e ≠ 0) := by
  induction h with
  | @fin k k1 k2 x hs hh hx =>
    have h1 := upto_ge isBlank t k
    have h2 := hs.ge
    obtain ⟨a1, a2, a3, a4, a5⟩ := here_tok hh (hs.le (upto_le hk))
    refine ⟨⟨fun i h => ?_, fun i h => ?_, fun i h => by simp at h⟩, fun _ => ⟨by simp, a5 hx⟩, fun _ _ h => by cases h⟩
    · obtain rfl : i = 0 := by simpa using h
      exact a1
    · obtain rfl : i = 0 := by simpa using h
      show k ≤ x.at_
      omega
  | @bad k k1 a e hs hh =>
    refine ⟨⟨fun i h => by simp at h, fun i h => by simp at h, fun i h => by simp at h⟩, fun h => (by cases h), fun a' e' h => ?_⟩
    injection h with h; injection h with h1 h2; subst h1 h2
    exact here_bad hh (hs.le (upto_le hk))
  | @tok k k1 k2 x l o hs hh hx hr ih =>
    have h1 := upto_ge isBlank t k
    have h2 := hs.ge
    obtain ⟨a1, a2, a3, a4, a5⟩ := here_tok hh (hs.le (upto_le hk))
    have hg := a4 hx
    obtain ⟨b1, b2, b3⟩ := ih a3
    refine ⟨⟨fun i h => ?_, fun i h => ?_, fun i h => ?_⟩, fun ho => ?_, b3⟩
    · cases i with
      | zero => exact a1
      | succ i => exact b1.fit i (by simpa using h)
    · cases i with
      | zero => show k ≤ x.at_; omega
      | succ i =>
        have hi : i < l.length := by simpa using h
        have := b1.ge i hi
        show k ≤ l[i].at_; omega
    · cases i with
      | zero =>
        have hi : 0 < l.length := by simpa using h
        have := b1.ge 0 hi
        show x.at_ < l[0].at_; omega
      | succ i => exact b1.up i (by simpa using h)
    · obtain ⟨h3, h4⟩ := b2 ho
      refine ⟨by simp, ?_⟩
      rw [← h4]
      simp only [List.length_cons, Nat.add_sub_cancel]
      obtain ⟨m, hm⟩ : ∃ m, l.length = m + 1 := ⟨l.length - 1, by omega⟩
      simp only [hm, List.getElem_cons_succ, Nat.add_sub_cancel]

set_option maxRecDepth 100000 in
set_option maxHeartbeats 1000000 in
theorem all_long {w : World} {t : List UInt8} (hl : 4096 < t.length) (hl2 : t.length ≤ 140737488351232) : Calls Tryz.prog 19 #[.string ⟨t.toArray⟩] w (AllPost w [] (some (4096, 2))) := by
  have q1 : decide ((t.length : Int) > 4096) = true := decide_eq_true (by omega)
  have HF := hid (fault_any w 4096 2)
  have e4 : ((4096 : Nat) : Int) = 4096 := rfl
  rw [e4] at HF
  unfold AllPost
  go_enter Tryz.func19, Tryz.ntmps19
  go_wp2_with fail
  refine HF.out.mono ?_
  rintro e w2 ⟨rfl, h1, h2⟩
  have HE := hid (And.intro h1 h2)
  clear h1 h2 HF
  go_wp2_with fail
  go_ret2
  exact ⟨_, rfl, Nat.le_refl _, HE.out.1, HE.out.2⟩

end Go.Proofs.YtionmohglmbklaaGreatDoor.Tr
