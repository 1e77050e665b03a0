/- Plain facts on sums and texts. Nothing here speaks of the Go text. -/
import Derived.Test.YtipppagkajcheaaGreatDoorSRp
import Derived.Test.YtipppagkajcheaaGreatDoorSUp
namespace Go.Proofs.YtipppagkajcheaaGreatDoor.Tr
open Go.RowKit

theorem dig_hexd (k : Nat) (h : k < 16) : dig (hexd k) = some k := (hexd_iff (hexd k) k h).1 rfl

theorem fold_low (s : Nat) : ∀ (k a : Nat), a < 18446744073709551616 → (low s k).foldl pf (some a) = some ((a * 16 ^ k + s % 16 ^ k) % 18446744073709551616)
  | 0, a, ha => by simp [low, Nat.mod_one, Nat.mod_eq_of_lt ha]
  | k + 1, a, _ => by
    have hd : s / 16 ^ k % 16 < 16 := Nat.mod_lt _ (by decide)
    rw [low, List.foldl_cons, pf_good (dig_hexd _ hd), fold_low s k _ (Nat.mod_lt _ (by decide))]
    congr 1
    rw [Nat.pow_succ, Nat.mod_mul]
    generalize 16 ^ k = P at *
    generalize s / P % 16 = d at *
    generalize s % P = r at *
    generalize hM : 18446744073709551616 = M at *
    clear hM
    rw [Nat.add_mod, Nat.mul_mod, Nat.mod_mod, ← Nat.mul_mod, ← Nat.add_mod]
    congr 1
    rw [Nat.add_mul, Nat.mul_assoc, Nat.mul_comm 16 P, Nat.mul_comm d P]
    omega
theorem parsed_low (s : Nat) (h : s < 18446744073709551616) : parsed (low s 16) = some s := by
  unfold parsed
  rw [if_pos (low_length s 16), fold_low s 16 0 (by decide)]
  have e : (16 : Nat) ^ 16 = 18446744073709551616 := by decide
  rw [e, Nat.zero_mul, Nat.zero_add, Nat.mod_mod, Nat.mod_eq_of_lt h]
theorem low_inj {a b : Nat} (ha : a < 18446744073709551616) (hb : b < 18446744073709551616) (h : low a 16 = low b 16) : a = b := by
  have h1 := parsed_low a ha
  rw [h, parsed_low b hb] at h1
  exact (Option.some.inj h1).symm

theorem low_snoc (s : Nat) : ∀ k, low s (k + 1) = low (s / 16) k ++ [hexd (s % 16)]
  | 0 => by simp [low]
  | k + 1 => by
    rw [low, low_snoc s k, low, Nat.div_div_eq_div_mul, Nat.pow_succ, Nat.mul_comm (16 ^ k) 16]
    rfl
theorem fold_back : ∀ (k : Nat) (l : List UInt8) (r : Nat), l.length = k → k ≤ 16 → l.foldl pf (some 0) = some r → r < 16 ^ k ∧ low r k = l
  | 0, l, r, hl, _, h => by
    have : l = [] := List.length_eq_zero_iff.1 hl
    subst this
    simp only [List.foldl_nil, Option.some.injEq] at h
    subst h
    exact ⟨by decide, rfl⟩
  | k + 1, l, r, hl, hk, h => by
    obtain ⟨l', c, rfl⟩ : ∃ l' c, l = l' ++ [c] := by
      rcases List.eq_nil_or_concat l with h0 | ⟨l', c, h1⟩
      · subst h0; cases hl
      · exact ⟨l', c, by rw [h1]; simp⟩
    rw [List.foldl_append, List.foldl_cons, List.foldl_nil] at h
    cases hr : l'.foldl pf (some 0) with
    | none => rw [hr] at h; cases h
    | some r' =>
      rw [hr] at h
      cases hd : dig c with
      | none => unfold pf at h; simp only [hd] at h; cases h
      | some d =>
        rw [pf_good hd] at h
        have ih := fold_back k l' r' (by simpa using hl) (by omega) hr
        have hd16 := dig_lt hd
        have hp : 16 ^ (k + 1) ≤ 16 ^ 16 := Nat.pow_le_pow_right (by decide) hk
        have e : (16 : Nat) ^ 16 = 18446744073709551616 := by decide
        rw [e, Nat.pow_succ] at hp
        have hlt : r' * 16 + d < 16 ^ k * 16 := by have := ih.1; omega
        rw [Nat.mod_eq_of_lt (by omega)] at h
        obtain rfl := Option.some.inj h
        refine ⟨by rw [Nat.pow_succ]; exact hlt, ?_⟩
        rw [low_snoc, show (r' * 16 + d) / 16 = r' by omega, show (r' * 16 + d) % 16 = d by omega, ih.2, (hexd_iff c d hd16).2 hd]
theorem low_parsed {l : List UInt8} {r : Nat} (h : parsed l = some r) : r < 18446744073709551616 ∧ low r 16 = l := by
  unfold parsed at h
  split at h
  · rename_i hl
    have := fold_back 16 l r hl (Nat.le_refl _) h
    have e : (16 : Nat) ^ 16 = 18446744073709551616 := by decide
    rwa [e] at this
  · cases h

/-! ### One byte that is changed is seen -/
theorem mul_inj {t u M a b : Nat} (hu : t * u % M = 1) (ha : a < M) (hb : b < M) (h : a * t % M = b * t % M) : a = b := by
  have key : ∀ x, x < M → x * t % M * u % M = x := by
    intro x hx
    rw [Nat.mul_mod, Nat.mod_mod, ← Nat.mul_mod, Nat.mul_assoc, Nat.mul_mod, hu, Nat.mul_one, Nat.mod_mod, Nat.mod_eq_of_lt hx]
  rw [← key a ha, ← key b hb, h]
theorem xor_lt64 (s : Nat) (c : UInt8) (hs : s < 18446744073709551616) : s ^^^ c.toNat < 18446744073709551616 := by
  have := UInt8.toNat_lt c
  exact Nat.xor_lt_two_pow (n := 64) hs (by omega)
theorem xor_back (a c : Nat) : (a ^^^ c) ^^^ c = a := by rw [Nat.xor_assoc, Nat.xor_self, Nat.xor_zero]
theorem inv_times : 1099511628211 * 14886173955864302971 % 18446744073709551616 = 1 := by decide
theorem step1_xor {s s' : Nat} {c c' : UInt8} (hs : s < 18446744073709551616) (hs' : s' < 18446744073709551616) (h : step1 s c = step1 s' c') : s ^^^ c.toNat = s' ^^^ c'.toNat := by
  have h1 := xor_lt64 s c hs
  have h2 := xor_lt64 s' c' hs'
  unfold step1 at h
  exact mul_inj inv_times h1 h2 h
theorem step1_inj {s s' : Nat} {c : UInt8} (hs : s < 18446744073709551616) (hs' : s' < 18446744073709551616) (h : step1 s c = step1 s' c) : s = s' := by
  have e := step1_xor hs hs' h
  rw [← xor_back s c.toNat, e, xor_back]
theorem step1_seen {s : Nat} {c c' : UInt8} (hs : s < 18446744073709551616) (h : step1 s c = step1 s c') : c = c' := by
  have e := step1_xor hs hs h
  apply UInt8.toNat_inj.1
  have : (s ^^^ c.toNat) ^^^ s = (s ^^^ c'.toNat) ^^^ s := by rw [e]
  rwa [Nat.xor_comm s c.toNat, Nat.xor_comm s c'.toNat, xor_back, xor_back] at this
theorem upd_cons (s : Nat) (c : UInt8) (r : List UInt8) : upd s (c :: r) = upd (step1 s c) r := List.foldl_cons ..
theorem upd_inj : ∀ (b : List UInt8) {s s' : Nat}, s < 18446744073709551616 → s' < 18446744073709551616 → upd s b = upd s' b → s = s'
  | [], _, _, _, _, h => h
  | c :: r, s, s', hs, hs', h => by
    rw [upd_cons, upd_cons] at h
    exact step1_inj hs hs' (upd_inj r (step1_lt s c) (step1_lt s' c) h)
theorem upd_one (s : Nat) (hs : s < 18446744073709551616) (b : List UInt8) (i : Nat) (hi : i < b.length) (c : UInt8) (hc : c ≠ b[i]) : upd s (b.set i c) ≠ upd s b := by
  intro h
  have e1 : b = b.take i ++ b[i] :: b.drop (i + 1) := by simp
  have e2 : b.set i c = b.take i ++ c :: b.drop (i + 1) := by rw [List.set_eq_take_append_cons_drop, if_pos hi]
  have h1 : upd s b = upd (step1 (upd s (b.take i)) b[i]) (b.drop (i + 1)) := by
    conv => lhs; rw [e1, upd_append, upd_cons]
  rw [e2, upd_append, upd_cons, h1] at h
  have h2 := upd_inj _ (step1_lt _ _) (step1_lt _ _) h
  exact hc (step1_seen (upd_lt s _ hs) h2)

/-! ### The document's examples -/
theorem low_beg : low (upd beg []) 16 = [99, 98, 102, 50, 57, 99, 101, 52, 56, 52, 50, 50, 50, 51, 50, 53] := by decide +kernel
theorem low_a : low (upd beg [97]) 16 = [97, 102, 54, 51, 100, 99, 52, 99, 56, 54, 48, 49, 101, 99, 56, 99] := by decide +kernel
theorem parsed_ff : parsed [48, 48, 48, 48, 48, 48, 48, 48, 48, 48, 48, 48, 48, 48, 102, 102] = some 255 := by decide +kernel
theorem parsed_2 : parsed [102, 102] = none := by decide +kernel

end Go.Proofs.YtipppagkajcheaaGreatDoor.Tr
