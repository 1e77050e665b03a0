/- One byte that is changed is seen: of a control, of a place. Plain; nothing here speaks of the Go text. -/
import Derived.Test.YtagcpjekeogkbaaOpt
namespace Go.Proofs.Ytagcpjekeogkbaa.Wl
open Go.RowKit Dk

theorem mul_inj {t u M a b : Nat} (hu : t * u % M = 1) (ha : a < M) (hb : b < M) (h : a * t % M = b * t % M) : a = b := by
  have key : ∀ x, x < M → x * t % M * u % M = x := by
    intro x hx
    rw [Nat.mul_mod, Nat.mod_mod, ← Nat.mul_mod, Nat.mul_assoc, Nat.mul_mod, hu, Nat.mul_one, Nat.mod_mod, Nat.mod_eq_of_lt hx]
  rw [← key a ha, ← key b hb, h]
theorem xor_lt64 (s : Nat) (c : UInt8) (hs : s < 18446744073709551616) : s ^^^ c.toNat < 18446744073709551616 := by
  have := UInt8.toNat_lt c
  exact Nat.xor_lt_two_pow (n := 64) hs (by omega)
theorem xor_back (a c : Nat) : (a ^^^ c) ^^^ c = a := by rw [Nat.xor_assoc, Nat.xor_self, Nat.xor_zero]
theorem inv_times : 1099511628211 * 14886173955864302971 % 18446744073709551616 = 1 := by decide
theorem step1_xor {s s' : Nat} {c c' : UInt8} (hs : s < 18446744073709551616) (hs' : s' < 18446744073709551616) (h : step1 s c = step1 s' c') : s ^^^ c.toNat = s' ^^^ c'.toNat := by
  have h1 := xor_lt64 s c hs
  have h2 := xor_lt64 s' c' hs'
  unfold step1 at h
  exact mul_inj inv_times h1 h2 h
theorem step1_inj {s s' : Nat} {c : UInt8} (hs : s < 18446744073709551616) (hs' : s' < 18446744073709551616) (h : step1 s c = step1 s' c) : s = s' := by
  have e := step1_xor hs hs' h
  rw [← xor_back s c.toNat, e, xor_back]
theorem step1_seen {s : Nat} {c c' : UInt8} (hs : s < 18446744073709551616) (h : step1 s c = step1 s c') : c = c' := by
  have e := step1_xor hs hs h
  apply UInt8.toNat_inj.1
  have : (s ^^^ c.toNat) ^^^ s = (s ^^^ c'.toNat) ^^^ s := by rw [e]
  rwa [Nat.xor_comm s c.toNat, Nat.xor_comm s c'.toNat, xor_back, xor_back] at this
theorem upd_cons (s : Nat) (c : UInt8) (r : Sec) : upd s (c :: r) = upd (step1 s c) r := List.foldl_cons ..
theorem upd_inj : ∀ (b : Sec) {s s' : Nat}, s < 18446744073709551616 → s' < 18446744073709551616 → upd s b = upd s' b → s = s'
  | [], _, _, _, _, h => h
  | c :: r, s, s', hs, hs', h => by
    rw [upd_cons, upd_cons] at h
    exact step1_inj hs hs' (upd_inj r (step1_lt s c) (step1_lt s' c) h)
theorem upd_one (s : Nat) (hs : s < 18446744073709551616) (b : Sec) (i : Nat) (hi : i < b.length) (c : UInt8) (hc : c ≠ b[i]) : upd s (b.set i c) ≠ upd s b := by
  intro h
  have e1 : b = b.take i ++ b[i] :: b.drop (i + 1) := by simp
  have e2 : b.set i c = b.take i ++ c :: b.drop (i + 1) := by rw [List.set_eq_take_append_cons_drop, if_pos hi]
  have h1 : upd s b = upd (step1 (upd s (b.take i)) b[i]) (b.drop (i + 1)) := by
    conv => lhs; rw [e1, upd_append, upd_cons]
  rw [e2, upd_append, upd_cons, h1] at h
  have h2 := upd_inj _ (step1_lt _ _) (step1_lt _ _) h
  exact hc (step1_seen (upd_lt s _ hs) h2)
theorem xor_ne (a y : UInt8) (hy : ¬ y.toNat = 0) : a ^^^ y ≠ a := by
  intro h
  apply hy
  have e := congrArg UInt8.toNat h
  rw [UInt8.toNat_xor] at e
  have : (a.toNat ^^^ y.toNat) ^^^ a.toNat = a.toNat ^^^ a.toNat := by rw [e]
  rwa [Nat.xor_comm a.toNat y.toNat, xor_back, Nat.xor_self] at this

/-! ### A place -/
theorem foldupd_inj : ∀ (a : List Sec) {s s' : Nat}, s < 18446744073709551616 → s' < 18446744073709551616 → a.foldl upd s = a.foldl upd s' → s = s'
  | [], _, _, _, _, h => h
  | x :: r, s, s', hs, hs', h => upd_inj x hs hs' (foldupd_inj r (upd_lt s x hs) (upd_lt s' x hs') h)
theorem foldupd_one (S : List Sec) (i : Nat) (hi : i < S.length) (j : Nat) (hj : j < S[i].length) (c : UInt8) (hc : c ≠ S[i][j]) : (S.set i (S[i].set j c)).foldl upd beg ≠ S.foldl upd beg := by
  intro h
  have e1 : S = S.take i ++ S[i] :: S.drop (i + 1) := by simp
  have e2 : S.set i (S[i].set j c) = S.take i ++ S[i].set j c :: S.drop (i + 1) := by rw [List.set_eq_take_append_cons_drop, if_pos hi]
  have h1 : S.foldl upd beg = (S.drop (i + 1)).foldl upd (upd ((S.take i).foldl upd beg) S[i]) := by
    conv => lhs; rw [e1, List.foldl_append, List.foldl_cons]
  rw [e2, List.foldl_append, List.foldl_cons, h1] at h
  have hl := foldupd_lt (S.take i) beg beg_lt
  exact upd_one _ hl _ j hj c hc (foldupd_inj _ (upd_lt _ _ hl) (upd_lt _ _ hl) h)

/-! ### The control -/
theorem ctl_take (e u p : Nat) : (ctl e u p).take 26 = ctl1 e u p := by
  unfold ctl pad
  rw [List.append_assoc, List.take_append_of_le_length (by rw [ctl1_length]; omega), ← ctl1_length e u p, List.take_length]
theorem ctl_drop (e u p : Nat) : (ctl e u p).drop 26 = le 8 (upd beg (ctl1 e u p)) ++ List.replicate 94 0 := by
  unfold ctl pad
  have hl : (ctl1 e u p ++ le 8 (upd beg (ctl1 e u p))).length = 34 := by rw [List.length_append, ctl1_length, le_length]
  rw [hl, List.append_assoc, ← ctl1_length e u p, List.drop_left]
theorem isCtl_one (e u p j : Nat) (hj : j < (ctl e u p).length) (c : UInt8) (hc : c ≠ (ctl e u p)[j]) : isCtl ((ctl e u p).set j c) = false := by
  cases hi : isCtl ((ctl e u p).set j c) with
  | false => rfl
  | true =>
    exfalso
    unfold isCtl at hi
    have h : ctl (ctlE ((ctl e u p).set j c)) (ctlU ((ctl e u p).set j c)) (ctlP ((ctl e u p).set j c)) = (ctl e u p).set j c := by simpa using hi
    generalize ctlE ((ctl e u p).set j c) = e' at h
    generalize ctlU ((ctl e u p).set j c) = u' at h
    generalize ctlP ((ctl e u p).set j c) = p' at h
    have ht := congrArg (List.take 26) h
    have hd := congrArg (List.drop 26) h
    rw [ctl_take] at ht
    rw [ctl_drop] at hd
    by_cases h26 : j < 26
    · rw [List.take_set, ctl_take] at ht
      rw [List.drop_set_of_lt h26, ctl_drop] at hd
      have h8 := (List.append_inj hd (by rw [le_length, le_length])).1
      have hjA : j < (ctl1 e u p).length := by rw [ctl1_length]; exact h26
      have hcA : c ≠ (ctl1 e u p)[j] := by
        have : (ctl1 e u p)[j] = (ctl e u p)[j] := by simp only [← ctl_take e u p, List.getElem_take]
        rw [this]; exact hc
      have e1 := congrArg num h8
      rw [num_le 8 _ (upd_lt _ _ beg_lt), num_le 8 _ (upd_lt _ _ beg_lt), ht] at e1
      exact upd_one beg beg_lt _ j hjA c hcA e1
    · rw [List.take_set_of_le (by omega), ctl_take] at ht
      rw [ht, ← ctl_drop e u p] at hd
      have := congrArg (fun l => l[j - 26]?) hd
      simp only [List.getElem?_drop, show 26 + (j - 26) = j by omega] at this
      rw [List.getElem?_set_self hj, List.getElem?_eq_getElem hj] at this
      exact hc (Option.some.inj this).symm

end Go.Proofs.Ytagcpjekeogkbaa.Wl
