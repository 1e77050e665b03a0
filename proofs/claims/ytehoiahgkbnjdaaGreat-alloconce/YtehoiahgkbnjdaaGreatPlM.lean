import Derived.Test.YtehoiahgkbnjdaaGreatGai
/- The law's own: act. -/
namespace Go.Proofs.YtehoiahgkbnjdaaGreat.Al
open Go.RowKit Go.Shelf Dk Wl

set_option maxRecDepth 100000 in
set_option maxHeartbeats 4000000 in
theorem act_any {G : Nat → Prop} {w : World} {l p bl bt sp n m : Nat} {T : Nat → Sec} {D : Dsk} {L : Lg} (h : OwnL G w l p bl bt D L) (hs : Spc G w sp l (lay n)) (a : AI n m T D L) (h1 : 64 ≤ n) (h2 : n ≤ 1024) (K N : Int) :
    Calls Tryz.prog 23 #[pv sp, .agg #[.int .i64 K, .int .i64 N]] w fun e w' => e = .returned (.tuple #[]) ∧ Acts G w l p bl bt n m T D w' := by
  have f0 : Nw w (w.alloc (.cells #[.int .i64 K, .int .i64 N] 36)) := (Fr.refl _ w).alloc _
  have HB := hid (Block_act (h.nw f0) (hs.kp f0.kp) a h1 h2)
  have HI := hid (Inode_act (h.nw f0) (hs.kp f0.kp) a h1 h2)
  have HF := hid (Free_act (h.nw f0) (hs.kp f0.kp) a h1 h2 N)
  have HG := hid (FreeInode_act (h.nw f0) (hs.kp f0.kp) a h1 h2 N)
  have H0 : Hid (∀ w', Acts G (w.alloc (.cells #[.int .i64 K, .int .i64 N] 36)) l p bl bt n m T D w' → Acts G w l p bl bt n m T D w') := by
    rintro w' ⟨L', a1, a2, a3⟩
    exact ⟨L', a1, a2, Kp.trans f0.kp a3⟩
  have H5 : Hid (Acts G w l p bl bt n m T D (w.alloc (.cells #[.int .i64 K, .int .i64 N] 36))) := ⟨L, h.nw f0, a, f0.kp⟩
  clear h hs a h1 h2 f0
  go_enter Tryz.func23, Tryz.ntmps23
  go_wp2_with (first
    | (go_at_call 17; refine HB.out.mono ?_; rintro x w2 ⟨x1, x2, rfl, q2⟩; have HQ := hid (H0.out _ q2); clear q2)
    | (go_at_call 27; refine HI.out.mono ?_; rintro x w2 ⟨x1, x2, rfl, q2⟩; have HQ := hid (H0.out _ q2); clear q2)
    | (go_at_call 22; refine HF.out.mono ?_; rintro x w2 ⟨x1, rfl, q2⟩; have HQ := hid (H0.out _ q2); clear q2)
    | (go_at_call 28; refine HG.out.mono ?_; rintro x w2 ⟨x1, rfl, q2⟩; have HQ := hid (H0.out _ q2); clear q2))
  all_goals
    first
      | exact bodyPost_end (results_none rfl _ _ _) rfl ⟨rfl, HQ.out⟩
      | exact bodyPost_end (results_none rfl _ _ _) rfl ⟨rfl, H5.out⟩

end Go.Proofs.YtehoiahgkbnjdaaGreat.Al
/- Has and HasInode over a space's log in plain words. -/
namespace Go.Proofs.YtehoiahgkbnjdaaGreat.Al
open Go.RowKit Go.Shelf Dk Wl

theorem brunH (zr : Nat) (k : Int) (b : Sec) : brun stepH zr 1 k b false false = (b, bitOf b (k - zr).toNat, false) := by
  simp [brun, stepH]
def hasB (n : Nat) (b : Sec) (k : Int) : Bool := if (lay n).da ≤ k ∧ k < n then bitOf b (k - (lay n).da).toNat else false
def hasI (n : Nat) (b : Sec) (k : Int) : Bool := if 1 ≤ k ∧ k < (lay n).no then bitOf b k.toNat else false

section
variable {G : Nat → Prop} {w : World} {l p bl bt sp n m : Nat} {T : Nat → Sec} {D : Dsk} {L : Lg}
theorem Has_ai (h : OwnL G w l p bl bt D L) (hs : Spc G w sp l (lay n)) (a : AI n m T D L) (h1 : 64 ≤ n) (h2 : n ≤ 1024) (k : Int) :
    Calls Tryz.prog 21 #[pv sp, .int .i64 k] w fun e w' => e = .returned (.tuple #[.bool (hasB n (over L.st T (lay n).mp) k), .int .i64 0]) ∧ OwnL G w' l p bl bt D L ∧ Kp G w w' := by
  have hy := lay_b n h1 h2
  have hs' : (lay n).s = n := rfl
  have ht := a.tell (lay n).mp (by omega) (.inr (by omega))
  unfold hasB
  by_cases hk : (lay n).da ≤ k ∧ k < n
  · rw [if_pos hk, ← ht]
    have ef : max k ((lay n).da : Int) = k := by omega
    have el : min k (((lay n).s : Int) - 1) = k := by omega
    refine Has_of hs k _ 0 (Q := fun w' => OwnL G w' l p bl bt D L ∧ Kp G w w') (has_any h sp (lay n) hs 49 (lay n).mp (lay n).da _ _ (kindB (lay n) (by omega) (by omega)) k (by simp only [hs']; omega) (by omega) (by simp only [hs']; omega) (by omega) (a.reach _ (by omega) (.inr (by omega))) a.up (a.few h2) (L.tell D (lay n).mp) _ ?_)
    have e1 : ((fun l => min l (((lay n).s : Int) - 1)) k + 1 - (fun f => max f ((lay n).da : Int)) k).toNat = 1 := by simp only [ef, el]; omega
    rw [e1]
    show brun stepH (lay n).da 1 (max k ((lay n).da : Int)) _ false false = _
    rw [ef, brunH]
  · rw [if_neg hk]
    refine Has_of hs k false 0 (Q := fun w' => OwnL G w' l p bl bt D L ∧ Kp G w w') ((has_none w sp (lay n) 49 (lay n).mp (lay n).da _ _ (kindB (lay n) (by omega) (by omega)) k (by show min k (((lay n).s : Int) - 1) < max k ((lay n).da : Int); omega)).mono ?_)
    rintro e w' ⟨he, f⟩
    exact ⟨he, h.nw f, f.kp⟩
theorem HasInode_ai (h : OwnL G w l p bl bt D L) (hs : Spc G w sp l (lay n)) (a : AI n m T D L) (h1 : 64 ≤ n) (h2 : n ≤ 1024) (k : Int) :
    Calls Tryz.prog 38 #[pv sp, .int .i64 k] w fun e w' => e = .returned (.tuple #[.bool (hasI n (over L.st T (lay n).nd) k), .int .i64 0]) ∧ OwnL G w' l p bl bt D L ∧ Kp G w w' := by
  have hy := lay_b n h1 h2
  have hs' : (lay n).s = n := rfl
  have ht := a.tell (lay n).nd (by omega) (.inr (by omega))
  unfold hasI
  by_cases hk : 1 ≤ k ∧ k < (lay n).no
  · rw [if_pos hk, ← ht]
    have ef : max k 1 = k := by omega
    have el : min k (((lay n).no : Int) - 1) = k := by omega
    refine HasInode_of hs k _ 0 (Q := fun w' => OwnL G w' l p bl bt D L ∧ Kp G w w') (has_any h sp (lay n) hs 60 (lay n).nd 0 _ _ (kindI (lay n) (by omega) (by omega)) k (by show max k 1 ≤ min k (((lay n).no : Int) - 1); omega) (by show ((0 : Nat) : Int) ≤ max k 1; omega) (by show min k (((lay n).no : Int) - 1) - ((0 : Nat) : Int) < 1024; omega) (by omega) (a.reach _ (by omega) (.inr (by omega))) a.up (a.few h2) (L.tell D (lay n).nd) _ ?_)
    have e1 : ((fun l => min l (((lay n).no : Int) - 1)) k + 1 - (fun f => max f 1) k).toNat = 1 := by simp only [ef, el]; omega
    rw [e1]
    show brun stepH 0 1 (max k 1) _ false false = _
    rw [ef, brunH]
    simp
  · rw [if_neg hk]
    refine HasInode_of hs k false 0 (Q := fun w' => OwnL G w' l p bl bt D L ∧ Kp G w w') ((has_none w sp (lay n) 60 (lay n).nd 0 _ _ (kindI (lay n) (by omega) (by omega)) k (by show min k (((lay n).no : Int) - 1) < max k 1; omega)).mono ?_)
    rintro e w' ⟨he, f⟩
    exact ⟨he, h.nw f, f.kp⟩
end

end Go.Proofs.YtehoiahgkbnjdaaGreat.Al
/- Maps of bits in plain words: what give, count, has and take make of one. -/
namespace Go.Proofs.YtehoiahgkbnjdaaGreat.Al
open Go.RowKit Go.Shelf Dk Wl

theorem brunG_done (zr : Nat) : ∀ (N : Nat) (k : Int) (b : Sec) (s : Int) (t : Bool), s ≠ 0 → brun stepG zr N k b s t = (b, s, t)
  | 0, _, _, _, _, _ => rfl
  | N + 1, k, b, s, t, hs => by
    have e : stepG s k (bitOf b (k - zr).toNat) = (false, s) := by unfold stepG; split <;> simp
    unfold brun
    rw [e]
    simp only [Bool.false_eq_true, if_false, Bool.or_false]
    exact brunG_done zr N _ b s t hs
/-- give: the least one that is not in use, or none. -/
theorem brunG_any (zr : Nat) : ∀ (N k : Nat) (b : Sec) (t : Bool), 0 < k → zr ≤ k →
    ((∀ j, k ≤ j → j < k + N → bitOf b (j - zr) = true) ∧ brun stepG zr N (k : Int) b 0 t = (b, 0, t)) ∨
    ∃ j, k ≤ j ∧ j < k + N ∧ bitOf b (j - zr) = false ∧ (∀ i, k ≤ i → i < j → bitOf b (i - zr) = true) ∧ brun stepG zr N (k : Int) b 0 t = (flipB b (j - zr), (j : Int), true)
  | 0, k, b, t, _, _ => .inl ⟨fun j h1 h2 => by omega, rfl⟩
  | N + 1, k, b, t, h0, hz => by
    have ek : ((k : Int) - (zr : Int)).toNat = k - zr := by omega
    cases hb : bitOf b (k - zr) with
    | true =>
      have e : stepG 0 (k : Int) (bitOf b ((k : Int) - zr).toNat) = (false, 0) := by rw [ek, hb]; rfl
      have u : brun stepG zr (N + 1) (k : Int) b 0 t = brun stepG zr N ((k + 1 : Nat) : Int) b 0 t := by
        rw [brun, e]
        simp
      rw [u]
      rcases brunG_any zr N (k + 1) b t (by omega) (by omega) with ⟨h1, h2⟩ | ⟨j, h1, h2, h3, h4, h5⟩
      · refine .inl ⟨fun j g1 g2 => ?_, h2⟩
        by_cases hj : j = k
        · rw [hj]; exact hb
        · exact h1 j (by omega) (by omega)
      · refine .inr ⟨j, by omega, by omega, h3, fun i g1 g2 => ?_, h5⟩
        by_cases hi : i = k
        · rw [hi]; exact hb
        · exact h4 i (by omega) g2
    | false =>
      have e : stepG 0 (k : Int) (bitOf b ((k : Int) - zr).toNat) = (true, (k : Int)) := by rw [ek, hb]; simp [stepG]
      refine .inr ⟨k, Nat.le_refl _, by omega, hb, fun i g1 g2 => by omega, ?_⟩
      rw [brun, e]
      simp only [if_true, Bool.or_true, ek]
      exact brunG_done zr N _ _ _ _ (by omega)
/-- How many are not in use. -/
def frees (b : Sec) : Nat → Nat → Nat
  | 0, _ => 0
  | N + 1, j => (if bitOf b j then 0 else 1) + frees b N (j + 1)
theorem frees_le (b : Sec) : ∀ N j, frees b N j ≤ N
  | 0, _ => Nat.le_refl _
  | N + 1, j => by
    have := frees_le b N (j + 1)
    unfold frees
    split <;> omega
theorem frees_none (b : Sec) : ∀ N j, (∀ i, j ≤ i → i < j + N → bitOf b i = true) → frees b N j = 0
  | 0, _, _ => rfl
  | N + 1, j, h => by
    unfold frees
    rw [h j (by omega) (by omega), frees_none b N (j + 1) (fun i h1 h2 => h i (by omega) (by omega))]
    rfl
theorem brunC_any (zr : Nat) : ∀ (N k : Nat) (b : Sec) (c : Nat) (t : Bool), zr ≤ k → c + N ≤ 100000 → brun stepC zr N (k : Int) b (c : Int) t = (b, ((c + frees b N (k - zr) : Nat) : Int), t)
  | 0, k, b, c, t, _, _ => rfl
  | N + 1, k, b, c, t, hz, hc => by
    have ek : ((k : Int) - (zr : Int)).toNat = k - zr := by omega
    have e : stepC (c : Int) (k : Int) (bitOf b ((k : Int) - zr).toNat) = (false, ((c + (if bitOf b (k - zr) then 0 else 1) : Nat) : Int)) := by
      rw [ek]
      unfold stepC
      cases bitOf b (k - zr)
      · simp only [Bool.false_eq_true, if_false]
        have : wrap64 ((c : Int) + 1) = ((c + 1 : Nat) : Int) := by unfold wrap64; omega
        rw [this]
      · simp
    rw [brun, e]
    simp only [Bool.false_eq_true, if_false, Bool.or_false]
    rw [show (k : Int) + 1 = ((k + 1 : Nat) : Int) by omega, brunC_any zr N (k + 1) b _ t (by omega) (by split <;> omega), show k + 1 - zr = k - zr + 1 by omega]
    simp only [frees, Nat.add_assoc]
theorem brunT1 (zr k : Nat) (hz : zr ≤ k) (b : Sec) : brun stepT zr 1 (k : Int) b false false = (if bitOf b (k - zr) then flipB b (k - zr) else b, bitOf b (k - zr), bitOf b (k - zr)) := by
  have ek : ((k : Int) - (zr : Int)).toNat = k - zr := by omega
  simp [brun, stepT, ek]

theorem testBit_flip : ∀ x, x < 256 → ∀ i, i < 8 → ∀ j, j < 8 → (x ^^^ 2 ^ j).testBit i = (if i = j then !x.testBit i else x.testBit i) := by decide +kernel
theorem bitOf_flip (b : Sec) (j i : Nat) (hj : j / 8 < b.length) : bitOf (flipB b j) i = if i = j then !bitOf b i else bitOf b i := by
  unfold bitOf flipB
  by_cases he : i / 8 = j / 8
  · rw [he]
    have hg : (b.set (j / 8) (b.getD (j / 8) 0 ^^^ UInt8.ofNat (2 ^ (j % 8)))).getD (j / 8) 0 = b.getD (j / 8) 0 ^^^ UInt8.ofNat (2 ^ (j % 8)) := by
      simp [List.getD, hj]
    have h8 : i % 8 < 8 := Nat.mod_lt _ (by omega)
    have g8 : j % 8 < 8 := Nat.mod_lt _ (by omega)
    rw [hg, UInt8.toNat_xor, UInt8.toNat_ofNat', Nat.mod_eq_of_lt (pow8_lt _ g8), testBit_flip _ (UInt8.toNat_lt _) _ h8 _ g8]
    by_cases hm : i % 8 = j % 8
    · rw [if_pos hm, if_pos (by omega)]
    · rw [if_neg hm, if_neg (by omega)]
  · have hg : (b.set (j / 8) (b.getD (j / 8) 0 ^^^ UInt8.ofNat (2 ^ (j % 8)))).getD (i / 8) 0 = b.getD (i / 8) 0 := by
      simp [List.getD, List.getElem?_set_ne (Ne.symm he)]
    rw [hg, if_neg (by omega)]
theorem bitOf_zeros (j : Nat) : bitOf zeros j = false := by
  have : zeros.getD (j / 8) 0 = 0 := by
    unfold zeros
    rw [List.getD_eq_getElem?_getD, List.getElem?_replicate]
    split <;> rfl
  unfold bitOf
  rw [this]
  simp
theorem frees_zeros : ∀ N j, frees zeros N j = N
  | 0, _ => rfl
  | N + 1, j => by
    unfold frees
    rw [bitOf_zeros, frees_zeros N (j + 1)]
    simp; omega

end Go.Proofs.YtehoiahgkbnjdaaGreat.Al
/- Block, Free, Blocks of a space, over its map in plain words; Layout. -/
namespace Go.Proofs.YtehoiahgkbnjdaaGreat.Al
open Go.RowKit Go.Shelf Dk Wl

theorem runB_eq {σ : Type} (step : σ → Int → Bool → Bool × σ) (n : Nat) (h1 : 64 ≤ n) (h2 : n ≤ 1024) (b : Sec) (s : σ) : runB step n b s = brun step (lay n).da (n - (lay n).da) (((lay n).da : Nat) : Int) b s false := by
  have hy := lay_b n h1 h2
  have hs' : (lay n).s = n := rfl
  unfold runB
  rw [hs', show (min (n : Int) ((n : Int) - 1) + 1 - max 0 ((lay n).da : Int)).toNat = n - (lay n).da by omega, show max 0 ((lay n).da : Int) = ((lay n).da : Int) by omega]

section
variable {G : Nat → Prop} {w : World} {l p bl bt sp n m : Nat} {T : Nat → Sec} {D : Dsk} {L : Lg}
/-- No block is left. -/
theorem Block_none (h : OwnL G w l p bl bt D L) (hs : Spc G w sp l (lay n)) (a : AI n m T D L) (h1 : 64 ≤ n) (h2 : n ≤ 1024) (b : Sec) (hb : over L.st T (lay n).mp = b) (hR : runB stepG n b 0 = (b, 0, false)) :
    Calls Tryz.prog 17 #[pv sp] w fun e w' => e = .returned (.tuple #[.int .i64 0, .int .i64 47]) ∧ OwnL G w' l p bl bt D L ∧ Kp G w w' := by
  have hy := lay_b n h1 h2
  have hs' : (lay n).s = n := rfl
  have ht := a.tell (lay n).mp (by omega) (.inr (by omega))
  rw [hb] at ht
  rw [← ht] at hR
  have gv := give_any h sp (lay n) hs 49 (lay n).mp (lay n).da _ _ (kindB (lay n) (by omega) (by omega)) (by simp only [hs']; omega) (by omega) (by simp only [hs']; omega) (by omega) (a.reach _ (by omega) (.inr (by omega))) a.up (a.few h2) _ 0 false hR
  simp only [bitE, bitL, Bool.false_eq_true, if_false, ne_eq, not_true_eq_false, if_true] at gv
  exact Block_fail hs 0 47 (by omega) gv
theorem Block_pl (h : OwnL G w l p bl bt D L) (hs : Spc G w sp l (lay n)) (a : AI n m T D L) (h1 : 64 ≤ n) (h2 : n ≤ 1024) (b : Sec) (hb : over L.st T (lay n).mp = b) (hl : b.length = 128) :
    ((∀ j, (lay n).da ≤ j → j < n → bitOf b (j - (lay n).da) = true) ∧ Calls Tryz.prog 17 #[pv sp] w fun e w' => e = .returned (.tuple #[.int .i64 0, .int .i64 47]) ∧ OwnL G w' l p bl bt D L ∧ Kp G w w') ∨
    ∃ j, (lay n).da ≤ j ∧ j < n ∧ bitOf b (j - (lay n).da) = false ∧ (cost (L.st.length + 2) ≤ (lay n).ll - 1 →
      ∃ L', (Calls Tryz.prog 17 #[pv sp] w fun e w' => e = .returned (.tuple #[.int .i64 (j : Int), .int .i64 0]) ∧ OwnL G w' l p bl bt D L' ∧ Kp G w w') ∧ AI n m T D L' ∧ L'.st = ins j zeros (ins (lay n).mp (flipB b (j - (lay n).da)) L.st)) := by
  have hy := lay_b n h1 h2
  have hR := runB_eq stepG n h1 h2 b 0
  rcases brunG_any (lay n).da (n - (lay n).da) (lay n).da b false (by omega) (Nat.le_refl _) with ⟨g1, g2⟩ | ⟨j, g1, g2, g3, g4, g5⟩
  · rw [g2] at hR
    exact .inl ⟨fun j a1 a2 => g1 j a1 (by omega), Block_none h hs a h1 h2 b hb hR⟩
  · rw [g5] at hR
    exact .inr ⟨j, g1, by omega, g3, fun hc => Block_ai h hs a h1 h2 b hb _ (by rw [flipB_length]; exact hl) j g1 (by omega) hR hc⟩
theorem Blocks_pl (h : OwnL G w l p bl bt D L) (hs : Spc G w sp l (lay n)) (a : AI n m T D L) (h1 : 64 ≤ n) (h2 : n ≤ 1024) (b : Sec) (hb : over L.st T (lay n).mp = b) :
    Calls Tryz.prog 16 #[pv sp] w fun e w' => e = .returned (.tuple #[.int .i64 ((frees b (n - (lay n).da) 0 : Nat) : Int), .int .i64 0]) ∧ OwnL G w' l p bl bt D L ∧ Kp G w w' := by
  have hR := runB_eq stepC n h1 h2 b 0
  have g := brunC_any (lay n).da (n - (lay n).da) (lay n).da b 0 false (Nat.le_refl _) (by omega)
  rw [Nat.sub_self, Nat.zero_add] at g
  exact Blocks_ai h hs a h1 h2 b hb _ b (hR.trans g)
theorem Free_pl (h : OwnL G w l p bl bt D L) (hs : Spc G w sp l (lay n)) (a : AI n m T D L) (h1 : 64 ≤ n) (h2 : n ≤ 1024) (k : Nat) (hk1 : (lay n).da ≤ k) (hk2 : k < n) (b : Sec) (hb : over L.st T (lay n).mp = b) (hl : b.length = 128) (hbit : bitOf b (k - (lay n).da) = true) (hc : cost (L.st.length + 1) ≤ (lay n).ll - 1) :
    ∃ L', (Calls Tryz.prog 22 #[pv sp, .int .i64 (k : Int)] w fun e w' => e = .returned (.int .i64 0) ∧ (OwnL G w' l p bl bt D L' ∧ Kp G w w')) ∧ AI n m T D L' ∧ L'.st = ins (lay n).mp (flipB b (k - (lay n).da)) L.st := by
  refine Free_ai h hs a h1 h2 k hk1 hk2 b hb _ (by rw [flipB_length]; exact hl) ?_ hc
  rw [brunT1 _ _ hk1, hbit]
  rfl
theorem Free_not (h : OwnL G w l p bl bt D L) (hs : Spc G w sp l (lay n)) (a : AI n m T D L) (h1 : 64 ≤ n) (h2 : n ≤ 1024) (k : Nat) (hk1 : (lay n).da ≤ k) (hk2 : k < n) (b : Sec) (hb : over L.st T (lay n).mp = b) (hbit : bitOf b (k - (lay n).da) = false) :
    Calls Tryz.prog 22 #[pv sp, .int .i64 (k : Int)] w fun e w' => e = .returned (.int .i64 48) ∧ (OwnL G w' l p bl bt D L ∧ Kp G w w') := by
  have hy := lay_b n h1 h2
  have hs' : (lay n).s = n := rfl
  have ht := a.tell (lay n).mp (by omega) (.inr (by omega))
  rw [hb] at ht
  have hR : brun stepT (lay n).da (min (k : Int) (((lay n).s : Int) - 1) + 1 - max (k : Int) ((lay n).da : Int)).toNat (max (k : Int) ((lay n).da : Int)) (L.tell D (lay n).mp) false false = (b, false, false) := by
    rw [ht, hs', show (min (k : Int) ((n : Int) - 1) + 1 - max (k : Int) ((lay n).da : Int)).toNat = 1 by omega, show max (k : Int) ((lay n).da : Int) = (k : Int) by omega, brunT1 _ _ hk1, hbit]
    rfl
  have g1 := take_any h sp (lay n) hs 49 (lay n).mp (lay n).da _ _ (kindB (lay n) (by omega) (by omega)) (k : Int) 48 (by show max (k : Int) ((lay n).da : Int) ≤ min (k : Int) (((lay n).s : Int) - 1); rw [hs']; omega) (by show ((lay n).da : Int) ≤ max (k : Int) ((lay n).da : Int); omega) (by show min (k : Int) (((lay n).s : Int) - 1) - ((lay n).da : Int) < 1024; omega) (by omega) (a.reach _ (by omega) (.inr (by omega))) a.up (a.few h2) b false false hR
  simp only [bitE, bitL, Bool.false_eq_true, if_false, and_self, if_true] at g1
  exact Free_of hs (k : Int) 48 (Q := fun _ w' => OwnL G w' l p bl bt D L ∧ Kp G w w') g1

set_option maxRecDepth 100000 in
set_option maxHeartbeats 1000000 in
theorem Layout_ok {y : Ly} (hs : Spc G w sp l y) : Calls Tryz.prog 12 #[pv sp] w fun e w' => e = .returned y.v ∧ Nw w w' := by
  have HR2 : Hid (∀ o : Obj, (w.alloc o).rangeAt sp 1 y.cells) := fun o => World.rangeAt_alloc hs.range o
  clear hs
  have HV : Hid (y.v = .agg y.cells.toArray) := rfl
  rw [HV.out]
  clear HV
  have Hsz := hid (sz24 y)
  have HF : Hid (Nw w (w.alloc (.cells y.cells.toArray 38))) := (Fr.refl _ w).alloc _
  have HB := hid (Blk.new w 38 y.cells)
  unfold Ly.cells at *
  go_enter Tryz.func12, Tryz.ntmps12
  go_wp2_with (first | (refine wpList_load_mid (by rfl) 38 _ (by rfl) sp 1 (by rfl) _ _ (HR2.out _) Tryz.underlying38 rfl Hsz.out ?_))
  refine bodyPost_ret (results_cell_row (P := Tryz.prog) rfl _ _ w.heap.size 38 _ (0, 0) _ rfl HB.out Tryz.underlying38 rfl Hsz.out) rfl ⟨rfl, HF.out⟩
end

end Go.Proofs.YtehoiahgkbnjdaaGreat.Al
