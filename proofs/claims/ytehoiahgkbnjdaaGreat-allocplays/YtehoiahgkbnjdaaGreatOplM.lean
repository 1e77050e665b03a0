import Derived.Test.YtehoiahgkbnjdaaGreatHasM
import Derived.Test.YtehoiahgkbnjdaaGreatRf7M
import Derived.Test.YtehoiahgkbnjdaaGreatOpx
/- Maps of bits in plain words: what give, count, has and take make of one. -/
namespace Go.Proofs.YtehoiahgkbnjdaaGreat.Al
open Go.RowKit Go.Shelf Dk Wl

theorem brunG_done (zr : Nat) : ∀ (N : Nat) (k : Int) (b : Sec) (s : Int) (t : Bool), s ≠ 0 → brun stepG zr N k b s t = (b, s, t)
  | 0, _, _, _, _, _ => rfl
  | N + 1, k, b, s, t, hs => by
    have e : stepG s k (bitOf b (k - zr).toNat) = (false, s) := by unfold stepG; split <;> simp
    unfold brun
    rw [e]
    simp only [Bool.false_eq_true, if_false, Bool.or_false]
    exact brunG_done zr N _ b s t hs
/-- give: the least one that is not in use, or none. -/
theorem brunG_any (zr : Nat) : ∀ (N k : Nat) (b : Sec) (t : Bool), 0 < k → zr ≤ k →
    ((∀ j, k ≤ j → j < k + N → bitOf b (j - zr) = true) ∧ brun stepG zr N (k : Int) b 0 t = (b, 0, t)) ∨
    ∃ j, k ≤ j ∧ j < k + N ∧ bitOf b (j - zr) = false ∧ (∀ i, k ≤ i → i < j → bitOf b (i - zr) = true) ∧ brun stepG zr N (k : Int) b 0 t = (flipB b (j - zr), (j : Int), true)
  | 0, k, b, t, _, _ => .inl ⟨fun j h1 h2 => by omega, rfl⟩
  | N + 1, k, b, t, h0, hz => by
    have ek : ((k : Int) - (zr : Int)).toNat = k - zr := by omega
    cases hb : bitOf b (k - zr) with
    | true =>
      have e : stepG 0 (k : Int) (bitOf b ((k : Int) - zr).toNat) = (false, 0) := by rw [ek, hb]; rfl
      have u : brun stepG zr (N + 1) (k : Int) b 0 t = brun stepG zr N ((k + 1 : Nat) : Int) b 0 t := by
        rw [brun, e]
        simp
      rw [u]
      rcases brunG_any zr N (k + 1) b t (by omega) (by omega) with ⟨h1, h2⟩ | ⟨j, h1, h2, h3, h4, h5⟩
      · refine .inl ⟨fun j g1 g2 => ?_, h2⟩
        by_cases hj : j = k
        · rw [hj]; exact hb
        · exact h1 j (by omega) (by omega)
      · refine .inr ⟨j, by omega, by omega, h3, fun i g1 g2 => ?_, h5⟩
        by_cases hi : i = k
        · rw [hi]; exact hb
        · exact h4 i (by omega) g2
    | false =>
      have e : stepG 0 (k : Int) (bitOf b ((k : Int) - zr).toNat) = (true, (k : Int)) := by rw [ek, hb]; simp [stepG]
      refine .inr ⟨k, Nat.le_refl _, by omega, hb, fun i g1 g2 => by omega, ?_⟩
      rw [brun, e]
      simp only [if_true, Bool.or_true, ek]
      exact brunG_done zr N _ _ _ _ (by omega)
/-- How many are not in use. -/
def frees (b : Sec) : Nat → Nat → Nat
  | 0, _ => 0
  | N + 1, j => (if bitOf b j then 0 else 1) + frees b N (j + 1)
theorem frees_le (b : Sec) : ∀ N j, frees b N j ≤ N
  | 0, _ => Nat.le_refl _
  | N + 1, j => by
    have := frees_le b N (j + 1)
    unfold frees
    split <;> omega
theorem frees_none (b : Sec) : ∀ N j, (∀ i, j ≤ i → i < j + N → bitOf b i = true) → frees b N j = 0
  | 0, _, _ => rfl
  | N + 1, j, h => by
    unfold frees
    rw [h j (by omega) (by omega), frees_none b N (j + 1) (fun i h1 h2 => h i (by omega) (by omega))]
    rfl
theorem brunC_any (zr : Nat) : ∀ (N k : Nat) (b : Sec) (c : Nat) (t : Bool), zr ≤ k → c + N ≤ 100000 → brun stepC zr N (k : Int) b (c : Int) t = (b, ((c + frees b N (k - zr) : Nat) : Int), t)
  | 0, k, b, c, t, _, _ => rfl
  | N + 1, k, b, c, t, hz, hc => by
    have ek : ((k : Int) - (zr : Int)).toNat = k - zr := by omega
    have e : stepC (c : Int) (k : Int) (bitOf b ((k : Int) - zr).toNat) = (false, ((c + (if bitOf b (k - zr) then 0 else 1) : Nat) : Int)) := by
      rw [ek]
      unfold stepC
      cases bitOf b (k - zr)
      · simp only [Bool.false_eq_true, if_false]
        have : wrap64 ((c : Int) + 1) = ((c + 1 : Nat) : Int) := by unfold wrap64; omega
        rw [this]
      · simp
    rw [brun, e]
    simp only [Bool.false_eq_true, if_false, Bool.or_false]
    rw [show (k : Int) + 1 = ((k + 1 : Nat) : Int) by omega, brunC_any zr N (k + 1) b _ t (by omega) (by split <;> omega), show k + 1 - zr = k - zr + 1 by omega]
    simp only [frees, Nat.add_assoc]
theorem brunT1 (zr k : Nat) (hz : zr ≤ k) (b : Sec) : brun stepT zr 1 (k : Int) b false false = (if bitOf b (k - zr) then flipB b (k - zr) else b, bitOf b (k - zr), bitOf b (k - zr)) := by
  have ek : ((k : Int) - (zr : Int)).toNat = k - zr := by omega
  simp [brun, stepT, ek]

theorem testBit_flip : ∀ x, x < 256 → ∀ i, i < 8 → ∀ j, j < 8 → (x ^^^ 2 ^ j).testBit i = (if i = j then !x.testBit i else x.testBit i) := by decide +kernel
theorem bitOf_flip (b : Sec) (j i : Nat) (hj : j / 8 < b.length) : bitOf (flipB b j) i = if i = j then !bitOf b i else bitOf b i := by
  unfold bitOf flipB
  by_cases he : i / 8 = j / 8
  · rw [he]
    have hg : (b.set (j / 8) (b.getD (j / 8) 0 ^^^ UInt8.ofNat (2 ^ (j % 8)))).getD (j / 8) 0 = b.getD (j / 8) 0 ^^^ UInt8.ofNat (2 ^ (j % 8)) := by
      simp [List.getD, hj]
    have h8 : i % 8 < 8 := Nat.mod_lt _ (by omega)
    have g8 : j % 8 < 8 := Nat.mod_lt _ (by omega)
    rw [hg, UInt8.toNat_xor, UInt8.toNat_ofNat', Nat.mod_eq_of_lt (pow8_lt _ g8), testBit_flip _ (UInt8.toNat_lt _) _ h8 _ g8]
    by_cases hm : i % 8 = j % 8
    · rw [if_pos hm, if_pos (by omega)]
    · rw [if_neg hm, if_neg (by omega)]
  · have hg : (b.set (j / 8) (b.getD (j / 8) 0 ^^^ UInt8.ofNat (2 ^ (j % 8)))).getD (i / 8) 0 = b.getD (i / 8) 0 := by
      simp [List.getD, List.getElem?_set_ne (Ne.symm he)]
    rw [hg, if_neg (by omega)]
theorem bitOf_zeros (j : Nat) : bitOf zeros j = false := by
  have : zeros.getD (j / 8) 0 = 0 := by
    unfold zeros
    rw [List.getD_eq_getElem?_getD, List.getElem?_replicate]
    split <;> rfl
  unfold bitOf
  rw [this]
  simp
theorem frees_zeros : ∀ N j, frees zeros N j = N
  | 0, _ => rfl
  | N + 1, j => by
    unfold frees
    rw [bitOf_zeros, frees_zeros N (j + 1)]
    simp; omega

end Go.Proofs.YtehoiahgkbnjdaaGreat.Al
/- Block, Free, Blocks of a space, over its map in plain words; Layout. -/
namespace Go.Proofs.YtehoiahgkbnjdaaGreat.Al
open Go.RowKit Go.Shelf Dk Wl

theorem runB_eq {σ : Type} (step : σ → Int → Bool → Bool × σ) (n : Nat) (h1 : 64 ≤ n) (h2 : n ≤ 1024) (b : Sec) (s : σ) : runB step n b s = brun step (lay n).da (n - (lay n).da) (((lay n).da : Nat) : Int) b s false := by
  have hy := lay_b n h1 h2
  have hs' : (lay n).s = n := rfl
  unfold runB
  rw [hs', show (min (n : Int) ((n : Int) - 1) + 1 - max 0 ((lay n).da : Int)).toNat = n - (lay n).da by omega, show max 0 ((lay n).da : Int) = ((lay n).da : Int) by omega]

section
variable {G : Nat → Prop} {w : World} {l p bl bt sp n m : Nat} {T : Nat → Sec} {D : Dsk} {L : Lg}
/-- No block is left. -/
theorem Block_none (h : OwnL G w l p bl bt D L) (hs : Spc G w sp l (lay n)) (a : AI n m T D L) (h1 : 64 ≤ n) (h2 : n ≤ 1024) (b : Sec) (hb : over L.st T (lay n).mp = b) (hR : runB stepG n b 0 = (b, 0, false)) :
    Calls Tryz.prog 17 #[pv sp] w fun e w' => e = .returned (.tuple #[.int .i64 0, .int .i64 47]) ∧ OwnL G w' l p bl bt D L ∧ Kp G w w' := by
  have hy := lay_b n h1 h2
  have hs' : (lay n).s = n := rfl
  have ht := a.tell (lay n).mp (by omega) (.inr (by omega))
  rw [hb] at ht
  rw [← ht] at hR
  have gv := give_any h sp (lay n) hs 49 (lay n).mp (lay n).da _ _ (kindB (lay n) (by omega) (by omega)) (by simp only [hs']; omega) (by omega) (by simp only [hs']; omega) (by omega) (a.reach _ (by omega) (.inr (by omega))) a.up (a.few h2) _ 0 false hR
  simp only [bitE, bitL, Bool.false_eq_true, if_false, ne_eq, not_true_eq_false, if_true] at gv
  exact Block_fail hs 0 47 (by omega) gv
theorem Block_pl (h : OwnL G w l p bl bt D L) (hs : Spc G w sp l (lay n)) (a : AI n m T D L) (h1 : 64 ≤ n) (h2 : n ≤ 1024) (b : Sec) (hb : over L.st T (lay n).mp = b) (hl : b.length = 128) :
    ((∀ j, (lay n).da ≤ j → j < n → bitOf b (j - (lay n).da) = true) ∧ Calls Tryz.prog 17 #[pv sp] w fun e w' => e = .returned (.tuple #[.int .i64 0, .int .i64 47]) ∧ OwnL G w' l p bl bt D L ∧ Kp G w w') ∨
    ∃ j, (lay n).da ≤ j ∧ j < n ∧ bitOf b (j - (lay n).da) = false ∧ (cost (L.st.length + 2) ≤ (lay n).ll - 1 →
      ∃ L', (Calls Tryz.prog 17 #[pv sp] w fun e w' => e = .returned (.tuple #[.int .i64 (j : Int), .int .i64 0]) ∧ OwnL G w' l p bl bt D L' ∧ Kp G w w') ∧ AI n m T D L' ∧ L'.st = ins j zeros (ins (lay n).mp (flipB b (j - (lay n).da)) L.st)) := by
  have hy := lay_b n h1 h2
  have hR := runB_eq stepG n h1 h2 b 0
  rcases brunG_any (lay n).da (n - (lay n).da) (lay n).da b false (by omega) (Nat.le_refl _) with ⟨g1, g2⟩ | ⟨j, g1, g2, g3, g4, g5⟩
  · rw [g2] at hR
    exact .inl ⟨fun j a1 a2 => g1 j a1 (by omega), Block_none h hs a h1 h2 b hb hR⟩
  · rw [g5] at hR
    exact .inr ⟨j, g1, by omega, g3, fun hc => Block_ai h hs a h1 h2 b hb _ (by rw [flipB_length]; exact hl) j g1 (by omega) hR hc⟩
theorem Blocks_pl (h : OwnL G w l p bl bt D L) (hs : Spc G w sp l (lay n)) (a : AI n m T D L) (h1 : 64 ≤ n) (h2 : n ≤ 1024) (b : Sec) (hb : over L.st T (lay n).mp = b) :
    Calls Tryz.prog 16 #[pv sp] w fun e w' => e = .returned (.tuple #[.int .i64 ((frees b (n - (lay n).da) 0 : Nat) : Int), .int .i64 0]) ∧ OwnL G w' l p bl bt D L ∧ Kp G w w' := by
  have hR := runB_eq stepC n h1 h2 b 0
  have g := brunC_any (lay n).da (n - (lay n).da) (lay n).da b 0 false (Nat.le_refl _) (by omega)
  rw [Nat.sub_self, Nat.zero_add] at g
  exact Blocks_ai h hs a h1 h2 b hb _ b (hR.trans g)
theorem Free_pl (h : OwnL G w l p bl bt D L) (hs : Spc G w sp l (lay n)) (a : AI n m T D L) (h1 : 64 ≤ n) (h2 : n ≤ 1024) (k : Nat) (hk1 : (lay n).da ≤ k) (hk2 : k < n) (b : Sec) (hb : over L.st T (lay n).mp = b) (hl : b.length = 128) (hbit : bitOf b (k - (lay n).da) = true) (hc : cost (L.st.length + 1) ≤ (lay n).ll - 1) :
    ∃ L', (Calls Tryz.prog 22 #[pv sp, .int .i64 (k : Int)] w fun e w' => e = .returned (.int .i64 0) ∧ (OwnL G w' l p bl bt D L' ∧ Kp G w w')) ∧ AI n m T D L' ∧ L'.st = ins (lay n).mp (flipB b (k - (lay n).da)) L.st := by
  refine Free_ai h hs a h1 h2 k hk1 hk2 b hb _ (by rw [flipB_length]; exact hl) ?_ hc
  rw [brunT1 _ _ hk1, hbit]
  rfl
theorem Free_not (h : OwnL G w l p bl bt D L) (hs : Spc G w sp l (lay n)) (a : AI n m T D L) (h1 : 64 ≤ n) (h2 : n ≤ 1024) (k : Nat) (hk1 : (lay n).da ≤ k) (hk2 : k < n) (b : Sec) (hb : over L.st T (lay n).mp = b) (hbit : bitOf b (k - (lay n).da) = false) :
    Calls Tryz.prog 22 #[pv sp, .int .i64 (k : Int)] w fun e w' => e = .returned (.int .i64 48) ∧ (OwnL G w' l p bl bt D L ∧ Kp G w w') := by
  have hy := lay_b n h1 h2
  have hs' : (lay n).s = n := rfl
  have ht := a.tell (lay n).mp (by omega) (.inr (by omega))
  rw [hb] at ht
  have hR : brun stepT (lay n).da (min (k : Int) (((lay n).s : Int) - 1) + 1 - max (k : Int) ((lay n).da : Int)).toNat (max (k : Int) ((lay n).da : Int)) (L.tell D (lay n).mp) false false = (b, false, false) := by
    rw [ht, hs', show (min (k : Int) ((n : Int) - 1) + 1 - max (k : Int) ((lay n).da : Int)).toNat = 1 by omega, show max (k : Int) ((lay n).da : Int) = (k : Int) by omega, brunT1 _ _ hk1, hbit]
    rfl
  have g1 := take_any h sp (lay n) hs 49 (lay n).mp (lay n).da _ _ (kindB (lay n) (by omega) (by omega)) (k : Int) 48 (by show max (k : Int) ((lay n).da : Int) ≤ min (k : Int) (((lay n).s : Int) - 1); rw [hs']; omega) (by show ((lay n).da : Int) ≤ max (k : Int) ((lay n).da : Int); omega) (by show min (k : Int) (((lay n).s : Int) - 1) - ((lay n).da : Int) < 1024; omega) (by omega) (a.reach _ (by omega) (.inr (by omega))) a.up (a.few h2) b false false hR
  simp only [bitE, bitL, Bool.false_eq_true, if_false, and_self, if_true] at g1
  exact Free_of hs (k : Int) 48 (Q := fun _ w' => OwnL G w' l p bl bt D L ∧ Kp G w w') g1

set_option maxRecDepth 100000 in
set_option maxHeartbeats 1000000 in
theorem Layout_ok {y : Ly} (hs : Spc G w sp l y) : Calls Tryz.prog 12 #[pv sp] w fun e w' => e = .returned y.v ∧ Nw w w' := by
  have HR2 : Hid (∀ o : Obj, (w.alloc o).rangeAt sp 1 y.cells) := fun o => World.rangeAt_alloc hs.range o
  clear hs
  have HV : Hid (y.v = .agg y.cells.toArray) := rfl
  rw [HV.out]
  clear HV
  have Hsz := hid (sz24 y)
  have HF : Hid (Nw w (w.alloc (.cells y.cells.toArray 38))) := (Fr.refl _ w).alloc _
  have HB := hid (Blk.new w 38 y.cells)
  unfold Ly.cells at *
  go_enter Tryz.func12, Tryz.ntmps12
  go_wp2_with (first | (refine wpList_load_mid (by rfl) 38 _ (by rfl) sp 1 (by rfl) _ _ (HR2.out _) Tryz.underlying38 rfl Hsz.out ?_))
  refine bodyPost_ret (results_cell_row (P := Tryz.prog) rfl _ _ w.heap.size 38 _ (0, 0) _ rfl HB.out Tryz.underlying38 rfl Hsz.out) rfl ⟨rfl, HF.out⟩
end

end Go.Proofs.YtehoiahgkbnjdaaGreat.Al
/- AllocPlays: the program's space and the reference's go together, in plain words. -/
namespace Go.Proofs.YtehoiahgkbnjdaaGreat.Al
open Go.RowKit Go.Shelf Dk Wl

theorem ins_len_none (k : Nat) (s : Sec) : ∀ m : SMap, (get m k).isSome = false → (ins k s m).length = m.length + 1
  | [], _ => rfl
  | p :: r, h => by
    unfold ins
    split
    · simp
    · split
      · rename_i h1 h2
        unfold Wl.get at h
        rw [if_pos (by omega)] at h
        simp at h
      · rename_i h1 h2
        have h3 : (get r k).isSome = false := by
          unfold Wl.get at h
          rwa [if_neg (by omega)] at h
        simp [ins_len_none k s r h3]

/-- What is staged is the same. -/
structure SimS (st : SMap) (g : List Nat) : Prop where
  s : ∀ k, k ∈ g ↔ (get st k).isSome = true
  l : g.length = st.length
theorem SimS.stage {n : Nat} {st : SMap} {R : Rs} (h : SimS st R.stg) (hs : Srt st) (k : Nat) (b : Sec) (hc : R.canB n k = true) : SimS (ins k b st) (R.stage n k).stg := by
  by_cases hm : k ∈ R.stg
  · have e : R.stage n k = R := by simp [Rs.stage, hm]
    rw [e]
    have hg := (h.s k).1 hm
    refine ⟨fun j => ?_, ?_⟩
    · rw [get_ins _ _ _ _ hs, h.s j]
      split
      · rename_i e; subst e; simp [hg]
      · rfl
    · rw [ins_len_some k b st hs hg]; exact h.l
  · have hcost : cost (R.stg.length + 1) ≤ (lay n).ll - 1 := by
      unfold Rs.canB at hc
      simpa [hm] using hc
    have e : (R.stage n k).stg = R.stg ++ [k] := by simp [Rs.stage, hm, hcost]
    have hg : (get st k).isSome = false := by
      cases hh : (get st k).isSome with
      | false => rfl
      | true => exact absurd ((h.s k).2 hh) hm
    rw [e]
    refine ⟨fun j => ?_, ?_⟩
    · rw [get_ins _ _ _ _ hs, List.mem_append, List.mem_singleton, h.s j]
      split
      · rename_i e; subst e; simp
      · rename_i e; simp [e]
    · rw [ins_len_none k b st hg, List.length_append, h.l]; rfl
/-- Of a home that can be reached: what Stage tells. -/
theorem SimS.stageE {n m : Nat} {T : Nat → Sec} {D : Dsk} {L : Lg} {R : Rs} (h : SimS L.st R.stg) (a : AI n m T D L) (k : Nat) (hk : k < n) (hk2 : k = 0 ∨ 1 + (lay n).ll ≤ k) : L.stageE (k : Int) 128 = if R.canB n k = true then 0 else 45 := by
  have hr := a.reach k hk hk2
  unfold Lg.stageE
  rw [hr, a.ln, Int.toNat_natCast]
  simp only [ne_eq, not_true_eq_false, if_false]
  have e : R.canB n k = true ↔ ¬ ((get L.st k).isSome = false ∧ (lay n).ll - 1 < cost (L.st.length + 1)) := by
    unfold Rs.canB
    rw [Bool.or_eq_true, decide_eq_true_iff, decide_eq_true_iff, h.s k, h.l]
    cases (get L.st k).isSome <;> simp
  by_cases hc : R.canB n k = true
  · rw [if_pos hc, if_neg (e.1 hc)]
  · rw [if_neg hc, if_pos (by
      by_cases hh : (get L.st k).isSome = false ∧ (lay n).ll - 1 < cost (L.st.length + 1)
      · exact hh
      · exact absurd (e.2 hh) hc)]

/-- The two maps and the two rows. -/
structure SimB (n : Nat) (M N : Sec) (R : Rs) : Prop where
  b : ∀ i, (hi : i < R.blk.length) → R.blk[i] = bitOf M i
  i : ∀ i, (hi : i < R.ino.length) → R.ino[i] = bitOf N i
  z : bitOf N 0 = true
  lm : M.length = 128
  ln : N.length = 128
  lb : R.blk.length = n - (lay n).da
  li : R.ino.length = (lay n).no
theorem SimB.setB {n : Nat} {M N : Sec} {R : Rs} (h : SimB n M N R) (h2 : n ≤ 1024) (i : Nat) (hi : i < R.blk.length) (v : Bool) (hv : v = !bitOf M i) (g : List Nat) : SimB n (flipB M i) N { blk := R.blk.set i v, ino := R.ino, stg := g } := by
  refine ⟨fun j hj => ?_, h.i, h.z, by rw [flipB_length]; exact h.lm, h.ln, by rw [List.length_set]; exact h.lb, h.li⟩
  have hj' : j < R.blk.length := by simpa using hj
  have hl := h.lb
  have hlm := h.lm
  rw [List.getElem_set, bitOf_flip _ _ _ (by omega)]
  by_cases e : i = j
  · subst e; rw [if_pos rfl, if_pos rfl, hv]
  · rw [if_neg e, if_neg (Ne.symm e)]; exact h.b j hj'
theorem SimB.setI {n : Nat} {M N : Sec} {R : Rs} (h : SimB n M N R) (h2 : (lay n).no ≤ 128) (i : Nat) (hi0 : i ≠ 0) (hi : i < R.ino.length) (v : Bool) (hv : v = !bitOf N i) (g : List Nat) : SimB n M (flipB N i) { blk := R.blk, ino := R.ino.set i v, stg := g } := by
  have hl := h.li
  have hln := h.ln
  refine ⟨h.b, fun j hj => ?_, ?_, h.lm, by rw [flipB_length]; exact h.ln, h.lb, by rw [List.length_set]; exact h.li⟩
  · have hj' : j < R.ino.length := by simpa using hj
    rw [List.getElem_set, bitOf_flip _ _ _ (by omega)]
    by_cases e : i = j
    · subst e; rw [if_pos rfl, if_pos rfl, hv]
    · rw [if_neg e, if_neg (Ne.symm e)]; exact h.i j hj'
  · rw [bitOf_flip _ _ _ (by omega), if_neg (Ne.symm hi0)]; exact h.z
theorem SimB.stg {n : Nat} {M N : Sec} {R R' : Rs} (h : SimB n M N R) (e1 : R'.blk = R.blk) (e2 : R'.ino = R.ino) : SimB n M N R' := by
  obtain ⟨a, b, c⟩ := R'
  simp only at e1 e2
  subst e1 e2
  exact ⟨h.b, h.i, h.z, h.lm, h.ln, h.lb, h.li⟩
theorem SimB.inB {n : Nat} {M N : Sec} {R : Rs} (h : SimB n M N R) (h1 : 64 ≤ n) (h2 : n ≤ 1024) (k : Int) : R.inB n k = hasB n M k := by
  have hlay := lay_b n h1 h2
  have hl := h.lb
  unfold Rs.inB hasB
  by_cases hk : ((lay n).da : Int) ≤ k
  · by_cases hk2 : k < n
    · rw [if_pos ⟨hk, hk2⟩]
      have hi : (k - ((lay n).da : Int)).toNat < R.blk.length := by omega
      rw [List.getD_eq_getElem?_getD, List.getElem?_eq_getElem hi, ← h.b _ hi]
      simp [hk]
    · rw [if_neg (by omega), List.getD_eq_getElem?_getD, List.getElem?_eq_none (by omega)]
      simp
  · rw [if_neg (by omega)]
    simp [hk]
theorem SimB.inI {n : Nat} {M N : Sec} {R : Rs} (h : SimB n M N R) (k : Int) : R.inI k = hasI n N k := by
  have hl := h.li
  unfold Rs.inI hasI
  by_cases hk : 1 ≤ k
  · by_cases hk2 : k < (lay n).no
    · rw [if_pos ⟨hk, hk2⟩]
      have hi : k.toNat < R.ino.length := by omega
      rw [List.getD_eq_getElem?_getD, List.getElem?_eq_getElem hi, ← h.i _ hi]
      simp [hk]
    · rw [if_neg (by omega), List.getD_eq_getElem?_getD, List.getElem?_eq_none (by omega)]
      simp
  · rw [if_neg (by omega)]
    simp [hk]
theorem falses_frees (M : Sec) : ∀ (l : List Bool) (j : Nat), (∀ i, (hi : i < l.length) → l[i] = bitOf M (j + i)) → falses l = frees M l.length j
  | [], _, _ => rfl
  | b :: r, j, h => by
    have h0 := h 0 (by simp)
    simp only [List.getElem_cons_zero, Nat.add_zero] at h0
    have ih := falses_frees M r (j + 1) (fun i hi => by
      have := h (i + 1) (by simp; omega)
      rw [List.getElem_cons_succ] at this
      rw [this, show j + (i + 1) = j + 1 + i by omega])
    show (if b then 0 else 1) + falses r = (if bitOf M j then 0 else 1) + frees M r.length (j + 1)
    rw [ih, h0]

/-- They go together. -/
structure Sim (n : Nat) (T : Nat → Sec) (st : SMap) (R : Rs) : Prop where
  s : SimS st R.stg
  b : SimB n (over st T (lay n).mp) (over st T (lay n).nd) R

end Go.Proofs.YtehoiahgkbnjdaaGreat.Al
/- The space's calls in the words of the reference. -/
namespace Go.Proofs.YtehoiahgkbnjdaaGreat.Al
open Go.RowKit Go.Shelf Dk Wl

/-- What a call leaves that may stage; behind 45 some log of the same space. -/
def SAct (G : Nat → Prop) (w : World) (l p bl bt n m : Nat) (T : Nat → Sec) (D : Dsk) (y : Int) (R : Rs) (w' : World) : Prop := ∃ L', OwnL G w' l p bl bt D L' ∧ AI n m T D L' ∧ Kp G w w' ∧ (y = 45 ∨ Sim n T L'.st R)

theorem over_ins {st : SMap} (hs : Srt st) (T : Nat → Sec) (k : Nat) (b : Sec) (j : Nat) : over (ins k b st) T j = if j = k then b else over st T j := by
  unfold over
  rw [get_ins _ _ _ _ hs]
  by_cases e : j = k
  · rw [if_pos e, if_pos e]
  · rw [if_neg e, if_neg e]
theorem runI_eq {σ : Type} (step : σ → Int → Bool → Bool × σ) (n : Nat) (h1 : 64 ≤ n) (h2 : n ≤ 1024) (b : Sec) (s : σ) : runI step n b s = brun step 0 ((lay n).no - 1) ((1 : Nat) : Int) b s false := by
  have hy := lay_b n h1 h2
  have hs' : (lay n).s = n := rfl
  have hno : (lay n).no ≤ n := by simp [lay]; omega
  unfold runI
  rw [hs', show (min (n : Int) (((lay n).no : Int) - 1) + 1 - max 0 1).toNat = (lay n).no - 1 by omega]
  rfl
/-- One home more is staged in both, that is none of the maps. -/
theorem Sim.more {n : Nat} {T : Nat → Sec} {st : SMap} {R : Rs} (h : Sim n T st R) (hs : Srt st) (k : Nat) (b : Sec) (hc : R.canB n k = true) (k1 : k ≠ (lay n).mp) (k2 : k ≠ (lay n).nd) : Sim n T (ins k b st) (R.stage n k) := by
  refine ⟨h.s.stage hs k b hc, ?_⟩
  have e := stage_blk R n k
  rw [over_ins hs, if_neg (Ne.symm k1), over_ins hs, if_neg (Ne.symm k2)]
  exact h.b.stg e.1 e.2.1

section
variable {G : Nat → Prop} {w : World} {l p bl bt sp n m : Nat} {T : Nat → Sec} {D : Dsk} {L : Lg} {R : Rs}

theorem stage_full {L : Lg} {k : Nat} {b : Sec} (hb : b.length = 128) (he : ¬ L.stageE (k : Int) 128 = 0) : L.stage (k : Int) b = L := by
  unfold Lg.stage; rw [hb, if_neg he]

theorem Block_sim_none (h : OwnL G w l p bl bt D L) (hs : Spc G w sp l (lay n)) (a : AI n m T D L) (h1 : 64 ≤ n) (h2 : n ≤ 1024) (s : Sim n T L.st R) (hall : ∀ k, (hk : k < R.blk.length) → R.blk[k] = true) :
    Calls Tryz.prog 17 #[pv sp] w fun e w' => e = .returned (.tuple #[.int .i64 0, .int .i64 47]) ∧ SAct G w l p bl bt n m T D 47 R w' := by
  have hy := lay_b n h1 h2
  have hlb := s.b.lb
  rcases Block_pl h hs a h1 h2 _ rfl s.b.lm with ⟨_, g2⟩ | ⟨j, g1, g2, g3, _⟩
  · refine g2.mono ?_
    rintro e w' ⟨he, o, k⟩
    exact ⟨he, L, o, a, k, .inr s⟩
  · have := hall (j - (lay n).da) (by omega)
    rw [s.b.b _ (by omega), g3] at this
    cases this

theorem Block_sim_some (h : OwnL G w l p bl bt D L) (hs : Spc G w sp l (lay n)) (a : AI n m T D L) (h1 : 64 ≤ n) (h2 : n ≤ 1024) (s : Sim n T L.st R) (i : Nat) (hi : i < R.blk.length) (hf : R.blk[i] = false) (hb : ∀ k, (hk : k < i) → R.blk[k] = true) :
    if R.canB n (lay n).mp = true ∧ (R.took n i).canB n ((lay n).da + i) = true then
      Calls Tryz.prog 17 #[pv sp] w fun e w' => e = .returned (.tuple #[.int .i64 (((lay n).da + i : Nat) : Int), .int .i64 0]) ∧ SAct G w l p bl bt n m T D 0 ((R.took n i).stage n ((lay n).da + i)) w'
    else Calls Tryz.prog 17 #[pv sp] w fun e w' => e = .returned (.tuple #[.int .i64 0, .int .i64 45]) ∧ SAct G w l p bl bt n m T D 45 R w' := by
  have hy := lay_b n h1 h2
  have hs' : (lay n).s = n := rfl
  have hlb := s.b.lb
  have hsr := h.r.mt.2.1
  have ht := a.tell (lay n).mp (by omega) (.inr (by omega))
  have hlm := s.b.lm
  have hR := runB_eq stepG n h1 h2 (over L.st T (lay n).mp) 0
  have hbit : bitOf (over L.st T (lay n).mp) i = false := by rw [← s.b.b i hi]; exact hf
  have hR2 : runB stepG n (over L.st T (lay n).mp) 0 = (flipB (over L.st T (lay n).mp) i, (((lay n).da + i : Nat) : Int), true) := by
    rcases brunG_any (lay n).da (n - (lay n).da) (lay n).da (over L.st T (lay n).mp) false (by omega) (Nat.le_refl _) with ⟨g1, g2⟩ | ⟨j, g1, g2, g3, g4, g5⟩
    · have := g1 ((lay n).da + i) (by omega) (by omega)
      rw [Nat.add_sub_cancel_left, hbit] at this
      cases this
    · have e : j = (lay n).da + i := by
        by_cases c1 : j - (lay n).da < i
        · have := hb (j - (lay n).da) c1
          rw [s.b.b _ (by omega), g3] at this
          cases this
        · by_cases c2 : i < j - (lay n).da
          · have := g4 ((lay n).da + i) (by omega) (by omega)
            rw [Nat.add_sub_cancel_left, hbit] at this
            cases this
          · omega
      subst e
      rw [g5, Nat.add_sub_cancel_left] at hR
      exact hR
  rw [← ht] at hR2
  generalize hM : L.tell D (lay n).mp = M at *
  unfold runB at hR2
  have hb' : (flipB M i).length = 128 := by rw [flipB_length, ht]; exact hlm
  have gv := give_any h sp (lay n) hs 49 (lay n).mp (lay n).da _ _ (kindB (lay n) (by omega) (by omega)) (by simp only [hs']; omega) (by omega) (by simp only [hs']; omega) (by omega) (a.reach _ (by omega) (.inr (by omega))) a.up (a.few h2) (flipB M i) (((lay n).da + i : Nat) : Int) true (by rw [hM]; exact hR2)
  have hE := s.s.stageE a (lay n).mp (by omega) (.inr (by omega))
  simp only [bitE, bitL, if_true] at gv
  by_cases hc1 : R.canB n (lay n).mp = true
  · rw [if_pos hc1] at hE
    have hk0 : ¬ (((lay n).da + i : Nat) : Int) = 0 := by omega
    rw [hE] at gv
    simp only [ne_eq, not_true_eq_false, if_false, hk0] at gv
    have a1 := a.stageAny (lay n).mp (flipB M i) hb' hsr
    have hst1 : (L.stage ((lay n).mp : Int) (flipB M i)).st = ins (lay n).mp (flipB M i) L.st := by rw [stage_st hb' hE]
    have hsr1 : Srt (L.stage ((lay n).mp : Int) (flipB M i)).st := by rw [hst1]; exact ins_srt _ _ _ hsr
    have s1 : Sim n T (L.stage ((lay n).mp : Int) (flipB M i)).st (R.took n i) := by
      rw [hst1]
      refine ⟨s.s.stage hsr _ _ hc1, ?_⟩
      rw [over_ins hsr, if_pos rfl, over_ins hsr, if_neg (by omega)]
      have := s.b.setB h2 i hi true (by rw [hbit]; rfl) (R.stage n (lay n).mp).stg
      rw [← ht] at this
      refine this.stg rfl ?_
      exact (stage_blk R n (lay n).mp).2.1
    have hE2 := s1.s.stageE a1 ((lay n).da + i) (by omega) (.inr (by omega))
    by_cases hc2 : (R.took n i).canB n ((lay n).da + i) = true
    · rw [if_pos hc2] at hE2
      rw [if_pos ⟨hc1, hc2⟩]
      refine (Block_ok hs _ gv (a1.few h2) hE2).mono ?_
      rintro e w' ⟨he, o', k'⟩
      refine ⟨he, _, o', a1.stageAny _ zeros zeros_length hsr1, k', .inr ?_⟩
      rw [stage_st zeros_length hE2]
      exact s1.more hsr1 _ _ hc2 (by omega) (by omega)
    · rw [if_neg hc2] at hE2
      rw [if_neg (fun x => hc2 x.2)]
      refine (Block_full hs _ gv (a1.few h2) 45 (by omega) hE2).mono ?_
      rintro e w' ⟨he, o', k'⟩
      exact ⟨he, _, o', a1.stageAny _ zeros zeros_length hsr1, k', .inl rfl⟩
  · rw [if_neg hc1] at hE
    rw [if_neg (fun x => hc1 x.1)]
    rw [hE] at gv
    refine (Block_fail hs _ 45 (by omega) gv).mono ?_
    rintro e w' ⟨he, o', k'⟩
    exact ⟨he, _, o', a.stageAny _ _ hb' hsr, k', .inl rfl⟩

theorem Inode_sim_none (h : OwnL G w l p bl bt D L) (hs : Spc G w sp l (lay n)) (a : AI n m T D L) (h1 : 64 ≤ n) (h2 : n ≤ 1024) (s : Sim n T L.st R) (hall : ∀ k, (hk : k < R.ino.length) → R.ino[k] = true) :
    Calls Tryz.prog 27 #[pv sp] w fun e w' => e = .returned (.tuple #[.int .i64 0, .int .i64 47]) ∧ SAct G w l p bl bt n m T D 47 R w' := by
  have hy := lay_b n h1 h2
  have hs' : (lay n).s = n := rfl
  have hli := s.b.li
  have ht := a.tell (lay n).nd (by omega) (.inr (by omega))
  have hR := runI_eq stepG n h1 h2 (over L.st T (lay n).nd) 0
  have hR2 : runI stepG n (over L.st T (lay n).nd) 0 = (over L.st T (lay n).nd, 0, false) := by
    rcases brunG_any 0 ((lay n).no - 1) 1 (over L.st T (lay n).nd) false (by omega) (by omega) with ⟨g1, g2⟩ | ⟨j, g1, g2, g3, g4, g5⟩
    · rw [g2] at hR; exact hR
    · have := hall j (by omega)
      rw [s.b.i _ (by omega)] at this
      rw [Nat.sub_zero, this] at g3
      cases g3
  rw [← ht] at hR2
  generalize hM : L.tell D (lay n).nd = M at *
  unfold runI at hR2
  have gv := give_any h sp (lay n) hs 60 (lay n).nd 0 _ _ (kindI (lay n) (by omega) (by omega)) (by simp only [hs']; omega) (by omega) (by simp only [hs']; omega) (by omega) (a.reach _ (by omega) (.inr (by omega))) a.up (a.few h2) M 0 false (by rw [hM]; exact hR2)
  simp only [bitE, bitL, Bool.false_eq_true, if_false, ne_eq, not_true_eq_false, if_true] at gv
  refine (Inode_fail hs 0 47 (by omega) gv).mono ?_
  rintro e w' ⟨he, o', k'⟩
  exact ⟨he, L, o', a, k', .inr s⟩

theorem Inode_sim_some (h : OwnL G w l p bl bt D L) (hs : Spc G w sp l (lay n)) (a : AI n m T D L) (h1 : 64 ≤ n) (h2 : n ≤ 1024) (s : Sim n T L.st R) (i : Nat) (hi : i < R.ino.length) (hf : R.ino[i] = false) (hb : ∀ k, (hk : k < i) → R.ino[k] = true) :
    if R.canB n (lay n).nd = true ∧ (R.tookI n i).canB n ((lay n).tb + i / 4) = true then
      Calls Tryz.prog 27 #[pv sp] w fun e w' => e = .returned (.tuple #[.int .i64 (i : Int), .int .i64 0]) ∧ SAct G w l p bl bt n m T D 0 ((R.tookI n i).stage n ((lay n).tb + i / 4)) w'
    else Calls Tryz.prog 27 #[pv sp] w fun e w' => e = .returned (.tuple #[.int .i64 0, .int .i64 45]) ∧ SAct G w l p bl bt n m T D 45 R w' := by
  have hy := lay_b n h1 h2
  have hs' : (lay n).s = n := rfl
  have hli := s.b.li
  have hsr := h.r.mt.2.1
  have ht := a.tell (lay n).nd (by omega) (.inr (by omega))
  have hln := s.b.ln
  have hR := runI_eq stepG n h1 h2 (over L.st T (lay n).nd) 0
  have hbit : bitOf (over L.st T (lay n).nd) i = false := by rw [← s.b.i i hi]; exact hf
  have hi0 : i ≠ 0 := by
    intro e
    subst e
    rw [s.b.z] at hbit
    cases hbit
  have hR2 : runI stepG n (over L.st T (lay n).nd) 0 = (flipB (over L.st T (lay n).nd) i, (i : Int), true) := by
    rcases brunG_any 0 ((lay n).no - 1) 1 (over L.st T (lay n).nd) false (by omega) (by omega) with ⟨g1, g2⟩ | ⟨j, g1, g2, g3, g4, g5⟩
    · have := g1 i (by omega) (by omega)
      rw [Nat.sub_zero, hbit] at this
      cases this
    · have e : j = i := by
        by_cases c1 : j < i
        · have := hb j c1
          rw [s.b.i _ (by omega)] at this
          rw [Nat.sub_zero, this] at g3
          cases g3
        · by_cases c2 : i < j
          · have := g4 i (by omega) (by omega)
            rw [Nat.sub_zero, hbit] at this
            cases this
          · omega
      subst e
      rw [g5, Nat.sub_zero] at hR
      exact hR
  rw [← ht] at hR2
  generalize hM : L.tell D (lay n).nd = M at *
  unfold runI at hR2
  have hb' : (flipB M i).length = 128 := by rw [flipB_length, ht]; exact hln
  have gv := give_any h sp (lay n) hs 60 (lay n).nd 0 _ _ (kindI (lay n) (by omega) (by omega)) (by simp only [hs']; omega) (by omega) (by simp only [hs']; omega) (by omega) (a.reach _ (by omega) (.inr (by omega))) a.up (a.few h2) (flipB M i) (i : Int) true (by rw [hM]; exact hR2)
  have hE := s.s.stageE a (lay n).nd (by omega) (.inr (by omega))
  simp only [bitE, bitL, if_true] at gv
  by_cases hc1 : R.canB n (lay n).nd = true
  · rw [if_pos hc1] at hE
    have hk0 : ¬ (i : Int) = 0 := by omega
    rw [hE] at gv
    simp only [ne_eq, not_true_eq_false, if_false, hk0] at gv
    have a1 := a.stageAny (lay n).nd (flipB M i) hb' hsr
    have hst1 : (L.stage ((lay n).nd : Int) (flipB M i)).st = ins (lay n).nd (flipB M i) L.st := by rw [stage_st hb' hE]
    have hsr1 : Srt (L.stage ((lay n).nd : Int) (flipB M i)).st := by rw [hst1]; exact ins_srt _ _ _ hsr
    have s1 : Sim n T (L.stage ((lay n).nd : Int) (flipB M i)).st (R.tookI n i) := by
      rw [hst1]
      refine ⟨s.s.stage hsr _ _ hc1, ?_⟩
      rw [over_ins hsr, if_neg (by omega), over_ins hsr, if_pos rfl]
      have := s.b.setI (by omega) i hi0 hi true (by rw [hbit]; rfl) (R.stage n (lay n).nd).stg
      rw [← ht] at this
      refine this.stg ?_ rfl
      exact (stage_blk R n (lay n).nd).1
    have hrr := a1.reach ((lay n).tb + i / 4) (by omega) (.inr (by omega))
    have htl : ((L.stage ((lay n).nd : Int) (flipB M i)).tell D ((lay n).tb + i / 4)).length = 128 := by
      rw [stage_st hb' hE]
      show (match get (ins (lay n).nd (flipB M i) L.st) ((lay n).tb + i / 4) with | some s => s | none => match get L.lg ((lay n).tb + i / 4) with | some s => s | none => sec D.N ((lay n).tb + i / 4)).length = 128
      rw [get_ins _ _ _ _ hsr, if_neg (by omega)]
      exact tell_length h _ (reach_lt h _ (a.reach _ (by omega) (.inr (by omega))))
    have hlen := wipe_length _ (i % 4 * 32) htl (by omega)
    have hE2 := s1.s.stageE a1 ((lay n).tb + i / 4) (by omega) (.inr (by omega))
    by_cases hc2 : (R.tookI n i).canB n ((lay n).tb + i / 4) = true
    · rw [if_pos hc2] at hE2
      rw [if_pos ⟨hc1, hc2⟩]
      refine (Inode_ok hs i gv (by omega) (by omega) hrr a.up (a1.few h2) hE2).mono ?_
      rintro e w' ⟨he, o', k'⟩
      refine ⟨he, _, o', a1.stageAny _ _ hlen hsr1, k', .inr ?_⟩
      rw [stage_st hlen hE2]
      exact s1.more hsr1 _ _ hc2 (by omega) (by omega)
    · rw [if_neg hc2] at hE2
      rw [if_neg (fun x => hc2 x.2)]
      refine (Inode_full hs i gv (by omega) (by omega) hrr a.up (a1.few h2) 45 (by omega) hE2).mono ?_
      rintro e w' ⟨he, o', k'⟩
      exact ⟨he, _, o', a1.stageAny _ _ hlen hsr1, k', .inl rfl⟩
  · rw [if_neg hc1] at hE
    rw [if_neg (fun x => hc1 x.1)]
    rw [hE] at gv
    refine (Inode_fail hs _ 45 (by omega) gv).mono ?_
    rintro e w' ⟨he, o', k'⟩
    exact ⟨he, _, o', a.stageAny _ _ hb' hsr, k', .inl rfl⟩

/-- Free of any number. -/
theorem Free_sim (h : OwnL G w l p bl bt D L) (hs : Spc G w sp l (lay n)) (a : AI n m T D L) (h1 : 64 ≤ n) (h2 : n ≤ 1024) (s : Sim n T L.st R) (k : Int) :
    if R.inB n k = true then
      (if R.canB n (lay n).mp = true then Calls Tryz.prog 22 #[pv sp, .int .i64 k] w fun e w' => e = .returned (.int .i64 0) ∧ SAct G w l p bl bt n m T D 0 { R.stage n (lay n).mp with blk := R.blk.set (k - (lay n).da).toNat false } w'
       else Calls Tryz.prog 22 #[pv sp, .int .i64 k] w fun e w' => e = .returned (.int .i64 45) ∧ SAct G w l p bl bt n m T D 45 R w')
    else Calls Tryz.prog 22 #[pv sp, .int .i64 k] w fun e w' => e = .returned (.int .i64 48) ∧ SAct G w l p bl bt n m T D 48 R w' := by
  have hy := lay_b n h1 h2
  have hs' : (lay n).s = n := rfl
  have hsr := h.r.mt.2.1
  have hlb := s.b.lb
  have hlm := s.b.lm
  have ht := a.tell (lay n).mp (by omega) (.inr (by omega))
  have hin := s.b.inB h1 h2 k
  rw [hin]
  unfold hasB
  by_cases hr : (lay n).da ≤ k ∧ k < n
  · rw [if_pos hr]
    obtain ⟨j, rfl⟩ := Int.eq_ofNat_of_zero_le (show 0 ≤ k by omega)
    obtain ⟨i, rfl⟩ : ∃ i, j = (lay n).da + i := ⟨j - (lay n).da, by omega⟩
    have ei : ((((lay n).da + i : Nat) : Int) - ((lay n).da : Int)).toNat = i := by omega
    rw [ei]
    have hR : ∀ b' g t, brun stepT (lay n).da 1 (((lay n).da + i : Nat) : Int) (L.tell D (lay n).mp) false false = (b', g, t) → brun stepT (lay n).da (min (((lay n).da + i : Nat) : Int) (((lay n).s : Int) - 1) + 1 - max (((lay n).da + i : Nat) : Int) ((lay n).da : Int)).toNat (max (((lay n).da + i : Nat) : Int) ((lay n).da : Int)) (L.tell D (lay n).mp) false false = (b', g, t) := by
      intro b' g t hx
      rw [hs', show (min (((lay n).da + i : Nat) : Int) ((n : Int) - 1) + 1 - max (((lay n).da + i : Nat) : Int) ((lay n).da : Int)).toNat = 1 by omega, show max (((lay n).da + i : Nat) : Int) ((lay n).da : Int) = (((lay n).da + i : Nat) : Int) by omega]
      exact hx
    have g1 := fun b' g t hx => take_any h sp (lay n) hs 49 (lay n).mp (lay n).da _ _ (kindB (lay n) (by omega) (by omega)) (((lay n).da + i : Nat) : Int) 48 (by simp only [hs']; omega) (by omega) (by simp only [hs']; omega) (by omega) (a.reach _ (by omega) (.inr (by omega))) a.up (a.few h2) b' g t (hR b' g t hx)
    have hrun := brunT1 (lay n).da ((lay n).da + i) (by omega) (L.tell D (lay n).mp)
    rw [Nat.add_sub_cancel_left, ht] at hrun
    rw [ht] at g1
    cases hbit : bitOf (over L.st T (lay n).mp) i with
    | false =>
      rw [hbit] at hrun
      have g2 := g1 _ _ _ hrun
      simp only [bitE, bitL, Bool.false_eq_true, if_false, and_self, if_true] at g2
      rw [if_neg (by simp)]
      refine (Free_of hs _ 48 (Q := fun _ w' => OwnL G w' l p bl bt D L ∧ Kp G w w') g2).mono ?_
      rintro e w' ⟨he, o', k'⟩
      exact ⟨he, L, o', a, k', .inr s⟩
    | true =>
      rw [hbit] at hrun
      have g2 := g1 _ _ _ hrun
      rw [if_pos rfl]
      simp only [bitE, bitL, if_true, Bool.true_eq_false, and_false, if_false] at g2
      have hb' : (flipB (over L.st T (lay n).mp) i).length = 128 := by rw [flipB_length]; exact hlm
      have hE := s.s.stageE a (lay n).mp (by omega) (.inr (by omega))
      by_cases hc1 : R.canB n (lay n).mp = true
      · rw [if_pos hc1] at hE
        rw [if_pos hc1]
        rw [hE] at g2
        refine (Free_of hs _ 0 (Q := fun _ w' => OwnL G w' l p bl bt D _ ∧ Kp G w w') g2).mono ?_
        rintro e w' ⟨he, o', k'⟩
        refine ⟨he, _, o', a.stageAny _ _ hb' hsr, k', .inr ?_⟩
        rw [stage_st hb' hE]
        refine ⟨s.s.stage hsr _ _ hc1, ?_⟩
        rw [over_ins hsr, if_pos rfl, over_ins hsr, if_neg (by omega)]
        refine (s.b.setB h2 i (by omega) false (by rw [hbit]; rfl) (R.stage n (lay n).mp).stg).stg rfl ?_
        exact (stage_blk R n (lay n).mp).2.1
      · rw [if_neg hc1] at hE
        rw [if_neg hc1]
        rw [hE] at g2
        refine (Free_of hs _ 45 (Q := fun _ w' => OwnL G w' l p bl bt D _ ∧ Kp G w w') g2).mono ?_
        rintro e w' ⟨he, o', k'⟩
        exact ⟨he, _, o', a.stageAny _ _ hb' hsr, k', .inl rfl⟩
  · rw [if_neg hr, if_neg (by simp)]
    have g1 := take_none w sp (lay n) 49 (lay n).mp (lay n).da _ _ (kindB (lay n) (by omega) (by omega)) k 48 (by show min k (((lay n).s : Int) - 1) < max k ((lay n).da : Int); omega)
    refine (Free_of hs k 48 (Q := fun _ w' => Nw w w') g1).mono ?_
    rintro e w' ⟨he, f⟩
    exact ⟨he, _, h.nw f, a, f.kp, .inr s⟩

theorem FreeInode_sim (h : OwnL G w l p bl bt D L) (hs : Spc G w sp l (lay n)) (a : AI n m T D L) (h1 : 64 ≤ n) (h2 : n ≤ 1024) (s : Sim n T L.st R) (k : Int) :
    if R.inI k = true then
      (if R.canB n (lay n).nd = true then Calls Tryz.prog 28 #[pv sp, .int .i64 k] w fun e w' => e = .returned (.int .i64 0) ∧ SAct G w l p bl bt n m T D 0 { R.stage n (lay n).nd with ino := R.ino.set k.toNat false } w'
       else Calls Tryz.prog 28 #[pv sp, .int .i64 k] w fun e w' => e = .returned (.int .i64 45) ∧ SAct G w l p bl bt n m T D 45 R w')
    else Calls Tryz.prog 28 #[pv sp, .int .i64 k] w fun e w' => e = .returned (.int .i64 49) ∧ SAct G w l p bl bt n m T D 49 R w' := by
  have hy := lay_b n h1 h2
  have hs' : (lay n).s = n := rfl
  have hsr := h.r.mt.2.1
  have hli := s.b.li
  have hln := s.b.ln
  have ht := a.tell (lay n).nd (by omega) (.inr (by omega))
  have hin := s.b.inI k
  rw [hin]
  unfold hasI
  by_cases hr : 1 ≤ k ∧ k < (lay n).no
  · rw [if_pos hr]
    obtain ⟨i, rfl⟩ := Int.eq_ofNat_of_zero_le (show 0 ≤ k by omega)
    have ei : ((i : Int)).toNat = i := by omega
    rw [ei]
    have hR : ∀ b' g t, brun stepT 0 1 (i : Int) (L.tell D (lay n).nd) false false = (b', g, t) → brun stepT 0 (min (i : Int) (((lay n).no : Int) - 1) + 1 - max (i : Int) 1).toNat (max (i : Int) 1) (L.tell D (lay n).nd) false false = (b', g, t) := by
      intro b' g t hx
      rw [show (min (i : Int) (((lay n).no : Int) - 1) + 1 - max (i : Int) 1).toNat = 1 by omega, show max (i : Int) 1 = (i : Int) by omega]
      exact hx
    have g1 := fun b' g t hx => take_any h sp (lay n) hs 60 (lay n).nd 0 _ _ (kindI (lay n) (by omega) (by omega)) (i : Int) 49 (by omega) (by omega) (by omega) (by omega) (a.reach _ (by omega) (.inr (by omega))) a.up (a.few h2) b' g t (hR b' g t hx)
    have hrun := brunT1 0 i (by omega) (L.tell D (lay n).nd)
    rw [Nat.sub_zero, ht] at hrun
    rw [ht] at g1
    cases hbit : bitOf (over L.st T (lay n).nd) i with
    | false =>
      rw [hbit] at hrun
      have g2 := g1 _ _ _ hrun
      simp only [bitE, bitL, Bool.false_eq_true, if_false, and_self, if_true] at g2
      rw [if_neg (by simp)]
      refine (FreeInode_of hs _ 49 (Q := fun _ w' => OwnL G w' l p bl bt D L ∧ Kp G w w') g2).mono ?_
      rintro e w' ⟨he, o', k'⟩
      exact ⟨he, L, o', a, k', .inr s⟩
    | true =>
      rw [hbit] at hrun
      have g2 := g1 _ _ _ hrun
      rw [if_pos rfl]
      simp only [bitE, bitL, if_true, Bool.true_eq_false, and_false, if_false] at g2
      have hb' : (flipB (over L.st T (lay n).nd) i).length = 128 := by rw [flipB_length]; exact hln
      have hE := s.s.stageE a (lay n).nd (by omega) (.inr (by omega))
      by_cases hc1 : R.canB n (lay n).nd = true
      · rw [if_pos hc1] at hE
        rw [if_pos hc1]
        rw [hE] at g2
        refine (FreeInode_of hs _ 0 (Q := fun _ w' => OwnL G w' l p bl bt D _ ∧ Kp G w w') g2).mono ?_
        rintro e w' ⟨he, o', k'⟩
        refine ⟨he, _, o', a.stageAny _ _ hb' hsr, k', .inr ?_⟩
        rw [stage_st hb' hE]
        refine ⟨s.s.stage hsr _ _ hc1, ?_⟩
        rw [over_ins hsr, if_neg (by omega), over_ins hsr, if_pos rfl]
        refine (s.b.setI (by omega) i (by omega) (by omega) false (by rw [hbit]; rfl) (R.stage n (lay n).nd).stg).stg ?_ rfl
        exact (stage_blk R n (lay n).nd).1
      · rw [if_neg hc1] at hE
        rw [if_neg hc1]
        rw [hE] at g2
        refine (FreeInode_of hs _ 45 (Q := fun _ w' => OwnL G w' l p bl bt D _ ∧ Kp G w w') g2).mono ?_
        rintro e w' ⟨he, o', k'⟩
        exact ⟨he, _, o', a.stageAny _ _ hb' hsr, k', .inl rfl⟩
  · rw [if_neg hr, if_neg (by simp)]
    have g1 := take_none w sp (lay n) 60 (lay n).nd 0 _ _ (kindI (lay n) (by omega) (by omega)) k 49 (by show min k (((lay n).no : Int) - 1) < max k 1; omega)
    refine (FreeInode_of hs k 49 (Q := fun _ w' => Nw w w') g1).mono ?_
    rintro e w' ⟨he, f⟩
    exact ⟨he, _, h.nw f, a, f.kp, .inr s⟩
/-- How many are not in use. -/
theorem Blocks_sim (h : OwnL G w l p bl bt D L) (hs : Spc G w sp l (lay n)) (a : AI n m T D L) (h1 : 64 ≤ n) (h2 : n ≤ 1024) (s : Sim n T L.st R) :
    Calls Tryz.prog 16 #[pv sp] w fun e w' => e = .returned (.tuple #[.int .i64 ((falses R.blk : Nat) : Int), .int .i64 0]) ∧ OwnL G w' l p bl bt D L ∧ Kp G w w' := by
  have e : falses R.blk = frees (over L.st T (lay n).mp) (n - (lay n).da) 0 := by
    rw [← s.b.lb]
    exact falses_frees _ _ 0 (fun i hi => by rw [Nat.zero_add]; exact s.b.b i hi)
  rw [e]
  exact Blocks_pl h hs a h1 h2 _ rfl
theorem Inodes_sim (h : OwnL G w l p bl bt D L) (hs : Spc G w sp l (lay n)) (a : AI n m T D L) (h1 : 64 ≤ n) (h2 : n ≤ 1024) (s : Sim n T L.st R) :
    Calls Tryz.prog 26 #[pv sp] w fun e w' => e = .returned (.tuple #[.int .i64 ((falses R.ino : Nat) : Int), .int .i64 0]) ∧ OwnL G w' l p bl bt D L ∧ Kp G w w' := by
  have hy := lay_b n h1 h2
  have e : falses R.ino = frees (over L.st T (lay n).nd) ((lay n).no - 1) 1 := by
    have hli := s.b.li
    have := falses_frees (over L.st T (lay n).nd) R.ino 0 (fun i hi => by rw [Nat.zero_add]; exact s.b.i i hi)
    rw [this, hli]
    obtain ⟨q, hq⟩ : ∃ q, (lay n).no = q + 1 := ⟨(lay n).no - 1, by omega⟩
    rw [hq, Nat.add_sub_cancel]
    show (if bitOf (over L.st T (lay n).nd) 0 then 0 else 1) + frees (over L.st T (lay n).nd) q 1 = _
    rw [s.b.z]
    simp
  rw [e]
  have hR := runI_eq stepC n h1 h2 (over L.st T (lay n).nd) 0
  have g := brunC_any 0 ((lay n).no - 1) 1 (over L.st T (lay n).nd) 0 false (by omega) (by omega)
  rw [Nat.sub_zero, Nat.zero_add] at g
  exact Inodes_ai h hs a h1 h2 _ rfl _ _ (hR.trans g)
end

end Go.Proofs.YtehoiahgkbnjdaaGreat.Al
/- AllocPlays: the state of a step: the log, its space, the reference's space and the one that is safe. -/
namespace Go.Proofs.YtehoiahgkbnjdaaGreat.Al
open Go.RowKit Go.Shelf Dk Wl

/-- A log goes on where others' blocks are turned, and with new ones of others. -/
theorem ownL_turnG {X X' F : Nat → Prop} {w w' : World} {l p bl bt : Nat} {D : Dsk} {L : Lg} (h : OwnL X w l p bl bt D L) (f : Fr F w w') (hF : ∀ k, F k → X k) (hX : ∀ k, X' k → (X k ∨ w.heap.size ≤ k) ∧ k < w'.heap.size) : OwnL X' w' l p bl bt D L := by
  have same : ∀ k, k < w.heap.size → ¬ X k → w'.heap[k]? = w.heap[k]? := fun k hk hn => f.block k hk (fun e => hn (hF k e))
  refine ⟨h.r.of_same (same l h.r.hl.lt (fun e => (h.g l e).1 rfl)) (same bl h.r.ml.lt (fun e => (h.g bl e).2.1 rfl)) (same bt h.r.mt.lt (fun e => (h.g bt e).2.2 rfl)), ?_, ?_, h.n⟩
  · obtain ⟨a1, a2, lv, r, fo⟩ := h.d
    refine ⟨a1, a2, lv, r.of_same (fun k hk => same k (r.foot_lt k hk) (fun e => (fo k (.inl e)).2 hk)), fun k hk => ?_⟩
    rcases hk with hk | hk
    · refine ⟨(hX k hk).2, fun hf => ?_⟩
      rcases (hX k hk).1 with e | e
      · exact (fo k (.inl e)).2 hf
      · have := r.foot_lt _ hf; omega
    · exact ⟨Nat.lt_of_lt_of_le (fo k (.inr hk)).1 f.size, (fo k (.inr hk)).2⟩
  · intro k hk
    rcases (hX k hk).1 with e | e
    · exact h.g k e
    · have := h.r.hl.lt; have := h.r.ml.lt; have := h.r.mt.lt; omega

structure Rv where
  rp : Nat
  b : Value
  i : Value
  s : Value
def Rv.foot (v : Rv) (k : Nat) : Prop := rfoot v.rp v.b v.i v.s k
def KX (G : Nat → Prop) (sp q : Nat) (u v : Rv) (k : Nat) : Prop := G k ∨ k = sp ∨ k = q ∨ u.foot k ∨ v.foot k

structure PSx (G : Nat → Prop) (w0 wr : World) (l p bl bt sp q n m : Nat) (T : Nat → Sec) (D : Dsk) (L : Lg) (u v : Rv) (R S : Rs) : Prop where
  o : OwnL (KX G sp q u v) wr l p bl bt D L
  s : Blk wr sp 76 (spcC l (lay n))
  a : AI n m T D L
  r : RRep wr u.rp n u.b u.i u.s R
  c : RRep wr v.rp n v.b v.i v.s S
  qc : ∃ t, Blk wr q t [pv v.rp]
  d1 : ∀ k, u.foot k → ¬ v.foot k
  d2 : ∀ k, u.foot k → ¬ G k ∧ k ≠ sp ∧ k ≠ q
  d3 : ∀ k, v.foot k → ¬ G k ∧ k ≠ sp ∧ k ≠ q
  dq : ¬ G q ∧ q ≠ sp
  kp : Kp G w0 wr

section
variable {G : Nat → Prop} {w0 wr : World} {l p bl bt sp q n m : Nat} {T : Nat → Sec} {D : Dsk} {L : Lg} {u v : Rv} {R S : Rs}

theorem PSx.spc (h : PSx G w0 wr l p bl bt sp q n m T D L u v R S) : Spc (KX G sp q u v) wr sp l (lay n) := ⟨h.s, .inr (.inl rfl)⟩
theorem PSx.log (h : PSx G w0 wr l p bl bt sp q n m T D L u v R S) {w' : World} {bl' bt' m' : Nat} {D' : Dsk} {L' : Lg} {T' : Nat → Sec} (o' : OwnL (KX G sp q u v) w' l p bl' bt' D' L') (a' : AI n m' T' D' L') (k : Kp (KX G sp q u v) wr w') : PSx G w0 w' l p bl' bt' sp q n m' T' D' L' u v R S := by
  obtain ⟨t, hq⟩ := h.qc
  exact ⟨o', Kp.blk k h.s (.inr (.inl rfl)), a', h.r.of_same (fun j hj => k.block j (h.r.lt j hj) (fun hn => hn (.inr (.inr (.inr (.inl hj)))))), h.c.of_same (fun j hj => k.block j (h.c.lt j hj) (fun hn => hn (.inr (.inr (.inr (.inr hj)))))), ⟨t, Kp.blk k hq (.inr (.inr (.inl rfl)))⟩, h.d1, h.d2, h.d3, h.dq, Kp.trans h.kp (Kp.less k (fun _ hk => .inl hk))⟩
theorem PSx.nw (h : PSx G w0 wr l p bl bt sp q n m T D L u v R S) {w' : World} (f : Nw wr w') : PSx G w0 w' l p bl bt sp q n m T D L u v R S :=
  h.log (h.o.nw f) h.a f.kp
theorem PSx.ref (h : PSx G w0 wr l p bl bt sp q n m T D L u v R S) {w' : World} {R' : Rs} (d : RDid wr u.rp n u.b u.i u.s R' w') : ∃ sv', PSx G w0 w' l p bl bt sp q n m T D L ⟨u.rp, u.b, u.i, sv'⟩ v R' S := by
  obtain ⟨sv', r', hs, f⟩ := d
  obtain ⟨t, hq⟩ := h.qc
  have old : ∀ k, (Rv.mk u.rp u.b u.i sv').foot k → u.foot k ∨ wr.heap.size ≤ k := fun k hk => by
    rcases hk with e | e | e | e
    · exact .inl (.inl e)
    · exact .inl (.inr (.inl e))
    · exact .inl (.inr (.inr (.inl e)))
    · exact (hs k e).imp (fun e => .inr (.inr (.inr e))) id
  have glt : ∀ k, KX G sp q u v k → k < wr.heap.size := fun k hk => h.o.glt hk
  refine ⟨sv', ownL_turnG h.o f (fun k hk => .inr (.inr (.inr (.inl hk)))) (fun k hk => ?_), Fr.blk f h.s (fun e => (h.d2 _ e).2.1 rfl), h.a, r', h.c.of_same (fun j hj => f.block j (h.c.lt j hj) (fun e => h.d1 j e hj)), ⟨t, Fr.blk f hq (fun e => (h.d2 _ e).2.2 rfl)⟩, fun k hk hv => ?_, fun k hk => ?_, h.d3, h.dq, Fr.trans h.kp f (fun k hk => .inl (h.d2 k hk).1)⟩
  · have fs := f.size
    rcases hk with e | e | e | e | e
    · exact ⟨.inl (.inl e), Nat.lt_of_lt_of_le (glt k (.inl e)) fs⟩
    · exact ⟨.inl (.inr (.inl e)), Nat.lt_of_lt_of_le (glt k (.inr (.inl e))) fs⟩
    · exact ⟨.inl (.inr (.inr (.inl e))), Nat.lt_of_lt_of_le (glt k (.inr (.inr (.inl e)))) fs⟩
    · exact ⟨(old k e).imp (fun e => .inr (.inr (.inr (.inl e)))) id, r'.lt k e⟩
    · exact ⟨.inl (.inr (.inr (.inr (.inr e)))), Nat.lt_of_lt_of_le (glt k (.inr (.inr (.inr (.inr e))))) fs⟩
  · rcases old k hk with e | e
    · exact h.d1 k e hv
    · have := glt k (.inr (.inr (.inr (.inr hv)))); omega
  · rcases old k hk with e | e
    · exact h.d2 k e
    · refine ⟨fun hg => ?_, fun he => ?_, fun he => ?_⟩
      · have := glt k (.inl hg); omega
      · have := glt k (.inr (.inl he)); omega
      · have := glt k (.inr (.inr (.inl he))); omega
/-- What is staged is forgotten. -/
theorem RRep.clear {w : World} {rp n : Nat} {bv iv sv : Value} {R : Rs} (h : RRep w rp n bv iv sv R) : RDid w rp n bv iv sv { R with stg := [] } (w.setCell ⟨rp, 9, none⟩ (.slice none 0 0)) := by
  have far : ∀ k, k ≠ rp → (w.setCell ⟨rp, 9, none⟩ (.slice none 0 0)).heap[k]? = w.heap[k]? := fun k hk => Below.heap_setCell w _ _ k hk
  refine ⟨.slice none 0 0, ⟨?_, owns_of_eq h.b (fun k hk => far k (fun e => h.hb (e ▸ hk))), owns_of_eq h.i (fun k hk => far k (fun e => h.hi (e ▸ hk))), ⟨by simp [intC], .inl ⟨rfl, rfl⟩⟩, h.hb, h.hi, by simp [Value.ownBlock], h.bi, fun k _ e => by simp [Value.ownBlock] at e, fun k _ e => by simp [Value.ownBlock] at e, h.lb, h.li⟩, fun k e => by simp [Value.ownBlock] at e, ?_⟩
  · exact h.h.setCell 9 (.slice none 0 0)
  · exact Fr.setCell (Fr.refl _ w) (p := ⟨rp, 9, none⟩) (.inl (.inl rfl)) _
/-- A copy is the safe one. -/
theorem PSx.keep (h : PSx G w0 wr l p bl bt sp q n m T D L u v R S) {w1 : World} (f : Nw wr w1) (x : Rv) {S' : Rs} (c' : RRep w1 x.rp n x.b x.i x.s S') (hx : ∀ k, x.foot k → wr.heap.size ≤ k) : PSx G w0 (w1.setCell ⟨q, 0, none⟩ (pv x.rp)) l p bl bt sp q n m T D L u x R S' := by
  have h1 := h.nw f
  obtain ⟨t, hq⟩ := h1.qc
  have glt : ∀ k, KX G sp q u v k → k < wr.heap.size := fun k hk => h.o.glt hk
  have f2 : Fr (fun k => k = q) wr (w1.setCell ⟨q, 0, none⟩ (pv x.rp)) := Fr.setCell (F := fun k => k = q) (f.mono (fun _ e => e.elim)) (p := ⟨q, 0, none⟩) (.inl rfl) _
  have f3 : Fr (fun k => k = q) w1 (w1.setCell ⟨q, 0, none⟩ (pv x.rp)) := Fr.setCell (F := fun k => k = q) (Fr.refl _ w1) (p := ⟨q, 0, none⟩) (.inl rfl) _
  have far : ∀ k, k ≠ q → (w1.setCell ⟨q, 0, none⟩ (pv x.rp)).heap[k]? = w1.heap[k]? := fun k hk => Below.heap_setCell w1 _ _ k hk
  have xq : ∀ k, x.foot k → k ≠ q := fun k hk e => by have := hx k hk; have := glt q (.inr (.inr (.inl rfl))); omega
  have fs := f2.size
  refine ⟨ownL_turnG h.o f2 (fun k hk => .inr (.inr (.inl hk))) (fun k hk => ?_), Fr.blk f3 h1.s (fun e => h.dq.2 e.symm), h.a, h1.r.of_same (fun j hj => far j (h.d2 j hj).2.2), c'.of_same (fun j hj => far j (xq j hj)), ⟨t, hq.setCell 0 (pv x.rp)⟩, fun k hk hv => ?_, h.d2, fun k hk => ?_, h.dq, Fr.trans h.kp f2 (fun k hk => .inl (by rw [show k = q from hk]; exact h.dq.1))⟩
  · rcases hk with e | e | e | e | e
    · exact ⟨.inl (.inl e), Nat.lt_of_lt_of_le (glt k (.inl e)) fs⟩
    · exact ⟨.inl (.inr (.inl e)), Nat.lt_of_lt_of_le (glt k (.inr (.inl e))) fs⟩
    · exact ⟨.inl (.inr (.inr (.inl e))), Nat.lt_of_lt_of_le (glt k (.inr (.inr (.inl e)))) fs⟩
    · exact ⟨.inl (.inr (.inr (.inr (.inl e)))), Nat.lt_of_lt_of_le (glt k (.inr (.inr (.inr (.inl e))))) fs⟩
    · exact ⟨.inr (hx k e), Nat.lt_of_lt_of_le (c'.lt k e) f3.size⟩
  · have := hx k hv; have := glt k (.inr (.inr (.inr (.inl hk)))); omega
  · have hk2 := hx k hk
    refine ⟨fun hg => ?_, fun he => ?_, xq k hk⟩
    · have := glt k (.inl hg); omega
    · have := glt k (.inr (.inl he)); omega
/-- What a copy has is written over the other. -/
theorem PSx.back (h : PSx G w0 wr l p bl bt sp q n m T D L u v R S) {w1 : World} (f : Nw wr w1) (x : Rv) {S' : Rs} (c' : RRep w1 x.rp n x.b x.i x.s S') (hx : ∀ k, x.foot k → wr.heap.size ≤ k) : PSx G w0 (w1.setCells u.rp 0 (ryC n ++ [x.b, x.i, x.s])) l p bl bt sp q n m T D L ⟨u.rp, x.b, x.i, x.s⟩ v S' S := by
  have h1 := h.nw f
  obtain ⟨t, hq⟩ := h1.qc
  have glt : ∀ k, KX G sp q u v k → k < wr.heap.size := fun k hk => h.o.glt hk
  have hu : u.foot u.rp := .inl rfl
  have f2 : Fr (fun k => k = u.rp) wr (w1.setCells u.rp 0 (ryC n ++ [x.b, x.i, x.s])) := Fr.setCells (F := fun k => k = u.rp) (f.mono (fun _ e => e.elim)) (.inl rfl) _ _
  have f3 : Fr (fun k => k = u.rp) w1 (w1.setCells u.rp 0 (ryC n ++ [x.b, x.i, x.s])) := Fr.setCells (F := fun k => k = u.rp) (Fr.refl _ w1) (.inl rfl) _ _
  have far : ∀ k, k ≠ u.rp → (w1.setCells u.rp 0 (ryC n ++ [x.b, x.i, x.s])).heap[k]? = w1.heap[k]? := fun k hk => Dk.setCells_ne _ _ w1 hk
  have xr : ∀ k, x.foot k → k ≠ u.rp := fun k hk e => by have := hx k hk; have := glt u.rp (.inr (.inr (.inr (.inl hu)))); omega
  have fs := f2.size
  have old : ∀ k, (Rv.mk u.rp x.b x.i x.s).foot k → k = u.rp ∨ x.foot k := fun k hk => by
    rcases hk with e | e | e | e
    · exact .inl e
    · exact .inr (.inr (.inl e))
    · exact .inr (.inr (.inr (.inl e)))
    · exact .inr (.inr (.inr (.inr e)))
  have hblk : Blk (w1.setCells u.rp 0 (ryC n ++ [x.b, x.i, x.s])) u.rp 73 (ryC n ++ [x.b, x.i, x.s]) := by
    have := h1.r.h.setCells (ryC n ++ [x.b, x.i, x.s]) 0 (by simp [ryC])
    have e : splice (ryC n ++ [u.b, u.i, u.s]) 0 (ryC n ++ [x.b, x.i, x.s]) = ryC n ++ [x.b, x.i, x.s] := by simp [splice, ryC]
    rw [e] at this
    exact this
  refine ⟨ownL_turnG h.o f2 (fun k hk => .inr (.inr (.inr (.inl (hk ▸ hu))))) (fun k hk => ?_), Fr.blk f3 h1.s (fun e => (h.d2 _ hu).2.1 e.symm), h.a, ⟨hblk, owns_of_eq c'.b (fun k hk => far k (xr k (.inr (.inl hk)))), owns_of_eq c'.i (fun k hk => far k (xr k (.inr (.inr (.inl hk))))), owns_of_eq c'.s (fun k hk => far k (xr k (.inr (.inr (.inr hk))))), fun e => xr _ (.inr (.inl e)) rfl, fun e => xr _ (.inr (.inr (.inl e))) rfl, fun e => xr _ (.inr (.inr (.inr e))) rfl, c'.bi, c'.bs, c'.is, c'.lb, c'.li⟩, h1.c.of_same (fun j hj => far j (fun e => h.d1 j (e ▸ hu) hj)), ⟨t, Fr.blk f3 hq (fun e => (h.d2 _ hu).2.2 e.symm)⟩, fun k hk hv => ?_, fun k hk => ?_, h.d3, h.dq, Fr.trans h.kp f2 (fun k hk => .inl (by rw [show k = u.rp from hk]; exact (h.d2 _ hu).1))⟩
  · rcases hk with e | e | e | e | e
    · exact ⟨.inl (.inl e), Nat.lt_of_lt_of_le (glt k (.inl e)) fs⟩
    · exact ⟨.inl (.inr (.inl e)), Nat.lt_of_lt_of_le (glt k (.inr (.inl e))) fs⟩
    · exact ⟨.inl (.inr (.inr (.inl e))), Nat.lt_of_lt_of_le (glt k (.inr (.inr (.inl e)))) fs⟩
    · rcases old k e with e | e
      · exact ⟨.inl (.inr (.inr (.inr (.inl (e ▸ hu))))), Nat.lt_of_lt_of_le (glt k (.inr (.inr (.inr (.inl (e ▸ hu)))))) fs⟩
      · exact ⟨.inr (hx k e), Nat.lt_of_lt_of_le (c'.lt k e) f3.size⟩
    · exact ⟨.inl (.inr (.inr (.inr (.inr e)))), Nat.lt_of_lt_of_le (glt k (.inr (.inr (.inr (.inr e))))) fs⟩
  · rcases old k hk with e | e
    · exact h.d1 k (e ▸ hu) hv
    · have := hx k e; have := glt k (.inr (.inr (.inr (.inr hv)))); omega
  · rcases old k hk with e | e
    · subst e; exact h.d2 _ hu
    · have hk2 := hx k e
      refine ⟨fun hg => ?_, fun he => ?_, fun he => ?_⟩
      · have := glt k (.inl hg); omega
      · have := glt k (.inr (.inl he)); omega
      · have := glt k (.inr (.inr (.inl he))); omega
end

/-- What stands between two steps. -/
def PS (G : Nat → Prop) (w0 wr : World) (l p sp q rp n m : Nat) : Prop := ∃ bl bt T D L bv iv sv v R S, PSx G w0 wr l p bl bt sp q n m T D L ⟨rp, bv, iv, sv⟩ v R S ∧ Sim n T L.st R ∧ Sim n T [] S ∧ T 0 = headB n ∧ 0 ∉ R.stg
theorem Sim.none {n : Nat} {T : Nat → Sec} {S : Rs} (h : Sim n T [] S) : S.stg = [] := List.eq_nil_of_length_eq_zero h.s.l
theorem sl_one {w : World} {e : TypeId} {v : Value} {k : Nat} {xs : List Value} (h : w.ownsRow 0 e 1 v k xs) : v.oneCell' = true := by
  rcases h.2 with ⟨e, _⟩ | ⟨g, cap, cur, e, _⟩ <;> rw [e] <;> rfl
theorem RRep.one {w : World} {rp n : Nat} {bv iv sv : Value} {R : Rs} (h : RRep w rp n bv iv sv R) : ∀ v ∈ ryC n ++ [bv, iv, sv], v.oneCell' = true := by
  intro v hv
  simp only [ryC, List.cons_append, List.nil_append, List.mem_cons, List.not_mem_nil, or_false] at hv
  rcases hv with rfl | rfl | rfl | rfl | rfl | rfl | rfl | rfl | rfl | rfl
  iterate 7 rfl
  · exact sl_one h.b
  · exact sl_one h.i
  · exact sl_one h.s
theorem sz73 : (Tryz.prog.info? 73).map (·.size) = some 10 := by kernel_rfl

/-- A space of which nothing is staged is copied. -/
theorem clone_any {w : World} {rp n : Nat} {bv iv sv : Value} {R : Rs} (h : RRep w rp n bv iv sv R) (h1 : 64 ≤ n) (h2 : n ≤ 1024) (hs : R.stg = []) : Calls Tryz.prog 10 #[pv rp] w (RClo w n R) := by
  have hy := lay_b n h1 h2
  have lb := h.lb
  have li := h.li
  obtain ⟨g1, c1, rfl, _⟩ := row_form h.b (by omega)
  obtain ⟨g2, c2, rfl, _⟩ := row_form h.i (by omega)
  obtain ⟨ad, c3, rfl⟩ : ∃ ad c3, sv = .slice ad 0 c3 := by
    rcases h.s.2 with ⟨e, e2⟩ | ⟨g, cap, cur, e, _⟩
    · exact ⟨_, _, e⟩
    · rw [hs] at e; exact ⟨_, _, e⟩
  exact rclone_ok h ⟨by omega, by omega⟩ ⟨by omega, by omega⟩ hs

end Go.Proofs.YtehoiahgkbnjdaaGreat.Al
/- wal.Open of a live disk that tells; what a made space has in common with the reference's. -/
namespace Go.Proofs.YtehoiahgkbnjdaaGreat.Al
open Go.RowKit Go.Shelf Dk Wl

theorem foldupd_lt : ∀ (a : List Sec) (s : Nat), s < 18446744073709551616 → a.foldl upd s < 18446744073709551616
  | [], _, h => h
  | x :: r, s, h => foldupd_lt r _ (upd_lt s x h)
theorem places_flat {f n z e : Nat} {ms : List SMap} {D : Dsk} (h : Img f n z e ms D.N) : placesOf D f (flat ms).length = flat ms := by
  apply List.ext_getElem
  · rw [placesOf_length]
  · intro k h1 h2
    simp only [placesOf, List.getElem_map, List.getElem_range]
    exact h.row k h2

def OpenedL (G : Nat → Prop) (w : World) (p n m : Nat) (T : Nat → Sec) (D : Dsk) (x : Ending) (w' : World) : Prop :=
  ∃ L l bl bt, x = .returned (.tuple #[pv l, .int .i64 0]) ∧ OwnL G w' l p bl bt D L ∧ Kp G w w' ∧ AI n m T D L ∧ L.st = []

theorem Open_live {G : Nat → Prop} {w : World} {p n m : Nat} {T : Nat → Sec} {D : Dsk} {L : Lg} (h : Dk.Own G w p D) (a : AI n m T D L) (ok : L.Ok) (h1 : 64 ≤ n) (h2 : n ≤ 1024) :
    Calls Tryz.prog 13 #[pv p, .int .i64 1, .int .i64 ((lay n).ll : Int)] w (OpenedL G w p n m T D) := by
  obtain ⟨ms, hm⟩ := a.lm
  have hll := lay_ll n h2
  have hlen : 1 + (lay n).ll ≤ n := by simp [lay]; omega
  have hz : D.n = n := by rw [hm.hn, a.z]
  have ht := hm.tel
  rw [a.f, a.ln, a.z] at ht
  have hmb : mayBe ((1 : Nat) : Int) ((lay n).ll : Int) (D.n : Int) = true := by rw [hz]; simp [mayBe]; omega
  have hok : ∀ x ∈ ms, OkRow (Lg.new 1 (lay n).ll D.n 0) x := fun x hx => (ht.i.ok x hx).to rfl rfl hz
  have key := Open_ctl h 1 (lay n).ll L.e (flat ms).length ((flat ms).foldl upd beg) a.up hmb ok.e ht.i.le (foldupd_lt _ _ beg_lt) ht.i.ctl
    { Lg.at 1 (lay n).ll D.n L.e (flat ms).length ((flat ms).foldl upd beg) with lg := ms.foldl merge [] } 0 (.inr ⟨by rw [places_flat ht.i], rfl, ms, places_flat ht.i, hok, rfl⟩)
  refine key.mono ?_
  rintro x w' (⟨_, l, bl, bt, hx, ho, hk, hsz⟩ | ⟨h0, _⟩)
  · refine ⟨_, l, bl, bt, hx, ho, hk, ⟨a.up, rfl, rfl, rfl, hz, ⟨ms, hm.still, ?_, rfl, rfl, rfl, rfl⟩, by show cost 0 ≤ _; unfold cost; omega, a.nb, a.sm⟩, rfl⟩
    show Tel 1 (lay n).ll D.n L.e ms T D.N
    rw [hz]
    exact ht
  · exact absurd rfl h0
theorem ownL_own {G : Nat → Prop} {w : World} {l p bl bt : Nat} {D : Dsk} {L : Lg} (h : OwnL G w l p bl bt D L) : Dk.Own G w p D := h.d.less (fun _ hk => .inl hk)

theorem T0_at (n : Nat) (h1 : 64 ≤ n) (h2 : n ≤ 1024) : T0 n 0 = headB n ∧ T0 n (lay n).mp = zeros ∧ T0 n (lay n).nd = node1 := by
  have hy := lay_b n h1 h2
  have e1 : (lay n).mp ≠ 0 := by omega
  have e2 : (lay n).nd ≠ 0 := by omega
  have e3 : (lay n).nd ≠ (lay n).mp := by omega
  refine ⟨rfl, ?_, ?_⟩
  · simp [T0, over, st3, Wl.get, e1.symm]
  · simp [T0, over, st3, Wl.get, e2.symm, e3.symm]
theorem bit_node1 (i : Nat) (hi : i < 1024) : bitOf node1 i = decide (i = 0) := by
  have : ∀ i, i < 1024 → bitOf node1 i = decide (i = 0) := by decide +kernel
  exact this i hi
theorem sim_new (n : Nat) (h1 : 64 ≤ n) (h2 : n ≤ 1024) : Sim n (T0 n) [] (Rs.new n) := by
  have hy := lay_b n h1 h2
  obtain ⟨_, t1, t2⟩ := T0_at n h1 h2
  refine ⟨⟨fun k => by simp [Rs.new, Wl.get], rfl⟩, ?_⟩
  show SimB n (T0 n (lay n).mp) (T0 n (lay n).nd) (Rs.new n)
  rw [t1, t2]
  refine ⟨fun i hi => ?_, fun i hi => ?_, by rw [bit_node1 0 (by omega)]; rfl, zeros_length, by decide +kernel, by simp [Rs.new], by simp [Rs.new]⟩
  · rw [bitOf_zeros]; simp [Rs.new]
  · have hl : i < (lay n).no := by simpa [Rs.new] using hi
    rw [bit_node1 i (by omega)]
    simp only [Rs.new, List.getElem_set, List.getElem_replicate]
    by_cases e : i = 0
    · subst e; simp
    · simp [e, Ne.symm e]

/-- The state ahead of the first step. -/
theorem PSx.init {G : Nat → Prop} {w0 w3 w4 w5 : World} {l p bl bt sp n m : Nat} {T : Nat → Sec} {D : Dsk} {L : Lg} {u v : Rv} {R S : Rs} (o : OwnL (fun k => G k ∨ k = sp) w3 l p bl bt D L) (s : Blk w3 sp 76 (spcC l (lay n))) (a : AI n m T D L) (k : Kp G w0 w3)
    (r : RRep w4 u.rp n u.b u.i u.s R) (hu : ∀ j, u.foot j → w3.heap.size ≤ j) (f4 : Nw w3 w4) (c : RRep w5 v.rp n v.b v.i v.s S) (hv : ∀ j, v.foot j → w4.heap.size ≤ j) (f5 : Nw w4 w5) {w6 : World} {t : TypeId} (f6 : Nw w5 w6) (hq : Blk w6 w5.heap.size t [pv v.rp]) :
    PSx G w0 w6 l p bl bt sp w5.heap.size n m T D L u v R S := by
  have z4 := f4.size
  have z5 := f5.size
  have glt : ∀ j, (G j ∨ j = sp) → j < w3.heap.size := fun j hj => o.glt hj
  have ult : ∀ j, u.foot j → j < w4.heap.size := fun j hj => r.lt j hj
  have vlt : ∀ j, v.foot j → j < w5.heap.size := fun j hj => c.lt j hj
  have f36 : Nw w3 w6 := Nw.tr (Nw.tr f4 f5) f6
  have hsz : w5.heap.size < w6.heap.size := hq.lt
  have gs := glt sp (.inr rfl)
  refine ⟨ownL_turnG o f36 (fun _ e => e.elim) (fun j hj => ?_), Fr.blk f36 s id, a, (r.nw f5).nw f6, c.nw f6, ⟨t, hq⟩, fun j hj hj' => ?_, fun j hj => ?_, fun j hj => ?_, ⟨fun hg => ?_, by omega⟩, Kp.trans k f36.kp⟩
  · rcases hj with e | e | e | e | e
    · exact ⟨.inl (.inl e), by have := glt j (.inl e); omega⟩
    · exact ⟨.inl (.inr e), by have := glt j (.inr e); omega⟩
    · exact ⟨.inr (by omega), by omega⟩
    · exact ⟨.inr (hu j e), by have := ult j e; omega⟩
    · exact ⟨.inr (by have := hv j e; omega), by have := vlt j e; omega⟩
  · have := ult j hj; have := hv j hj'; omega
  · have h1 := hu j hj
    have h2 := ult j hj
    refine ⟨fun hg => ?_, by omega, by omega⟩
    have := glt j (.inl hg); omega
  · have h1 := hv j hj
    have h2 := vlt j hj
    refine ⟨fun hg => ?_, by omega, by omega⟩
    have := glt j (.inl hg); omega
  · have := glt _ (.inl hg); omega

end Go.Proofs.YtehoiahgkbnjdaaGreat.Al
