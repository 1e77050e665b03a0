import Derived.Test.YtehoiahgkbnjdaaGreatMd
import Derived.Test.YtehoiahgkbnjdaaGreatIno
import Derived.Test.YtehoiahgkbnjdaaGreatGen
/- Block, Inode, Free over a space's log in plain words. -/
namespace Go.Proofs.YtehoiahgkbnjdaaGreat.Al
open Go.RowKit Go.Shelf Dk Wl

theorem lay_b (n : Nat) (h1 : 64 ≤ n) (h2 : n ≤ 1024) : (lay n).mp = 1 + (lay n).ll ∧ (lay n).nd = 2 + (lay n).ll ∧ (lay n).tb = 3 + (lay n).ll ∧ 3 + (lay n).ll < (lay n).da ∧ (lay n).da < n ∧ 16 ≤ (lay n).no ∧ (lay n).no ≤ 128 ∧ (lay n).tb + ((lay n).no + 3) / 4 = (lay n).da := by
  have e1 : max (n / 8) 16 = n / 8 ∧ 16 ≤ n / 8 ∨ max (n / 8) 16 = 16 ∧ n / 8 ≤ 16 := by omega
  have e2 : min (n / 4) 128 = n / 4 ∧ n / 4 ≤ 128 ∨ min (n / 4) 128 = 128 ∧ 128 ≤ n / 4 := by omega
  refine ⟨rfl, rfl, rfl, ?_, ?_, ?_, ?_, ?_⟩
  all_goals
    unfold lay
    first
      | rfl
      | (dsimp only
         generalize max (n / 8) 16 = a at *
         generalize min (n / 4) 128 = c at *
         omega)

/-- The whole span of a map, of one of the two kinds. -/
abbrev runB {σ : Type} (step : σ → Int → Bool → Bool × σ) (n : Nat) (b : Sec) (s : σ) : Sec × σ × Bool := brun step (lay n).da (min ((lay n).s : Int) ((lay n).s - 1) + 1 - max 0 ((lay n).da : Int)).toNat (max 0 ((lay n).da : Int)) b s false
abbrev runI {σ : Type} (step : σ → Int → Bool → Bool × σ) (n : Nat) (b : Sec) (s : σ) : Sec × σ × Bool := brun step 0 (min ((lay n).s : Int) ((lay n).no - 1) + 1 - max 0 1).toNat (max 0 1) b s false

section
variable {G : Nat → Prop} {w : World} {l p bl bt sp n m : Nat} {T : Nat → Sec} {D : Dsk} {L : Lg}
theorem AI.few (a : AI n m T D L) (h2 : n ≤ 1024) : L.st.length < 90000 := by
  have := cost_le a.c
  have := lay_ll n h2
  omega

theorem Blocks_ai (h : OwnL G w l p bl bt D L) (hs : Spc G w sp l (lay n)) (a : AI n m T D L) (h1 : 64 ≤ n) (h2 : n ≤ 1024) (b : Sec) (hb : over L.st T (lay n).mp = b) (c : Int) (b' : Sec) (hR : runB stepC n b 0 = (b', c, false)) :
    Calls Tryz.prog 16 #[pv sp] w fun e w' => e = .returned (.tuple #[.int .i64 c, .int .i64 0]) ∧ (OwnL G w' l p bl bt D L ∧ Kp G w w') := by
  have hy := lay_b n h1 h2
  have hs' : (lay n).s = n := rfl
  have ht := a.tell (lay n).mp (by omega) (.inr (by omega))
  rw [hb] at ht
  have := count_any h sp (lay n) hs 49 (lay n).mp (lay n).da _ _ (kindB (lay n) (by omega) (by omega)) (by simp only [hs']; omega) (by omega) (by simp only [hs']; omega) (by omega) (a.reach _ (by omega) (.inr (by omega))) a.up (a.few h2) (by rw [ht]; exact congrArg (fun q => q.2.2) hR)
  rw [ht] at this
  have e : (runB stepC n b 0).2.1 = c := by rw [hR]
  refine Blocks_of hs c 0 ?_
  rw [← e]
  exact this
theorem Inodes_ai (h : OwnL G w l p bl bt D L) (hs : Spc G w sp l (lay n)) (a : AI n m T D L) (h1 : 64 ≤ n) (h2 : n ≤ 1024) (b : Sec) (hb : over L.st T (lay n).nd = b) (c : Int) (b' : Sec) (hR : runI stepC n b 0 = (b', c, false)) :
    Calls Tryz.prog 26 #[pv sp] w fun e w' => e = .returned (.tuple #[.int .i64 c, .int .i64 0]) ∧ (OwnL G w' l p bl bt D L ∧ Kp G w w') := by
  have hy := lay_b n h1 h2
  have hs' : (lay n).s = n := rfl
  have ht := a.tell (lay n).nd (by omega) (.inr (by omega))
  rw [hb] at ht
  have := count_any h sp (lay n) hs 60 (lay n).nd 0 _ _ (kindI (lay n) (by omega) (by omega)) (by simp only [hs']; omega) (by omega) (by simp only [hs']; omega) (by omega) (a.reach _ (by omega) (.inr (by omega))) a.up (a.few h2) (by rw [ht]; exact congrArg (fun q => q.2.2) hR)
  rw [ht] at this
  have e : (runI stepC n b 0).2.1 = c := by rw [hR]
  refine Inodes_of hs c 0 ?_
  rw [← e]
  exact this

theorem Block_ai (h : OwnL G w l p bl bt D L) (hs : Spc G w sp l (lay n)) (a : AI n m T D L) (h1 : 64 ≤ n) (h2 : n ≤ 1024) (b : Sec) (hb : over L.st T (lay n).mp = b) (b' : Sec) (hb' : b'.length = 128) (k : Nat) (hk1 : (lay n).da ≤ k) (hk2 : k < n) (hR : runB stepG n b 0 = (b', (k : Int), true)) (hc : cost (L.st.length + 2) ≤ (lay n).ll - 1) :
    ∃ L', (Calls Tryz.prog 17 #[pv sp] w fun e w' => e = .returned (.tuple #[.int .i64 (k : Int), .int .i64 0]) ∧ OwnL G w' l p bl bt D L' ∧ Kp G w w') ∧ AI n m T D L' ∧ L'.st = ins k zeros (ins (lay n).mp b' L.st) := by
  have hy := lay_b n h1 h2
  have hs' : (lay n).s = n := rfl
  have ht := a.tell (lay n).mp (by omega) (.inr (by omega))
  rw [hb] at ht
  have hc1 : cost (L.st.length + 1) ≤ (lay n).ll - 1 := Nat.le_trans (cost_mono (by omega)) hc
  have e1 := a.stageE (lay n).mp (by omega) (.inr (by omega)) hc1
  obtain ⟨a1, t1⟩ := a.stage (lay n).mp (by omega) (.inr (by omega)) b' hb' hc1
  have hc2 : cost ((L.stage ((lay n).mp : Int) b').st.length + 1) ≤ (lay n).ll - 1 := Nat.le_trans (cost_mono (by rw [t1]; have := ins_len (lay n).mp b' L.st; omega)) hc
  have e2 := a1.stageE k hk2 (.inr (by omega)) hc2
  obtain ⟨a2, t2⟩ := a1.stage k hk2 (.inr (by omega)) zeros zeros_length hc2
  have g := give_any h sp (lay n) hs 49 (lay n).mp (lay n).da _ _ (kindB (lay n) (by omega) (by omega)) (by simp only [hs']; omega) (by omega) (by simp only [hs']; omega) (by omega) (a.reach _ (by omega) (.inr (by omega))) a.up (a.few h2) b' (k : Int) true (by rw [ht]; exact hR)
  have eE : bitE L (lay n).mp true = 0 := e1
  have eL : bitL L (lay n).mp true b' = L.stage ((lay n).mp : Int) b' := rfl
  have hk0 : ¬ (k : Int) = 0 := by omega
  rw [eE, eL] at g
  simp only [ne_eq, not_true_eq_false, if_false, hk0] at g
  exact ⟨_, Block_ok hs k g (a1.few h2) e2, a2, by rw [t2, t1]⟩

theorem Inode_ai (h : OwnL G w l p bl bt D L) (hs : Spc G w sp l (lay n)) (a : AI n m T D L) (h1 : 64 ≤ n) (h2 : n ≤ 1024) (b : Sec) (hb : over L.st T (lay n).nd = b) (b' : Sec) (hb' : b'.length = 128) (i : Nat) (hk1 : 1 ≤ i) (hk2 : i < (lay n).no) (hR : runI stepG n b 0 = (b', (i : Int), true)) (hc : cost (L.st.length + 2) ≤ (lay n).ll - 1)
    (c : Sec) (hcl : c.length = 128) (hcc : over (ins (lay n).nd b' L.st) T ((lay n).tb + i / 4) = c) :
    ∃ L', (Calls Tryz.prog 27 #[pv sp] w fun e w' => e = .returned (.tuple #[.int .i64 (i : Int), .int .i64 0]) ∧ OwnL G w' l p bl bt D L' ∧ Kp G w w') ∧ AI n m T D L' ∧ L'.st = ins ((lay n).tb + i / 4) (wipe c (i % 4 * 32)) (ins (lay n).nd b' L.st) := by
  have hy := lay_b n h1 h2
  have hs' : (lay n).s = n := rfl
  have ht := a.tell (lay n).nd (by omega) (.inr (by omega))
  rw [hb] at ht
  have hc1 : cost (L.st.length + 1) ≤ (lay n).ll - 1 := Nat.le_trans (cost_mono (by omega)) hc
  have e1 := a.stageE (lay n).nd (by omega) (.inr (by omega)) hc1
  obtain ⟨a1, t1⟩ := a.stage (lay n).nd (by omega) (.inr (by omega)) b' hb' hc1
  have hc2 : cost ((L.stage ((lay n).nd : Int) b').st.length + 1) ≤ (lay n).ll - 1 := Nat.le_trans (cost_mono (by rw [t1]; have := ins_len (lay n).nd b' L.st; omega)) hc
  have e2 := a1.stageE ((lay n).tb + i / 4) (by omega) (.inr (by omega)) hc2
  have ht1 := a1.tell ((lay n).tb + i / 4) (by omega) (.inr (by omega))
  rw [t1, hcc] at ht1
  obtain ⟨a2, t2⟩ := a1.stage ((lay n).tb + i / 4) (by omega) (.inr (by omega)) (wipe c (i % 4 * 32)) (wipe_length c _ hcl (by omega)) hc2
  have g := give_any h sp (lay n) hs 60 (lay n).nd 0 _ _ (kindI (lay n) (by omega) (by omega)) (by simp only [hs']; omega) (by omega) (by simp only [hs']; omega) (by omega) (a.reach _ (by omega) (.inr (by omega))) a.up (a.few h2) b' (i : Int) true (by rw [ht]; exact hR)
  have eE : bitE L (lay n).nd true = 0 := e1
  have eL : bitL L (lay n).nd true b' = L.stage ((lay n).nd : Int) b' := rfl
  have hk0 : ¬ (i : Int) = 0 := by omega
  rw [eE, eL] at g
  simp only [ne_eq, not_true_eq_false, if_false, hk0] at g
  have q := Inode_ok hs i g (by omega) (by omega) (a1.reach _ (by omega) (.inr (by omega))) a1.up (a1.few h2) e2
  rw [ht1] at q
  exact ⟨_, q, a2, by rw [t2, t1]⟩

theorem Free_ai (h : OwnL G w l p bl bt D L) (hs : Spc G w sp l (lay n)) (a : AI n m T D L) (h1 : 64 ≤ n) (h2 : n ≤ 1024) (k : Nat) (hk1 : (lay n).da ≤ k) (hk2 : k < n) (b : Sec) (hb : over L.st T (lay n).mp = b) (b' : Sec) (hb' : b'.length = 128) (hR : brun stepT (lay n).da 1 (k : Int) b false false = (b', true, true)) (hc : cost (L.st.length + 1) ≤ (lay n).ll - 1) :
    ∃ L', (Calls Tryz.prog 22 #[pv sp, .int .i64 (k : Int)] w fun e w' => e = .returned (.int .i64 0) ∧ (OwnL G w' l p bl bt D L' ∧ Kp G w w')) ∧ AI n m T D L' ∧ L'.st = ins (lay n).mp b' L.st := by
  have hy := lay_b n h1 h2
  have hs' : (lay n).s = n := rfl
  have ht := a.tell (lay n).mp (by omega) (.inr (by omega))
  rw [hb] at ht
  have e1 := a.stageE (lay n).mp (by omega) (.inr (by omega)) hc
  obtain ⟨a1, t1⟩ := a.stage (lay n).mp (by omega) (.inr (by omega)) b' hb' hc
  have ef : max (k : Int) ((lay n).da : Int) = k := by omega
  have el : min (k : Int) (((lay n).s : Int) - 1) = k := by omega
  have g := take_any h sp (lay n) hs 49 (lay n).mp (lay n).da _ _ (kindB (lay n) (by omega) (by omega)) (k : Int) 48 (by simp only [hs']; omega) (by omega) (by simp only [hs']; omega) (by omega) (a.reach _ (by omega) (.inr (by omega))) a.up (a.few h2) b' true true (by
    rw [ht]
    have e : ((fun l => min l (((lay n).s : Int) - 1)) (k : Int) + 1 - (fun f => max f ((lay n).da : Int)) (k : Int)).toNat = 1 := by simp only [ef, el]; omega
    rw [e]
    show brun stepT (lay n).da 1 (max (k : Int) ((lay n).da : Int)) b false false = _
    rw [ef]
    exact hR)
  have eE : bitE L (lay n).mp true = 0 := e1
  have eL : bitL L (lay n).mp true b' = L.stage ((lay n).mp : Int) b' := rfl
  rw [eE, eL] at g
  simp only [Bool.true_eq_false, and_false, if_false] at g
  exact ⟨_, Free_of hs (k : Int) 0 g, a1, t1⟩

theorem FreeInode_none (hs : Spc G w sp l (lay n)) (h1 : 64 ≤ n) (h2 : n ≤ 1024) (k : Int) (hk : k < 1 ∨ (lay n).no ≤ k) :
    Calls Tryz.prog 28 #[pv sp, .int .i64 k] w fun e w' => e = .returned (.int .i64 49) ∧ Nw w w' := by
  have hy := lay_b n h1 h2
  exact FreeInode_of hs k 49 (by
    refine (take_none w sp (lay n) 60 (lay n).nd 0 _ _ (kindI (lay n) (by omega) (by omega)) k 49 ?_).mono (fun e w' h => h)
    show min k (((lay n).no : Int) - 1) < max k 1
    omega)
end

end Go.Proofs.YtehoiahgkbnjdaaGreat.Al
/- What act may leave: a space's log with the same homes behind it. -/
namespace Go.Proofs.YtehoiahgkbnjdaaGreat.Al
open Go.RowKit Go.Shelf Dk Wl

theorem get_above : ∀ (m : SMap) (k : Nat), (∀ q ∈ m, k < q.1) → get m k = none
  | [], _, _ => rfl
  | p :: r, k, h => by
    have h1 := h p (by simp)
    unfold Wl.get
    rw [if_neg (by omega)]
    exact get_above r k (fun q hq => h q (by simp [hq]))
theorem ins_len_some (k : Nat) (s : Sec) : ∀ m : SMap, Srt m → (get m k).isSome = true → (ins k s m).length = m.length
  | [], _, h => by simp [Wl.get] at h
  | p :: r, hs, h => by
    have hr := List.pairwise_cons.1 hs
    unfold ins
    split
    · rename_i hlt
      rw [get_above (p :: r) k (fun q hq => by
        rcases List.mem_cons.1 hq with rfl | hq
        · exact hlt
        · have := hr.1 q hq; omega)] at h
      simp at h
    · split
      · simp
      · rename_i h1 h2
        have h3 : (get r k).isSome = true := by
          unfold Wl.get at h
          rwa [if_neg (by omega)] at h
        simp [ins_len_some k s r hr.2 h3]
theorem AI.stageAny {n m : Nat} {T : Nat → Sec} {D : Dsk} {L : Lg} (a : AI n m T D L) (k : Nat) (b : Sec) (hb : b.length = 128) (hs : Srt L.st) : AI n m T D (L.stage (k : Int) b) := by
  by_cases he : L.stageE (k : Int) 128 = 0
  · rw [stage_st hb he]
    refine ⟨a.up, a.dead, a.f, a.ln, a.z, ?_, ?_, a.nb, a.sm⟩
    · obtain ⟨ms, hm⟩ := a.lm
      exact ⟨ms, hm.still, hm.tel, hm.lg, hm.u, hm.p, hm.hn⟩
    · show cost (ins k b L.st).length ≤ _
      by_cases hg : (get L.st k).isSome = true
      · rw [ins_len_some k b L.st hs hg]; exact a.c
      · refine Nat.le_trans (cost_mono (ins_len k b L.st)) ?_
        rw [← a.ln]
        unfold Lg.stageE at he
        split at he
        · rename_i h1; exact absurd he h1
        · simp only [ne_eq, not_true_eq_false, if_false, Int.toNat_natCast] at he
          split at he
          · cases he
          · rename_i h1
            have : (get L.st k).isSome = false := by simpa using hg
            simp [this] at h1
            omega
  · have : L.stage (k : Int) b = L := by unfold Lg.stage; rw [hb, if_neg he]
    rw [this]; exact a
theorem flipB_length (b : Sec) (j : Nat) : (flipB b j).length = b.length := by simp [flipB]
theorem brun_length {σ : Type} (step : σ → Int → Bool → Bool × σ) (zr : Nat) : ∀ (N : Nat) (k : Int) (b : Sec) (s : σ) (t : Bool), (brun step zr N k b s t).1.length = b.length
  | 0, _, _, _, _ => rfl
  | N + 1, k, b, s, t => by
    unfold brun
    rw [brun_length step zr N]
    split
    · exact flipB_length _ _
    · rfl
theorem brunG_range (zr : Nat) (B : Int) : ∀ (N : Nat) (k : Int) (b : Sec) (s : Int) (t : Bool), 0 ≤ s → s < B → 0 ≤ k → k + N ≤ B → 0 ≤ (brun stepG zr N k b s t).2.1 ∧ (brun stepG zr N k b s t).2.1 < B
  | 0, _, _, _, _, h1, h2, _, _ => ⟨h1, h2⟩
  | N + 1, k, b, s, t, h1, h2, h3, h4 => by
    unfold brun
    have h5 : 0 ≤ (stepG s k (bitOf b (k - zr).toNat)).2 ∧ (stepG s k (bitOf b (k - zr).toNat)).2 < B := by
      unfold stepG
      split
      · exact ⟨h1, h2⟩
      · split
        · exact ⟨h1, h2⟩
        · exact ⟨h3, by omega⟩
    exact brunG_range zr B N _ _ _ _ h5.1 h5.2 (by omega) (by omega)
theorem AI.bits {n m : Nat} {T : Nat → Sec} {D : Dsk} {L : Lg} (a : AI n m T D L) (k : Nat) (t : Bool) (b : Sec) (hb : b.length = 128) (hs : Srt L.st) : AI n m T D (bitL L k t b) := by
  unfold bitL
  split
  · exact a.stageAny k b hb hs
  · exact a

/-- A call of the space that may stage, whatever it answers. -/
def Acts (G : Nat → Prop) (w : World) (l p bl bt n m : Nat) (T : Nat → Sec) (D : Dsk) (w' : World) : Prop := ∃ L', OwnL G w' l p bl bt D L' ∧ AI n m T D L' ∧ Kp G w w'

section
variable {G : Nat → Prop} {w : World} {l p bl bt sp n m : Nat} {T : Nat → Sec} {D : Dsk} {L : Lg}
theorem Block_act (h : OwnL G w l p bl bt D L) (hs : Spc G w sp l (lay n)) (a : AI n m T D L) (h1 : 64 ≤ n) (h2 : n ≤ 1024) :
    Calls Tryz.prog 17 #[pv sp] w fun e w' => ∃ x y : Int, e = .returned (.tuple #[.int .i64 x, .int .i64 y]) ∧ Acts G w l p bl bt n m T D w' := by
  have hy := lay_b n h1 h2
  have hs' : (lay n).s = n := rfl
  have hsr := h.r.mt.2.1
  have htl := tell_length h (lay n).mp (reach_lt h _ (a.reach _ (by omega) (.inr (by omega))))
  obtain ⟨b', g, t, hR⟩ : ∃ b' g t, runB stepG n (L.tell D (lay n).mp) 0 = (b', g, t) := ⟨_, _, _, rfl⟩
  unfold runB at hR
  have hb' : b'.length = 128 := by
    have := brun_length stepG (lay n).da (min ((lay n).s : Int) ((lay n).s - 1) + 1 - max 0 ((lay n).da : Int)).toNat (max 0 ((lay n).da : Int)) (L.tell D (lay n).mp) 0 false
    rw [hR] at this
    exact this.trans htl
  have hg := brunG_range (lay n).da n (min ((lay n).s : Int) ((lay n).s - 1) + 1 - max 0 ((lay n).da : Int)).toNat (max 0 ((lay n).da : Int)) (L.tell D (lay n).mp) 0 false (by omega) (by omega) (by omega) (by omega)
  rw [hR] at hg
  obtain ⟨k, rfl⟩ := Int.eq_ofNat_of_zero_le hg.1
  have gv := give_any h sp (lay n) hs 49 (lay n).mp (lay n).da _ _ (kindB (lay n) (by omega) (by omega)) (by simp only [hs']; omega) (by omega) (by simp only [hs']; omega) (by omega) (a.reach _ (by omega) (.inr (by omega))) a.up (a.few h2) b' (k : Int) t hR
  have a1 := a.bits (lay n).mp t b' hb' hsr
  by_cases hE : (if bitE L (lay n).mp t ≠ 0 then bitE L (lay n).mp t else if (k : Int) = 0 then 47 else 0) = 0
  · have e0 : bitE L (lay n).mp t = 0 := by
      by_cases e : bitE L (lay n).mp t = 0
      · exact e
      · rw [if_pos e] at hE; exact hE
    have hk0 : ¬ (k : Int) = 0 := fun e => by rw [e0] at hE; simp [e] at hE
    rw [e0] at gv
    simp only [ne_eq, not_true_eq_false, if_false, hk0] at gv
    by_cases hF : (bitL L (lay n).mp t b').stageE (k : Int) 128 = 0
    · refine (Block_ok hs k gv (a1.few h2) hF).mono ?_
      rintro e w' ⟨he, o', k'⟩
      exact ⟨_, _, he, _, o', a1.stageAny k zeros zeros_length (by
        have := o'.r.mt.2.1
        unfold bitL
        split
        · unfold Lg.stage; split
          · exact ins_srt _ _ _ hsr
          · exact hsr
        · exact hsr), k'⟩
    · refine (Block_full hs k gv (a1.few h2) _ hF rfl).mono ?_
      rintro e w' ⟨he, o', k'⟩
      exact ⟨_, _, he, _, o', a1.stageAny k zeros zeros_length (by
        unfold bitL
        split
        · unfold Lg.stage; split
          · exact ins_srt _ _ _ hsr
          · exact hsr
        · exact hsr), k'⟩
  · refine (Block_fail hs _ _ hE gv).mono ?_
    rintro e w' ⟨he, o', k'⟩
    exact ⟨_, _, he, _, o', a1, k'⟩
theorem srt_bits (hsr : Srt L.st) (k : Nat) (t : Bool) (b : Sec) : Srt (bitL L k t b).st := by
  unfold bitL
  split
  · unfold Lg.stage; split
    · exact ins_srt _ _ _ hsr
    · exact hsr
  · exact hsr

theorem Inode_act (h : OwnL G w l p bl bt D L) (hs : Spc G w sp l (lay n)) (a : AI n m T D L) (h1 : 64 ≤ n) (h2 : n ≤ 1024) :
    Calls Tryz.prog 27 #[pv sp] w fun e w' => ∃ x y : Int, e = .returned (.tuple #[.int .i64 x, .int .i64 y]) ∧ Acts G w l p bl bt n m T D w' := by
  have hy := lay_b n h1 h2
  have hs' : (lay n).s = n := rfl
  have hsr := h.r.mt.2.1
  have htl := tell_length h (lay n).nd (reach_lt h _ (a.reach _ (by omega) (.inr (by omega))))
  obtain ⟨b', g, t, hR⟩ : ∃ b' g t, runI stepG n (L.tell D (lay n).nd) 0 = (b', g, t) := ⟨_, _, _, rfl⟩
  unfold runI at hR
  have hb' : b'.length = 128 := by
    have := brun_length stepG 0 (min ((lay n).s : Int) ((lay n).no - 1) + 1 - max 0 1).toNat (max 0 1) (L.tell D (lay n).nd) 0 false
    rw [hR] at this
    exact this.trans htl
  have hg := brunG_range 0 (lay n).no (min ((lay n).s : Int) ((lay n).no - 1) + 1 - max 0 1).toNat (max 0 1) (L.tell D (lay n).nd) 0 false (by omega) (by omega) (by omega) (by omega)
  rw [hR] at hg
  obtain ⟨k, rfl⟩ := Int.eq_ofNat_of_zero_le hg.1
  have hk2 : k < (lay n).no := by have := hg.2; simp at this; omega
  have gv := give_any h sp (lay n) hs 60 (lay n).nd 0 _ _ (kindI (lay n) (by omega) (by omega)) (by simp only [hs']; omega) (by omega) (by simp only [hs']; omega) (by omega) (a.reach _ (by omega) (.inr (by omega))) a.up (a.few h2) b' (k : Int) t hR
  have a1 := a.bits (lay n).nd t b' hb' hsr
  have s1 := srt_bits hsr (lay n).nd t b'
  by_cases hE : (if bitE L (lay n).nd t ≠ 0 then bitE L (lay n).nd t else if (k : Int) = 0 then 47 else 0) = 0
  · have e0 : bitE L (lay n).nd t = 0 := by
      by_cases e : bitE L (lay n).nd t = 0
      · exact e
      · rw [if_pos e] at hE; exact hE
    have hk0 : ¬ (k : Int) = 0 := fun e => by rw [e0] at hE; simp [e] at hE
    rw [e0] at gv
    simp only [ne_eq, not_true_eq_false, if_false, hk0] at gv
    have hrr := a1.reach ((lay n).tb + k / 4) (by omega) (.inr (by omega))
    have hwl : ∀ {W : World} (o : OwnL G W l p bl bt D (bitL L (lay n).nd t b')), (wipe ((bitL L (lay n).nd t b').tell D ((lay n).tb + k / 4)) (k % 4 * 32)).length = 128 := fun o => wipe_length _ _ (tell_length o _ (reach_lt o _ hrr)) (by omega)
    have gv2 : Calls Tryz.prog 50 #[pv sp, .func (.func 60) #[(lay n).v] #[]] w fun e w' => (e = .returned (.tuple #[.int .i64 (k : Int), .int .i64 0]) ∧ OwnL G w' l p bl bt D (bitL L (lay n).nd t b') ∧ Kp G w w') := gv
    have hlen : (wipe ((bitL L (lay n).nd t b').tell D ((lay n).tb + k / 4)) (k % 4 * 32)).length = 128 := by
      refine wipe_length _ _ ?_ (by omega)
      unfold bitL
      split
      · by_cases he : L.stageE ((lay n).nd : Int) 128 = 0
        · rw [stage_st hb' he]
          show (match get (ins (lay n).nd b' L.st) ((lay n).tb + k / 4) with | some s => s | none => match get L.lg ((lay n).tb + k / 4) with | some s => s | none => sec D.N ((lay n).tb + k / 4)).length = 128
          rw [get_ins _ _ _ _ hsr, if_neg (by omega)]
          exact tell_length h _ (reach_lt h _ (a.reach _ (by omega) (.inr (by omega))))
        · have : L.stage ((lay n).nd : Int) b' = L := by unfold Lg.stage; rw [hb', if_neg he]
          rw [this]
          exact tell_length h _ (reach_lt h _ (a.reach _ (by omega) (.inr (by omega))))
      · exact tell_length h _ (reach_lt h _ (a.reach _ (by omega) (.inr (by omega))))
    by_cases hF : (bitL L (lay n).nd t b').stageE (((lay n).tb + k / 4 : Nat) : Int) 128 = 0
    · refine (Inode_ok hs k gv2 (by omega) (by omega) hrr a.up (a1.few h2) hF).mono ?_
      rintro e w' ⟨he, o', k'⟩
      exact ⟨_, _, he, _, o', a1.stageAny _ _ hlen s1, k'⟩
    · refine (Inode_full hs k gv2 (by omega) (by omega) hrr a.up (a1.few h2) _ hF rfl).mono ?_
      rintro e w' ⟨he, o', k'⟩
      exact ⟨_, _, he, _, o', a1.stageAny _ _ hlen s1, k'⟩
  · refine (Inode_fail hs _ _ hE gv).mono ?_
    rintro e w' ⟨he, o', k'⟩
    exact ⟨_, _, he, _, o', a1, k'⟩

theorem Free_act (h : OwnL G w l p bl bt D L) (hs : Spc G w sp l (lay n)) (a : AI n m T D L) (h1 : 64 ≤ n) (h2 : n ≤ 1024) (k : Int) :
    Calls Tryz.prog 22 #[pv sp, .int .i64 k] w fun e w' => ∃ x : Int, e = .returned (.int .i64 x) ∧ Acts G w l p bl bt n m T D w' := by
  have hy := lay_b n h1 h2
  have hs' : (lay n).s = n := rfl
  have hsr := h.r.mt.2.1
  have htl := tell_length h (lay n).mp (reach_lt h _ (a.reach _ (by omega) (.inr (by omega))))
  by_cases hle : max k ((lay n).da : Int) ≤ min k (((lay n).s : Int) - 1)
  · obtain ⟨b', g, t, hR⟩ : ∃ b' g t, brun stepT (lay n).da (min k (((lay n).s : Int) - 1) + 1 - max k ((lay n).da : Int)).toNat (max k ((lay n).da : Int)) (L.tell D (lay n).mp) false false = (b', g, t) := ⟨_, _, _, rfl⟩
    have hb' : b'.length = 128 := by
      have := brun_length stepT (lay n).da (min k (((lay n).s : Int) - 1) + 1 - max k ((lay n).da : Int)).toNat (max k ((lay n).da : Int)) (L.tell D (lay n).mp) false false
      rw [hR] at this
      exact this.trans htl
    have g1 := take_any h sp (lay n) hs 49 (lay n).mp (lay n).da _ _ (kindB (lay n) (by omega) (by omega)) k 48 hle (by omega) (by simp only [hs']; omega) (by omega) (a.reach _ (by omega) (.inr (by omega))) a.up (a.few h2) b' g t hR
    refine (Free_of hs k _ g1).mono ?_
    rintro e w' ⟨he, o', k'⟩
    exact ⟨_, he, _, o', a.bits _ t b' hb' hsr, k'⟩
  · have g1 := take_none w sp (lay n) 49 (lay n).mp (lay n).da _ _ (kindB (lay n) (by omega) (by omega)) k 48 (by show min k (((lay n).s : Int) - 1) < max k ((lay n).da : Int); omega)
    refine (Free_of hs k 48 (Q := fun _ w' => Nw w w') g1).mono ?_
    rintro e w' ⟨he, f⟩
    exact ⟨_, he, _, h.nw f, a, f.kp⟩

theorem FreeInode_act (h : OwnL G w l p bl bt D L) (hs : Spc G w sp l (lay n)) (a : AI n m T D L) (h1 : 64 ≤ n) (h2 : n ≤ 1024) (k : Int) :
    Calls Tryz.prog 28 #[pv sp, .int .i64 k] w fun e w' => ∃ x : Int, e = .returned (.int .i64 x) ∧ Acts G w l p bl bt n m T D w' := by
  have hy := lay_b n h1 h2
  have hs' : (lay n).s = n := rfl
  have hsr := h.r.mt.2.1
  have htl := tell_length h (lay n).nd (reach_lt h _ (a.reach _ (by omega) (.inr (by omega))))
  by_cases hle : max k 1 ≤ min k (((lay n).no : Int) - 1)
  · obtain ⟨b', g, t, hR⟩ : ∃ b' g t, brun stepT 0 (min k (((lay n).no : Int) - 1) + 1 - max k 1).toNat (max k 1) (L.tell D (lay n).nd) false false = (b', g, t) := ⟨_, _, _, rfl⟩
    have hb' : b'.length = 128 := by
      have := brun_length stepT 0 (min k (((lay n).no : Int) - 1) + 1 - max k 1).toNat (max k 1) (L.tell D (lay n).nd) false false
      rw [hR] at this
      exact this.trans htl
    have g1 := take_any h sp (lay n) hs 60 (lay n).nd 0 _ _ (kindI (lay n) (by omega) (by omega)) k 49 hle (by omega) (by show min k (((lay n).no : Int) - 1) - ((0 : Nat) : Int) < 1024; omega) (by omega) (a.reach _ (by omega) (.inr (by omega))) a.up (a.few h2) b' g t hR
    refine (FreeInode_of hs k _ g1).mono ?_
    rintro e w' ⟨he, o', k'⟩
    exact ⟨_, he, _, o', a.bits _ t b' hb' hsr, k'⟩
  · have g1 := take_none w sp (lay n) 60 (lay n).nd 0 _ _ (kindI (lay n) (by omega) (by omega)) k 49 (by show min k (((lay n).no : Int) - 1) < max k 1; omega)
    refine (FreeInode_of hs k 49 (Q := fun _ w' => Nw w w') g1).mono ?_
    rintro e w' ⟨he, f⟩
    exact ⟨_, he, _, h.nw f, a, f.kp⟩
end

end Go.Proofs.YtehoiahgkbnjdaaGreat.Al
/- The law's own: act. -/
namespace Go.Proofs.YtehoiahgkbnjdaaGreat.Al
open Go.RowKit Go.Shelf Dk Wl

set_option maxRecDepth 100000 in
set_option maxHeartbeats 4000000 in
theorem act_any {G : Nat → Prop} {w : World} {l p bl bt sp n m : Nat} {T : Nat → Sec} {D : Dsk} {L : Lg} (h : OwnL G w l p bl bt D L) (hs : Spc G w sp l (lay n)) (a : AI n m T D L) (h1 : 64 ≤ n) (h2 : n ≤ 1024) (K N : Int) :
    Calls Tryz.prog 23 #[pv sp, .agg #[.int .i64 K, .int .i64 N]] w fun e w' => e = .returned (.tuple #[]) ∧ Acts G w l p bl bt n m T D w' := by
  have f0 : Nw w (w.alloc (.cells #[.int .i64 K, .int .i64 N] 36)) := (Fr.refl _ w).alloc _
  have HB := hid (Block_act (h.nw f0) (hs.kp f0.kp) a h1 h2)
  have HI := hid (Inode_act (h.nw f0) (hs.kp f0.kp) a h1 h2)
  have HF := hid (Free_act (h.nw f0) (hs.kp f0.kp) a h1 h2 N)
  have HG := hid (FreeInode_act (h.nw f0) (hs.kp f0.kp) a h1 h2 N)
  have H0 : Hid (∀ w', Acts G (w.alloc (.cells #[.int .i64 K, .int .i64 N] 36)) l p bl bt n m T D w' → Acts G w l p bl bt n m T D w') := by
    rintro w' ⟨L', a1, a2, a3⟩
    exact ⟨L', a1, a2, Kp.trans f0.kp a3⟩
  have H5 : Hid (Acts G w l p bl bt n m T D (w.alloc (.cells #[.int .i64 K, .int .i64 N] 36))) := ⟨L, h.nw f0, a, f0.kp⟩
  clear h hs a h1 h2 f0
  go_enter Tryz.func23, Tryz.ntmps23
  go_wp2_with (first
    | (go_at_call 17; refine HB.out.mono ?_; rintro x w2 ⟨x1, x2, rfl, q2⟩; have HQ := hid (H0.out _ q2); clear q2)
    | (go_at_call 27; refine HI.out.mono ?_; rintro x w2 ⟨x1, x2, rfl, q2⟩; have HQ := hid (H0.out _ q2); clear q2)
    | (go_at_call 22; refine HF.out.mono ?_; rintro x w2 ⟨x1, rfl, q2⟩; have HQ := hid (H0.out _ q2); clear q2)
    | (go_at_call 28; refine HG.out.mono ?_; rintro x w2 ⟨x1, rfl, q2⟩; have HQ := hid (H0.out _ q2); clear q2))
  all_goals
    first
      | exact bodyPost_end (results_none rfl _ _ _) rfl ⟨rfl, HQ.out⟩
      | exact bodyPost_end (results_none rfl _ _ _) rfl ⟨rfl, H5.out⟩

end Go.Proofs.YtehoiahgkbnjdaaGreat.Al
/- Has and HasInode over a space's log in plain words. -/
namespace Go.Proofs.YtehoiahgkbnjdaaGreat.Al
open Go.RowKit Go.Shelf Dk Wl

theorem brunH (zr : Nat) (k : Int) (b : Sec) : brun stepH zr 1 k b false false = (b, bitOf b (k - zr).toNat, false) := by
  simp [brun, stepH]
def hasB (n : Nat) (b : Sec) (k : Int) : Bool := if (lay n).da ≤ k ∧ k < n then bitOf b (k - (lay n).da).toNat else false
def hasI (n : Nat) (b : Sec) (k : Int) : Bool := if 1 ≤ k ∧ k < (lay n).no then bitOf b k.toNat else false

section
variable {G : Nat → Prop} {w : World} {l p bl bt sp n m : Nat} {T : Nat → Sec} {D : Dsk} {L : Lg}
theorem Has_ai (h : OwnL G w l p bl bt D L) (hs : Spc G w sp l (lay n)) (a : AI n m T D L) (h1 : 64 ≤ n) (h2 : n ≤ 1024) (k : Int) :
    Calls Tryz.prog 21 #[pv sp, .int .i64 k] w fun e w' => e = .returned (.tuple #[.bool (hasB n (over L.st T (lay n).mp) k), .int .i64 0]) ∧ OwnL G w' l p bl bt D L ∧ Kp G w w' := by
  have hy := lay_b n h1 h2
  have hs' : (lay n).s = n := rfl
  have ht := a.tell (lay n).mp (by omega) (.inr (by omega))
  unfold hasB
  by_cases hk : (lay n).da ≤ k ∧ k < n
  · rw [if_pos hk, ← ht]
    have ef : max k ((lay n).da : Int) = k := by omega
    have el : min k (((lay n).s : Int) - 1) = k := by omega
    refine Has_of hs k _ 0 (Q := fun w' => OwnL G w' l p bl bt D L ∧ Kp G w w') (has_any h sp (lay n) hs 49 (lay n).mp (lay n).da _ _ (kindB (lay n) (by omega) (by omega)) k (by simp only [hs']; omega) (by omega) (by simp only [hs']; omega) (by omega) (a.reach _ (by omega) (.inr (by omega))) a.up (a.few h2) (L.tell D (lay n).mp) _ ?_)
    have e1 : ((fun l => min l (((lay n).s : Int) - 1)) k + 1 - (fun f => max f ((lay n).da : Int)) k).toNat = 1 := by simp only [ef, el]; omega
    rw [e1]
    show brun stepH (lay n).da 1 (max k ((lay n).da : Int)) _ false false = _
    rw [ef, brunH]
  · rw [if_neg hk]
    refine Has_of hs k false 0 (Q := fun w' => OwnL G w' l p bl bt D L ∧ Kp G w w') ((has_none w sp (lay n) 49 (lay n).mp (lay n).da _ _ (kindB (lay n) (by omega) (by omega)) k (by show min k (((lay n).s : Int) - 1) < max k ((lay n).da : Int); omega)).mono ?_)
    rintro e w' ⟨he, f⟩
    exact ⟨he, h.nw f, f.kp⟩
theorem HasInode_ai (h : OwnL G w l p bl bt D L) (hs : Spc G w sp l (lay n)) (a : AI n m T D L) (h1 : 64 ≤ n) (h2 : n ≤ 1024) (k : Int) :
    Calls Tryz.prog 38 #[pv sp, .int .i64 k] w fun e w' => e = .returned (.tuple #[.bool (hasI n (over L.st T (lay n).nd) k), .int .i64 0]) ∧ OwnL G w' l p bl bt D L ∧ Kp G w w' := by
  have hy := lay_b n h1 h2
  have hs' : (lay n).s = n := rfl
  have ht := a.tell (lay n).nd (by omega) (.inr (by omega))
  unfold hasI
  by_cases hk : 1 ≤ k ∧ k < (lay n).no
  · rw [if_pos hk, ← ht]
    have ef : max k 1 = k := by omega
    have el : min k (((lay n).no : Int) - 1) = k := by omega
    refine HasInode_of hs k _ 0 (Q := fun w' => OwnL G w' l p bl bt D L ∧ Kp G w w') (has_any h sp (lay n) hs 60 (lay n).nd 0 _ _ (kindI (lay n) (by omega) (by omega)) k (by show max k 1 ≤ min k (((lay n).no : Int) - 1); omega) (by show ((0 : Nat) : Int) ≤ max k 1; omega) (by show min k (((lay n).no : Int) - 1) - ((0 : Nat) : Int) < 1024; omega) (by omega) (a.reach _ (by omega) (.inr (by omega))) a.up (a.few h2) (L.tell D (lay n).nd) _ ?_)
    have e1 : ((fun l => min l (((lay n).no : Int) - 1)) k + 1 - (fun f => max f 1) k).toNat = 1 := by simp only [ef, el]; omega
    rw [e1]
    show brun stepH 0 1 (max k 1) _ false false = _
    rw [ef, brunH]
    simp
  · rw [if_neg hk]
    refine HasInode_of hs k false 0 (Q := fun w' => OwnL G w' l p bl bt D L ∧ Kp G w w') ((has_none w sp (lay n) 60 (lay n).nd 0 _ _ (kindI (lay n) (by omega) (by omega)) k (by show min k (((lay n).no : Int) - 1) < max k 1; omega)).mono ?_)
    rintro e w' ⟨he, f⟩
    exact ⟨he, h.nw f, f.kp⟩
end

end Go.Proofs.YtehoiahgkbnjdaaGreat.Al
