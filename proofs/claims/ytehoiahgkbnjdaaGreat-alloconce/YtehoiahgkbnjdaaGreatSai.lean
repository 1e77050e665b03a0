
/- Block, Inode, Free over a space's log in plain words. -/
import Derived.Test.YtehoiahgkbnjdaaGreatMd
import Derived.Test.YtehoiahgkbnjdaaGreatIno
namespace Go.Proofs.YtehoiahgkbnjdaaGreat.Al
open Go.RowKit Go.Shelf Dk Wl

theorem lay_b (n : Nat) (h1 : 64 ≤ n) (h2 : n ≤ 1024) : (lay n).mp = 1 + (lay n).ll ∧ (lay n).nd = 2 + (lay n).ll ∧ (lay n).tb = 3 + (lay n).ll ∧ 3 + (lay n).ll < (lay n).da ∧ (lay n).da < n ∧ 16 ≤ (lay n).no ∧ (lay n).no ≤ 128 ∧ (lay n).tb + ((lay n).no + 3) / 4 = (lay n).da := by
  have e1 : max (n / 8) 16 = n / 8 ∧ 16 ≤ n / 8 ∨ max (n / 8) 16 = 16 ∧ n / 8 ≤ 16 := by omega
  have e2 : min (n / 4) 128 = n / 4 ∧ n / 4 ≤ 128 ∨ min (n / 4) 128 = 128 ∧ 128 ≤ n / 4 := by omega
  refine ⟨rfl, rfl, rfl, ?_, ?_, ?_, ?_, ?_⟩
  all_goals
    unfold lay
    first
      | rfl
      | (dsimp only
         generalize max (n / 8) 16 = a at *
         generalize min (n / 4) 128 = c at *
         omega)

/-- The whole span of a map, of one of the two kinds. -/
abbrev runB {σ : Type} (step : σ → Int → Bool → Bool × σ) (n : Nat) (b : Sec) (s : σ) : Sec × σ × Bool := brun step (lay n).da (min ((lay n).s : Int) ((lay n).s - 1) + 1 - max 0 ((lay n).da : Int)).toNat (max 0 ((lay n).da : Int)) b s false
abbrev runI {σ : Type} (step : σ → Int → Bool → Bool × σ) (n : Nat) (b : Sec) (s : σ) : Sec × σ × Bool := brun step 0 (min ((lay n).s : Int) ((lay n).no - 1) + 1 - max 0 1).toNat (max 0 1) b s false

section
variable {G : Nat → Prop} {w : World} {l p bl bt sp n m : Nat} {T : Nat → Sec} {D : Dsk} {L : Lg}
theorem AI.few (a : AI n m T D L) (h2 : n ≤ 1024) : L.st.length < 90000 := by
  have := cost_le a.c
  have := lay_ll n h2
  omega

theorem Blocks_ai (h : OwnL G w l p bl bt D L) (hs : Spc G w sp l (lay n)) (a : AI n m T D L) (h1 : 64 ≤ n) (h2 : n ≤ 1024) (b : Sec) (hb : over L.st T (lay n).mp = b) (c : Int) (b' : Sec) (hR : runB stepC n b 0 = (b', c, false)) :
    Calls Tryz.prog 16 #[pv sp] w fun e w' => e = .returned (.tuple #[.int .i64 c, .int .i64 0]) ∧ (OwnL G w' l p bl bt D L ∧ Kp G w w') := by
  have hy := lay_b n h1 h2
  have hs' : (lay n).s = n := rfl
  have ht := a.tell (lay n).mp (by omega) (.inr (by omega))
  rw [hb] at ht
  have := count_any h sp (lay n) hs 49 (lay n).mp (lay n).da _ _ (kindB (lay n) (by omega) (by omega)) (by simp only [hs']; omega) (by omega) (by simp only [hs']; omega) (by omega) (a.reach _ (by omega) (.inr (by omega))) a.up (a.few h2) (by rw [ht]; exact congrArg (fun q => q.2.2) hR)
  rw [ht] at this
  have e : (runB stepC n b 0).2.1 = c := by rw [hR]
  refine Blocks_of hs c 0 ?_
  rw [← e]
  exact this
theorem Inodes_ai (h : OwnL G w l p bl bt D L) (hs : Spc G w sp l (lay n)) (a : AI n m T D L) (h1 : 64 ≤ n) (h2 : n ≤ 1024) (b : Sec) (hb : over L.st T (lay n).nd = b) (c : Int) (b' : Sec) (hR : runI stepC n b 0 = (b', c, false)) :
    Calls Tryz.prog 26 #[pv sp] w fun e w' => e = .returned (.tuple #[.int .i64 c, .int .i64 0]) ∧ (OwnL G w' l p bl bt D L ∧ Kp G w w') := by
  have hy := lay_b n h1 h2
  have hs' : (lay n).s = n := rfl
  have ht := a.tell (lay n).nd (by omega) (.inr (by omega))
  rw [hb] at ht
  have := count_any h sp (lay n) hs 60 (lay n).nd 0 _ _ (kindI (lay n) (by omega) (by omega)) (by simp only [hs']; omega) (by omega) (by simp only [hs']; omega) (by omega) (a.reach _ (by omega) (.inr (by omega))) a.up (a.few h2) (by rw [ht]; exact congrArg (fun q => q.2.2) hR)
  rw [ht] at this
  have e : (runI stepC n b 0).2.1 = c := by rw [hR]
  refine Inodes_of hs c 0 ?_
  rw [← e]
  exact this

theorem Block_ai (h : OwnL G w l p bl bt D L) (hs : Spc G w sp l (lay n)) (a : AI n m T D L) (h1 : 64 ≤ n) (h2 : n ≤ 1024) (b : Sec) (hb : over L.st T (lay n).mp = b) (b' : Sec) (hb' : b'.length = 128) (k : Nat) (hk1 : (lay n).da ≤ k) (hk2 : k < n) (hR : runB stepG n b 0 = (b', (k : Int), true)) (hc : cost (L.st.length + 2) ≤ (lay n).ll - 1) :
    ∃ L', (Calls Tryz.prog 17 #[pv sp] w fun e w' => e = .returned (.tuple #[.int .i64 (k : Int), .int .i64 0]) ∧ OwnL G w' l p bl bt D L' ∧ Kp G w w') ∧ AI n m T D L' ∧ L'.st = ins k zeros (ins (lay n).mp b' L.st) := by
  have hy := lay_b n h1 h2
  have hs' : (lay n).s = n := rfl
  have ht := a.tell (lay n).mp (by omega) (.inr (by omega))
  rw [hb] at ht
  have hc1 : cost (L.st.length + 1) ≤ (lay n).ll - 1 := Nat.le_trans (cost_mono (by omega)) hc
  have e1 := a.stageE (lay n).mp (by omega) (.inr (by omega)) hc1
  obtain ⟨a1, t1⟩ := a.stage (lay n).mp (by omega) (.inr (by omega)) b' hb' hc1
  have hc2 : cost ((L.stage ((lay n).mp : Int) b').st.length + 1) ≤ (lay n).ll - 1 := Nat.le_trans (cost_mono (by rw [t1]; have := ins_len (lay n).mp b' L.st; omega)) hc
  have e2 := a1.stageE k hk2 (.inr (by omega)) hc2
  obtain ⟨a2, t2⟩ := a1.stage k hk2 (.inr (by omega)) zeros zeros_length hc2
  have g := give_any h sp (lay n) hs 49 (lay n).mp (lay n).da _ _ (kindB (lay n) (by omega) (by omega)) (by simp only [hs']; omega) (by omega) (by simp only [hs']; omega) (by omega) (a.reach _ (by omega) (.inr (by omega))) a.up (a.few h2) b' (k : Int) true (by rw [ht]; exact hR)
  have eE : bitE L (lay n).mp true = 0 := e1
  have eL : bitL L (lay n).mp true b' = L.stage ((lay n).mp : Int) b' := rfl
  have hk0 : ¬ (k : Int) = 0 := by omega
  rw [eE, eL] at g
  simp only [ne_eq, not_true_eq_false, if_false, hk0] at g
  exact ⟨_, Block_ok hs k g (a1.few h2) e2, a2, by rw [t2, t1]⟩

theorem Inode_ai (h : OwnL G w l p bl bt D L) (hs : Spc G w sp l (lay n)) (a : AI n m T D L) (h1 : 64 ≤ n) (h2 : n ≤ 1024) (b : Sec) (hb : over L.st T (lay n).nd = b) (b' : Sec) (hb' : b'.length = 128) (i : Nat) (hk1 : 1 ≤ i) (hk2 : i < (lay n).no) (hR : runI stepG n b 0 = (b', (i : Int), true)) (hc : cost (L.st.length + 2) ≤ (lay n).ll - 1)
    (c : Sec) (hcl : c.length = 128) (hcc : over (ins (lay n).nd b' L.st) T ((lay n).tb + i / 4) = c) :
    ∃ L', (Calls Tryz.prog 27 #[pv sp] w fun e w' => e = .returned (.tuple #[.int .i64 (i : Int), .int .i64 0]) ∧ OwnL G w' l p bl bt D L' ∧ Kp G w w') ∧ AI n m T D L' ∧ L'.st = ins ((lay n).tb + i / 4) (wipe c (i % 4 * 32)) (ins (lay n).nd b' L.st) := by
  have hy := lay_b n h1 h2
  have hs' : (lay n).s = n := rfl
  have ht := a.tell (lay n).nd (by omega) (.inr (by omega))
  rw [hb] at ht
  have hc1 : cost (L.st.length + 1) ≤ (lay n).ll - 1 := Nat.le_trans (cost_mono (by omega)) hc
  have e1 := a.stageE (lay n).nd (by omega) (.inr (by omega)) hc1
  obtain ⟨a1, t1⟩ := a.stage (lay n).nd (by omega) (.inr (by omega)) b' hb' hc1
  have hc2 : cost ((L.stage ((lay n).nd : Int) b').st.length + 1) ≤ (lay n).ll - 1 := Nat.le_trans (cost_mono (by rw [t1]; have := ins_len (lay n).nd b' L.st; omega)) hc
  have e2 := a1.stageE ((lay n).tb + i / 4) (by omega) (.inr (by omega)) hc2
  have ht1 := a1.tell ((lay n).tb + i / 4) (by omega) (.inr (by omega))
  rw [t1, hcc] at ht1
  obtain ⟨a2, t2⟩ := a1.stage ((lay n).tb + i / 4) (by omega) (.inr (by omega)) (wipe c (i % 4 * 32)) (wipe_length c _ hcl (by omega)) hc2
  have g := give_any h sp (lay n) hs 60 (lay n).nd 0 _ _ (kindI (lay n) (by omega) (by omega)) (by simp only [hs']; omega) (by omega) (by simp only [hs']; omega) (by omega) (a.reach _ (by omega) (.inr (by omega))) a.up (a.few h2) b' (i : Int) true (by rw [ht]; exact hR)
  have eE : bitE L (lay n).nd true = 0 := e1
  have eL : bitL L (lay n).nd true b' = L.stage ((lay n).nd : Int) b' := rfl
  have hk0 : ¬ (i : Int) = 0 := by omega
  rw [eE, eL] at g
  simp only [ne_eq, not_true_eq_false, if_false, hk0] at g
  have q := Inode_ok hs i g (by omega) (by omega) (a1.reach _ (by omega) (.inr (by omega))) a1.up (a1.few h2) e2
  rw [ht1] at q
  exact ⟨_, q, a2, by rw [t2, t1]⟩

theorem Free_ai (h : OwnL G w l p bl bt D L) (hs : Spc G w sp l (lay n)) (a : AI n m T D L) (h1 : 64 ≤ n) (h2 : n ≤ 1024) (k : Nat) (hk1 : (lay n).da ≤ k) (hk2 : k < n) (b : Sec) (hb : over L.st T (lay n).mp = b) (b' : Sec) (hb' : b'.length = 128) (hR : brun stepT (lay n).da 1 (k : Int) b false false = (b', true, true)) (hc : cost (L.st.length + 1) ≤ (lay n).ll - 1) :
    ∃ L', (Calls Tryz.prog 22 #[pv sp, .int .i64 (k : Int)] w fun e w' => e = .returned (.int .i64 0) ∧ (OwnL G w' l p bl bt D L' ∧ Kp G w w')) ∧ AI n m T D L' ∧ L'.st = ins (lay n).mp b' L.st := by
  have hy := lay_b n h1 h2
  have hs' : (lay n).s = n := rfl
  have ht := a.tell (lay n).mp (by omega) (.inr (by omega))
  rw [hb] at ht
  have e1 := a.stageE (lay n).mp (by omega) (.inr (by omega)) hc
  obtain ⟨a1, t1⟩ := a.stage (lay n).mp (by omega) (.inr (by omega)) b' hb' hc
  have ef : max (k : Int) ((lay n).da : Int) = k := by omega
  have el : min (k : Int) (((lay n).s : Int) - 1) = k := by omega
  have g := take_any h sp (lay n) hs 49 (lay n).mp (lay n).da _ _ (kindB (lay n) (by omega) (by omega)) (k : Int) 48 (by simp only [hs']; omega) (by omega) (by simp only [hs']; omega) (by omega) (a.reach _ (by omega) (.inr (by omega))) a.up (a.few h2) b' true true (by
    rw [ht]
    have e : ((fun l => min l (((lay n).s : Int) - 1)) (k : Int) + 1 - (fun f => max f ((lay n).da : Int)) (k : Int)).toNat = 1 := by simp only [ef, el]; omega
    rw [e]
    show brun stepT (lay n).da 1 (max (k : Int) ((lay n).da : Int)) b false false = _
    rw [ef]
    exact hR)
  have eE : bitE L (lay n).mp true = 0 := e1
  have eL : bitL L (lay n).mp true b' = L.stage ((lay n).mp : Int) b' := rfl
  rw [eE, eL] at g
  simp only [Bool.true_eq_false, and_false, if_false] at g
  exact ⟨_, Free_of hs (k : Int) 0 g, a1, t1⟩

theorem FreeInode_none (hs : Spc G w sp l (lay n)) (h1 : 64 ≤ n) (h2 : n ≤ 1024) (k : Int) (hk : k < 1 ∨ (lay n).no ≤ k) :
    Calls Tryz.prog 28 #[pv sp, .int .i64 k] w fun e w' => e = .returned (.int .i64 49) ∧ Nw w w' := by
  have hy := lay_b n h1 h2
  exact FreeInode_of hs k 49 (by
    refine (take_none w sp (lay n) 60 (lay n).nd 0 _ _ (kindI (lay n) (by omega) (by omega)) k 49 ?_).mono (fun e w' h => h)
    show min k (((lay n).no : Int) - 1) < max k 1
    omega)
end

end Go.Proofs.YtehoiahgkbnjdaaGreat.Al
