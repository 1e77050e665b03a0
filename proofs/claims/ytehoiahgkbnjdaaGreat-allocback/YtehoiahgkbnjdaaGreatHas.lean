/- Has and HasInode over a space's log in plain words. -/
import Derived.Test.YtehoiahgkbnjdaaGreatAct
namespace Go.Proofs.YtehoiahgkbnjdaaGreat.Al
open Go.RowKit Go.Shelf Dk Wl

theorem brunH (zr : Nat) (k : Int) (b : Sec) : brun stepH zr 1 k b false false = (b, bitOf b (k - zr).toNat, false) := by
  simp [brun, stepH]
def hasB (n : Nat) (b : Sec) (k : Int) : Bool := if (lay n).da ≤ k ∧ k < n then bitOf b (k - (lay n).da).toNat else false
def hasI (n : Nat) (b : Sec) (k : Int) : Bool := if 1 ≤ k ∧ k < (lay n).no then bitOf b k.toNat else false

section
variable {G : Nat → Prop} {w : World} {l p bl bt sp n m : Nat} {T : Nat → Sec} {D : Dsk} {L : Lg}
theorem Has_ai (h : OwnL G w l p bl bt D L) (hs : Spc G w sp l (lay n)) (a : AI n m T D L) (h1 : 64 ≤ n) (h2 : n ≤ 1024) (k : Int) :
    Calls Tryz.prog 21 #[pv sp, .int .i64 k] w fun e w' => e = .returned (.tuple #[.bool (hasB n (over L.st T (lay n).mp) k), .int .i64 0]) ∧ OwnL G w' l p bl bt D L ∧ Kp G w w' := by
  have hy := lay_b n h1 h2
  have hs' : (lay n).s = n := rfl
  have ht := a.tell (lay n).mp (by omega) (.inr (by omega))
  unfold hasB
  by_cases hk : (lay n).da ≤ k ∧ k < n
  · rw [if_pos hk, ← ht]
    have ef : max k ((lay n).da : Int) = k := by omega
    have el : min k (((lay n).s : Int) - 1) = k := by omega
    refine Has_of hs k _ 0 (Q := fun w' => OwnL G w' l p bl bt D L ∧ Kp G w w') (has_any h sp (lay n) hs 49 (lay n).mp (lay n).da _ _ (kindB (lay n) (by omega) (by omega)) k (by simp only [hs']; omega) (by omega) (by simp only [hs']; omega) (by omega) (a.reach _ (by omega) (.inr (by omega))) a.up (a.few h2) (L.tell D (lay n).mp) _ ?_)
    have e1 : ((fun l => min l (((lay n).s : Int) - 1)) k + 1 - (fun f => max f ((lay n).da : Int)) k).toNat = 1 := by simp only [ef, el]; omega
    rw [e1]
    show brun stepH (lay n).da 1 (max k ((lay n).da : Int)) _ false false = _
    rw [ef, brunH]
  · rw [if_neg hk]
    refine Has_of hs k false 0 (Q := fun w' => OwnL G w' l p bl bt D L ∧ Kp G w w') ((has_none w sp (lay n) 49 (lay n).mp (lay n).da _ _ (kindB (lay n) (by omega) (by omega)) k (by show min k (((lay n).s : Int) - 1) < max k ((lay n).da : Int); omega)).mono ?_)
    rintro e w' ⟨he, f⟩
    exact ⟨he, h.nw f, f.kp⟩
theorem HasInode_ai (h : OwnL G w l p bl bt D L) (hs : Spc G w sp l (lay n)) (a : AI n m T D L) (h1 : 64 ≤ n) (h2 : n ≤ 1024) (k : Int) :
    Calls Tryz.prog 38 #[pv sp, .int .i64 k] w fun e w' => e = .returned (.tuple #[.bool (hasI n (over L.st T (lay n).nd) k), .int .i64 0]) ∧ OwnL G w' l p bl bt D L ∧ Kp G w w' := by
  have hy := lay_b n h1 h2
  have hs' : (lay n).s = n := rfl
  have ht := a.tell (lay n).nd (by omega) (.inr (by omega))
  unfold hasI
  by_cases hk : 1 ≤ k ∧ k < (lay n).no
  · rw [if_pos hk, ← ht]
    have ef : max k 1 = k := by omega
    have el : min k (((lay n).no : Int) - 1) = k := by omega
    refine HasInode_of hs k _ 0 (Q := fun w' => OwnL G w' l p bl bt D L ∧ Kp G w w') (has_any h sp (lay n) hs 60 (lay n).nd 0 _ _ (kindI (lay n) (by omega) (by omega)) k (by show max k 1 ≤ min k (((lay n).no : Int) - 1); omega) (by show ((0 : Nat) : Int) ≤ max k 1; omega) (by show min k (((lay n).no : Int) - 1) - ((0 : Nat) : Int) < 1024; omega) (by omega) (a.reach _ (by omega) (.inr (by omega))) a.up (a.few h2) (L.tell D (lay n).nd) _ ?_)
    have e1 : ((fun l => min l (((lay n).no : Int) - 1)) k + 1 - (fun f => max f 1) k).toNat = 1 := by simp only [ef, el]; omega
    rw [e1]
    show brun stepH 0 1 (max k 1) _ false false = _
    rw [ef, brunH]
    simp
  · rw [if_neg hk]
    refine HasInode_of hs k false 0 (Q := fun w' => OwnL G w' l p bl bt D L ∧ Kp G w w') ((has_none w sp (lay n) 60 (lay n).nd 0 _ _ (kindI (lay n) (by omega) (by omega)) k (by show min k (((lay n).no : Int) - 1) < max k 1; omega)).mono ?_)
    rintro e w' ⟨he, f⟩
    exact ⟨he, h.nw f, f.kp⟩
end

end Go.Proofs.YtehoiahgkbnjdaaGreat.Al
