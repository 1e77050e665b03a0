/- Sorting goes through a map. Nothing here speaks of the Go text. -/
import Derived.Test.YtniailfcmlongaaGreatDoorTct
namespace Go.Proofs.YtniailfcmlongaaGreatDoor.Tr
open Go.Sort

section
variable {α β : Type} [Inhabited α] [Inhabited β] (f : α → β) (lt : α → α → Bool) (lt' : β → β → Bool) (P : α → Prop) (hP : ∀ x y, P x → P y → lt' (f x) (f y) = lt x y)

def AllP (d : Array α) : Prop := ∀ i, i < d.size → P d[i]!
theorem map_get (d : Array α) (i : Nat) (h : i < d.size) : (d.map f)[i]! = f d[i]! := by
  rw [getElem!_pos (d.map f) i (by simpa using h), getElem!_pos d i h, Array.getElem_map]
theorem swp_sz (d : Array α) (i j : Nat) : (swp d i j).size = d.size := by simp [swp]
theorem swp_map (d : Array α) (i j : Nat) (hi : i < d.size) (hj : j < d.size) : (swp d i j).map f = swp (d.map f) i j := by
  unfold swp
  rw [map_get f d i hi, map_get f d j hj]
  simp [Array.map_setIfInBounds]
theorem swp_all (d : Array α) (i j : Nat) (hi : i < d.size) (hj : j < d.size) (h : AllP P d) : AllP P (swp d i j) := fun k hk => by
  rw [swp_sz] at hk
  unfold swp
  by_cases h1 : k = j
  · subst h1
    rw [getElem!_set_same _ _ _ (by simpa using hk)]
    exact h i hi
  · rw [getElem!_set_other _ _ _ _ h1]
    by_cases h2 : k = i
    · subst h2
      rw [getElem!_set_same _ _ _ hk]
      exact h j hj
    · rw [getElem!_set_other _ _ _ _ h2]
      exact h k hk
include hP in
theorem inner_map (a : Nat) : ∀ (j : Nat) (d : Array α), j < d.size → AllP P d → (insInner lt a j d).map f = insInner lt' a j (d.map f) ∧ AllP P (insInner lt a j d) ∧ (insInner lt a j d).size = d.size
  | 0, d, _, h => by unfold insInner; exact ⟨rfl, h, rfl⟩
  | j + 1, d, hj, h => by
    have e : lt' (d.map f)[j + 1]! (d.map f)[j]! = lt d[j + 1]! d[j]! := by
      rw [map_get f d (j + 1) hj, map_get f d j (by omega)]
      exact hP _ _ (h _ hj) (h _ (by omega))
    unfold insInner
    rw [e]
    split
    · have ih := inner_map a j (swp d (j + 1) j) (by rw [swp_sz]; omega) (swp_all P d _ _ hj (by omega) h)
      rw [swp_map f d _ _ hj (by omega), swp_sz] at ih
      exact ih
    · exact ⟨rfl, h, rfl⟩
include hP in
theorem outer_map (a b : Nat) : ∀ (m i : Nat) (d : Array α), b - i ≤ m → b ≤ d.size → AllP P d → (insOuter lt a b i d).map f = insOuter lt' a b i (d.map f)
  | 0, i, d, hm, hb, h => by
    unfold insOuter
    rw [if_neg (by omega), if_neg (by omega)]
  | m + 1, i, d, hm, hb, h => by
    unfold insOuter
    split
    · rename_i hi
      obtain ⟨h1, h2, h3⟩ := inner_map f lt lt' P hP a i d (by omega) h
      rw [outer_map a b m (i + 1) _ (by omega) (by rw [h3]; exact hb) h2, h1]
    · rfl
end

/-- Which of two definitions stands ahead. -/
def cfT (a b : Dt) : Int := Lib.compareInt a.o b.o
/-- Definitions by their orders, those of one order as they stood. -/
def insT (l : List Dt) : List Dt := (Sort.insertionSort (ltOf cfT) l.toArray 0 l.length).toList
theorem insZ_T (F : List Dz) (h : ∀ z ∈ F, z.2.o = z.1.o) : (insZ F.toArray).toList.map (·.1) = insT (F.map (·.1)) := by
  have hall : AllP (fun z : Dz => z.2.o = z.1.o) F.toArray := fun i hi => by
    have hi' : i < F.length := by simpa using hi
    rw [getElem!_pos _ i hi]
    simpa using h F[i] (List.getElem_mem hi')
  have e := outer_map (fun z : Dz => z.1) (ltOf cfZ) (ltOf cfT) (fun z => z.2.o = z.1.o) (fun x y hx hy => by unfold ltOf cfZ cfT; rw [hx, hy]) 0 F.toArray.size F.toArray.size (0 + 1) F.toArray (by omega) (Nat.le_refl _) hall
  unfold insT insZ Sort.insertionSort
  have e2 := congrArg Array.toList e
  simp only [Array.toList_map, List.map_toArray] at e2
  rw [e2]
  simp
/-- The values that count, in their order. -/
def cntV (L : List Dt) : List Vt := (insT (cntF L)).map (·.v)
theorem cnt_of {w : World} {L : List Dt} {F : List Dz} (hF : F.map (·.1) = cntF L) (hD : ∀ z ∈ F, DIn w z.1 z.2) : (insZ F.toArray).toList.map (·.1.v) = cntV L := by
  unfold cntV
  rw [← hF, ← insZ_T F (fun z hz => (hD z hz).2.2.1), List.map_map]
  rfl
end Go.Proofs.YtniailfcmlongaaGreatDoor.Tr
