/- Sorting by insertion is stable: the places. Nothing here speaks of the Go text. -/
import Derived.Test.YtniailfcmlongaaGreatDoorTmg
namespace Go.Proofs.YtniailfcmlongaaGreatDoor.Tr
open Go.Sort

section
variable {α : Type} [Inhabited α]
theorem swp_left (d : Array α) (j : Nat) (h : j + 1 < d.size) : (swp d (j + 1) j)[j]! = d[j + 1]! := by
  unfold swp
  rw [getElem!_set_same _ _ _ (by simp; omega)]
theorem swp_right (d : Array α) (j : Nat) (h : j + 1 < d.size) : (swp d (j + 1) j)[j + 1]! = d[j]! := by
  unfold swp
  rw [getElem!_set_other _ _ _ _ (by omega), getElem!_set_same _ _ _ h]
theorem swp_else (d : Array α) (j q : Nat) (h1 : q ≠ j) (h2 : q ≠ j + 1) : (swp d (j + 1) j)[q]! = d[q]! := by
  unfold swp
  rw [getElem!_set_other _ _ _ _ h1, getElem!_set_other _ _ _ _ h2]
theorem inner_keep (lt : α → α → Bool) (a : Nat) : ∀ (j : Nat) (d : Array α), j < d.size → (insInner lt a j d).size = d.size ∧ (∀ q, j < q → (insInner lt a j d)[q]! = d[q]!) ∧ ∀ P : α → Prop, (∀ q, q ≤ j → P d[q]!) → ∀ q, q ≤ j → P (insInner lt a j d)[q]!
  | 0, d, _ => by unfold insInner; exact ⟨rfl, fun _ _ => rfl, fun P h => h⟩
  | j + 1, d, hj => by
    unfold insInner
    split
    · obtain ⟨h1, h2, h3⟩ := inner_keep lt a j (swp d (j + 1) j) (by rw [swp_sz]; omega)
      refine ⟨by rw [h1, swp_sz], fun q hq => by rw [h2 q (by omega), swp_else d j q (by omega) (by omega)], fun P h q hq => ?_⟩
      by_cases e : q = j + 1
      · subst e
        rw [h2 (j + 1) (by omega), swp_right d j hj]
        exact h j (by omega)
      · refine h3 P (fun s hs => ?_) q (by omega)
        by_cases e' : s = j
        · subst e'
          rw [swp_left d s hj]
          exact h (s + 1) (by omega)
        · rw [swp_else d j s e' (by omega)]
          exact h s (by omega)
    · exact ⟨rfl, fun _ _ => rfl, fun P h => h⟩
end

/-- A definition and where it stood. -/
abbrev Tg := Dt × Nat
instance : Inhabited Tg := ⟨(⟨.mk 0 0 0 [] [] [], 0, 0⟩, 0)⟩
def ltO (x y : Tg) : Bool := ltOf cfT x.1 y.1
def ltX (x y : Tg) : Bool := decide (x.1.o < y.1.o ∨ (x.1.o = y.1.o ∧ x.2 < y.2))
theorem ltO_eq (x y : Tg) : ltO x y = decide (x.1.o < y.1.o) := cmpInt_lt x.1.o y.1.o
theorem ltO_X {x y : Tg} (h : y.2 < x.2) : ltO x y = ltX x y := by
  rw [ltO_eq]
  unfold ltX
  congr 1
  simp only [eq_iff_iff]
  constructor
  · exact .inl
  · rintro (g | ⟨_, g⟩)
    · exact g
    · omega
theorem swoX : SWO ltX where
  irrefl := fun x => by unfold ltX; simp
  trans := fun x y z h g => by
    unfold ltX at *
    simp only [decide_eq_true_eq] at *
    omega
  ntrans := fun x y z h g => by
    unfold ltX at *
    simp only [decide_eq_false_iff_not] at *
    omega
theorem inner_same : ∀ (j : Nat) (d : Array Tg), j < d.size → (∀ q, q < j → d[q]!.2 < d[j]!.2) → insInner ltO 0 j d = insInner ltX 0 j d
  | 0, d, _, _ => by unfold insInner; rfl
  | j + 1, d, hj, h => by
    unfold insInner
    rw [ltO_X (h j (by omega))]
    split
    · refine inner_same j _ (by rw [swp_sz]; omega) fun q hq => ?_
      rw [swp_left d j hj, swp_else d j q (by omega) (by omega)]
      exact h q (by omega)
    · rfl
theorem outer_same (b : Nat) : ∀ (m i : Nat) (d : Array Tg), b - i ≤ m → b ≤ d.size → (∀ p, p < i → d[p]!.2 < i) → (∀ q, i ≤ q → q < d.size → d[q]!.2 = q) → insOuter ltO 0 b i d = insOuter ltX 0 b i d
  | 0, i, d, hm, hb, _, _ => by
    unfold insOuter
    rw [if_neg (by omega), if_neg (by omega)]
  | m + 1, i, d, hm, hb, h1, h2 => by
    unfold insOuter
    split
    · rename_i hi
      have e : insInner ltO 0 i d = insInner ltX 0 i d := inner_same i d (by omega) fun q hq => by
        rw [h2 i (Nat.le_refl _) (by omega)]; exact h1 q hq
      rw [e]
      obtain ⟨k1, k2, k3⟩ := inner_keep ltX 0 i d (by omega)
      refine outer_same b m (i + 1) _ (by omega) (by rw [k1]; exact hb) (fun p hp => ?_) (fun q hq hs => ?_)
      · refine k3 (fun z => z.2 < i + 1) (fun q hq => ?_) p (by omega)
        by_cases e : q = i
        · subst e
          show d[q]!.2 < q + 1
          rw [h2 q (Nat.le_refl _) (by omega)]; omega
        · have := h1 q (by omega)
          show d[q]!.2 < i + 1
          omega
      · rw [k1] at hs
        rw [k2 q (by omega)]
        exact h2 q (by omega) hs
    · rfl
/-- Definitions with their places, by their orders. -/
def tagS (L : List Dt) : List Tg := (insertionSort ltX L.zipIdx.toArray 0 L.length).toList
theorem zip_get (L : List Dt) (i : Nat) (h : i < L.length) : L.zipIdx.toArray[i]! = (L[i], i) := by
  rw [getElem!_pos _ _ (by simpa using h)]
  simp
theorem tagS_len (L : List Dt) : (tagS L).length = L.length := by
  unfold tagS
  have := (insertionSort_holds (lt := ltX) swoX L.zipIdx.toArray 0 L.length (Nat.zero_le _) (by simp)).1.1
  simpa using this
theorem tagS_insT (L : List Dt) : (tagS L).map (·.1) = insT L := by
  have e1 : insertionSort ltO L.zipIdx.toArray 0 L.length = insertionSort ltX L.zipIdx.toArray 0 L.length := by
    unfold insertionSort
    refine outer_same L.length L.length 1 _ (by omega) (by simp) (fun p hp => ?_) (fun q hq hs => ?_)
    · obtain rfl : p = 0 := by omega
      by_cases h : 0 < L.length
      · rw [zip_get L 0 h]; exact Nat.zero_lt_one
      · have : L = [] := List.eq_nil_of_length_eq_zero (by omega)
        subst this
        decide
    · have hq' : q < L.length := by simpa using hs
      rw [zip_get L q hq']
  have e2 := outer_map (fun z : Tg => z.1) ltO (ltOf cfT) (fun _ => True) (fun x y _ _ => rfl) 0 L.length L.length (0 + 1) L.zipIdx.toArray (by omega) (by simp) (fun _ _ => trivial)
  unfold tagS insT
  rw [← e1]
  unfold insertionSort
  have e3 := congrArg Array.toList e2
  rw [Array.toList_map] at e3
  rw [e3]
  congr 2
  simp
theorem tagS_perm (L : List Dt) : (tagS L).Perm L.zipIdx := by
  have h := (insertionSort_holds (lt := ltX) swoX L.zipIdx.toArray 0 L.length (Nat.zero_le _) (by simp)).1
  have h2 := h.2.2
  have hs : (insertionSort ltX L.zipIdx.toArray 0 L.length).size = L.length := by rw [h.1]; simp
  unfold tagS
  have ex : ∀ (a : Array Tg) (n : Nat), a.size = n → (a.extract 0 n).toList = a.toList := fun a n ha => by
    rw [← ha, Array.extract_size]
  rw [ex _ _ hs, ex _ _ (by simp)] at h2
  exact h2
theorem tagS_sorted (L : List Dt) (r s : Nat) (h1 : r < s) (h2 : s < (tagS L).length) : ltX (tagS L)[s] ((tagS L)[r]'(by omega)) = false := by
  have h := (insertionSort_holds (lt := ltX) swoX L.zipIdx.toArray 0 L.length (Nat.zero_le _) (by simp)).2 r s (Nat.zero_le _) h1 (by rw [← tagS_len L]; exact h2)
  have hs : (insertionSort ltX L.zipIdx.toArray 0 L.length).size = (tagS L).length := by unfold tagS; simp
  rw [getElem!_pos _ s (by omega), getElem!_pos _ r (by omega)] at h
  unfold tagS
  simp only [Array.getElem_toList]
  exact h
theorem tagS_at (L : List Dt) (r : Nat) (h : r < (tagS L).length) : ∃ hi : (tagS L)[r].2 < L.length, (tagS L)[r].1 = L[(tagS L)[r].2] := by
  have hm : (tagS L)[r] ∈ L.zipIdx := (tagS_perm L).mem_iff.1 (List.getElem_mem h)
  rw [List.mem_zipIdx_iff_getElem?] at hm
  obtain ⟨hi, e⟩ := List.getElem?_eq_some_iff.1 hm
  exact ⟨hi, e.symm⟩
theorem tagS_inj (L : List Dt) (r s : Nat) (h1 : r < (tagS L).length) (h2 : s < (tagS L).length) (e : (tagS L)[r].2 = (tagS L)[s].2) : r = s := by
  have hn : (tagS L).Nodup := (tagS_perm L).nodup_iff.2 (by
    rw [List.Nodup, List.pairwise_iff_getElem]
    intro i j hi hj hij hc
    rw [List.getElem_zipIdx, List.getElem_zipIdx] at hc
    have := congrArg Prod.snd hc
    simp at this
    omega)
  obtain ⟨a1, b1⟩ := tagS_at L r h1
  obtain ⟨a2, b2⟩ := tagS_at L s h2
  have e3 : (tagS L)[r] = (tagS L)[s] := by
    refine Prod.ext ?_ e
    rw [b1, b2]
    congr 1
  exact (List.getElem_inj hn).1 e3
theorem tagS_has (L : List Dt) (i : Nat) (h : i < L.length) : ∃ s, ∃ hs : s < (tagS L).length, (tagS L)[s].2 = i := by
  have hm : (L[i], i) ∈ tagS L := (tagS_perm L).mem_iff.2 (by rw [List.mem_zipIdx_iff_getElem?]; exact List.getElem?_eq_getElem h)
  obtain ⟨s, hs, e⟩ := List.getElem_of_mem hm
  exact ⟨s, hs, by rw [e]⟩
/-- Who is chosen next stands next. -/
theorem next_is (L : List Dt) (r : Nat) (hr : r < (tagS L).length) (i : Nat) (hi : i < L.length) (hU : ∀ s (h : s < r), (tagS L)[s].2 ≠ i)
    (hmin : ∀ j (hj : j < L.length), (∀ s (h : s < r), (tagS L)[s].2 ≠ j) → L[i].o < L[j].o ∨ (L[i].o = L[j].o ∧ i ≤ j)) : (tagS L)[r].2 = i := by
  obtain ⟨s, hs, e⟩ := tagS_has L i hi
  obtain ⟨ar, br⟩ := tagS_at L r hr
  obtain ⟨cs, bs⟩ := tagS_at L s hs
  have hm := hmin (tagS L)[r].2 ar (fun q hq e' => by
    have := tagS_inj L q r (by omega) hr e'
    omega)
  rcases Nat.lt_trichotomy s r with h | h | h
  · exact absurd e (hU s h)
  · subst h; exact e
  · have hsr := tagS_sorted L r s h hs
    unfold ltX at hsr
    simp only [decide_eq_false_iff_not] at hsr
    rw [br, bs] at hsr
    have eo : L[(tagS L)[s].2].o = L[i].o := by congr 2
    rw [eo, e] at hsr
    omega
end Go.Proofs.YtniailfcmlongaaGreatDoor.Tr
