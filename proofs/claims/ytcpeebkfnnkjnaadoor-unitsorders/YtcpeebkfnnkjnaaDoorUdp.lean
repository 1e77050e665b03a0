/- What goes and what stays, in plain words. Nothing here speaks of the Go text. -/
import Derived.Test.YtcpeebkfnnkjnaaDoorUpo
namespace Go.Proofs.YtcpeebkfnnkjnaaDoor.Tr
open Go.RowKit

/-- The unit at a place. -/
def atU (l : List Ut) (i : Nat) : Ut := l[i]?.getD default
theorem atU_lt {l : List Ut} {i : Nat} (h : i < l.length) : atU l i = l[i] := by unfold atU; rw [List.getElem?_eq_getElem h]; rfl
/-- Both lists have the same unit of that name. -/
def smB (O F : List Ut) (x : Nm) : Bool := match fi O x, fi F x with
  | some i, some j => decide (atU O i = atU F j)
  | _, _ => false
def knB (O F : List Ut) (x : Nm) : Bool := (fi O x).isSome || (fi F x).isSome
/-- What does not stay. -/
inductive Gone (O F : List Ut) : Nm → Prop
  | base {x : Nm} : knB O F x = true → smB O F x = false → Gone O F x
  | step {x y : Nm} {i : Nat} : Gone O F y → fi O x = some i → smB O F x = true → y ∈ (atU O i).r → Gone O F x
/-- Who requires whom, of a unit that is the same in both. -/
def prsAt (O F : List Ut) (i : Nat) : List (Nat × Nm) := if fi O (atU O i).n = some i ∧ smB O F (atU O i).n = true then (atU O i).r.map (fun y => (i, y)) else []
def prs (O F : List Ut) (k : Nat) : List (Nat × Nm) := (List.range k).flatMap (prsAt O F)
def wk1At (O F : List Ut) (i : Nat) : List Nm := if fi O (atU O i).n = some i ∧ smB O F (atU O i).n = false then [(atU O i).n] else []
def wk1 (O F : List Ut) (k : Nat) : List Nm := (List.range k).flatMap (wk1At O F)
def wk2At (O F : List Ut) (j : Nat) : List Nm := if fi O (atU F j).n = none then [(atU F j).n] else []
def wk2 (O F : List Ut) (k : Nat) : List Nm := (List.range k).flatMap (wk2At O F)
def wk (O F : List Ut) : List Nm := wk1 O F O.length ++ wk2 O F F.length
theorem prs_succ (O F : List Ut) (k : Nat) : prs O F (k + 1) = prs O F k ++ prsAt O F k := by unfold prs; rw [List.range_succ, List.flatMap_append]; simp
theorem wk1_succ (O F : List Ut) (k : Nat) : wk1 O F (k + 1) = wk1 O F k ++ wk1At O F k := by unfold wk1; rw [List.range_succ, List.flatMap_append]; simp
theorem wk2_succ (O F : List Ut) (k : Nat) : wk2 O F (k + 1) = wk2 O F k ++ wk2At O F k := by unfold wk2; rw [List.range_succ, List.flatMap_append]; simp
theorem wk1_len (O F : List Ut) : ∀ k, (wk1 O F k).length ≤ k
  | 0 => by simp [wk1]
  | k + 1 => by
    have := wk1_len O F k
    rw [wk1_succ, List.length_append]
    have h : (wk1At O F k).length ≤ 1 := by unfold wk1At; split <;> simp
    omega
theorem wk2_len (O F : List Ut) : ∀ k, (wk2 O F k).length ≤ k
  | 0 => by simp [wk2]
  | k + 1 => by
    have := wk2_len O F k
    rw [wk2_succ, List.length_append]
    have h : (wk2At O F k).length ≤ 1 := by unfold wk2At; split <;> simp
    omega
/-- How many names are required. -/
def rqs (l : List Ut) (k : Nat) : Nat := ((List.range k).map (fun i => (atU l i).r.length)).sum
theorem rqs_succ (l : List Ut) (k : Nat) : rqs l (k + 1) = rqs l k + (atU l k).r.length := by unfold rqs; rw [List.range_succ, List.map_append, List.sum_append]; simp
theorem rqs_le (l : List Ut) : ∀ {j k : Nat}, j ≤ k → rqs l j ≤ rqs l k := fun {j k} h => by
  induction k with
  | zero => rw [Nat.le_zero.1 h]; exact Nat.le_refl _
  | succ k ih =>
    rcases Nat.lt_or_eq_of_le h with h1 | h1
    · have := ih (by omega); rw [rqs_succ]; omega
    · rw [h1]; exact Nat.le_refl _
theorem prsAt_len (O F : List Ut) (i : Nat) : (prsAt O F i).length ≤ (atU O i).r.length := by unfold prsAt; split <;> simp
theorem prs_len (O F : List Ut) : ∀ k, (prs O F k).length ≤ rqs O k
  | 0 => by simp [prs, rqs]
  | k + 1 => by
    have := prs_len O F k
    have := prsAt_len O F k
    rw [prs_succ, List.length_append, rqs_succ]
    omega
theorem mem_wk1 {O F : List Ut} {k : Nat} {x : Nm} : x ∈ wk1 O F k ↔ ∃ i, i < k ∧ fi O (atU O i).n = some i ∧ smB O F (atU O i).n = false ∧ x = (atU O i).n := by
  unfold wk1
  rw [List.mem_flatMap]
  constructor
  · rintro ⟨i, hi, hx⟩
    unfold wk1At at hx
    split at hx
    · rename_i h; exact ⟨i, List.mem_range.1 hi, h.1, h.2, by simpa using hx⟩
    · simp at hx
  · rintro ⟨i, hi, h1, h2, rfl⟩
    refine ⟨i, List.mem_range.2 hi, ?_⟩
    unfold wk1At
    rw [if_pos ⟨h1, h2⟩]; simp
theorem mem_wk2 {O F : List Ut} {k : Nat} {x : Nm} : x ∈ wk2 O F k ↔ ∃ j, j < k ∧ fi O (atU F j).n = none ∧ x = (atU F j).n := by
  unfold wk2
  rw [List.mem_flatMap]
  constructor
  · rintro ⟨i, hi, hx⟩
    unfold wk2At at hx
    split at hx
    · rename_i h; exact ⟨i, List.mem_range.1 hi, h, by simpa using hx⟩
    · simp at hx
  · rintro ⟨i, hi, h1, rfl⟩
    refine ⟨i, List.mem_range.2 hi, ?_⟩
    unfold wk2At
    rw [if_pos h1]; simp
theorem mem_prs {O F : List Ut} {k : Nat} {p : Nat × Nm} : p ∈ prs O F k ↔ p.1 < k ∧ fi O (atU O p.1).n = some p.1 ∧ smB O F (atU O p.1).n = true ∧ p.2 ∈ (atU O p.1).r := by
  unfold prs
  rw [List.mem_flatMap]
  constructor
  · rintro ⟨i, hi, hx⟩
    unfold prsAt at hx
    split at hx
    · rename_i h
      obtain ⟨y, hy, rfl⟩ := List.mem_map.1 hx
      exact ⟨List.mem_range.1 hi, h.1, h.2, hy⟩
    · simp at hx
  · rintro ⟨hi, h1, h2, h3⟩
    refine ⟨p.1, List.mem_range.2 hi, ?_⟩
    unfold prsAt
    rw [if_pos ⟨h1, h2⟩]
    exact List.mem_map.2 ⟨p.2, h3, rfl⟩
theorem fi_at {l : List Ut} {x : Nm} {i : Nat} (h : fi l x = some i) : i < l.length ∧ (atU l i).n = x := by
  obtain ⟨h1, h2, _⟩ := fi_some.1 h
  exact ⟨h1, by rw [atU_lt h1]; exact h2⟩
theorem smB_none {O F : List Ut} {x : Nm} (h : fi O x = none) : smB O F x = false := by unfold smB; rw [h]
theorem mem_wk {O F : List Ut} {x : Nm} : x ∈ wk O F ↔ knB O F x = true ∧ smB O F x = false := by
  unfold wk
  rw [List.mem_append, mem_wk1, mem_wk2]
  constructor
  · rintro (⟨i, hi, h1, h2, rfl⟩ | ⟨j, hj, h1, rfl⟩)
    · exact ⟨by unfold knB; rw [h1]; rfl, h2⟩
    · refine ⟨?_, smB_none h1⟩
      unfold knB
      rw [h1]
      cases hf : fi F (atU F j).n with
      | some q => rfl
      | none =>
        exfalso
        rw [fi_none] at hf
        exact hf j hj (by rw [atU_lt hj])
  · rintro ⟨h1, h2⟩
    cases ho : fi O x with
    | some i =>
      obtain ⟨hi, e⟩ := fi_at ho
      exact .inl ⟨i, hi, by rw [e]; exact ho, by rw [e]; exact h2, e.symm⟩
    | none =>
      unfold knB at h1
      rw [ho] at h1
      cases hf : fi F x with
      | none => rw [hf] at h1; cases h1
      | some j =>
        obtain ⟨hj, e⟩ := fi_at hf
        exact .inr ⟨j, hj, by rw [e]; exact ho, e.symm⟩
/-- Gone so far, and what is to be looked at. -/
structure DIv (O F : List Ut) (G W : List Nm) : Prop where
  g : ∀ x ∈ G, Gone O F x
  w : ∀ x ∈ W, Gone O F x
  b : ∀ x ∈ wk O F, x ∈ G ∨ x ∈ W
  c : ∀ p ∈ prs O F O.length, p.2 ∈ G → (atU O p.1).n ∈ G ∨ (atU O p.1).n ∈ W
/-- Whose names come next. -/
def nxt (O F : List Ut) (x : Nm) : List Nat := ((prs O F O.length).filter (fun p => decide (p.2 = x))).map (·.1)
def mea (O F : List Ut) (G W : List Nm) : Nat := W.length + ((prs O F O.length).filter (fun p => decide (p.2 ∉ G))).length
theorem DIv.start (O F : List Ut) : DIv O F [] (wk O F) :=
  ⟨fun x h => by simp at h, fun x h => .base (mem_wk.1 h).1 (mem_wk.1 h).2, fun x h => .inr h, fun p _ h => by simp at h⟩
theorem DIv.known {O F : List Ut} {G W : List Nm} {x : Nm} (h : DIv O F G (W ++ [x])) (hx : x ∈ G) : DIv O F G W := by
  refine ⟨h.g, fun y hy => h.w y (List.mem_append_left _ hy), fun y hy => ?_, fun p hp hg => ?_⟩
  · rcases h.b y hy with h1 | h1
    · exact .inl h1
    · rcases List.mem_append.1 h1 with h2 | h2
      · exact .inr h2
      · rw [List.mem_singleton.1 h2]; exact .inl hx
  · rcases h.c p hp hg with h1 | h1
    · exact .inl h1
    · rcases List.mem_append.1 h1 with h2 | h2
      · exact .inr h2
      · rw [List.mem_singleton.1 h2]; exact .inl hx
theorem DIv.next {O F : List Ut} {G W : List Nm} {x : Nm} (h : DIv O F G (W ++ [x])) : DIv O F (G ++ [x]) (W ++ (nxt O F x).map (fun i => (atU O i).n)) := by
  have hx : Gone O F x := h.w x (by simp)
  have key : ∀ y, y ∈ W ++ [x] → y ∈ G ++ [x] ∨ y ∈ W ++ (nxt O F x).map (fun i => (atU O i).n) := fun y hy => by
    rcases List.mem_append.1 hy with h2 | h2
    · exact .inr (List.mem_append_left _ h2)
    · exact .inl (List.mem_append_right _ h2)
  refine ⟨fun y hy => ?_, fun y hy => ?_, fun y hy => ?_, fun p hp hg => ?_⟩
  · rcases List.mem_append.1 hy with h1 | h1
    · exact h.g y h1
    · rw [List.mem_singleton.1 h1]; exact hx
  · rcases List.mem_append.1 hy with h1 | h1
    · exact h.w y (List.mem_append_left _ h1)
    · obtain ⟨i, hi, rfl⟩ := List.mem_map.1 h1
      obtain ⟨p, hp, rfl⟩ := List.mem_map.1 hi
      obtain ⟨hp1, hp2⟩ := List.mem_filter.1 hp
      obtain ⟨_, q1, q2, q3⟩ := mem_prs.1 hp1
      have e : p.2 = x := by simpa using hp2
      rw [e] at q3
      exact .step hx q1 q2 q3
  · rcases h.b y hy with h1 | h1
    · exact .inl (List.mem_append_left _ h1)
    · exact key y h1
  · rcases List.mem_append.1 hg with h1 | h1
    · rcases h.c p hp h1 with h2 | h2
      · exact .inl (List.mem_append_left _ h2)
      · exact key _ h2
    · have e : p.2 = x := List.mem_singleton.1 h1
      refine .inr (List.mem_append_right _ (List.mem_map.2 ⟨p.1, List.mem_map.2 ⟨p, List.mem_filter.2 ⟨hp, by simpa using e⟩, rfl⟩, rfl⟩))
theorem DIv.done {O F : List Ut} {G : List Nm} (h : DIv O F G []) (x : Nm) : x ∈ G ↔ Gone O F x := by
  refine ⟨h.g x, fun hg => ?_⟩
  induction hg with
  | base h1 h2 =>
    rcases h.b _ (mem_wk.2 ⟨h1, h2⟩) with h3 | h3
    · exact h3
    · simp at h3
  | step _ ho hs hy ih =>
    obtain ⟨hi, e⟩ := fi_at ho
    rcases h.c (_, _) (mem_prs.2 ⟨hi, by simp only [e]; exact ho, by simp only [e]; exact hs, hy⟩) ih with h3 | h3
    · simp only [e] at h3; exact h3
    · simp at h3
theorem mea_known (O F : List Ut) (G W : List Nm) (x : Nm) : mea O F G W + 1 = mea O F G (W ++ [x]) := by unfold mea; rw [List.length_append]; simp; omega
theorem filter_parts {α : Type} (p q : α → Bool) : ∀ l : List α, (∀ x ∈ l, q x = true → p x = true) → (l.filter p).length = (l.filter (fun x => p x && !q x)).length + (l.filter q).length
  | [], _ => rfl
  | a :: l, h => by
    have ih := filter_parts p q l (fun x hx => h x (List.mem_cons_of_mem _ hx))
    have ha := h a (List.mem_cons_self ..)
    rw [List.filter_cons, List.filter_cons, List.filter_cons]
    cases hp : p a with
    | false =>
      cases hq : q a with
      | false => simpa using ih
      | true => rw [ha hq] at hp; cases hp
    | true => cases hq : q a <;> simp <;> omega
theorem mea_next (O F : List Ut) (G W : List Nm) (x : Nm) (hx : x ∉ G) : mea O F (G ++ [x]) (W ++ (nxt O F x).map (fun i => (atU O i).n)) + 1 = mea O F G (W ++ [x]) := by
  have h := filter_parts (fun p : Nat × Nm => decide (p.2 ∉ G)) (fun p => decide (p.2 = x)) (prs O F O.length) (fun p _ hp => by
    have e : p.2 = x := by simpa using hp
    rw [e]; simpa using hx)
  have e : (fun p : Nat × Nm => decide (p.2 ∉ G ++ [x])) = (fun p => decide (p.2 ∉ G) && !decide (p.2 = x)) := by
    funext p
    rw [Bool.eq_iff_iff]
    simp
  unfold mea
  rw [e]
  simp only [List.length_append, List.length_map, nxt, List.length_singleton]
  omega
theorem nxt_in {O F : List Ut} {x : Nm} {i : Nat} (h : i ∈ nxt O F x) : i < O.length := by
  obtain ⟨p, hp, rfl⟩ := List.mem_map.1 h
  exact (mem_prs.1 (List.mem_filter.1 hp).1).1
theorem nxt_len (O F : List Ut) (x : Nm) : (nxt O F x).length ≤ (prs O F O.length).length := by
  unfold nxt
  rw [List.length_map]
  exact List.length_filter_le _ _
end Go.Proofs.YtcpeebkfnnkjnaaDoor.Tr
