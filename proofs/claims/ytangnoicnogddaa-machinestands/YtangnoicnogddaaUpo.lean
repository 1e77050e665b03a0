/- Where a name stands first. Nothing here speaks of the Go text. -/
import Derived.Test.YtangnoicnogddaaUnt
namespace Go.Proofs.Ytangnoicnogddaa.Tr
open Go.RowKit

def fi (l : List Ut) (x : Nm) : Option Nat := l.findIdx? (fun u => decide (u.n = x))
def fiI (l : List Ut) (x : Nm) : Int := match fi l x with | some i => (i : Int) | none => -1
theorem fi_some {l : List Ut} {x : Nm} {i : Nat} : fi l x = some i ↔ ∃ h : i < l.length, l[i].n = x ∧ ∀ j (hj : j < i), l[j].n ≠ x := by
  unfold fi
  rw [List.findIdx?_eq_some_iff_getElem]
  simp
theorem fi_none {l : List Ut} {x : Nm} : fi l x = none ↔ ∀ j (h : j < l.length), l[j].n ≠ x := by
  unfold fi
  rw [List.findIdx?_eq_none_iff]
  simp only [decide_eq_false_iff_not]
  constructor
  · intro h j hj; exact h _ (List.getElem_mem hj)
  · intro h u hu
    obtain ⟨j, hj, rfl⟩ := List.getElem_of_mem hu
    exact h j hj
theorem fi_lt {l : List Ut} {x : Nm} {i : Nat} (h : fi l x = some i) : i < l.length := (fi_some.1 h).1
theorem fi_none_mem {l : List Ut} {x : Nm} : fi l x = none ↔ x ∉ l.map (·.n) := by
  rw [fi_none]
  constructor
  · intro h hx
    obtain ⟨u, hu, e⟩ := List.mem_map.1 hx
    obtain ⟨j, hj, rfl⟩ := List.getElem_of_mem hu
    exact h j hj e
  · intro h j hj e
    exact h (List.mem_map.2 ⟨l[j], List.getElem_mem hj, e⟩)
theorem fiI_some {l : List Ut} {x : Nm} {i : Nat} (h : fi l x = some i) : fiI l x = (i : Int) := by unfold fiI; rw [h]
theorem fiI_none {l : List Ut} {x : Nm} (h : fi l x = none) : fiI l x = -1 := by unfold fiI; rw [h]
theorem fi_self {l : List Ut} (hn : (l.map (·.n)).Nodup) {i : Nat} (h : i < l.length) : fi l l[i].n = some i := by
  refine fi_some.2 ⟨h, rfl, fun j hj e => ?_⟩
  have := List.pairwise_iff_getElem.1 hn j i (by simp; omega) (by simpa using h) hj
  simp only [List.getElem_map] at this
  exact this e
theorem nodup_of_fi {l : List Ut} (h : ∀ i (hi : i < l.length), fi l l[i].n = some i) : (l.map (·.n)).Nodup := by
  refine List.pairwise_iff_getElem.2 (fun i j hi hj hij => ?_)
  have hi' : i < l.length := by simpa using hi
  have hj' : j < l.length := by simpa using hj
  simp only [List.getElem_map]
  intro e
  have h1 := h i hi'
  have h2 := h j hj'
  rw [e] at h1
  rw [h1] at h2
  cases h2
  omega
theorem take_eq_succ {α : Type} {A B : List α} {i : Nat} (ht : A.take i = B.take i) (h : i < A.length) (h' : i < B.length) (e : A[i] = B[i]) : A.take (i + 1) = B.take (i + 1) := by
  rw [List.take_succ_eq_append_getElem h, List.take_succ_eq_append_getElem h', ht, e]
theorem ne_of_at {α : Type} {A B : List α} {i : Nat} (h : i < A.length) (h' : i < B.length) (hne : A[i] ≠ B[i]) : A ≠ B := by
  intro e; subst e; exact hne rfl
end Go.Proofs.Ytangnoicnogddaa.Tr
