/- TypesLists' second half in plain words. -/
import Derived.Test.YtniailfcmlongaaGreatDoorTlp
import Derived.Test.YtniailfcmlongaaGreatDoorTmj
namespace Go.Proofs.YtniailfcmlongaaGreatDoor.Tr
open Go.RowKit

/-- Was the place j chosen among the first r? -/
def usB (L : List Dt) (r j : Nat) : Bool := ((tagS L).take r).any (fun z => z.2 == j)
def usd (L : List Dt) (r : Nat) : List Bool := (List.range L.length).map (usB L r)
theorem usd_len (L : List Dt) (r : Nat) : (usd L r).length = L.length := by simp [usd]
theorem usd_get (L : List Dt) (r j : Nat) (h : j < L.length) : (usd L r)[j]? = some (usB L r j) := by
  unfold usd
  rw [List.getElem?_map, List.getElem?_range h]; rfl
theorem usB_false {L : List Dt} {r j : Nat} (hr : r ≤ (tagS L).length) : usB L r j = false ↔ ∀ s (h : s < r), (tagS L)[s].2 ≠ j := by
  unfold usB
  rw [List.any_eq_false]
  constructor
  · intro h s hs e
    have hm : (tagS L)[s] ∈ (tagS L).take r := by
      rw [List.mem_take_iff_getElem]
      exact ⟨s, by omega, rfl⟩
    exact h _ hm (by simpa using e)
  · intro h z hz
    rw [List.mem_take_iff_getElem] at hz
    obtain ⟨s, hs, e⟩ := hz
    have := h s (by omega)
    rw [e] at this
    simpa using this
theorem usd_zero (L : List Dt) : usd L 0 = List.replicate L.length false := by
  unfold usd
  have : usB L 0 = fun _ => false := by funext j; simp [usB]
  rw [this, List.map_const', List.length_range]
theorem usB_next {L : List Dt} {r j : Nat} (hr : r < (tagS L).length) : usB L (r + 1) j = (usB L r j || ((tagS L)[r].2 == j)) := by
  unfold usB
  rw [List.take_succ_eq_append_getElem hr, List.any_append]
  simp
theorem usd_next {L : List Dt} {r b : Nat} (hr : r < (tagS L).length) (hb : (tagS L)[r].2 = b) : (usd L r).set b true = usd L (r + 1) := by
  apply List.ext_getElem?
  intro j
  by_cases hj : j < L.length
  · rw [usd_get L (r + 1) j hj, List.getElem?_set]
    by_cases e : b = j
    · subst e
      rw [if_pos rfl, if_pos (by rw [usd_len]; exact hj), usB_next hr, hb]
      simp
    · rw [if_neg e, usd_get L r j hj, usB_next hr, hb]
      have : (b == j) = false := by simpa using e
      rw [this, Bool.or_false]
  · rw [List.getElem?_eq_none (by rw [List.length_set, usd_len]; omega), List.getElem?_eq_none (by rw [usd_len]; omega)]
/-- The best of the first i places that were not chosen yet. -/
def Best (L : List Dt) (r i : Nat) (nx : Option Nat) : Prop :=
  match nx with
  | none => ∀ j, j < i → usB L r j = true
  | some b => ∃ hb : b < L.length, b < i ∧ usB L r b = false ∧ ∀ j (hj : j < L.length), j < i → usB L r j = false → L[b].o < L[j].o ∨ (L[b].o = L[j].o ∧ b ≤ j)
def nxI : Option Nat → Int
  | none => -1
  | some b => (b : Int)
theorem best_zero (L : List Dt) (r : Nat) : Best L r 0 none := fun j hj => absurd hj (by omega)
theorem best_used {L : List Dt} {r i : Nat} {nx : Option Nat} (h : Best L r i nx) (hu : usB L r i = true) : Best L r (i + 1) nx := by
  cases nx with
  | none =>
    intro j hj
    by_cases e : j = i
    · subst e; exact hu
    · exact h j (by omega)
  | some b =>
    obtain ⟨h0, h1, h2, h3⟩ := h
    refine ⟨h0, by omega, h2, fun j hj hji hn => ?_⟩
    by_cases e : j = i
    · subst e; rw [hu] at hn; cases hn
    · exact h3 j hj (by omega) hn
theorem best_first {L : List Dt} {r i : Nat} (hi : i < L.length) (h : Best L r i none) (hu : usB L r i = false) : Best L r (i + 1) (some i) :=
  ⟨hi, by omega, hu, fun j hj hji hn => by
    by_cases e : j = i
    · subst e; exact .inr ⟨rfl, Nat.le_refl _⟩
    · have := h j (by omega)
      rw [this] at hn; cases hn⟩
theorem best_new {L : List Dt} {r i b : Nat} (hi : i < L.length) (h : Best L r i (some b)) (hu : usB L r i = false) (hb : b < L.length) (hlt : L[i].o < L[b].o) : Best L r (i + 1) (some i) := by
  obtain ⟨h0, h1, h2, h3⟩ := h
  refine ⟨hi, by omega, hu, fun j hj hji hn => ?_⟩
  by_cases e : j = i
  · subst e; exact .inr ⟨rfl, Nat.le_refl _⟩
  · have := h3 j hj (by omega) hn
    left; omega
theorem best_keep {L : List Dt} {r i b : Nat} (hi : i < L.length) (h : Best L r i (some b)) (hb : b < L.length) (hlt : ¬ L[i].o < L[b].o) : Best L r (i + 1) (some b) := by
  obtain ⟨h0, h1, h2, h3⟩ := h
  refine ⟨h0, by omega, h2, fun j hj hji hn => ?_⟩
  by_cases e : j = i
  · subst e; omega
  · exact h3 j hj (by omega) hn
/-- The best of all is the next one. -/
theorem best_is {L : List Dt} {r : Nat} (hr : r < L.length) {nx : Option Nat} (h : Best L r L.length nx) : ∃ b, nx = some b ∧ b < L.length ∧ ∃ hr' : r < (tagS L).length, (tagS L)[r].2 = b := by
  have hr' : r < (tagS L).length := by rw [tagS_len]; exact hr
  obtain ⟨a1, _⟩ := tagS_at L r hr'
  have hun : usB L r (tagS L)[r].2 = false := (usB_false (by omega)).2 fun s hs e => by
    have := tagS_inj L s r (by omega) hr' e
    omega
  cases nx with
  | none =>
    have := h (tagS L)[r].2 a1
    rw [this] at hun; cases hun
  | some b =>
    obtain ⟨h0, h1, h2, h3⟩ := h
    refine ⟨b, rfl, h0, hr', ?_⟩
    exact next_is L r hr' b h0 ((usB_false (by omega)).1 h2) fun j hj hn => h3 j hj hj ((usB_false (by omega)).2 hn)
/-- How many items stand ahead of the r-th. -/
def atN (L : List Dt) (r : Nat) : Nat := (allU (((tagS L).take r).map (·.1.v))).length
theorem atN_next {L : List Dt} {r : Nat} (hr : r < (tagS L).length) : atN L (r + 1) = atN L r + (tagS L)[r].1.v.its.length := by
  unfold atN allU
  rw [List.take_succ_eq_append_getElem hr, List.map_append, List.flatMap_append, List.length_append]
  simp
theorem allU_at {L : List Dt} {r k : Nat} (hr : r < (tagS L).length) (hk : k < (tagS L)[r].1.v.its.length) : (allU ((tagS L).map (·.1.v)))[atN L r + k]? = some (tagS L)[r].1.v.its[k] := by
  have e : (tagS L).map (·.1.v) = ((tagS L).take r).map (·.1.v) ++ (tagS L)[r].1.v :: ((tagS L).drop (r + 1)).map (·.1.v) := by
    rw [← List.map_cons (f := fun x : Tg => x.1.v), ← List.map_append, ← List.drop_eq_getElem_cons hr, List.take_append_drop]
  rw [e]
  unfold allU
  rw [List.flatMap_append, List.getElem?_append_right (by unfold atN allU; omega), List.flatMap_cons, List.getElem?_append_left (by unfold atN allU; omega)]
  have e2 : atN L r + k - (List.flatMap (fun x => x.its) (((tagS L).take r).map (·.1.v))).length = k := by unfold atN allU; omega
  rw [e2, List.getElem?_eq_getElem hk]
theorem atN_all (L : List Dt) : atN L L.length = (allU ((tagS L).map (·.1.v))).length := by
  unfold atN
  rw [← tagS_len L, List.take_length]
end Go.Proofs.YtniailfcmlongaaGreatDoor.Tr
