/- The document's order, in plain words. -/
import Derived.Test.YtcpeebkfnnkjnaaDoorUwa
import Derived.Test.YtcpeebkfnnkjnaaDoorUtp
namespace Go.Proofs.YtcpeebkfnnkjnaaDoor.Tr
open Go.RowKit

/-- Of the first i units those that P names: the one with the least name. -/
def Bst (l : List Ut) (P : Nat → Bool) (i : Nat) : Option Nat → Prop
  | none => ∀ j, j < i → P j = false
  | some b => b < i ∧ b < l.length ∧ P b = true ∧ ∀ j, j < i → P j = true → ¬ (l[j]?.getD default).n < (l[b]?.getD default).n
theorem Bst.zero (l : List Ut) (P : Nat → Bool) : Bst l P 0 none := fun j h => by omega
theorem Bst.skip {l : List Ut} {P : Nat → Bool} {i : Nat} {b : Option Nat} (h : Bst l P i b) (hp : P i = false) : Bst l P (i + 1) b := by
  cases b with
  | none =>
    intro j hj
    rcases Nat.lt_or_eq_of_le (Nat.le_of_lt_succ hj) with h1 | h1
    · exact h j h1
    · rw [h1]; exact hp
  | some b =>
    obtain ⟨h1, h2, h3, h4⟩ := h
    refine ⟨by omega, h2, h3, fun j hj hpj => ?_⟩
    rcases Nat.lt_or_eq_of_le (Nat.le_of_lt_succ hj) with h5 | h5
    · exact h4 j h5 hpj
    · rw [h5, hp] at hpj; cases hpj
theorem Bst.stay {l : List Ut} {P : Nat → Bool} {i b : Nat} (h : Bst l P i (some b)) (hn : ¬ (l[i]?.getD default).n < (l[b]?.getD default).n) : Bst l P (i + 1) (some b) := by
  obtain ⟨h1, h2, h3, h4⟩ := h
  refine ⟨by omega, h2, h3, fun j hj hpj => ?_⟩
  rcases Nat.lt_or_eq_of_le (Nat.le_of_lt_succ hj) with h5 | h5
  · exact h4 j h5 hpj
  · rw [h5]; exact hn
theorem Bst.turn {l : List Ut} {P : Nat → Bool} {i : Nat} {b : Option Nat} (h : Bst l P i b) (hi : i < l.length) (hp : P i = true) (hb : ∀ c, b = some c → (l[i]?.getD default).n < (l[c]?.getD default).n) : Bst l P (i + 1) (some i) := by
  refine ⟨by omega, hi, hp, fun j hj hpj => ?_⟩
  rcases Nat.lt_or_eq_of_le (Nat.le_of_lt_succ hj) with h5 | h5
  · cases b with
    | none => rw [h j h5] at hpj; cases hpj
    | some c =>
      have h6 := hb c rfl
      have h7 := h.2.2.2 j h5 hpj
      intro h8
      exact h7 (List.lt_trans h8 h6)
  · rw [h5]; exact List.lt_irrefl _
theorem bst_find {l : List Ut} (hn : (l.map (·.n)).Nodup) {p : Ut → Bool} {b : Option Nat} (h : Bst l (fun j => p (l[j]?.getD default)) l.length b) : (srt l).find? p = b.map (fun j => l[j]?.getD default) := by
  cases b with
  | none =>
    rw [Option.map_none, List.find?_eq_none]
    intro u hu
    obtain ⟨j, hj, rfl⟩ := List.getElem_of_mem ((srt_perm l).mem_iff.1 hu)
    have := h j hj
    simp only [List.getElem?_eq_getElem hj, Option.getD_some] at this
    simpa using this
  | some b =>
    obtain ⟨_, hb, hp, hall⟩ := h
    simp only [List.getElem?_eq_getElem hb, Option.getD_some] at hp hall
    have hu : l[b] ∈ srt l := (srt_perm l).mem_iff.2 (List.getElem_mem hb)
    cases hf : (srt l).find? p with
    | none =>
      rw [List.find?_eq_none] at hf
      exact absurd hp (hf _ hu)
    | some v =>
      obtain ⟨h1, xs1, xs2, he, h2⟩ := List.find?_eq_some_iff_append.1 hf
      have hv : v ∈ l := (srt_perm l).mem_iff.1 (by rw [he]; simp)
      obtain ⟨j, hj, ev⟩ := List.getElem_of_mem hv
      have h3 := hall j hj (by simp only [List.getElem?_eq_getElem hj, Option.getD_some]; rw [ev]; exact h1)
      rw [List.getElem?_eq_getElem hj] at h3
      simp only [Option.getD_some] at h3
      rw [ev] at h3
      have h4 : ¬ l[b].n < v.n := by
        have hr := srt_rising l
        unfold Rising at hr
        rw [he] at hr hu
        rcases List.mem_append.1 hu with hu | hu
        · have := h2 _ hu
          rw [hp] at this
          cases this
        · rcases List.mem_cons.1 hu with e | hu
          · rw [e]; exact List.lt_irrefl _
          · exact (List.pairwise_cons.1 (List.pairwise_append.1 hr).2.1).1 _ hu
      rw [Option.map_some, List.getElem?_eq_getElem hb]
      simp only [Option.getD_some, Option.some.injEq]
      exact eq_of_name hn hv (List.getElem_mem hb) (List.le_antisymm (List.not_lt.1 h4) (List.not_lt.1 h3))
theorem none_srt (l : List Ut) (x : Nm) : (fi (srt l) x).isNone = (fi l x).isNone := by
  have h : fi (srt l) x = none ↔ fi l x = none := by
    rw [fi_none_mem, fi_none_mem, ((srt_perm l).map (fun u : Ut => u.n)).mem_iff]
  cases h1 : fi (srt l) x with
  | none => rw [h.1 h1]
  | some a =>
    cases h2 : fi l x with
    | none => rw [h.2 h2] at h1; cases h1
    | some b => rfl
theorem lkB_srt (l : List Ut) : lkB (srt l) = lkB l := by
  funext u
  unfold lkB
  congr 1
  funext x
  exact none_srt l x
/-- The units that are left, rising. -/
def lft (l : List Ut) (B : Nat → Bool) : List Ut := (srt l).filter (fun u => lfB l B u.n)
theorem lfB_at {l : List Ut} (hn : (l.map (·.n)).Nodup) (B : Nat → Bool) {j : Nat} (h : j < l.length) : lfB l B l[j].n = B j := by
  unfold lfB; rw [fi_self hn h]
theorem lft_any {l : List Ut} (hn : (l.map (·.n)).Nodup) (B : Nat → Bool) (x : Nm) : (lft l B).any (fun v => decide (v.n = x)) = lfB l B x := by
  rw [Bool.eq_iff_iff, List.any_eq_true]
  constructor
  · rintro ⟨v, hv, e⟩
    have hv2 := (List.mem_filter.1 hv).2
    simp only [decide_eq_true_eq] at e
    rw [e] at hv2
    exact hv2
  · intro h
    unfold lfB at h
    cases hf : fi l x with
    | none => rw [hf] at h; cases h
    | some k =>
      rw [hf] at h
      obtain ⟨hk, ek⟩ := (fi_iff hn).1 hf
      exact ⟨l[k], List.mem_filter.2 ⟨(srt_perm l).mem_iff.2 (List.getElem_mem hk), by rw [lfB_at hn B hk]; exact h⟩, by simpa using ek⟩
theorem lft_wts {l : List Ut} (hn : (l.map (·.n)).Nodup) (B : Nat → Bool) (u : Ut) : wts (lft l B) u = wtB l B u := by
  unfold wts wtB
  congr 1
  funext x
  exact lft_any hn B x
theorem lft_head {l : List Ut} (hn : (l.map (·.n)).Nodup) {B : Nat → Bool} {b : Option Nat} (h : Bst l B l.length b) : (lft l B).head? = b.map (fun j => l[j]?.getD default) := by
  unfold lft
  rw [List.head?_filter]
  refine bst_find hn ?_
  have e : ∀ j, j < l.length → (fun j => lfB l B (l[j]?.getD default).n) j = B j := fun j hj => by
    simp only [List.getElem?_eq_getElem hj, Option.getD_some]
    exact lfB_at hn B hj
  cases b with
  | none => exact fun j hj => (e j hj).trans (h j hj)
  | some c => exact ⟨h.1, h.2.1, (e c h.2.1).trans h.2.2.1, fun j hj hp => h.2.2.2 j hj ((e j hj).symm.trans hp)⟩
theorem lft_next {l : List Ut} (hn : (l.map (·.n)).Nodup) {B : Nat → Bool} {b : Option Nat} (h : Bst l (fun j => B j && !wtB l B (l[j]?.getD default)) l.length b) : (lft l B).find? (fun u => !wts (lft l B) u) = b.map (fun j => l[j]?.getD default) := by
  have e0 : (lft l B).find? (fun u => !wts (lft l B) u) = (srt l).find? (fun u => lfB l B u.n && !wtB l B u) := by
    unfold lft
    rw [List.find?_filter]
    refine find_congr (fun u _ => ?_)
    have := lft_wts hn B u
    unfold lft at this
    rw [this]
    cases lfB l B u.n <;> simp
  rw [e0]
  refine bst_find hn ?_
  have e : ∀ j, j < l.length → (fun j => lfB l B (l[j]?.getD default).n && !wtB l B (l[j]?.getD default)) j = (B j && !wtB l B (l[j]?.getD default)) := fun j hj => by
    simp only [List.getElem?_eq_getElem hj, Option.getD_some]
    rw [lfB_at hn B hj]
  cases b with
  | none => exact fun j hj => (e j hj).trans (h j hj)
  | some c => exact ⟨h.1, h.2.1, (e c h.2.1).trans h.2.2.1, fun j hj hp => h.2.2.2 j hj ((e j hj).symm.trans hp)⟩
def updB (B : Nat → Bool) (a : Nat) : Nat → Bool := fun b => if b = a then false else B b
theorem lft_upd {l : List Ut} (hn : (l.map (·.n)).Nodup) (B : Nat → Bool) (a : Nat) (ha : a < l.length) : lft l (updB B a) = (lft l B).filter (fun v => decide (v.n ≠ (l[a]?.getD default).n)) := by
  unfold lft
  rw [List.filter_filter]
  refine List.filter_congr (fun u hu => ?_)
  obtain ⟨j, hj, rfl⟩ := List.getElem_of_mem ((srt_perm l).mem_iff.1 hu)
  rw [lfB_at hn _ hj, lfB_at hn _ hj, List.getElem?_eq_getElem ha]
  simp only [Option.getD_some, updB]
  by_cases h : j = a
  · subst h; simp
  · have : l[j].n ≠ l[a].n := fun e => by
      have h1 := fi_self hn hj
      have h2 := fi_self hn ha
      rw [e, h2] at h1
      injection h1 with h1
      exact h h1.symm
    simp [h, this]
theorem lft_all {l : List Ut} (hn : (l.map (·.n)).Nodup) : lft l (fun _ => true) = srt l := by
  unfold lft
  rw [List.filter_eq_self]
  intro u hu
  obtain ⟨j, hj, rfl⟩ := List.getElem_of_mem ((srt_perm l).mem_iff.1 hu)
  rw [lfB_at hn _ hj]
end Go.Proofs.YtcpeebkfnnkjnaaDoor.Tr
