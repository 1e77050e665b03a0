/- What follows of the order, in plain words. -/
import Derived.Test.YtcpeebkfnnkjnaaDoorUor
namespace Go.Proofs.YtcpeebkfnnkjnaaDoor.Tr
open Go.RowKit

/-- Nothing stands ahead of what it waits for. -/
def Topo : List Ut → Prop
  | [] => True
  | u :: z => wts (u :: z) u = false ∧ Topo z
theorem wts_perm {L M : List Ut} (h : L.Perm M) (u : Ut) : wts L u = wts M u := by
  unfold wts
  congr 1
  funext x
  rw [Bool.eq_iff_iff, List.any_eq_true, List.any_eq_true]
  constructor
  · rintro ⟨v, hv, e⟩; exact ⟨v, h.mem_iff.1 hv, e⟩
  · rintro ⟨v, hv, e⟩; exact ⟨v, h.mem_iff.2 hv, e⟩
theorem perm_pick {L : List Ut} (hn : (L.map (·.n)).Nodup) {u : Ut} (hu : u ∈ L) : (u :: L.filter (fun v => decide (v.n ≠ u.n))).Perm L := by
  induction L with
  | nil => simp at hu
  | cons v r ih =>
    rw [List.map_cons, List.nodup_cons] at hn
    rcases List.mem_cons.1 hu with rfl | hu
    · rw [List.filter_cons_of_neg (by simp)]
      have : r.filter (fun v => decide (v.n ≠ u.n)) = r := by
        rw [List.filter_eq_self]
        intro v hv
        have : v.n ≠ u.n := fun e => hn.1 (e ▸ List.mem_map.2 ⟨v, hv, rfl⟩)
        simpa using this
      rw [this]
    · have hne : v.n ≠ u.n := fun e => hn.1 (e ▸ List.mem_map.2 ⟨u, hu, rfl⟩)
      rw [List.filter_cons_of_pos (by simpa using hne)]
      exact (List.Perm.swap v u _).trans ((ih hn.2 hu).cons v)
theorem nodup_filter {L : List Ut} (hn : (L.map (·.n)).Nodup) (p : Ut → Bool) : ((L.filter p).map (·.n)).Nodup := hn.sublist (List.Sublist.map _ List.filter_sublist)
theorem run_ok : ∀ (f : Nat) (L acc out : List Ut), (L.map (·.n)).Nodup → L.length ≤ f → runF f L acc = (out, none) → ∃ z, out = acc ++ z ∧ z.Perm L ∧ Topo z
  | 0, L, acc, out, _, hl, h => by
    have : L = [] := List.eq_nil_of_length_eq_zero (by omega)
    subst this
    cases h
    exact ⟨[], by simp, List.Perm.refl _, trivial⟩
  | f + 1, L, acc, out, hn, hl, h => by
    rw [runF] at h
    cases hh : L.head? with
    | none =>
      rw [hh] at h
      cases h
      have : L = [] := List.head?_eq_none_iff.1 hh
      subst this
      exact ⟨[], by simp, List.Perm.refl _, trivial⟩
    | some v =>
      rw [hh] at h
      simp only at h
      cases hf : L.find? (fun u => !wts L u) with
      | none => rw [hf] at h; cases h
      | some u =>
        rw [hf] at h
        simp only at h
        have hu : u ∈ L := List.mem_of_find?_eq_some hf
        have hw : wts L u = false := by
          have := List.find?_some hf
          simpa using this
        have hp := perm_pick hn hu
        have hlen : (L.filter (fun v => decide (v.n ≠ u.n))).length + 1 = L.length := by
          have := hp.length_eq
          simpa using this
        obtain ⟨z, e, hz, ht⟩ := run_ok f _ _ _ (nodup_filter hn _) (by omega) h
        have hp2 : (u :: z).Perm L := (hz.cons u).trans hp
        exact ⟨u :: z, by rw [e]; simp, hp2, by rw [wts_perm hp2]; exact hw, ht⟩
theorem topo_at : ∀ (x : List Ut), Topo x → ∀ i j (hi : i < x.length) (hj : j < x.length), i ≤ j → ∀ a ∈ x[i].r ++ x[i].a, x[j].n ≠ a
  | [], _, i, _, hi, _, _ => by simp at hi
  | u :: z, h, 0, j, hi, hj, hij => fun a ha e => by
    have h1 := h.1
    unfold wts at h1
    rw [List.any_eq_false] at h1
    have h2 := h1 a (by simpa using ha)
    exact h2 (List.any_eq_true.2 ⟨(u :: z)[j], List.getElem_mem hj, by simpa using e⟩)
  | u :: z, h, i + 1, 0, hi, hj, hij => by omega
  | u :: z, h, i + 1, j + 1, hi, hj, hij => by
    simp only [List.getElem_cons_succ]
    exact topo_at z h.2 i j (by simpa using hi) (by simpa using hj) (by omega)
/-- Of an order: what it has, and that nothing stands ahead of what it waits for. -/
theorem ord_ok {l x : List Ut} {n : Nm} (h : ordF l = (x, n, 0)) : (x.map (·.n)).Nodup ∧ x.Perm l ∧ (∀ u ∈ x, ∀ a ∈ u.r, ∃ j, fi x a = some j) ∧ Topo x ∧ n = [] ∧ (l.map (·.n)).Nodup := by
  unfold ordF at h
  split at h
  · cases h
  · cases ht : twF l with
    | some m => rw [ht] at h; cases h
    | none =>
      rw [ht] at h
      simp only at h
      have hn := nodup_of_twF ht
      cases hk : lkF (srt l) (srt l) with
      | some m => rw [hk] at h; cases h
      | none =>
        rw [hk] at h
        simp only at h
        cases hr : runF (srt l).length (srt l) [] with
        | mk out o =>
          rw [hr] at h
          cases o with
          | some m => cases h
          | none =>
            cases h
            have hns : ((srt l).map (·.n)).Nodup := (List.Perm.nodup_iff ((srt_perm l).map (fun u : Ut => u.n))).2 hn
            obtain ⟨z, e, hz, htp⟩ := run_ok _ _ _ _ hns (Nat.le_refl _) hr
            rw [List.nil_append] at e
            subst e
            have hp := hz.trans (srt_perm l)
            have hnz : (x.map (·.n)).Nodup := (List.Perm.nodup_iff (hp.map (fun u : Ut => u.n))).2 hn
            refine ⟨hnz, hp, fun u hu a ha => ?_, htp, rfl, hn⟩
            unfold lkF at hk
            rw [Option.map_eq_none_iff, List.find?_eq_none] at hk
            have h1 := hk u (hz.mem_iff.1 hu)
            unfold lkB at h1
            rw [Bool.not_eq_true, List.any_eq_false] at h1
            have h2 := h1 a ha
            cases hf : fi (srt l) a with
            | none => rw [hf] at h2; simp at h2
            | some j =>
              obtain ⟨hj, ej⟩ := (fi_iff hns).1 hf
              have hm : (srt l)[j] ∈ x := hz.mem_iff.2 (List.getElem_mem hj)
              obtain ⟨q, hq, eq⟩ := List.getElem_of_mem hm
              exact ⟨q, (fi_iff hnz).2 ⟨hq, by rw [eq, ej]⟩⟩
theorem ord_err {l x : List Ut} {n : Nm} {e : Int} (h : ordF l = (x, n, e)) (he : e ≠ 0) : x = [] := by
  unfold ordF at h
  split at h
  · cases h; rfl
  · cases ht : twF l with
    | some m => rw [ht] at h; cases h; rfl
    | none =>
      rw [ht] at h
      simp only at h
      cases hk : lkF (srt l) (srt l) with
      | some m => rw [hk] at h; cases h; rfl
      | none =>
        rw [hk] at h
        simp only at h
        cases hr : runF (srt l).length (srt l) [] with
        | mk out o =>
          rw [hr] at h
          cases o with
          | some m => cases h; rfl
          | none => cases h; exact absurd rfl he
/-- How units stood does not matter. -/
theorem ord_perm {l m : List Ut} (hp : m.Perm l) : (ordF m = ordF l) ∨ ∃ a b, ordF l = ([], a, 10) ∧ ordF m = ([], b, 10) := by
  have hl := hp.length_eq
  unfold ordF
  rw [hl]
  by_cases h : 24 < l.length
  · rw [if_pos h, if_pos h]; exact .inl rfl
  · rw [if_neg h, if_neg h]
    cases ht : twF l with
    | some a =>
      cases hm : twF m with
      | some b => exact .inr ⟨a, b, rfl, rfl⟩
      | none =>
        exfalso
        have := twF_of_nodup ((List.Perm.nodup_iff (hp.map (fun u : Ut => u.n))).1 (nodup_of_twF hm))
        rw [ht] at this; cases this
    | none =>
      have hn := nodup_of_twF ht
      have hnm : (m.map (·.n)).Nodup := (List.Perm.nodup_iff (hp.map (fun u : Ut => u.n))).2 hn
      have e : srt m = srt l := srt_eq hn ((srt_perm m).trans hp) (srt_rising m)
      rw [twF_of_nodup hnm, e]
      exact .inl rfl
theorem ord_e {l : List Ut} : (ordF l).2.2 = 0 ∨ (ordF l).2.2 = 10 ∨ (ordF l).2.2 = 28 ∨ (ordF l).2.2 = 29 ∨ (ordF l).2.2 = 30 := by
  unfold ordF
  split
  · simp
  · split
    · simp
    · split
      · simp
      · split <;> simp
end Go.Proofs.YtcpeebkfnnkjnaaDoor.Tr
