/- What follows of what stops, stays and starts, in plain words. -/
import Derived.Test.YtcpeebkfnnkjnaaDoorUdf
import Derived.Test.YtcpeebkfnnkjnaaDoorUtp
namespace Go.Proofs.YtcpeebkfnnkjnaaDoor.Tr
open Go.RowKit

theorem map_take (F : List Ut) (k : Nat) (h : k < F.length) : (F.take (k + 1)).map (·.n) = (F.take k).map (·.n) ++ [(atU F k).n] := by
  rw [List.take_succ_eq_append_getElem h, List.map_append, atU_lt h]
  rfl
theorem kp_take {F : List Ut} (hF : (F.map (·.n)).Nodup) (G : List Nm) : ∀ k, k ≤ F.length → kp F G k = ((F.take k).map (·.n)).filter (fun x => decide (x ∉ G))
  | 0, _ => by simp [kp]
  | k + 1, h => by
    have hlt : k < F.length := by omega
    rw [kp_succ, kp_take hF G k (by omega), map_take F k hlt, List.filter_append]
    congr 1
    unfold kpAt
    rw [atU_lt hlt]
    by_cases hm : F[k].n ∈ G
    · rw [if_neg (fun h => h.2 hm)]; simp [hm]
    · rw [if_pos ⟨fi_self hF hlt, hm⟩]; simp [hm]
theorem sa_take {F : List Ut} (hF : (F.map (·.n)).Nodup) (G : List Nm) : ∀ k, k ≤ F.length → sa F G k = ((F.take k).map (·.n)).filter (fun x => decide (x ∈ G))
  | 0, _ => by simp [sa]
  | k + 1, h => by
    have hlt : k < F.length := by omega
    rw [sa_succ, sa_take hF G k (by omega), map_take F k hlt, List.filter_append]
    congr 1
    unfold saAt
    rw [atU_lt hlt]
    by_cases hm : F[k].n ∈ G
    · rw [if_pos ⟨fi_self hF hlt, hm⟩]; simp [hm]
    · rw [if_neg (fun h => hm h.2)]; simp [hm]
theorem kp_all {F : List Ut} (hF : (F.map (·.n)).Nodup) (G : List Nm) : kp F G F.length = (F.map (·.n)).filter (fun x => decide (x ∉ G)) := by rw [kp_take hF G _ (Nat.le_refl _), List.take_length]
theorem sa_all {F : List Ut} (hF : (F.map (·.n)).Nodup) (G : List Nm) : sa F G F.length = (F.map (·.n)).filter (fun x => decide (x ∈ G)) := by rw [sa_take hF G _ (Nat.le_refl _), List.take_length]
theorem bhd_snd (O : List Ut) : (bhd O).map (·.2) = (O.map (·.n)).reverse := by
  unfold bhd
  rw [List.map_map]
  refine List.ext_getElem (by simp) (fun i h1 h2 => ?_)
  have hi : i < O.length := by simpa using h1
  simp only [List.getElem_map, List.getElem_reverse, List.length_range, List.getElem_range, Function.comp, List.length_map]
  rw [List.getElem?_eq_getElem (by omega)]
  rfl
theorem stp_all {O : List Ut} (hO : (O.map (·.n)).Nodup) (G : List Nm) : stp O G (bhd O) = ((O.map (·.n)).reverse).filter (fun x => decide (x ∈ G)) := by
  rw [← bhd_snd O, List.filter_map]
  unfold stp
  congr 1
  refine List.filter_congr (fun p hp => ?_)
  obtain ⟨i, hi, rfl⟩ := List.mem_map.1 hp
  have hi' : i < O.length := by simpa using hi
  simp only [List.getElem?_eq_getElem hi', Option.getD_some, fi_self hO hi', lkI, Function.comp]
  simp
theorem split_len (l : List Nm) (G : List Nm) : (l.filter (fun x => decide (x ∈ G))).length + (l.filter (fun x => decide (x ∉ G))).length = l.length := by
  have h := filter_parts (fun _ : Nm => true) (fun x => decide (x ∈ G)) l (fun _ _ _ => rfl)
  have e : (fun x : Nm => true && !decide (x ∈ G)) = (fun x => decide (x ∉ G)) := by
    funext x
    by_cases hx : x ∈ G <;> simp [hx]
  rw [e] at h
  have h2 : (l.filter (fun _ => true)).length = l.length := by rw [List.filter_eq_self.2 (fun _ _ => rfl)]
  omega
theorem mem_names {l : List Ut} {x : Nm} : x ∈ l.map (·.n) ↔ ∃ i, fi l x = some i := by
  cases h : fi l x with
  | some i => exact ⟨fun _ => ⟨i, rfl⟩, fun _ => by
      obtain ⟨u, hu, e⟩ := fi_mem h
      exact List.mem_map.2 ⟨u, hu, e⟩⟩
  | none => exact ⟨fun hm => absurd hm (fi_none_mem.1 h), fun ⟨_, e⟩ => by cases e⟩
theorem stay_same {O F : List Ut} {x : Nm} (hk : knB O F x = true) (hg : ¬ Gone O F x) : ∃ i j, fi O x = some i ∧ fi F x = some j ∧ atU O i = atU F j := by
  have hs : smB O F x = true := by
    cases h : smB O F x with
    | true => rfl
    | false => exact absurd (Gone.base hk h) hg
  unfold smB at hs
  cases ho : fi O x with
  | none => rw [ho] at hs; cases hs
  | some i =>
    cases hf : fi F x with
    | none => rw [ho, hf] at hs; cases hs
    | some j =>
      rw [ho, hf] at hs
      exact ⟨i, j, rfl, rfl, by simpa using hs⟩
/-- What UnitsParted asks of two rows that have an order. -/
structure Part (O F : List Ut) (G : List Nm) : Prop where
  old : (stp O G (bhd O)).length + (kp F G F.length).length = O.length
  new : (kp F G F.length).length + (sa F G F.length).length = F.length
  both : ∀ x ∈ kp F G F.length, ∃ a b, fi O x = some a ∧ fi F x = some b ∧ atU O a = atU F b ∧ ∀ y ∈ (atU F b).r, y ∈ kp F G F.length
theorem part_of {O F : List Ut} {G : List Nm} (hO : (O.map (·.n)).Nodup) (hF : (F.map (·.n)).Nodup) (hR : ∀ u ∈ F, ∀ y ∈ u.r, y ∈ F.map (·.n)) (hG : ∀ x, x ∈ G ↔ Gone O F x) : Part O F G := by
  have hkm : ∀ x, x ∈ kp F G F.length ↔ x ∈ F.map (·.n) ∧ x ∉ G := fun x => by rw [kp_all hF, List.mem_filter]; simp
  have hboth : ∀ x, x ∈ F.map (·.n) → x ∉ G → ∃ i j, fi O x = some i ∧ fi F x = some j ∧ atU O i = atU F j := fun x hx hg => by
    obtain ⟨j, hj⟩ := mem_names.1 hx
    exact stay_same (by unfold knB; rw [hj]; simp) (fun h => hg ((hG x).2 h))
  have hperm : ((O.map (·.n)).filter (fun x => decide (x ∉ G))).Perm ((F.map (·.n)).filter (fun x => decide (x ∉ G))) := by
    refine (List.perm_ext_iff_of_nodup (hO.sublist List.filter_sublist) (hF.sublist List.filter_sublist)).2 (fun x => ?_)
    rw [List.mem_filter, List.mem_filter]
    constructor
    · rintro ⟨hx, hg⟩
      have hg' : x ∉ G := by simpa using hg
      obtain ⟨i, hi⟩ := mem_names.1 hx
      obtain ⟨_, j, _, hj, _⟩ := stay_same (O := O) (F := F) (by unfold knB; rw [hi]; rfl) (fun h => hg' ((hG x).2 h))
      exact ⟨mem_names.2 ⟨j, hj⟩, hg⟩
    · rintro ⟨hx, hg⟩
      have hg' : x ∉ G := by simpa using hg
      obtain ⟨i, _, hi, _, _⟩ := hboth x hx hg'
      exact ⟨mem_names.2 ⟨i, hi⟩, hg⟩
  refine ⟨?_, ?_, fun x hx => ?_⟩
  · rw [stp_all hO, kp_all hF, ← hperm.length_eq]
    have := split_len (O.map (·.n)) G
    rw [List.length_map] at this
    rw [List.filter_reverse, List.length_reverse]
    exact this
  · rw [kp_all hF, sa_all hF]
    have := split_len (F.map (·.n)) G
    rw [List.length_map] at this
    omega
  · obtain ⟨h1, h2⟩ := (hkm x).1 hx
    obtain ⟨i, j, hi, hj, e⟩ := hboth x h1 h2
    refine ⟨i, j, hi, hj, e, fun y hy => (hkm y).2 ⟨?_, fun hyg => ?_⟩⟩
    · obtain ⟨hjl, _⟩ := fi_at hj
      exact hR F[j] (List.getElem_mem hjl) y (by rwa [atU_lt hjl] at hy)
    · have hs : smB O F x = true := by unfold smB; rw [hi, hj]; simpa using e
      exact h2 ((hG x).2 (.step ((hG y).1 hyg) hi hs (by rw [e]; exact hy)))
theorem gone_self {O : List Ut} {x : Nm} (h : Gone O O x) : False := by
  induction h with
  | base hk hs =>
    rename_i z
    unfold knB at hk
    unfold smB at hs
    cases hf : fi O z with
    | none => rw [hf] at hk; cases hk
    | some i => rw [hf] at hs; simp at hs
  | step _ _ _ _ ih => exact ih
theorem part_self {O : List Ut} {G : List Nm} (hO : (O.map (·.n)).Nodup) (hG : ∀ x, x ∈ G ↔ Gone O O x) : stp O G (bhd O) = [] ∧ sa O G O.length = [] ∧ (kp O G O.length).length = O.length := by
  have hno : ∀ x, x ∉ G := fun x hx => gone_self ((hG x).1 hx)
  refine ⟨?_, ?_, ?_⟩
  · rw [stp_all hO, List.filter_eq_nil_iff]
    intro x _
    simpa using hno x
  · rw [sa_all hO, List.filter_eq_nil_iff]
    intro x _
    simpa using hno x
  · rw [kp_all hO, List.filter_eq_self.2 (fun x _ => by simpa using hno x), List.length_map]
theorem ord_reqs {l x : List Ut} {n : Nm} (h : ordF l = (x, n, 0)) : ∀ u ∈ l, ∀ y ∈ u.r, y ∈ l.map (·.n) := fun u hu y hy => by
  obtain ⟨_, h2, h3, _, _, _⟩ := ord_ok h
  obtain ⟨j, hj⟩ := h3 u (h2.mem_iff.2 hu) y hy
  exact (h2.map (·.n)).mem_iff.1 (mem_names.2 ⟨j, hj⟩)
theorem rqs_all (l : List Ut) : rqs l l.length ≤ tot l := by
  have key : ∀ k, k ≤ l.length → rqs l k ≤ tot (l.take k) := by
    intro k
    induction k with
    | zero => intro _; simp [rqs, tot]
    | succ k ih =>
      intro h
      have hlt : k < l.length := by omega
      have h1 := ih (by omega)
      have h2 := tot_take l k hlt
      rw [rqs_succ, atU_lt hlt]
      omega
  have := key l.length (Nat.le_refl _)
  rwa [List.take_length] at this
end Go.Proofs.YtcpeebkfnnkjnaaDoor.Tr
