/- What follows of a machine's acts, in plain words. Nothing here speaks of the Go text. -/
import Derived.Test.YtangnoicnogddaaMst
namespace Go.Proofs.Ytangnoicnogddaa.Tr
open Go.RowKit

theorem right_oneB {x : Ent} (h : rightB [x] = true) : oneB x = true := by
  unfold rightB rightR at h
  simp only [Bool.and_eq_true] at h
  exact h.2.1.1
theorem fi_append_self {r : List Ut} {u : Ut} (h : fi r u.n = none) : fi (r ++ [u]) u.n = some r.length := by
  refine fi_some.2 ⟨by simp, by simp, fun j hj => ?_⟩
  rw [List.getElem_append_left hj]
  exact fi_none.1 h j hj
theorem fi_append_some {r : List Ut} {u : Ut} {x : Nm} {k : Nat} (h : fi r x = some k) : fi (r ++ [u]) x = some k := by
  obtain ⟨h1, h2, h3⟩ := fi_some.1 h
  refine fi_some.2 ⟨by simp; omega, by rw [List.getElem_append_left h1]; exact h2, fun j hj => ?_⟩
  rw [List.getElem_append_left (by omega)]
  exact h3 j hj
theorem map_erase {α β : Type} (g : α → β) : ∀ (l : List α) (k : Nat), (l.eraseIdx k).map g = (l.map g).eraseIdx k
  | [], k => by simp
  | a :: r, 0 => by simp
  | a :: r, k + 1 => by simp [map_erase g r k]
theorem names_erase (r : List Ut) (k : Nat) : (r.eraseIdx k).map (·.n) = (r.map (·.n)).eraseIdx k := map_erase _ _ _
theorem fi_erase {r : List Ut} (hn : (r.map (·.n)).Nodup) {x : Nm} {k : Nat} (h : fi r x = some k) : fi (r.eraseIdx k) x = none := by
  obtain ⟨h1, h2, _⟩ := fi_some.1 h
  rw [fi_none_mem, names_erase]
  intro hx
  rw [List.mem_eraseIdx_iff_getElem] at hx
  obtain ⟨i, hi, hne, e⟩ := hx
  have hi' : i < r.length := by simpa using hi
  have e1 : (r.map (·.n))[i] = (r.map (·.n))[k]'(by simpa using h1) := by rw [e, List.getElem_map, h2]
  have hk' : k < (r.map (·.n)).length := by simpa using h1
  rcases Nat.lt_trichotomy i k with h | h | h
  · exact List.pairwise_iff_getElem.1 hn i k (by simpa using hi') hk' h e1
  · exact hne h
  · exact List.pairwise_iff_getElem.1 hn k i hk' (by simpa using hi') h e1.symm
theorem paths_erase (f : List Ent) (k : Nat) : paths (f.eraseIdx k) = (paths f).eraseIdx k := map_erase _ _ _
theorem paths_ins (f : List Ent) (k : Nat) (x : Ent) : paths (ins f k x) = ins (paths f) k x.path := ins_map _ _ _ _
theorem paths_set {f : List Ent} {k : Nat} {x : Ent} (h : (paths f)[k]? = some x.path) : paths (f.set k x) = paths f := by
  unfold paths
  rw [List.map_set]
  refine List.ext_getElem? (fun i => ?_)
  rw [List.getElem?_set]
  split
  · rename_i e
    subst e
    unfold paths at h
    split
    · exact h.symm
    · rename_i h2
      rw [List.getElem?_eq_none (by omega)]
  · rfl
theorem isAt_some {l : List Nm} {t : Nm} (h : isAt l t = true) : l[pos l t]? = some t := by
  unfold isAt at h
  simpa using h
theorem pos_lt_of {l : List Nm} {t : Nm} (h : isAt l t = true) : pos l t < l.length := (isAt_get h).1

theorem ok_nil (p : List Bool) : St.ok ⟨[], [], [], p⟩ := ⟨List.Pairwise.nil, List.Pairwise.nil, List.Pairwise.nil, by simp, by simp, by simp, by simp, by simp, by simp⟩
theorem ok_plan {s : St} (h : s.ok) (p : List Bool) : St.ok { s with p := p } := ⟨h.f, h.u, h.r, h.fl, h.ul, h.rl, h.m, h.fb, h.ub⟩
theorem ok_stop {s : St} (h : s.ok) (n : Nm) : (stopF s n).1.ok := by
  unfold stopF
  cases hf : fi s.r n with
  | none => exact h
  | some k =>
    cases hp : s.p.headD false with
    | true => simpa [hp] using ok_plan h s.p.tail
    | false =>
      simp only [Bool.false_eq_true, if_false]
      exact ⟨h.f, h.u, by rw [names_erase]; exact h.r.sublist (List.eraseIdx_sublist _ _), h.fl, h.ul, Nat.le_trans (List.eraseIdx_sublist _ _).length_le h.rl, fun x hx => h.m x ((List.eraseIdx_sublist _ _).subset hx), h.fb, h.ub⟩
theorem ok_remove {s : St} (h : s.ok) (n : Nm) : (removeF s n).ok := by
  unfold removeF
  split
  · exact ⟨by rw [paths_erase]; exact h.f.sublist (List.eraseIdx_sublist _ _), h.u, h.r, Nat.le_trans (List.eraseIdx_sublist _ _).length_le h.fl, h.ul, h.rl, h.m, fun x hx => h.fb x ((List.eraseIdx_sublist _ _).subset hx), h.ub⟩
  · exact h
theorem ok_drop {s : St} (h : s.ok) (n : Nm) : (dropF s n).ok := by
  unfold dropF
  split
  · exact ⟨h.f, h.u.sublist (List.eraseIdx_sublist _ _), h.r, h.fl, Nat.le_trans (List.eraseIdx_sublist _ _).length_le h.ul, h.rl, h.m, h.fb, fun x hx => h.ub x ((List.eraseIdx_sublist _ _).subset hx)⟩
  · exact h
theorem ok_file {s : St} (h : s.ok) (n : Nm) (x : Ent) : (fileF s n x).1.ok := by
  unfold fileF
  cases hk : fileOk s n x with
  | false => simpa using h
  | true =>
    have hb := hk
    unfold fileOk at hb
    simp only [Bool.and_eq_true, Bool.or_eq_true, decide_eq_true_eq] at hb
    obtain ⟨⟨h1, h2⟩, h3⟩ := hb
    subst h2
    cases ha : isAt (paths s.f) x.path with
    | true =>
      simp only [if_true]
      refine ⟨by rw [paths_set (isAt_some ha)]; exact h.f, h.u, h.r, by simpa using h.fl, h.ul, h.rl, h.m, fun y hy => ?_, h.ub⟩
      rcases List.mem_or_eq_of_mem_set hy with hy | rfl
      · exact h.fb y hy
      · exact right_oneB h1
    | false =>
      have h4 : s.f.length ≠ 24 := by rcases h3 with h3 | h3; · rw [ha] at h3; cases h3
                                      · exact h3
      simp only [if_true, Bool.false_eq_true, if_false]
      refine ⟨by rw [paths_ins]; exact rise_ins h.f ha, h.u, h.r, by rw [ins_len]; have := h.fl; omega, h.ul, h.rl, h.m, fun y hy => ?_, h.ub⟩
      rcases (ins_mem _ _ _ _).1 hy with rfl | hy
      · exact right_oneB h1
      · exact h.fb y hy
theorem ok_user {s : St} (h : s.ok) (n : Nm) : (userF s n).1.ok := by
  unfold userF
  cases hk : userOk s n with
  | false => simpa using h
  | true =>
    have hb := hk
    unfold userOk at hb
    simp only [Bool.and_eq_true, Bool.or_eq_true, decide_eq_true_eq] at hb
    obtain ⟨h1, h3⟩ := hb
    cases ha : isAt s.u n with
    | true => simpa using ⟨h.f, h.u, h.r, h.fl, h.ul, h.rl, h.m, h.fb, h.ub⟩
    | false =>
      have h4 : s.u.length ≠ 16 := by rcases h3 with h3 | h3; · rw [ha] at h3; cases h3
                                      · exact h3
      simp only [if_true, Bool.false_eq_true, if_false]
      refine ⟨h.f, rise_ins h.u ha, h.r, h.fl, by rw [ins_len]; have := h.ul; omega, h.rl, h.m, h.fb, fun y hy => ?_⟩
      rcases (ins_mem _ _ _ _).1 hy with rfl | hy
      · exact h1
      · exact h.ub y hy
theorem ok_start {s : St} (h : s.ok) (n : Nm) (u : Ut) : (startF s n u).1.ok := by
  unfold startF
  cases hk : startOk s n u with
  | false => simpa using h
  | true =>
    have hb := hk
    unfold startOk standB at hb
    simp only [Bool.and_eq_true, decide_eq_true_eq] at hb
    obtain ⟨⟨_, h2⟩, h3, _⟩ := hb
    cases hf : fi s.r u.n with
    | some k => simpa [hf] using h
    | none =>
      rw [hf] at h3
      simp only [decide_eq_true_eq] at h3
      cases hp : s.p.headD false with
      | true => simpa [hf, hp] using ok_plan h s.p.tail
      | false =>
        simp only [if_true, Option.isSome_none, Bool.false_eq_true, if_false]
        refine ⟨h.f, h.u, ?_, h.fl, h.ul, by simp; have := h.rl; omega, fun x hx => ?_, h.fb, h.ub⟩
        · rw [List.map_append, List.map_singleton, List.nodup_append]
          refine ⟨h.r, by simp, fun a ha b hb e => ?_⟩
          rw [List.mem_singleton.1 hb] at e
          subst e
          exact fi_none_mem.1 hf ha
        · rcases List.mem_append.1 hx with hx | hx
          · exact h.m x hx
          · rw [List.mem_singleton.1 hx]; exact h2
theorem ok_do {s : St} (h : s.ok) (a : Ac) : (doF s a).1.ok := by
  unfold doF
  split
  · exact ok_stop h _
  split
  · exact ok_remove h _
  split
  · exact ok_drop h _
  split
  · exact ok_file h _ _
  split
  · exact ok_user h _
  split
  · exact ok_start h _ _
  · exact h

/-- The same but for the plan. -/
def Lk (s t : St) : Prop := t.f = s.f ∧ t.u = s.u ∧ t.r = s.r
/-- What was refused has changed nothing. -/
theorem do_err {s : St} (a : Ac) (h : (doF s a).2 ≠ 0) : Lk s (doF s a).1 ∧ ((doF s a).2 = 70 ∨ (doF s a).2 = 71) := by
  revert h
  unfold doF
  repeat' split
  all_goals intro h
  all_goals first | exact absurd rfl h | skip
  · revert h
    unfold stopF
    cases hf : fi s.r a.n with
    | none => intro h; exact absurd rfl h
    | some k =>
      cases hp : s.p.headD false with
      | true => intro _; exact ⟨⟨rfl, rfl, rfl⟩, .inr rfl⟩
      | false => intro h; exact absurd rfl h
  · revert h
    unfold fileF
    split
    · intro h; exact absurd rfl h
    · intro _; exact ⟨⟨rfl, rfl, rfl⟩, .inl rfl⟩
  · revert h
    unfold userF
    split
    · intro h; exact absurd rfl h
    · intro _; exact ⟨⟨rfl, rfl, rfl⟩, .inl rfl⟩
  · revert h
    unfold startF
    split
    · split
      · intro h; exact absurd rfl h
      · split
        · intro _; exact ⟨⟨rfl, rfl, rfl⟩, .inr rfl⟩
        · intro h; exact absurd rfl h
    · intro _; exact ⟨⟨rfl, rfl, rfl⟩, .inl rfl⟩
  · exact ⟨⟨rfl, rfl, rfl⟩, .inl rfl⟩
theorem stop_again {s : St} (hs : s.ok) (n : Nm) (h : (stopF s n).2 = 0) : stopF (stopF s n).1 n = ((stopF s n).1, 0) := by
  revert h
  cases hf : fi s.r n with
  | none =>
    have e : stopF s n = (s, 0) := by unfold stopF; rw [hf]
    intro _; rw [e]; exact e
  | some k =>
    cases hp : s.p.headD false with
    | true =>
      have e : stopF s n = ({ s with p := s.p.tail }, 71) := by unfold stopF; rw [hf]; simp only [hp, if_true]
      intro h; rw [e] at h; cases h
    | false =>
      have e : stopF s n = ({ s with r := s.r.eraseIdx k, p := s.p.tail }, 0) := by unfold stopF; rw [hf]; simp only [hp, Bool.false_eq_true, if_false]
      intro _; rw [e]
      have hg := fi_erase hs.r hf
      unfold stopF
      simp only [hg]
theorem remove_again {s : St} (hs : s.ok) (n : Nm) : removeF (removeF s n) n = removeF s n := by
  cases ha : isAt (paths s.f) n with
  | false =>
    have e : removeF s n = s := by unfold removeF; rw [ha]; rfl
    rw [e]; exact e
  | true =>
    have e : removeF s n = { s with f := s.f.eraseIdx (pos (paths s.f) n) } := by unfold removeF; rw [ha]; rfl
    rw [e]
    have h2 := isAt_erase hs.f ha
    rw [← paths_erase] at h2
    unfold removeF
    simp only [h2, Bool.false_eq_true, if_false]
theorem drop_again {s : St} (hs : s.ok) (n : Nm) : dropF (dropF s n) n = dropF s n := by
  cases ha : isAt s.u n with
  | false =>
    have e : dropF s n = s := by unfold dropF; rw [ha]; rfl
    rw [e]; exact e
  | true =>
    have e : dropF s n = { s with u := s.u.eraseIdx (pos s.u n) } := by unfold dropF; rw [ha]; rfl
    rw [e]
    have h2 := isAt_erase hs.u ha
    unfold dropF
    simp only [h2, Bool.false_eq_true, if_false]
theorem file_again {s : St} (n : Nm) (x : Ent) (h : (fileF s n x).2 = 0) : fileF (fileF s n x).1 n x = ((fileF s n x).1, 0) := by
  cases hk : fileOk s n x with
  | false =>
    unfold fileF at h
    rw [hk] at h
    cases h
  | true =>
    have hb := hk
    unfold fileOk at hb
    simp only [Bool.and_eq_true, Bool.or_eq_true, decide_eq_true_eq] at hb
    obtain ⟨⟨h1, h2⟩, _⟩ := hb
    subst h2
    cases ha : isAt (paths s.f) x.path with
    | true =>
      have e : fileF s x.path x = ({ s with f := s.f.set (pos (paths s.f) x.path) x }, 0) := by unfold fileF; rw [hk, ha]; rfl
      rw [e]
      have hp := paths_set (isAt_some ha)
      unfold fileF fileOk
      simp only [hp, ha, h1, Bool.true_or, Bool.and_self, decide_true, if_true, List.set_set]
    | false =>
      have e : fileF s x.path x = ({ s with f := ins s.f (pos (paths s.f) x.path) x }, 0) := by unfold fileF; rw [hk, ha]; rfl
      rw [e]
      have hp := paths_ins s.f (pos (paths s.f) x.path) x
      have hle : pos (paths s.f) x.path ≤ s.f.length := by have := pos_le (paths s.f) x.path; simpa [paths] using this
      have hq : (ins s.f (pos (paths s.f) x.path) x).set (pos (paths s.f) x.path) x = ins s.f (pos (paths s.f) x.path) x := by
        refine List.ext_getElem? (fun i => ?_)
        rw [List.getElem?_set]
        split
        · rename_i e
          subst e
          rw [ins_at hle, if_pos (by rw [ins_len]; omega)]
        · rfl
      unfold fileF fileOk
      simp only [hp, isAt_ins, pos_ins, h1, Bool.true_or, Bool.and_self, decide_true, if_true, hq]
theorem user_again {s : St} (n : Nm) (h : (userF s n).2 = 0) : userF (userF s n).1 n = ((userF s n).1, 0) := by
  cases hk : userOk s n with
  | false =>
    unfold userF at h
    rw [hk] at h
    cases h
  | true =>
    have hb := hk
    unfold userOk at hb
    simp only [Bool.and_eq_true, Bool.or_eq_true, decide_eq_true_eq] at hb
    obtain ⟨h1, _⟩ := hb
    cases ha : isAt s.u n with
    | true =>
      have e : userF s n = (s, 0) := by unfold userF; rw [hk, ha]; rfl
      rw [e]; exact e
    | false =>
      have e : userF s n = ({ s with u := ins s.u (pos s.u n) n }, 0) := by unfold userF; rw [hk, ha]; rfl
      rw [e]
      unfold userF userOk
      simp only [isAt_ins, h1, Bool.true_or, Bool.and_self, if_true]
theorem start_again {s : St} (n : Nm) (u : Ut) (h : (startF s n u).2 = 0) : startF (startF s n u).1 n u = ((startF s n u).1, 0) := by
  cases hk : startOk s n u with
  | false =>
    unfold startF at h
    rw [hk] at h
    cases h
  | true =>
    cases hf : fi s.r u.n with
    | some k =>
      have e : startF s n u = (s, 0) := by unfold startF; rw [hk, hf]; rfl
      rw [e]; exact e
    | none =>
      cases hp : s.p.headD false with
      | true =>
        have e : startF s n u = ({ s with p := s.p.tail }, 71) := by unfold startF; rw [hk, hf]; simp only [hp, Option.isSome_none, Bool.false_eq_true, if_false, if_true]
        rw [e] at h; cases h
      | false =>
        have e : startF s n u = ({ s with r := s.r ++ [u], p := s.p.tail }, 0) := by unfold startF; rw [hk, hf]; simp only [hp, Option.isSome_none, Bool.false_eq_true, if_false, if_true]
        rw [e]
        have hb := hk
        unfold startOk standB at hb
        simp only [Bool.and_eq_true, decide_eq_true_eq, List.all_eq_true] at hb
        obtain ⟨⟨h1, h2⟩, _, h4⟩ := hb
        have hfs := fi_append_self hf
        have h5 : (u.r.all fun x => (fi (s.r ++ [u]) x).isSome) = true := by
          rw [List.all_eq_true]
          intro x hx
          obtain ⟨k, hk⟩ := Option.isSome_iff_exists.1 (h4 x hx)
          rw [fi_append_some hk]; rfl
        have hok : startOk { s with r := s.r ++ [u], p := s.p.tail } n u = true := by
          unfold startOk standB
          simp only [hfs, h5, h2, Bool.and_true, Bool.and_eq_true, decide_eq_true_eq]
          exact ⟨h1, by simp⟩
        unfold startF
        simp only [hok, hfs, if_true, Option.isSome_some]
/-- What was done is done. -/
theorem do_again {s : St} (hs : s.ok) (a : Ac) (h : (doF s a).2 = 0) : doF (doF s a).1 a = ((doF s a).1, 0) := by
  revert h
  by_cases h1 : a.k = 1
  · have e : ∀ s, doF s a = stopF s a.n := fun s => by unfold doF; rw [if_pos h1]
    simp only [e]; exact stop_again hs _
  by_cases h2 : a.k = 2
  · have e : ∀ s, doF s a = (removeF s a.n, 0) := fun s => by unfold doF; rw [if_neg h1, if_pos h2]
    simp only [e]; intro _; rw [remove_again hs]
  by_cases h3 : a.k = 3
  · have e : ∀ s, doF s a = (dropF s a.n, 0) := fun s => by unfold doF; rw [if_neg h1, if_neg h2, if_pos h3]
    simp only [e]; intro _; rw [drop_again hs]
  by_cases h4 : a.k = 4
  · have e : ∀ s, doF s a = fileF s a.n a.f := fun s => by unfold doF; rw [if_neg h1, if_neg h2, if_neg h3, if_pos h4]
    simp only [e]; exact file_again _ _
  by_cases h5 : a.k = 5
  · have e : ∀ s, doF s a = userF s a.n := fun s => by unfold doF; rw [if_neg h1, if_neg h2, if_neg h3, if_neg h4, if_pos h5]
    simp only [e]; exact user_again _
  by_cases h6 : a.k = 6
  · have e : ∀ s, doF s a = startF s a.n a.u := fun s => by unfold doF; rw [if_neg h1, if_neg h2, if_neg h3, if_neg h4, if_neg h5, if_pos h6]
    simp only [e]; exact start_again _ _
  · have e : ∀ s, doF s a = (s, 70) := fun s => by unfold doF; rw [if_neg h1, if_neg h2, if_neg h3, if_neg h4, if_neg h5, if_neg h6]
    simp only [e]; intro h; cases h
end Go.Proofs.Ytangnoicnogddaa.Tr
