/- A machine in plain words. Nothing here speaks of the Go text. -/
import Derived.Test.YtangnoicnogddaaUpo
import Derived.Sort.Walk0
namespace Go.Proofs.Ytangnoicnogddaa.Tr
open Go.RowKit

structure St where
  f : List Ent
  u : List Nm
  r : List Ut
  p : List Bool
/-- An act. -/
structure Ac where
  k : Int
  n : Nm
  f : Ent
  u : Ut
/-- Where a text stands, or would stand, in a row that rises. -/
def pos (l : List Nm) (t : Nm) : Nat := (l.takeWhile fun x => decide (x < t)).length
def isAt (l : List Nm) (t : Nm) : Bool := decide (l[pos l t]? = some t)
def startB (s : Nm) : Bool := decide (1 ≤ s.length) && decide (s.length ≤ 120) && s.all fun c => decide (32 ≤ c.toNat) && decide (c.toNat ≤ 126)
def mayU (u : Ut) : Bool := nameB u.n && startB u.s && u.r.all nameB && u.a.all nameB
def standB (r : List Ut) (u : Ut) : Bool := (match fi r u.n with | none => decide (r.length ≠ 24) | some k => decide (r[k]? = some u)) && u.r.all fun x => (fi r x).isSome
def paths (f : List Ent) : List Nm := f.map (·.path)
def ins {α : Type} (l : List α) (k : Nat) (x : α) : List α := l.take k ++ x :: l.drop k
def stopF (s : St) (n : Nm) : St × Int := match fi s.r n with
  | none => (s, 0)
  | some k => if s.p.headD false then ({ s with p := s.p.tail }, 71) else ({ s with r := s.r.eraseIdx k, p := s.p.tail }, 0)
def removeF (s : St) (n : Nm) : St := if isAt (paths s.f) n then { s with f := s.f.eraseIdx (pos (paths s.f) n) } else s
def dropF (s : St) (n : Nm) : St := if isAt s.u n then { s with u := s.u.eraseIdx (pos s.u n) } else s
def fileOk (s : St) (n : Nm) (x : Ent) : Bool := rightB [x] && decide (n = x.path) && (isAt (paths s.f) n || decide (s.f.length ≠ 24))
def fileF (s : St) (n : Nm) (x : Ent) : St × Int :=
  if fileOk s n x then ({ s with f := if isAt (paths s.f) n then s.f.set (pos (paths s.f) n) x else ins s.f (pos (paths s.f) n) x }, 0) else (s, 70)
def userOk (s : St) (n : Nm) : Bool := nameB n && (isAt s.u n || decide (s.u.length ≠ 16))
def userF (s : St) (n : Nm) : St × Int :=
  if userOk s n then ({ s with u := if isAt s.u n then s.u else ins s.u (pos s.u n) n }, 0) else (s, 70)
def startOk (s : St) (n : Nm) (u : Ut) : Bool := decide (n = u.n) && mayU u && standB s.r u
def startF (s : St) (n : Nm) (u : Ut) : St × Int :=
  if startOk s n u then (if (fi s.r u.n).isSome then (s, 0) else if s.p.headD false then ({ s with p := s.p.tail }, 71) else ({ s with r := s.r ++ [u], p := s.p.tail }, 0)) else (s, 70)
def doF (s : St) (a : Ac) : St × Int :=
  if a.k = 1 then stopF s a.n else if a.k = 2 then (removeF s a.n, 0) else if a.k = 3 then (dropF s a.n, 0) else if a.k = 4 then fileF s a.n a.f
  else if a.k = 5 then userF s a.n else if a.k = 6 then startF s a.n a.u else (s, 70)
/-- What is always so. -/
structure St.ok (s : St) : Prop where
  f : (paths s.f).Pairwise (· < ·)
  u : s.u.Pairwise (· < ·)
  r : (s.r.map (·.n)).Nodup
  fl : s.f.length ≤ 24
  ul : s.u.length ≤ 16
  rl : s.r.length ≤ 24
  m : ∀ x ∈ s.r, mayU x = true
  fb : ∀ x ∈ s.f, oneB x = true
  ub : ∀ x ∈ s.u, nameB x = true

theorem nm_lt_irrefl (a : Nm) : ¬ a < a := List.lt_irrefl a
theorem nm_lt_trans {a b c : Nm} (h : a < b) (k : b < c) : a < c := List.lt_trans h k
theorem nm_lt_tri (a b : Nm) : a < b ∨ a = b ∨ b < a := by
  by_cases h : a < b
  · exact .inl h
  · by_cases k : b < a
    · exact .inr (.inr k)
    · exact .inr (.inl (List.le_antisymm k h))

/-! ### Places in a row that rises -/
theorem pos_le (l : List Nm) (t : Nm) : pos l t ≤ l.length := (List.takeWhile_prefix (l := l) (fun x => decide (x < t))).length_le
theorem pos_lt {l : List Nm} {t : Nm} {i : Nat} (h : i < l.length) (hi : i < pos l t) : l[i] < t := by
  have h1 : (l.takeWhile fun x => decide (x < t))[i]'hi ∈ l.takeWhile fun x => decide (x < t) := List.getElem_mem _
  have h2 := List.all_eq_true.1 (List.all_takeWhile (l := l) (p := fun x => decide (x < t))) _ h1
  have e : (l.takeWhile fun x => decide (x < t))[i]'hi = l[i] := by
    have hp := List.takeWhile_prefix (l := l) (fun x => decide (x < t))
    exact hp.getElem hi
  rw [e] at h2
  simpa using h2
theorem pos_ge {l : List Nm} {t : Nm} (h : pos l t < l.length) : ¬ l[pos l t] < t := by
  intro hlt
  have : ∀ (l : List Nm) (h : pos l t < l.length), l[pos l t] < t → False := by
    intro l
    induction l with
    | nil => intro h; simp at h
    | cons a r ih =>
      intro h hlt
      unfold pos at h hlt
      by_cases ha : a < t
      · simp only [List.takeWhile_cons, decide_eq_true ha, if_true, List.length_cons, List.getElem_cons_succ] at h hlt
        exact ih (by unfold pos; omega) hlt
      · simp only [List.takeWhile_cons, decide_eq_false ha, Bool.false_eq_true, if_false, List.length_nil, List.getElem_cons_zero] at h hlt
        exact ha hlt
  exact this l h hlt
theorem pos_eq {l : List Nm} {t : Nm} {k : Nat} (hk : k ≤ l.length) (h1 : ∀ i (h : i < l.length), i < k → l[i] < t) (h2 : ∀ h : k < l.length, ¬ l[k] < t) : pos l t = k := by
  rcases Nat.lt_trichotomy (pos l t) k with h | h | h
  · exact absurd (h1 _ (by omega) h) (pos_ge (by omega))
  · exact h
  · have := pos_le l t
    exact absurd (pos_lt (by omega) h) (h2 (by omega))
theorem rise_at {l : List Nm} (hl : l.Pairwise (· < ·)) {i j : Nat} (hi : i < j) (hj : j < l.length) : l[i] < l[j] := List.pairwise_iff_getElem.1 hl i j (by omega) hj hi
theorem pos_self {l : List Nm} (hl : l.Pairwise (· < ·)) {k : Nat} (hk : k < l.length) : pos l l[k] = k :=
  pos_eq (by omega) (fun i h hi => rise_at hl hi hk) (fun _ => nm_lt_irrefl _)
theorem isAt_iff {l : List Nm} (hl : l.Pairwise (· < ·)) (t : Nm) : isAt l t = true ↔ t ∈ l := by
  unfold isAt
  rw [decide_eq_true_iff]
  constructor
  · intro h; exact List.mem_of_getElem? h
  · intro h
    obtain ⟨k, hk, rfl⟩ := List.getElem_of_mem h
    rw [pos_self hl hk, List.getElem?_eq_getElem hk]
theorem isAt_get {l : List Nm} {t : Nm} (h : isAt l t = true) : ∃ hk : pos l t < l.length, l[pos l t] = t := by
  unfold isAt at h
  rw [decide_eq_true_iff] at h
  exact List.getElem?_eq_some_iff.1 h
theorem ins_map {α β : Type} (f : α → β) (l : List α) (k : Nat) (x : α) : (ins l k x).map f = ins (l.map f) k (f x) := by simp [ins]
theorem ins_len {α : Type} (l : List α) (k : Nat) (x : α) : (ins l k x).length = l.length + 1 := by simp [ins]; omega
theorem ins_mem {α : Type} (l : List α) (k : Nat) (x y : α) : y ∈ ins l k x ↔ y = x ∨ y ∈ l := by
  have e : y ∈ l ↔ y ∈ l.take k ∨ y ∈ l.drop k := by rw [← List.mem_append, List.take_append_drop]
  rw [e]
  simp [ins, or_left_comm]
theorem rise_ins {l : List Nm} (hl : l.Pairwise (· < ·)) {t : Nm} (h : isAt l t = false) : (ins l (pos l t) t).Pairwise (· < ·) := by
  have hn : ∀ i (hi : i < l.length), pos l t ≤ i → t < l[i] := fun i hi hp => by
    have h0 : pos l t < l.length := by omega
    have h1 := pos_ge h0
    have h2 : l[pos l t] ≠ t := fun e => by
      unfold isAt at h
      rw [decide_eq_false_iff_not] at h
      exact h (by rw [List.getElem?_eq_getElem h0, e])
    have h3 : t < l[pos l t] := by
      rcases nm_lt_tri l[pos l t] t with h | h | h
      · exact absurd h h1
      · exact absurd h h2
      · exact h
    rcases Nat.lt_or_eq_of_le hp with h | h
    · exact nm_lt_trans h3 (rise_at hl h hi)
    · subst h; exact h3
  unfold ins
  rw [List.pairwise_append, List.pairwise_cons]
  refine ⟨hl.take, ⟨fun x hx => ?_, hl.drop⟩, fun x hx y hy => ?_⟩
  · obtain ⟨i, hi, rfl⟩ := List.getElem_of_mem hx
    rw [List.getElem_drop]
    exact hn _ (by simp at hi; omega) (by omega)
  · obtain ⟨i, hi, rfl⟩ := List.getElem_of_mem hx
    have hi' : i < pos l t := by simp at hi; omega
    have hil : i < l.length := by simp at hi; omega
    rw [List.getElem_take]
    have hxt : l[i] < t := pos_lt hil hi'
    rcases List.mem_cons.1 hy with rfl | hy
    · exact hxt
    · obtain ⟨j, hj, rfl⟩ := List.getElem_of_mem hy
      rw [List.getElem_drop]
      exact nm_lt_trans hxt (hn _ (by simp at hj; omega) (by omega))
theorem ins_lt {l : List Nm} {k i : Nat} {t : Nm} (hk : k ≤ l.length) (hi : i < k) : (ins l k t)[i]? = l[i]? := by
  unfold ins
  rw [List.getElem?_append_left (by simp; omega), List.getElem?_take, if_pos hi]
theorem ins_at {α : Type} {l : List α} {k : Nat} {t : α} (hk : k ≤ l.length) : (ins l k t)[k]? = some t := by
  unfold ins
  rw [List.getElem?_append_right (by simp; omega)]
  simp [Nat.min_eq_left hk]
theorem pos_ins {l : List Nm} {t : Nm} : pos (ins l (pos l t) t) t = pos l t := by
  have hp := pos_le l t
  refine pos_eq (by rw [ins_len]; omega) (fun i h hi => ?_) (fun h => ?_)
  · have hil : i < l.length := by omega
    have e := ins_lt (t := t) hp hi
    rw [List.getElem?_eq_getElem h, List.getElem?_eq_getElem hil] at e
    rw [Option.some.inj e]
    exact pos_lt _ hi
  · have e := ins_at (t := t) hp
    rw [List.getElem?_eq_getElem h] at e
    rw [Option.some.inj e]
    exact nm_lt_irrefl t
theorem isAt_ins {l : List Nm} {t : Nm} : isAt (ins l (pos l t) t) t = true := by
  unfold isAt
  rw [pos_ins, decide_eq_true_iff]
  exact ins_at (pos_le l t)
theorem isAt_erase {l : List Nm} (hl : l.Pairwise (· < ·)) {t : Nm} (h : isAt l t = true) : isAt (l.eraseIdx (pos l t)) t = false := by
  obtain ⟨hk, e⟩ := isAt_get h
  rw [Bool.eq_false_iff]
  intro h2
  have h3 := (isAt_iff (hl.sublist (List.eraseIdx_sublist l _)) t).1 h2
  rw [List.mem_eraseIdx_iff_getElem] at h3
  obtain ⟨i, hi, hne, e2⟩ := h3
  rcases Nat.lt_trichotomy i (pos l t) with h4 | h4 | h4
  · have := rise_at hl h4 hk
    rw [e2, e] at this
    exact nm_lt_irrefl t this
  · exact hne h4
  · have := rise_at hl h4 hi
    rw [e2, e] at this
    exact nm_lt_irrefl t this
end Go.Proofs.Ytangnoicnogddaa.Tr
