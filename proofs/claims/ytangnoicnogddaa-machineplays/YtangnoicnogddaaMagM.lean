import Derived.Test.YtangnoicnogddaaEnv
import Derived.Sort.Walk0
/- Units in memory. -/
namespace Go.Proofs.Ytangnoicnogddaa.Tr
open Go.RowKit

/-- A name, or another text. -/
abbrev Nm := List UInt8
/-- A unit: its name, its start, what it requires, after what it stands. -/
structure Ut where
  n : Nm
  s : Nm
  r : List Nm
  a : List Nm
deriving DecidableEq, Inhabited
/-- A unit's four cells. -/
structure Uv where
  n : Nm
  s : Nm
  ra : Option Addr
  rl : Nat
  rc : Nat
  aa : Option Addr
  al : Nat
  ac : Nat
deriving Inhabited
def Uv.cs (x : Uv) : List Value := [.string ⟨x.n.toArray⟩, .string ⟨x.s.toArray⟩, .slice x.ra x.rl x.rc, .slice x.aa x.al x.ac]
def Uv.v (x : Uv) : Value := .agg x.cs.toArray
theorem uv_one (x : Uv) : ∀ v ∈ x.cs, v.oneCell' = true := by
  intro v hv
  simp only [Uv.cs, List.mem_cons, List.not_mem_nil, or_false] at hv
  rcases hv with rfl | rfl | rfl | rfl <;> rfl
theorem uv_len (x : Uv) : x.cs.length = 4 := rfl
def lim : Nat := 140737488351232
/-- How long a list of texts may be. -/
def lim16 : Nat := 8796093021952
theorem lim16_le {n : Nat} (h : n ≤ lim16) : n ≤ lim := by unfold lim16 at h; unfold lim; omega
/-- Texts that lie in a row. -/
def Strs (w : World) (ad : Option Addr) (ns : List Nm) : Prop := ns ≠ [] → ∃ b o, ad = some ⟨b, o, none⟩ ∧ ∀ i (h : i < ns.length), w.cell? ⟨b, o + i, none⟩ = some (.string ⟨ns[i].toArray⟩)
theorem Strs.env {w W : World} {ad : Option Addr} {ns : List Nm} (h : Strs w ad ns) (e : Env w W) : Strs W ad ns := fun hne => by
  obtain ⟨b, o, h1, h2⟩ := h hne
  exact ⟨b, o, h1, fun i hi => e.cell (h2 i hi)⟩
theorem Strs.at {w : World} {ad : Option Addr} {ns : List Nm} (h : Strs w ad ns) (i : Nat) (hi : i < ns.length) : ∃ b o, ad = some ⟨b, o, none⟩ ∧ w.cell? ⟨b, o + i, none⟩ = some (.string ⟨ns[i].toArray⟩) := by
  obtain ⟨b, o, h1, h2⟩ := h (by intro e; rw [e] at hi; simp at hi)
  exact ⟨b, o, h1, h2 i hi⟩
/-- Four cells, wherever they lie. -/
def four (W : World) (b o : Nat) (x : Uv) : Prop := ∀ j v, x.cs[j]? = some v → W.cell? ⟨b, o + j, none⟩ = some v
theorem four.env {w W : World} {b o : Nat} {x : Uv} (h : four w b o x) (e : Env w W) : four W b o x := fun j v hv => e.cell (h j v hv)
theorem four.all {W : World} {b o : Nat} {x : Uv} (h : four W b o x) : W.cell? ⟨b, o, none⟩ = some (.string ⟨x.n.toArray⟩) ∧ W.cell? ⟨b, o + 1, none⟩ = some (.string ⟨x.s.toArray⟩) ∧ W.cell? ⟨b, o + 2, none⟩ = some (.slice x.ra x.rl x.rc) ∧ W.cell? ⟨b, o + 3, none⟩ = some (.slice x.aa x.al x.ac) :=
  ⟨h 0 _ rfl, h 1 _ rfl, h 2 _ rfl, h 3 _ rfl⟩
/-- A unit's texts and lists are no longer than memory. -/
structure Ut.ok (u : Ut) : Prop where
  n : u.n.length ≤ lim
  s : u.s.length ≤ lim
  r : u.r.length ≤ lim16
  a : u.a.length ≤ lim16
  rx : ∀ x ∈ u.r, x.length ≤ lim
  ax : ∀ x ∈ u.a, x.length ≤ lim
/-- The cells x are the unit u. -/
structure UIn (w : World) (u : Ut) (x : Uv) : Prop where
  n : x.n = u.n
  s : x.s = u.s
  rl : x.rl = u.r.length
  al : x.al = u.a.length
  r : Strs w x.ra u.r
  a : Strs w x.aa u.a
  ok : u.ok
theorem UIn.env {w W : World} {u : Ut} {x : Uv} (h : UIn w u x) (e : Env w W) : UIn W u x := ⟨h.n, h.s, h.rl, h.al, h.r.env e, h.a.env e, h.ok⟩
/-- At ad lie these units: their cells now, their lists as they were in w0. -/
def Us (w0 w : World) (U : List Ut) (ad : Option Addr) : Prop := U ≠ [] → ∃ b o, ad = some ⟨b, o, none⟩ ∧ ∀ i (h : i < U.length), ∃ x, four w b (o + i * 4) x ∧ UIn w0 U[i] x
theorem Us.env {w0 w W : World} {U : List Ut} {ad : Option Addr} (h : Us w0 w U ad) (e : Env w W) : Us w0 W U ad := fun hne => by
  obtain ⟨b, o, h1, h2⟩ := h hne
  exact ⟨b, o, h1, fun i hi => by obtain ⟨x, x1, x2⟩ := h2 i hi; exact ⟨x, x1.env e, x2⟩⟩
theorem Us.up {w0 w1 w : World} {U : List Ut} {ad : Option Addr} (h : Us w0 w U ad) (e : Env w0 w1) : Us w1 w U ad := fun hne => by
  obtain ⟨b, o, h1, h2⟩ := h hne
  exact ⟨b, o, h1, fun i hi => by obtain ⟨x, x1, x2⟩ := h2 i hi; exact ⟨x, x1, x2.env e⟩⟩
theorem Us.some {w0 w : World} {U : List Ut} {ad : Option Addr} (h : Us w0 w U ad) {i : Nat} (hi : i < U.length) : ∃ b o, ad = .some ⟨b, o, none⟩ := by
  obtain ⟨b, o, h1, _⟩ := h (by intro e; rw [e] at hi; simp at hi)
  exact ⟨b, o, h1⟩
theorem Us.get {w0 w : World} {U : List Ut} {b o : Nat} (h : Us w0 w U (.some ⟨b, o, none⟩)) (i : Nat) (hi : i < U.length) : ∃ x, four w b (o + i * 4) x ∧ UIn w0 U[i] x := by
  obtain ⟨b', o', h1, h2⟩ := h (by intro e; rw [e] at hi; simp at hi)
  simp only [Option.some.injEq, Addr.mk.injEq, and_true] at h1
  obtain ⟨rfl, rfl⟩ := h1
  exact h2 i hi
/-- A unit in a block of its own. -/
abbrev uBox (w : World) (x : Uv) : World := w.alloc (.cells x.cs.toArray 41)
theorem uBlk (w : World) (x : Uv) : Blk (uBox w x) w.heap.size 41 x.cs := Blk.new w 41 x.cs
theorem uFr (w : World) (x : Uv) : Fr (fun _ => False) w (uBox w x) := (Fr.refl _ w).alloc _
theorem sizeU : (Try.prog.info? 41).map (·.size) = some 4 := by kernel_rfl
theorem own_lt {w : World} {base : Nat} {e : TypeId} {size : Nat} {v : Value} {n : Nat} {xs : List Value} (h : w.ownsRow base e size v n xs) : ∀ k, v.ownBlock = some k → base ≤ k ∧ k < w.heap.size := by
  intro k hk
  rcases h.2 with ⟨rfl, _⟩ | ⟨g, cap, cur, rfl, hb, hg, _⟩
  · cases hk
  · cases hk
    refine ⟨hb, ?_⟩
    rcases Nat.lt_or_ge g w.heap.size with hl | hl
    · exact hl
    · rw [Array.getElem?_eq_none hl] at hg; cases hg
theorem own_alloc {w : World} {base : Nat} {e : TypeId} {size : Nat} {v : Value} {n : Nat} {xs : List Value} (h : w.ownsRow base e size v n xs) (o : Obj) : (w.alloc o).ownsRow base e size v n xs := h.alloc o
theorem own_fr {w w' : World} {base : Nat} {e : TypeId} {size : Nat} {v : Value} {n : Nat} {xs : List Value} {F : Nat → Prop} (h : w.ownsRow base e size v n xs) (f : Fr F w w') (hF : ∀ k, v.ownBlock = some k → ¬ F k) : w'.ownsRow base e size v n xs :=
  owns_of_eq h (fun k hk => f.block k (own_lt h k hk).2 (hF k hk))
theorem fr_below {B : Nat} {w w' : World} (h : Below B w w') (hB : w.heap.size ≤ B) : Fr (fun _ => False) w w' := ⟨h.os, h.tape, h.output, h.size, fun k hk _ => h.block k (by omega)⟩
end Go.Proofs.Ytangnoicnogddaa.Tr
/- Where a name stands first. Nothing here speaks of the Go text. -/
namespace Go.Proofs.Ytangnoicnogddaa.Tr
open Go.RowKit

def fi (l : List Ut) (x : Nm) : Option Nat := l.findIdx? (fun u => decide (u.n = x))
def fiI (l : List Ut) (x : Nm) : Int := match fi l x with | some i => (i : Int) | none => -1
theorem fi_some {l : List Ut} {x : Nm} {i : Nat} : fi l x = some i ↔ ∃ h : i < l.length, l[i].n = x ∧ ∀ j (hj : j < i), l[j].n ≠ x := by
  unfold fi
  rw [List.findIdx?_eq_some_iff_getElem]
  simp
theorem fi_none {l : List Ut} {x : Nm} : fi l x = none ↔ ∀ j (h : j < l.length), l[j].n ≠ x := by
  unfold fi
  rw [List.findIdx?_eq_none_iff]
  simp only [decide_eq_false_iff_not]
  constructor
  · intro h j hj; exact h _ (List.getElem_mem hj)
  · intro h u hu
    obtain ⟨j, hj, rfl⟩ := List.getElem_of_mem hu
    exact h j hj
theorem fi_lt {l : List Ut} {x : Nm} {i : Nat} (h : fi l x = some i) : i < l.length := (fi_some.1 h).1
theorem fi_none_mem {l : List Ut} {x : Nm} : fi l x = none ↔ x ∉ l.map (·.n) := by
  rw [fi_none]
  constructor
  · intro h hx
    obtain ⟨u, hu, e⟩ := List.mem_map.1 hx
    obtain ⟨j, hj, rfl⟩ := List.getElem_of_mem hu
    exact h j hj e
  · intro h j hj e
    exact h (List.mem_map.2 ⟨l[j], List.getElem_mem hj, e⟩)
theorem fiI_some {l : List Ut} {x : Nm} {i : Nat} (h : fi l x = some i) : fiI l x = (i : Int) := by unfold fiI; rw [h]
theorem fiI_none {l : List Ut} {x : Nm} (h : fi l x = none) : fiI l x = -1 := by unfold fiI; rw [h]
theorem fi_self {l : List Ut} (hn : (l.map (·.n)).Nodup) {i : Nat} (h : i < l.length) : fi l l[i].n = some i := by
  refine fi_some.2 ⟨h, rfl, fun j hj e => ?_⟩
  have := List.pairwise_iff_getElem.1 hn j i (by simp; omega) (by simpa using h) hj
  simp only [List.getElem_map] at this
  exact this e
theorem nodup_of_fi {l : List Ut} (h : ∀ i (hi : i < l.length), fi l l[i].n = some i) : (l.map (·.n)).Nodup := by
  refine List.pairwise_iff_getElem.2 (fun i j hi hj hij => ?_)
  have hi' : i < l.length := by simpa using hi
  have hj' : j < l.length := by simpa using hj
  simp only [List.getElem_map]
  intro e
  have h1 := h i hi'
  have h2 := h j hj'
  rw [e] at h1
  rw [h1] at h2
  cases h2
  omega
theorem take_eq_succ {α : Type} {A B : List α} {i : Nat} (ht : A.take i = B.take i) (h : i < A.length) (h' : i < B.length) (e : A[i] = B[i]) : A.take (i + 1) = B.take (i + 1) := by
  rw [List.take_succ_eq_append_getElem h, List.take_succ_eq_append_getElem h', ht, e]
theorem ne_of_at {α : Type} {A B : List α} {i : Nat} (h : i < A.length) (h' : i < B.length) (hne : A[i] ≠ B[i]) : A ≠ B := by
  intro e; subst e; exact hne rfl
end Go.Proofs.Ytangnoicnogddaa.Tr
/- A machine in plain words. Nothing here speaks of the Go text. -/
namespace Go.Proofs.Ytangnoicnogddaa.Tr
open Go.RowKit

structure St where
  f : List Ent
  u : List Nm
  r : List Ut
  p : List Bool
/-- An act. -/
structure Ac where
  k : Int
  n : Nm
  f : Ent
  u : Ut
/-- Where a text stands, or would stand, in a row that rises. -/
def pos (l : List Nm) (t : Nm) : Nat := (l.takeWhile fun x => decide (x < t)).length
def isAt (l : List Nm) (t : Nm) : Bool := decide (l[pos l t]? = some t)
def startB (s : Nm) : Bool := decide (1 ≤ s.length) && decide (s.length ≤ 120) && s.all fun c => decide (32 ≤ c.toNat) && decide (c.toNat ≤ 126)
def mayU (u : Ut) : Bool := nameB u.n && startB u.s && u.r.all nameB && u.a.all nameB
def standB (r : List Ut) (u : Ut) : Bool := (match fi r u.n with | none => decide (r.length ≠ 24) | some k => decide (r[k]? = some u)) && u.r.all fun x => (fi r x).isSome
def paths (f : List Ent) : List Nm := f.map (·.path)
def ins {α : Type} (l : List α) (k : Nat) (x : α) : List α := l.take k ++ x :: l.drop k
def stopF (s : St) (n : Nm) : St × Int := match fi s.r n with
  | none => (s, 0)
  | some k => if s.p.headD false then ({ s with p := s.p.tail }, 71) else ({ s with r := s.r.eraseIdx k, p := s.p.tail }, 0)
def removeF (s : St) (n : Nm) : St := if isAt (paths s.f) n then { s with f := s.f.eraseIdx (pos (paths s.f) n) } else s
def dropF (s : St) (n : Nm) : St := if isAt s.u n then { s with u := s.u.eraseIdx (pos s.u n) } else s
def fileOk (s : St) (n : Nm) (x : Ent) : Bool := rightB [x] && decide (n = x.path) && (isAt (paths s.f) n || decide (s.f.length ≠ 24))
def fileF (s : St) (n : Nm) (x : Ent) : St × Int :=
  if fileOk s n x then ({ s with f := if isAt (paths s.f) n then s.f.set (pos (paths s.f) n) x else ins s.f (pos (paths s.f) n) x }, 0) else (s, 70)
def userOk (s : St) (n : Nm) : Bool := nameB n && (isAt s.u n || decide (s.u.length ≠ 16))
def userF (s : St) (n : Nm) : St × Int :=
  if userOk s n then ({ s with u := if isAt s.u n then s.u else ins s.u (pos s.u n) n }, 0) else (s, 70)
def startOk (s : St) (n : Nm) (u : Ut) : Bool := decide (n = u.n) && mayU u && standB s.r u
def startF (s : St) (n : Nm) (u : Ut) : St × Int :=
  if startOk s n u then (if (fi s.r u.n).isSome then (s, 0) else if s.p.headD false then ({ s with p := s.p.tail }, 71) else ({ s with r := s.r ++ [u], p := s.p.tail }, 0)) else (s, 70)
def doF (s : St) (a : Ac) : St × Int :=
  if a.k = 1 then stopF s a.n else if a.k = 2 then (removeF s a.n, 0) else if a.k = 3 then (dropF s a.n, 0) else if a.k = 4 then fileF s a.n a.f
  else if a.k = 5 then userF s a.n else if a.k = 6 then startF s a.n a.u else (s, 70)
/-- What is always so. -/
structure St.ok (s : St) : Prop where
  f : (paths s.f).Pairwise (· < ·)
  u : s.u.Pairwise (· < ·)
  r : (s.r.map (·.n)).Nodup
  fl : s.f.length ≤ 24
  ul : s.u.length ≤ 16
  rl : s.r.length ≤ 24
  m : ∀ x ∈ s.r, mayU x = true
  fb : ∀ x ∈ s.f, oneB x = true
  ub : ∀ x ∈ s.u, nameB x = true

theorem nm_lt_irrefl (a : Nm) : ¬ a < a := List.lt_irrefl a
theorem nm_lt_trans {a b c : Nm} (h : a < b) (k : b < c) : a < c := List.lt_trans h k
theorem nm_lt_tri (a b : Nm) : a < b ∨ a = b ∨ b < a := by
  by_cases h : a < b
  · exact .inl h
  · by_cases k : b < a
    · exact .inr (.inr k)
    · exact .inr (.inl (List.le_antisymm k h))

/-! ### Places in a row that rises -/
theorem pos_le (l : List Nm) (t : Nm) : pos l t ≤ l.length := (List.takeWhile_prefix (l := l) (fun x => decide (x < t))).length_le
theorem pos_lt {l : List Nm} {t : Nm} {i : Nat} (h : i < l.length) (hi : i < pos l t) : l[i] < t := by
  have h1 : (l.takeWhile fun x => decide (x < t))[i]'hi ∈ l.takeWhile fun x => decide (x < t) := List.getElem_mem _
  have h2 := List.all_eq_true.1 (List.all_takeWhile (l := l) (p := fun x => decide (x < t))) _ h1
  have e : (l.takeWhile fun x => decide (x < t))[i]'hi = l[i] := by
    have hp := List.takeWhile_prefix (l := l) (fun x => decide (x < t))
    exact hp.getElem hi
  rw [e] at h2
  simpa using h2
theorem pos_ge {l : List Nm} {t : Nm} (h : pos l t < l.length) : ¬ l[pos l t] < t := by
  intro hlt
  have : ∀ (l : List Nm) (h : pos l t < l.length), l[pos l t] < t → False := by
    intro l
    induction l with
    | nil => intro h; simp at h
    | cons a r ih =>
      intro h hlt
      unfold pos at h hlt
      by_cases ha : a < t
      · simp only [List.takeWhile_cons, decide_eq_true ha, if_true, List.length_cons, List.getElem_cons_succ] at h hlt
        exact ih (by unfold pos; omega) hlt
      · simp only [List.takeWhile_cons, decide_eq_false ha, Bool.false_eq_true, if_false, List.length_nil, List.getElem_cons_zero] at h hlt
        exact ha hlt
  exact this l h hlt
theorem pos_eq {l : List Nm} {t : Nm} {k : Nat} (hk : k ≤ l.length) (h1 : ∀ i (h : i < l.length), i < k → l[i] < t) (h2 : ∀ h : k < l.length, ¬ l[k] < t) : pos l t = k := by
  rcases Nat.lt_trichotomy (pos l t) k with h | h | h
  · exact absurd (h1 _ (by omega) h) (pos_ge (by omega))
  · exact h
  · have := pos_le l t
    exact absurd (pos_lt (by omega) h) (h2 (by omega))
theorem rise_at {l : List Nm} (hl : l.Pairwise (· < ·)) {i j : Nat} (hi : i < j) (hj : j < l.length) : l[i] < l[j] := List.pairwise_iff_getElem.1 hl i j (by omega) hj hi
theorem pos_self {l : List Nm} (hl : l.Pairwise (· < ·)) {k : Nat} (hk : k < l.length) : pos l l[k] = k :=
  pos_eq (by omega) (fun i h hi => rise_at hl hi hk) (fun _ => nm_lt_irrefl _)
theorem isAt_iff {l : List Nm} (hl : l.Pairwise (· < ·)) (t : Nm) : isAt l t = true ↔ t ∈ l := by
  unfold isAt
  rw [decide_eq_true_iff]
  constructor
  · intro h; exact List.mem_of_getElem? h
  · intro h
    obtain ⟨k, hk, rfl⟩ := List.getElem_of_mem h
    rw [pos_self hl hk, List.getElem?_eq_getElem hk]
theorem isAt_get {l : List Nm} {t : Nm} (h : isAt l t = true) : ∃ hk : pos l t < l.length, l[pos l t] = t := by
  unfold isAt at h
  rw [decide_eq_true_iff] at h
  exact List.getElem?_eq_some_iff.1 h
theorem ins_map {α β : Type} (f : α → β) (l : List α) (k : Nat) (x : α) : (ins l k x).map f = ins (l.map f) k (f x) := by simp [ins]
theorem ins_len {α : Type} (l : List α) (k : Nat) (x : α) : (ins l k x).length = l.length + 1 := by simp [ins]; omega
theorem ins_mem {α : Type} (l : List α) (k : Nat) (x y : α) : y ∈ ins l k x ↔ y = x ∨ y ∈ l := by
  have e : y ∈ l ↔ y ∈ l.take k ∨ y ∈ l.drop k := by rw [← List.mem_append, List.take_append_drop]
  rw [e]
  simp [ins, or_left_comm]
theorem rise_ins {l : List Nm} (hl : l.Pairwise (· < ·)) {t : Nm} (h : isAt l t = false) : (ins l (pos l t) t).Pairwise (· < ·) := by
  have hn : ∀ i (hi : i < l.length), pos l t ≤ i → t < l[i] := fun i hi hp => by
    have h0 : pos l t < l.length := by omega
    have h1 := pos_ge h0
    have h2 : l[pos l t] ≠ t := fun e => by
      unfold isAt at h
      rw [decide_eq_false_iff_not] at h
      exact h (by rw [List.getElem?_eq_getElem h0, e])
    have h3 : t < l[pos l t] := by
      rcases nm_lt_tri l[pos l t] t with h | h | h
      · exact absurd h h1
      · exact absurd h h2
      · exact h
    rcases Nat.lt_or_eq_of_le hp with h | h
    · exact nm_lt_trans h3 (rise_at hl h hi)
    · subst h; exact h3
  unfold ins
  rw [List.pairwise_append, List.pairwise_cons]
  refine ⟨hl.take, ⟨fun x hx => ?_, hl.drop⟩, fun x hx y hy => ?_⟩
  · obtain ⟨i, hi, rfl⟩ := List.getElem_of_mem hx
    rw [List.getElem_drop]
    exact hn _ (by simp at hi; omega) (by omega)
  · obtain ⟨i, hi, rfl⟩ := List.getElem_of_mem hx
    have hi' : i < pos l t := by simp at hi; omega
    have hil : i < l.length := by simp at hi; omega
    rw [List.getElem_take]
    have hxt : l[i] < t := pos_lt hil hi'
    rcases List.mem_cons.1 hy with rfl | hy
    · exact hxt
    · obtain ⟨j, hj, rfl⟩ := List.getElem_of_mem hy
      rw [List.getElem_drop]
      exact nm_lt_trans hxt (hn _ (by simp at hj; omega) (by omega))
theorem ins_lt {l : List Nm} {k i : Nat} {t : Nm} (hk : k ≤ l.length) (hi : i < k) : (ins l k t)[i]? = l[i]? := by
  unfold ins
  rw [List.getElem?_append_left (by simp; omega), List.getElem?_take, if_pos hi]
theorem ins_at {α : Type} {l : List α} {k : Nat} {t : α} (hk : k ≤ l.length) : (ins l k t)[k]? = some t := by
  unfold ins
  rw [List.getElem?_append_right (by simp; omega)]
  simp [Nat.min_eq_left hk]
theorem pos_ins {l : List Nm} {t : Nm} : pos (ins l (pos l t) t) t = pos l t := by
  have hp := pos_le l t
  refine pos_eq (by rw [ins_len]; omega) (fun i h hi => ?_) (fun h => ?_)
  · have hil : i < l.length := by omega
    have e := ins_lt (t := t) hp hi
    rw [List.getElem?_eq_getElem h, List.getElem?_eq_getElem hil] at e
    rw [Option.some.inj e]
    exact pos_lt _ hi
  · have e := ins_at (t := t) hp
    rw [List.getElem?_eq_getElem h] at e
    rw [Option.some.inj e]
    exact nm_lt_irrefl t
theorem isAt_ins {l : List Nm} {t : Nm} : isAt (ins l (pos l t) t) t = true := by
  unfold isAt
  rw [pos_ins, decide_eq_true_iff]
  exact ins_at (pos_le l t)
theorem isAt_erase {l : List Nm} (hl : l.Pairwise (· < ·)) {t : Nm} (h : isAt l t = true) : isAt (l.eraseIdx (pos l t)) t = false := by
  obtain ⟨hk, e⟩ := isAt_get h
  rw [Bool.eq_false_iff]
  intro h2
  have h3 := (isAt_iff (hl.sublist (List.eraseIdx_sublist l _)) t).1 h2
  rw [List.mem_eraseIdx_iff_getElem] at h3
  obtain ⟨i, hi, hne, e2⟩ := h3
  rcases Nat.lt_trichotomy i (pos l t) with h4 | h4 | h4
  · have := rise_at hl h4 hk
    rw [e2, e] at this
    exact nm_lt_irrefl t this
  · exact hne h4
  · have := rise_at hl h4 hi
    rw [e2, e] at this
    exact nm_lt_irrefl t this
end Go.Proofs.Ytangnoicnogddaa.Tr
/- What follows of a machine's acts, in plain words. Nothing here speaks of the Go text. -/
namespace Go.Proofs.Ytangnoicnogddaa.Tr
open Go.RowKit

theorem right_oneB {x : Ent} (h : rightB [x] = true) : oneB x = true := by
  unfold rightB rightR at h
  simp only [Bool.and_eq_true] at h
  exact h.2.1.1
theorem fi_append_self {r : List Ut} {u : Ut} (h : fi r u.n = none) : fi (r ++ [u]) u.n = some r.length := by
  refine fi_some.2 ⟨by simp, by simp, fun j hj => ?_⟩
  rw [List.getElem_append_left hj]
  exact fi_none.1 h j hj
theorem fi_append_some {r : List Ut} {u : Ut} {x : Nm} {k : Nat} (h : fi r x = some k) : fi (r ++ [u]) x = some k := by
  obtain ⟨h1, h2, h3⟩ := fi_some.1 h
  refine fi_some.2 ⟨by simp; omega, by rw [List.getElem_append_left h1]; exact h2, fun j hj => ?_⟩
  rw [List.getElem_append_left (by omega)]
  exact h3 j hj
theorem map_erase {α β : Type} (g : α → β) : ∀ (l : List α) (k : Nat), (l.eraseIdx k).map g = (l.map g).eraseIdx k
  | [], k => by simp
  | a :: r, 0 => by simp
  | a :: r, k + 1 => by simp [map_erase g r k]
theorem names_erase (r : List Ut) (k : Nat) : (r.eraseIdx k).map (·.n) = (r.map (·.n)).eraseIdx k := map_erase _ _ _
theorem fi_erase {r : List Ut} (hn : (r.map (·.n)).Nodup) {x : Nm} {k : Nat} (h : fi r x = some k) : fi (r.eraseIdx k) x = none := by
  obtain ⟨h1, h2, _⟩ := fi_some.1 h
  rw [fi_none_mem, names_erase]
  intro hx
  rw [List.mem_eraseIdx_iff_getElem] at hx
  obtain ⟨i, hi, hne, e⟩ := hx
  have hi' : i < r.length := by simpa using hi
  have e1 : (r.map (·.n))[i] = (r.map (·.n))[k]'(by simpa using h1) := by rw [e, List.getElem_map, h2]
  have hk' : k < (r.map (·.n)).length := by simpa using h1
  rcases Nat.lt_trichotomy i k with h | h | h
  · exact List.pairwise_iff_getElem.1 hn i k (by simpa using hi') hk' h e1
  · exact hne h
  · exact List.pairwise_iff_getElem.1 hn k i hk' (by simpa using hi') h e1.symm
theorem paths_erase (f : List Ent) (k : Nat) : paths (f.eraseIdx k) = (paths f).eraseIdx k := map_erase _ _ _
theorem paths_ins (f : List Ent) (k : Nat) (x : Ent) : paths (ins f k x) = ins (paths f) k x.path := ins_map _ _ _ _
theorem paths_set {f : List Ent} {k : Nat} {x : Ent} (h : (paths f)[k]? = some x.path) : paths (f.set k x) = paths f := by
  unfold paths
  rw [List.map_set]
  refine List.ext_getElem? (fun i => ?_)
  rw [List.getElem?_set]
  split
  · rename_i e
    subst e
    unfold paths at h
    split
    · exact h.symm
    · rename_i h2
      rw [List.getElem?_eq_none (by omega)]
  · rfl
theorem isAt_some {l : List Nm} {t : Nm} (h : isAt l t = true) : l[pos l t]? = some t := by
  unfold isAt at h
  simpa using h
theorem pos_lt_of {l : List Nm} {t : Nm} (h : isAt l t = true) : pos l t < l.length := (isAt_get h).1

theorem ok_nil (p : List Bool) : St.ok ⟨[], [], [], p⟩ := ⟨List.Pairwise.nil, List.Pairwise.nil, List.Pairwise.nil, by simp, by simp, by simp, by simp, by simp, by simp⟩
theorem ok_plan {s : St} (h : s.ok) (p : List Bool) : St.ok { s with p := p } := ⟨h.f, h.u, h.r, h.fl, h.ul, h.rl, h.m, h.fb, h.ub⟩
theorem ok_stop {s : St} (h : s.ok) (n : Nm) : (stopF s n).1.ok := by
  unfold stopF
  cases hf : fi s.r n with
  | none => exact h
  | some k =>
    cases hp : s.p.headD false with
    | true => simpa [hp] using ok_plan h s.p.tail
    | false =>
      simp only [Bool.false_eq_true, if_false]
      exact ⟨h.f, h.u, by rw [names_erase]; exact h.r.sublist (List.eraseIdx_sublist _ _), h.fl, h.ul, Nat.le_trans (List.eraseIdx_sublist _ _).length_le h.rl, fun x hx => h.m x ((List.eraseIdx_sublist _ _).subset hx), h.fb, h.ub⟩
theorem ok_remove {s : St} (h : s.ok) (n : Nm) : (removeF s n).ok := by
  unfold removeF
  split
  · exact ⟨by rw [paths_erase]; exact h.f.sublist (List.eraseIdx_sublist _ _), h.u, h.r, Nat.le_trans (List.eraseIdx_sublist _ _).length_le h.fl, h.ul, h.rl, h.m, fun x hx => h.fb x ((List.eraseIdx_sublist _ _).subset hx), h.ub⟩
  · exact h
theorem ok_drop {s : St} (h : s.ok) (n : Nm) : (dropF s n).ok := by
  unfold dropF
  split
  · exact ⟨h.f, h.u.sublist (List.eraseIdx_sublist _ _), h.r, h.fl, Nat.le_trans (List.eraseIdx_sublist _ _).length_le h.ul, h.rl, h.m, h.fb, fun x hx => h.ub x ((List.eraseIdx_sublist _ _).subset hx)⟩
  · exact h
theorem ok_file {s : St} (h : s.ok) (n : Nm) (x : Ent) : (fileF s n x).1.ok := by
  unfold fileF
  cases hk : fileOk s n x with
  | false => simpa using h
  | true =>
    have hb := hk
    unfold fileOk at hb
    simp only [Bool.and_eq_true, Bool.or_eq_true, decide_eq_true_eq] at hb
    obtain ⟨⟨h1, h2⟩, h3⟩ := hb
    subst h2
    cases ha : isAt (paths s.f) x.path with
    | true =>
      simp only [if_true]
      refine ⟨by rw [paths_set (isAt_some ha)]; exact h.f, h.u, h.r, by simpa using h.fl, h.ul, h.rl, h.m, fun y hy => ?_, h.ub⟩
      rcases List.mem_or_eq_of_mem_set hy with hy | rfl
      · exact h.fb y hy
      · exact right_oneB h1
    | false =>
      have h4 : s.f.length ≠ 24 := by rcases h3 with h3 | h3; · rw [ha] at h3; cases h3
                                      · exact h3
      simp only [if_true, Bool.false_eq_true, if_false]
      refine ⟨by rw [paths_ins]; exact rise_ins h.f ha, h.u, h.r, by rw [ins_len]; have := h.fl; omega, h.ul, h.rl, h.m, fun y hy => ?_, h.ub⟩
      rcases (ins_mem _ _ _ _).1 hy with rfl | hy
      · exact right_oneB h1
      · exact h.fb y hy
theorem ok_user {s : St} (h : s.ok) (n : Nm) : (userF s n).1.ok := by
  unfold userF
  cases hk : userOk s n with
  | false => simpa using h
  | true =>
    have hb := hk
    unfold userOk at hb
    simp only [Bool.and_eq_true, Bool.or_eq_true, decide_eq_true_eq] at hb
    obtain ⟨h1, h3⟩ := hb
    cases ha : isAt s.u n with
    | true => simpa using ⟨h.f, h.u, h.r, h.fl, h.ul, h.rl, h.m, h.fb, h.ub⟩
    | false =>
      have h4 : s.u.length ≠ 16 := by rcases h3 with h3 | h3; · rw [ha] at h3; cases h3
                                      · exact h3
      simp only [if_true, Bool.false_eq_true, if_false]
      refine ⟨h.f, rise_ins h.u ha, h.r, h.fl, by rw [ins_len]; have := h.ul; omega, h.rl, h.m, h.fb, fun y hy => ?_⟩
      rcases (ins_mem _ _ _ _).1 hy with rfl | hy
      · exact h1
      · exact h.ub y hy
theorem ok_start {s : St} (h : s.ok) (n : Nm) (u : Ut) : (startF s n u).1.ok := by
  unfold startF
  cases hk : startOk s n u with
  | false => simpa using h
  | true =>
    have hb := hk
    unfold startOk standB at hb
    simp only [Bool.and_eq_true, decide_eq_true_eq] at hb
    obtain ⟨⟨_, h2⟩, h3, _⟩ := hb
    cases hf : fi s.r u.n with
    | some k => simpa [hf] using h
    | none =>
      rw [hf] at h3
      simp only [decide_eq_true_eq] at h3
      cases hp : s.p.headD false with
      | true => simpa [hf, hp] using ok_plan h s.p.tail
      | false =>
        simp only [if_true, Option.isSome_none, Bool.false_eq_true, if_false]
        refine ⟨h.f, h.u, ?_, h.fl, h.ul, by simp; have := h.rl; omega, fun x hx => ?_, h.fb, h.ub⟩
        · rw [List.map_append, List.map_singleton, List.nodup_append]
          refine ⟨h.r, by simp, fun a ha b hb e => ?_⟩
          rw [List.mem_singleton.1 hb] at e
          subst e
          exact fi_none_mem.1 hf ha
        · rcases List.mem_append.1 hx with hx | hx
          · exact h.m x hx
          · rw [List.mem_singleton.1 hx]; exact h2
theorem ok_do {s : St} (h : s.ok) (a : Ac) : (doF s a).1.ok := by
  unfold doF
  split
  · exact ok_stop h _
  split
  · exact ok_remove h _
  split
  · exact ok_drop h _
  split
  · exact ok_file h _ _
  split
  · exact ok_user h _
  split
  · exact ok_start h _ _
  · exact h

/-- The same but for the plan. -/
def Lk (s t : St) : Prop := t.f = s.f ∧ t.u = s.u ∧ t.r = s.r
/-- What was refused has changed nothing. -/
theorem do_err {s : St} (a : Ac) (h : (doF s a).2 ≠ 0) : Lk s (doF s a).1 ∧ ((doF s a).2 = 70 ∨ (doF s a).2 = 71) := by
  revert h
  unfold doF
  repeat' split
  all_goals intro h
  all_goals first | exact absurd rfl h | skip
  · revert h
    unfold stopF
    cases hf : fi s.r a.n with
    | none => intro h; exact absurd rfl h
    | some k =>
      cases hp : s.p.headD false with
      | true => intro _; exact ⟨⟨rfl, rfl, rfl⟩, .inr rfl⟩
      | false => intro h; exact absurd rfl h
  · revert h
    unfold fileF
    split
    · intro h; exact absurd rfl h
    · intro _; exact ⟨⟨rfl, rfl, rfl⟩, .inl rfl⟩
  · revert h
    unfold userF
    split
    · intro h; exact absurd rfl h
    · intro _; exact ⟨⟨rfl, rfl, rfl⟩, .inl rfl⟩
  · revert h
    unfold startF
    split
    · split
      · intro h; exact absurd rfl h
      · split
        · intro _; exact ⟨⟨rfl, rfl, rfl⟩, .inr rfl⟩
        · intro h; exact absurd rfl h
    · intro _; exact ⟨⟨rfl, rfl, rfl⟩, .inl rfl⟩
  · exact ⟨⟨rfl, rfl, rfl⟩, .inl rfl⟩
theorem stop_again {s : St} (hs : s.ok) (n : Nm) (h : (stopF s n).2 = 0) : stopF (stopF s n).1 n = ((stopF s n).1, 0) := by
  revert h
  cases hf : fi s.r n with
  | none =>
    have e : stopF s n = (s, 0) := by unfold stopF; rw [hf]
    intro _; rw [e]; exact e
  | some k =>
    cases hp : s.p.headD false with
    | true =>
      have e : stopF s n = ({ s with p := s.p.tail }, 71) := by unfold stopF; rw [hf]; simp only [hp, if_true]
      intro h; rw [e] at h; cases h
    | false =>
      have e : stopF s n = ({ s with r := s.r.eraseIdx k, p := s.p.tail }, 0) := by unfold stopF; rw [hf]; simp only [hp, Bool.false_eq_true, if_false]
      intro _; rw [e]
      have hg := fi_erase hs.r hf
      unfold stopF
      simp only [hg]
theorem remove_again {s : St} (hs : s.ok) (n : Nm) : removeF (removeF s n) n = removeF s n := by
  cases ha : isAt (paths s.f) n with
  | false =>
    have e : removeF s n = s := by unfold removeF; rw [ha]; rfl
    rw [e]; exact e
  | true =>
    have e : removeF s n = { s with f := s.f.eraseIdx (pos (paths s.f) n) } := by unfold removeF; rw [ha]; rfl
    rw [e]
    have h2 := isAt_erase hs.f ha
    rw [← paths_erase] at h2
    unfold removeF
    simp only [h2, Bool.false_eq_true, if_false]
theorem drop_again {s : St} (hs : s.ok) (n : Nm) : dropF (dropF s n) n = dropF s n := by
  cases ha : isAt s.u n with
  | false =>
    have e : dropF s n = s := by unfold dropF; rw [ha]; rfl
    rw [e]; exact e
  | true =>
    have e : dropF s n = { s with u := s.u.eraseIdx (pos s.u n) } := by unfold dropF; rw [ha]; rfl
    rw [e]
    have h2 := isAt_erase hs.u ha
    unfold dropF
    simp only [h2, Bool.false_eq_true, if_false]
theorem file_again {s : St} (n : Nm) (x : Ent) (h : (fileF s n x).2 = 0) : fileF (fileF s n x).1 n x = ((fileF s n x).1, 0) := by
  cases hk : fileOk s n x with
  | false =>
    unfold fileF at h
    rw [hk] at h
    cases h
  | true =>
    have hb := hk
    unfold fileOk at hb
    simp only [Bool.and_eq_true, Bool.or_eq_true, decide_eq_true_eq] at hb
    obtain ⟨⟨h1, h2⟩, _⟩ := hb
    subst h2
    cases ha : isAt (paths s.f) x.path with
    | true =>
      have e : fileF s x.path x = ({ s with f := s.f.set (pos (paths s.f) x.path) x }, 0) := by unfold fileF; rw [hk, ha]; rfl
      rw [e]
      have hp := paths_set (isAt_some ha)
      unfold fileF fileOk
      simp only [hp, ha, h1, Bool.true_or, Bool.and_self, decide_true, if_true, List.set_set]
    | false =>
      have e : fileF s x.path x = ({ s with f := ins s.f (pos (paths s.f) x.path) x }, 0) := by unfold fileF; rw [hk, ha]; rfl
      rw [e]
      have hp := paths_ins s.f (pos (paths s.f) x.path) x
      have hle : pos (paths s.f) x.path ≤ s.f.length := by have := pos_le (paths s.f) x.path; simpa [paths] using this
      have hq : (ins s.f (pos (paths s.f) x.path) x).set (pos (paths s.f) x.path) x = ins s.f (pos (paths s.f) x.path) x := by
        refine List.ext_getElem? (fun i => ?_)
        rw [List.getElem?_set]
        split
        · rename_i e
          subst e
          rw [ins_at hle, if_pos (by rw [ins_len]; omega)]
        · rfl
      unfold fileF fileOk
      simp only [hp, isAt_ins, pos_ins, h1, Bool.true_or, Bool.and_self, decide_true, if_true, hq]
theorem user_again {s : St} (n : Nm) (h : (userF s n).2 = 0) : userF (userF s n).1 n = ((userF s n).1, 0) := by
  cases hk : userOk s n with
  | false =>
    unfold userF at h
    rw [hk] at h
    cases h
  | true =>
    have hb := hk
    unfold userOk at hb
    simp only [Bool.and_eq_true, Bool.or_eq_true, decide_eq_true_eq] at hb
    obtain ⟨h1, _⟩ := hb
    cases ha : isAt s.u n with
    | true =>
      have e : userF s n = (s, 0) := by unfold userF; rw [hk, ha]; rfl
      rw [e]; exact e
    | false =>
      have e : userF s n = ({ s with u := ins s.u (pos s.u n) n }, 0) := by unfold userF; rw [hk, ha]; rfl
      rw [e]
      unfold userF userOk
      simp only [isAt_ins, h1, Bool.true_or, Bool.and_self, if_true]
theorem start_again {s : St} (n : Nm) (u : Ut) (h : (startF s n u).2 = 0) : startF (startF s n u).1 n u = ((startF s n u).1, 0) := by
  cases hk : startOk s n u with
  | false =>
    unfold startF at h
    rw [hk] at h
    cases h
  | true =>
    cases hf : fi s.r u.n with
    | some k =>
      have e : startF s n u = (s, 0) := by unfold startF; rw [hk, hf]; rfl
      rw [e]; exact e
    | none =>
      cases hp : s.p.headD false with
      | true =>
        have e : startF s n u = ({ s with p := s.p.tail }, 71) := by unfold startF; rw [hk, hf]; simp only [hp, Option.isSome_none, Bool.false_eq_true, if_false, if_true]
        rw [e] at h; cases h
      | false =>
        have e : startF s n u = ({ s with r := s.r ++ [u], p := s.p.tail }, 0) := by unfold startF; rw [hk, hf]; simp only [hp, Option.isSome_none, Bool.false_eq_true, if_false, if_true]
        rw [e]
        have hb := hk
        unfold startOk standB at hb
        simp only [Bool.and_eq_true, decide_eq_true_eq, List.all_eq_true] at hb
        obtain ⟨⟨h1, h2⟩, _, h4⟩ := hb
        have hfs := fi_append_self hf
        have h5 : (u.r.all fun x => (fi (s.r ++ [u]) x).isSome) = true := by
          rw [List.all_eq_true]
          intro x hx
          obtain ⟨k, hk⟩ := Option.isSome_iff_exists.1 (h4 x hx)
          rw [fi_append_some hk]; rfl
        have hok : startOk { s with r := s.r ++ [u], p := s.p.tail } n u = true := by
          unfold startOk standB
          simp only [hfs, h5, h2, Bool.and_true, Bool.and_eq_true, decide_eq_true_eq]
          exact ⟨h1, by simp⟩
        unfold startF
        simp only [hok, hfs, if_true, Option.isSome_some]
/-- What was done is done. -/
theorem do_again {s : St} (hs : s.ok) (a : Ac) (h : (doF s a).2 = 0) : doF (doF s a).1 a = ((doF s a).1, 0) := by
  revert h
  by_cases h1 : a.k = 1
  · have e : ∀ s, doF s a = stopF s a.n := fun s => by unfold doF; rw [if_pos h1]
    simp only [e]; exact stop_again hs _
  by_cases h2 : a.k = 2
  · have e : ∀ s, doF s a = (removeF s a.n, 0) := fun s => by unfold doF; rw [if_neg h1, if_pos h2]
    simp only [e]; intro _; rw [remove_again hs]
  by_cases h3 : a.k = 3
  · have e : ∀ s, doF s a = (dropF s a.n, 0) := fun s => by unfold doF; rw [if_neg h1, if_neg h2, if_pos h3]
    simp only [e]; intro _; rw [drop_again hs]
  by_cases h4 : a.k = 4
  · have e : ∀ s, doF s a = fileF s a.n a.f := fun s => by unfold doF; rw [if_neg h1, if_neg h2, if_neg h3, if_pos h4]
    simp only [e]; exact file_again _ _
  by_cases h5 : a.k = 5
  · have e : ∀ s, doF s a = userF s a.n := fun s => by unfold doF; rw [if_neg h1, if_neg h2, if_neg h3, if_neg h4, if_pos h5]
    simp only [e]; exact user_again _
  by_cases h6 : a.k = 6
  · have e : ∀ s, doF s a = startF s a.n a.u := fun s => by unfold doF; rw [if_neg h1, if_neg h2, if_neg h3, if_neg h4, if_neg h5, if_pos h6]
    simp only [e]; exact start_again _ _
  · have e : ∀ s, doF s a = (s, 70) := fun s => by unfold doF; rw [if_neg h1, if_neg h2, if_neg h3, if_neg h4, if_neg h5, if_neg h6]
    simp only [e]; intro h; cases h
end Go.Proofs.Ytangnoicnogddaa.Tr
