/- Units in memory. -/
import Derived.Test.YtangnoicnogddaaEnv
namespace Go.Proofs.Ytangnoicnogddaa.Tr
open Go.RowKit

/-- A name, or another text. -/
abbrev Nm := List UInt8
/-- A unit: its name, its start, what it requires, after what it stands. -/
structure Ut where
  n : Nm
  s : Nm
  r : List Nm
  a : List Nm
deriving DecidableEq, Inhabited
/-- A unit's four cells. -/
structure Uv where
  n : Nm
  s : Nm
  ra : Option Addr
  rl : Nat
  rc : Nat
  aa : Option Addr
  al : Nat
  ac : Nat
deriving Inhabited
def Uv.cs (x : Uv) : List Value := [.string ⟨x.n.toArray⟩, .string ⟨x.s.toArray⟩, .slice x.ra x.rl x.rc, .slice x.aa x.al x.ac]
def Uv.v (x : Uv) : Value := .agg x.cs.toArray
theorem uv_one (x : Uv) : ∀ v ∈ x.cs, v.oneCell' = true := by
  intro v hv
  simp only [Uv.cs, List.mem_cons, List.not_mem_nil, or_false] at hv
  rcases hv with rfl | rfl | rfl | rfl <;> rfl
theorem uv_len (x : Uv) : x.cs.length = 4 := rfl
def lim : Nat := 140737488351232
/-- How long a list of texts may be. -/
def lim16 : Nat := 8796093021952
theorem lim16_le {n : Nat} (h : n ≤ lim16) : n ≤ lim := by unfold lim16 at h; unfold lim; omega
/-- Texts that lie in a row. -/
def Strs (w : World) (ad : Option Addr) (ns : List Nm) : Prop := ns ≠ [] → ∃ b o, ad = some ⟨b, o, none⟩ ∧ ∀ i (h : i < ns.length), w.cell? ⟨b, o + i, none⟩ = some (.string ⟨ns[i].toArray⟩)
theorem Strs.env {w W : World} {ad : Option Addr} {ns : List Nm} (h : Strs w ad ns) (e : Env w W) : Strs W ad ns := fun hne => by
  obtain ⟨b, o, h1, h2⟩ := h hne
  exact ⟨b, o, h1, fun i hi => e.cell (h2 i hi)⟩
theorem Strs.at {w : World} {ad : Option Addr} {ns : List Nm} (h : Strs w ad ns) (i : Nat) (hi : i < ns.length) : ∃ b o, ad = some ⟨b, o, none⟩ ∧ w.cell? ⟨b, o + i, none⟩ = some (.string ⟨ns[i].toArray⟩) := by
  obtain ⟨b, o, h1, h2⟩ := h (by intro e; rw [e] at hi; simp at hi)
  exact ⟨b, o, h1, h2 i hi⟩
/-- Four cells, wherever they lie. -/
def four (W : World) (b o : Nat) (x : Uv) : Prop := ∀ j v, x.cs[j]? = some v → W.cell? ⟨b, o + j, none⟩ = some v
theorem four.env {w W : World} {b o : Nat} {x : Uv} (h : four w b o x) (e : Env w W) : four W b o x := fun j v hv => e.cell (h j v hv)
theorem four.all {W : World} {b o : Nat} {x : Uv} (h : four W b o x) : W.cell? ⟨b, o, none⟩ = some (.string ⟨x.n.toArray⟩) ∧ W.cell? ⟨b, o + 1, none⟩ = some (.string ⟨x.s.toArray⟩) ∧ W.cell? ⟨b, o + 2, none⟩ = some (.slice x.ra x.rl x.rc) ∧ W.cell? ⟨b, o + 3, none⟩ = some (.slice x.aa x.al x.ac) :=
  ⟨h 0 _ rfl, h 1 _ rfl, h 2 _ rfl, h 3 _ rfl⟩
/-- A unit's texts and lists are no longer than memory. -/
structure Ut.ok (u : Ut) : Prop where
  n : u.n.length ≤ lim
  s : u.s.length ≤ lim
  r : u.r.length ≤ lim16
  a : u.a.length ≤ lim16
  rx : ∀ x ∈ u.r, x.length ≤ lim
  ax : ∀ x ∈ u.a, x.length ≤ lim
/-- The cells x are the unit u. -/
structure UIn (w : World) (u : Ut) (x : Uv) : Prop where
  n : x.n = u.n
  s : x.s = u.s
  rl : x.rl = u.r.length
  al : x.al = u.a.length
  r : Strs w x.ra u.r
  a : Strs w x.aa u.a
  ok : u.ok
theorem UIn.env {w W : World} {u : Ut} {x : Uv} (h : UIn w u x) (e : Env w W) : UIn W u x := ⟨h.n, h.s, h.rl, h.al, h.r.env e, h.a.env e, h.ok⟩
/-- At ad lie these units: their cells now, their lists as they were in w0. -/
def Us (w0 w : World) (U : List Ut) (ad : Option Addr) : Prop := U ≠ [] → ∃ b o, ad = some ⟨b, o, none⟩ ∧ ∀ i (h : i < U.length), ∃ x, four w b (o + i * 4) x ∧ UIn w0 U[i] x
theorem Us.env {w0 w W : World} {U : List Ut} {ad : Option Addr} (h : Us w0 w U ad) (e : Env w W) : Us w0 W U ad := fun hne => by
  obtain ⟨b, o, h1, h2⟩ := h hne
  exact ⟨b, o, h1, fun i hi => by obtain ⟨x, x1, x2⟩ := h2 i hi; exact ⟨x, x1.env e, x2⟩⟩
theorem Us.up {w0 w1 w : World} {U : List Ut} {ad : Option Addr} (h : Us w0 w U ad) (e : Env w0 w1) : Us w1 w U ad := fun hne => by
  obtain ⟨b, o, h1, h2⟩ := h hne
  exact ⟨b, o, h1, fun i hi => by obtain ⟨x, x1, x2⟩ := h2 i hi; exact ⟨x, x1, x2.env e⟩⟩
theorem Us.some {w0 w : World} {U : List Ut} {ad : Option Addr} (h : Us w0 w U ad) {i : Nat} (hi : i < U.length) : ∃ b o, ad = .some ⟨b, o, none⟩ := by
  obtain ⟨b, o, h1, _⟩ := h (by intro e; rw [e] at hi; simp at hi)
  exact ⟨b, o, h1⟩
theorem Us.get {w0 w : World} {U : List Ut} {b o : Nat} (h : Us w0 w U (.some ⟨b, o, none⟩)) (i : Nat) (hi : i < U.length) : ∃ x, four w b (o + i * 4) x ∧ UIn w0 U[i] x := by
  obtain ⟨b', o', h1, h2⟩ := h (by intro e; rw [e] at hi; simp at hi)
  simp only [Option.some.injEq, Addr.mk.injEq, and_true] at h1
  obtain ⟨rfl, rfl⟩ := h1
  exact h2 i hi
/-- A unit in a block of its own. -/
abbrev uBox (w : World) (x : Uv) : World := w.alloc (.cells x.cs.toArray 41)
theorem uBlk (w : World) (x : Uv) : Blk (uBox w x) w.heap.size 41 x.cs := Blk.new w 41 x.cs
theorem uFr (w : World) (x : Uv) : Fr (fun _ => False) w (uBox w x) := (Fr.refl _ w).alloc _
theorem sizeU : (Try.prog.info? 41).map (·.size) = some 4 := by kernel_rfl
theorem own_lt {w : World} {base : Nat} {e : TypeId} {size : Nat} {v : Value} {n : Nat} {xs : List Value} (h : w.ownsRow base e size v n xs) : ∀ k, v.ownBlock = some k → base ≤ k ∧ k < w.heap.size := by
  intro k hk
  rcases h.2 with ⟨rfl, _⟩ | ⟨g, cap, cur, rfl, hb, hg, _⟩
  · cases hk
  · cases hk
    refine ⟨hb, ?_⟩
    rcases Nat.lt_or_ge g w.heap.size with hl | hl
    · exact hl
    · rw [Array.getElem?_eq_none hl] at hg; cases hg
theorem own_alloc {w : World} {base : Nat} {e : TypeId} {size : Nat} {v : Value} {n : Nat} {xs : List Value} (h : w.ownsRow base e size v n xs) (o : Obj) : (w.alloc o).ownsRow base e size v n xs := h.alloc o
theorem own_fr {w w' : World} {base : Nat} {e : TypeId} {size : Nat} {v : Value} {n : Nat} {xs : List Value} {F : Nat → Prop} (h : w.ownsRow base e size v n xs) (f : Fr F w w') (hF : ∀ k, v.ownBlock = some k → ¬ F k) : w'.ownsRow base e size v n xs :=
  owns_of_eq h (fun k hk => f.block k (own_lt h k hk).2 (hF k hk))
theorem fr_below {B : Nat} {w w' : World} (h : Below B w w') (hB : w.heap.size ≤ B) : Fr (fun _ => False) w w' := ⟨h.os, h.tape, h.output, h.size, fun k hk _ => h.block k (by omega)⟩
end Go.Proofs.Ytangnoicnogddaa.Tr
