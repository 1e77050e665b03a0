/- Plain facts on blocks of cells, on frames. Nothing here speaks of the Go text. -/
import Derived.Test.YtangnoicnogddaaRows
import Derived.WalkKit
import Derived.WalkSpells
import Derived.WalkLawsBesides
import Derived.Laws.CopyOwn
import Derived.Deep.RegionHeld3
import Derived.Deep.MidRow
import Derived.Deep.AppendLies
import Derived.Test.YtangnoicnogddaaPlain
namespace Go.Proofs.Ytangnoicnogddaa.Tr
open Go.RowKit

/-- Block b is known whole, and nothing of it is frozen. -/
def Blk (w : World) (b : Nat) (t : TypeId) (xs : List Value) : Prop := w.heap[b]? = some (.cells xs.toArray t (0, 0))

section
variable {w : World} {b : Nat} {t : TypeId} {xs : List Value}

theorem Blk.cell (h : Blk w b t xs) (j : Nat) : w.cell? ⟨b, j, none⟩ = xs[j]? := by
  rw [cell_of_row w b j _ t (0, 0) h]; simp
theorem Blk.frozen (h : Blk w b t xs) (j : Nat) : w.frozen? ⟨b, j, none⟩ = false := by
  have h' : w.heap[b]? = some (.cells xs.toArray t (0, 0)) := h
  simp [World.frozen?, h']
theorem Blk.lt (h : Blk w b t xs) : b < w.heap.size := by
  rcases Nat.lt_or_ge b w.heap.size with hlt | hge
  · exact hlt
  · have h' : w.heap[b]? = some (.cells xs.toArray t (0, 0)) := h
    rw [Array.getElem?_eq_none hge] at h'; cases h'
theorem Blk.drew (h : Blk w b t xs) : Blk w.drew b t xs := h
theorem Blk.of_eq {w' : World} (h : Blk w b t xs) (e : w'.heap[b]? = w.heap[b]?) : Blk w' b t xs := e.trans h
theorem Blk.alloc (h : Blk w b t xs) (o : Obj) : Blk (w.alloc o) b t xs := h.of_eq (Below.heap_alloc w o b h.lt)
theorem Blk.new (w : World) (t : TypeId) (xs : List Value) : Blk (w.alloc (.cells xs.toArray t)) w.heap.size t xs := heap_alloc_new w _
theorem Blk.setCell_ne (h : Blk w b t xs) {a : Addr} (hne : b ≠ a.block) (v : Value) : Blk (w.setCell a v) b t xs := h.of_eq (Below.heap_setCell w a v b hne)
theorem Blk.setCell (h : Blk w b t xs) (j : Nat) (v : Value) : Blk (w.setCell ⟨b, j, none⟩ v) b t (xs.set j v) := by
  have h' : w.heap[b]? = some (.cells xs.toArray t (0, 0)) := h
  simp [Blk, World.setCell, Array.getElem?_modify, h']
theorem setCells_ne {b b' : Nat} : ∀ (vs : List Value) (o : Nat) (w : World), b ≠ b' → (w.setCells b' o vs).heap[b]? = w.heap[b]?
  | [], _, _, _ => rfl
  | v :: r, o, w, h => by
    rw [World.setCells, setCells_ne r (o + 1) _ h, Below.heap_setCell w _ v b h]
theorem Blk.setCells_ne (h : Blk w b t xs) {b' : Nat} (hne : b ≠ b') (o : Nat) (vs : List Value) : Blk (w.setCells b' o vs) b t xs := h.of_eq (Tr.setCells_ne vs o w hne)
theorem splice_cons {α : Type} (L : List α) (o : Nat) (v : α) (r : List α) (h : o < L.length) : splice (L.set o v) (o + 1) r = splice L o (v :: r) := by
  unfold splice
  simp only [List.length_cons]
  rw [List.drop_set_of_lt (by omega), List.take_set, List.take_succ_eq_append_getElem h]
  have e : (List.take o L ++ [L[o]]).set o v = List.take o L ++ [v] := by
    rw [List.set_append, if_neg (by rw [List.length_take]; omega), List.length_take, Nat.min_eq_left (Nat.le_of_lt h), Nat.sub_self]
    rfl
  rw [e, show o + 1 + r.length = o + (r.length + 1) by omega]
  simp
theorem Blk.setCells : ∀ (vs : List Value) (o : Nat) {w : World} {xs : List Value}, Blk w b t xs → o + vs.length ≤ xs.length → Blk (w.setCells b o vs) b t (splice xs o vs)
  | [], o, w, xs, h, _ => by
    have e : splice xs o [] = xs := by simp [splice]
    rw [e]; exact h
  | v :: r, o, w, xs, h, hl => by
    simp only [List.length_cons] at hl
    rw [World.setCells, ← splice_cons xs o v r (by omega)]
    exact Blk.setCells r (o + 1) (h.setCell o v) (by simp; omega)
theorem Blk.range (h : Blk w b t xs) (o : Nat) (cs : List Value) (e : (xs.drop o).take cs.length = cs) : w.rangeAt b o cs := fun j v hv => by
  rw [h.cell]
  rw [← e, List.getElem?_take] at hv
  split at hv
  · simpa [List.getElem?_drop] using hv
  · cases hv
theorem Blk.there (h : Blk w b t xs) (o n : Nat) (hl : o + n ≤ xs.length) : w.there b o n := fun j hj =>
  ⟨by rw [h.cell, List.getElem?_eq_getElem (by omega)]; rfl, h.frozen _⟩
end

/-- All is as it was, but for the blocks of F and for new ones. -/
structure Fr (F : Nat → Prop) (w w' : World) : Prop where
  os : w'.os = w.os
  tape : w'.tape = w.tape
  output : w'.output = w.output
  size : w.heap.size ≤ w'.heap.size
  block : ∀ k, k < w.heap.size → ¬ F k → w'.heap[k]? = w.heap[k]?

theorem Fr.refl (F : Nat → Prop) (w : World) : Fr F w w := ⟨rfl, rfl, rfl, Nat.le_refl _, fun _ _ _ => rfl⟩
theorem Fr.trans {F F' : Nat → Prop} {a b c : World} (h : Fr F a b) (k : Fr F' b c) (hF : ∀ i, F' i → F i ∨ a.heap.size ≤ i) : Fr F a c :=
  ⟨k.os.trans h.os, k.tape.trans h.tape, k.output.trans h.output, Nat.le_trans h.size k.size, fun i hi hn =>
    (k.block i (Nat.lt_of_lt_of_le hi h.size) (fun hf => (hF i hf).elim hn (fun hge => absurd hge (Nat.not_le_of_lt hi)))).trans (h.block i hi hn)⟩
theorem Fr.mono {F F' : Nat → Prop} {a b : World} (h : Fr F a b) (hF : ∀ i, F i → F' i) : Fr F' a b :=
  ⟨h.os, h.tape, h.output, h.size, fun i hi hn => h.block i hi (fun hf => hn (hF i hf))⟩
theorem Fr.drew {F : Nat → Prop} {a w : World} (h : Fr F a w) : Fr F a w.drew := ⟨h.os, h.tape, h.output, h.size, h.block⟩
theorem Fr.drewN {F : Nat → Prop} {a w : World} (h : Fr F a w) (n : Nat) : Fr F a (w.drewN n) := ⟨h.os, h.tape, h.output, h.size, h.block⟩
theorem Fr.alloc {F : Nat → Prop} {a w : World} (h : Fr F a w) (o : Obj) : Fr F a (w.alloc o) :=
  ⟨h.os, h.tape, h.output, by simpa using Nat.le_succ_of_le h.size, fun i hi hn => (Below.heap_alloc w o i (Nat.lt_of_lt_of_le hi h.size)).trans (h.block i hi hn)⟩
theorem Fr.setCell {F : Nat → Prop} {a w : World} (h : Fr F a w) {p : Addr} (hp : F p.block ∨ a.heap.size ≤ p.block) (v : Value) : Fr F a (w.setCell p v) :=
  ⟨h.os, h.tape, h.output, by simpa [World.setCell] using h.size, fun i hi hn => (Below.heap_setCell w p v i (fun e => by subst e; exact hp.elim hn (fun hge => absurd hge (Nat.not_le_of_lt hi)))).trans (h.block i hi hn)⟩
theorem setCells_misc (b : Nat) : ∀ (vs : List Value) (o : Nat) (w : World), (w.setCells b o vs).os = w.os ∧ (w.setCells b o vs).tape = w.tape ∧ (w.setCells b o vs).output = w.output ∧ (w.setCells b o vs).heap.size = w.heap.size
  | [], _, _ => ⟨rfl, rfl, rfl, rfl⟩
  | v :: r, o, w => by
    obtain ⟨h1, h2, h3, h4⟩ := setCells_misc b r (o + 1) (w.setCell ⟨b, o, none⟩ v)
    exact ⟨h1, h2, h3, h4.trans (by simp [World.setCell])⟩
theorem Fr.setCells {F : Nat → Prop} {a w : World} (h : Fr F a w) {b : Nat} (hp : F b ∨ a.heap.size ≤ b) (o : Nat) (vs : List Value) : Fr F a (w.setCells b o vs) := by
  obtain ⟨h1, h2, h3, h4⟩ := setCells_misc b vs o w
  exact ⟨h1.trans h.os, h2.trans h.tape, h3.trans h.output, by rw [h4]; exact h.size, fun i hi hn => (Tr.setCells_ne vs o w (fun e => by subst e; exact hp.elim hn (fun hge => absurd hge (Nat.not_le_of_lt hi)))).trans (h.block i hi hn)⟩
theorem Fr.grown {F : Nat → Prop} {a w w' : World} {row : Option Nat} (h : Fr F a w) (hg : w.grownBy w' row) (hr : ∀ k, row = some k → F k ∨ a.heap.size ≤ k) : Fr F a w' :=
  ⟨hg.os.trans h.os, hg.tape.trans h.tape, hg.output.trans h.output, Nat.le_trans h.size hg.size, fun i hi hn =>
    (hg.block i (Nat.lt_of_lt_of_le hi h.size) (fun e => (hr i e.symm).elim hn (fun hge => absurd hge (Nat.not_le_of_lt hi)))).trans (h.block i hi hn)⟩
theorem Fr.below {F : Nat → Prop} {B : Nat} {w w' : World} (h : Fr F w w') (hB : B ≤ w.heap.size) (hF : ∀ k, F k → B ≤ k) : Below B w w' :=
  ⟨h.os, h.tape, h.output, h.size, fun k hk => h.block k (by omega) (fun hf => absurd (hF k hf) (by omega))⟩
theorem Fr.blk {F : Nat → Prop} {w w' : World} (h : Fr F w w') {b : Nat} {t : TypeId} {xs : List Value} (hb : Blk w b t xs) (hn : ¬ F b) : Blk w' b t xs := hb.of_eq (h.block b hb.lt hn)

theorem owns_of_eq {w w' : World} {B : Nat} {e : TypeId} {size : Nat} {v : Value} {n : Nat} {xs : List Value} (h : w.ownsRow B e size v n xs) (he : ∀ k, v.ownBlock = some k → w'.heap[k]? = w.heap[k]?) : w'.ownsRow B e size v n xs := by
  refine ⟨h.1, ?_⟩
  rcases h.2 with h0 | ⟨g, cap, cur, hv, hb, hg, h1⟩
  · exact .inl h0
  · exact .inr ⟨g, cap, cur, hv, hb, by rw [he g (by rw [hv]; rfl)]; exact hg, h1⟩

/-! ### Bytes -/
def bv (x : UInt8) : Value := .int .u8 (x.toNat : Int)
def bs (l : List UInt8) : List Value := l.map bv
theorem bs_length (l : List UInt8) : (bs l).length = l.length := by simp [bs]
theorem bs_one (l : List UInt8) : ∀ v ∈ bs l, v.oneCell' = true := by
  intro v hv
  simp only [bs, List.mem_map] at hv
  obtain ⟨x, _, rfl⟩ := hv
  rfl
theorem bs_splice (L : List UInt8) (o : Nat) (s : List UInt8) : splice (bs L) o (bs s) = bs (splice L o s) := by
  simp [splice, bs, List.map_take, List.map_drop]
theorem bs_splice_app (L : List UInt8) (Z : List Value) (o : Nat) (s : List UInt8) (h : o + s.length ≤ L.length) : splice (bs L ++ Z) o (bs s) = bs (splice L o s) ++ Z := by
  rw [← bs_splice]
  unfold splice
  have hl : o + (bs s).length ≤ (bs L).length := by rw [bs_length, bs_length]; exact h
  rw [List.take_append_of_le_length (by omega), List.drop_append_of_le_length (by omega)]
  simp
theorem bs_part_app (L : List UInt8) (Z : List Value) (o n : Nat) (h : o + n ≤ L.length) : ((bs L ++ Z).drop o).take n = bs ((L.drop o).take n) := by
  have hl : o + n ≤ (bs L).length := by rw [bs_length]; exact h
  rw [List.drop_append_of_le_length (by omega), List.take_append_of_le_length (by rw [List.length_drop]; omega)]
  simp [bs, List.map_take, List.map_drop]
theorem bs_part (L : List UInt8) (o n : Nat) : ((bs L).drop o).take n = bs ((L.drop o).take n) := by
  simp [bs, List.map_take, List.map_drop]

theorem hid {p : Prop} (h : p) : Hid p := h

/-- The bytes of a slice, where it has any. -/
def Src (w : World) (ad : Option Addr) (b : List UInt8) : Prop := b ≠ [] → ∃ bb bo, ad = some ⟨bb, bo, none⟩ ∧ w.rangeAt bb bo (bs b)

/-! ### The sum -/
def step1 (s : Nat) (c : UInt8) : Nat := ((s ^^^ c.toNat) * 1099511628211) % 18446744073709551616
def upd (s : Nat) (b : List UInt8) : Nat := b.foldl step1 s
theorem step1_lt (s : Nat) (c : UInt8) : step1 s c < 18446744073709551616 := by
  unfold step1; exact Nat.mod_lt _ (by decide)
theorem upd_lt (s : Nat) (b : List UInt8) (hs : s < 18446744073709551616) : upd s b < 18446744073709551616 := by
  induction b generalizing s with
  | nil => exact hs
  | cons c r ih => exact ih _ (step1_lt s c)
theorem foldl_take_succ {α β : Type} (f : β → α → β) (s : β) (b : List α) (k : Nat) (h : k < b.length) : (b.take (k + 1)).foldl f s = f ((b.take k).foldl f s) b[k] := by
  rw [List.take_succ_eq_append_getElem h, List.foldl_append]; rfl
theorem upd_append (s : Nat) (a b : List UInt8) : upd s (a ++ b) = upd (upd s a) b := List.foldl_append
theorem upd_take (s : Nat) (b : List UInt8) (k : Nat) (h : k < b.length) : upd s (b.take (k + 1)) = step1 (upd s (b.take k)) b[k] := foldl_take_succ step1 s b k h

end Go.Proofs.Ytangnoicnogddaa.Tr
