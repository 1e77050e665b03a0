import Derived.WalkKit
import Derived.Test.YtniailfcmlongaaGreatDoorRows
import Derived.WalkSpells
import Derived.WalkLawsBesides
import Derived.Laws.CopyOwn
import Derived.Deep.RegionHeld3
import Derived.Deep.MidRow
import Derived.Deep.AppendLies
/- Nothing here speaks of the Go text. -/
namespace Go.Proofs.YtniailfcmlongaaGreatDoor.Tr
end Go.Proofs.YtniailfcmlongaaGreatDoor.Tr
/- Plain facts on blocks of cells, on frames. Nothing here speaks of the Go text. -/
namespace Go.Proofs.YtniailfcmlongaaGreatDoor.Tr
open Go.RowKit

/-- Block b is known whole, and nothing of it is frozen. -/
def Blk (w : World) (b : Nat) (t : TypeId) (xs : List Value) : Prop := w.heap[b]? = some (.cells xs.toArray t (0, 0))

section
variable {w : World} {b : Nat} {t : TypeId} {xs : List Value}

theorem Blk.cell (h : Blk w b t xs) (j : Nat) : w.cell? ⟨b, j, none⟩ = xs[j]? := by
  rw [cell_of_row w b j _ t (0, 0) h]; simp
theorem Blk.frozen (h : Blk w b t xs) (j : Nat) : w.frozen? ⟨b, j, none⟩ = false := by
  have h' : w.heap[b]? = some (.cells xs.toArray t (0, 0)) := h
  simp [World.frozen?, h']
theorem Blk.lt (h : Blk w b t xs) : b < w.heap.size := by
  rcases Nat.lt_or_ge b w.heap.size with hlt | hge
  · exact hlt
  · have h' : w.heap[b]? = some (.cells xs.toArray t (0, 0)) := h
    rw [Array.getElem?_eq_none hge] at h'; cases h'
theorem Blk.drew (h : Blk w b t xs) : Blk w.drew b t xs := h
theorem Blk.of_eq {w' : World} (h : Blk w b t xs) (e : w'.heap[b]? = w.heap[b]?) : Blk w' b t xs := e.trans h
theorem Blk.alloc (h : Blk w b t xs) (o : Obj) : Blk (w.alloc o) b t xs := h.of_eq (Below.heap_alloc w o b h.lt)
theorem Blk.new (w : World) (t : TypeId) (xs : List Value) : Blk (w.alloc (.cells xs.toArray t)) w.heap.size t xs := heap_alloc_new w _
theorem Blk.setCell_ne (h : Blk w b t xs) {a : Addr} (hne : b ≠ a.block) (v : Value) : Blk (w.setCell a v) b t xs := h.of_eq (Below.heap_setCell w a v b hne)
theorem Blk.setCell (h : Blk w b t xs) (j : Nat) (v : Value) : Blk (w.setCell ⟨b, j, none⟩ v) b t (xs.set j v) := by
  have h' : w.heap[b]? = some (.cells xs.toArray t (0, 0)) := h
  simp [Blk, World.setCell, Array.getElem?_modify, h']
theorem setCells_ne {b b' : Nat} : ∀ (vs : List Value) (o : Nat) (w : World), b ≠ b' → (w.setCells b' o vs).heap[b]? = w.heap[b]?
  | [], _, _, _ => rfl
  | v :: r, o, w, h => by
    rw [World.setCells, setCells_ne r (o + 1) _ h, Below.heap_setCell w _ v b h]
theorem Blk.setCells_ne (h : Blk w b t xs) {b' : Nat} (hne : b ≠ b') (o : Nat) (vs : List Value) : Blk (w.setCells b' o vs) b t xs := h.of_eq (Tr.setCells_ne vs o w hne)
theorem splice_cons {α : Type} (L : List α) (o : Nat) (v : α) (r : List α) (h : o < L.length) : splice (L.set o v) (o + 1) r = splice L o (v :: r) := by
  unfold splice
  simp only [List.length_cons]
  rw [List.drop_set_of_lt (by omega), List.take_set, List.take_succ_eq_append_getElem h]
  have e : (List.take o L ++ [L[o]]).set o v = List.take o L ++ [v] := by
    rw [List.set_append, if_neg (by rw [List.length_take]; omega), List.length_take, Nat.min_eq_left (Nat.le_of_lt h), Nat.sub_self]
    rfl
  rw [e, show o + 1 + r.length = o + (r.length + 1) by omega]
  simp
theorem Blk.setCells : ∀ (vs : List Value) (o : Nat) {w : World} {xs : List Value}, Blk w b t xs → o + vs.length ≤ xs.length → Blk (w.setCells b o vs) b t (splice xs o vs)
  | [], o, w, xs, h, _ => by
    have e : splice xs o [] = xs := by simp [splice]
    rw [e]; exact h
  | v :: r, o, w, xs, h, hl => by
    simp only [List.length_cons] at hl
    rw [World.setCells, ← splice_cons xs o v r (by omega)]
    exact Blk.setCells r (o + 1) (h.setCell o v) (by simp; omega)
theorem Blk.range (h : Blk w b t xs) (o : Nat) (cs : List Value) (e : (xs.drop o).take cs.length = cs) : w.rangeAt b o cs := fun j v hv => by
  rw [h.cell]
  rw [← e, List.getElem?_take] at hv
  split at hv
  · simpa [List.getElem?_drop] using hv
  · cases hv
theorem Blk.there (h : Blk w b t xs) (o n : Nat) (hl : o + n ≤ xs.length) : w.there b o n := fun j hj =>
  ⟨by rw [h.cell, List.getElem?_eq_getElem (by omega)]; rfl, h.frozen _⟩
end

/-- All is as it was, but for the blocks of F and for new ones. -/
structure Fr (F : Nat → Prop) (w w' : World) : Prop where
  os : w'.os = w.os
  tape : w'.tape = w.tape
  output : w'.output = w.output
  size : w.heap.size ≤ w'.heap.size
  block : ∀ k, k < w.heap.size → ¬ F k → w'.heap[k]? = w.heap[k]?

theorem Fr.refl (F : Nat → Prop) (w : World) : Fr F w w := ⟨rfl, rfl, rfl, Nat.le_refl _, fun _ _ _ => rfl⟩
theorem Fr.trans {F F' : Nat → Prop} {a b c : World} (h : Fr F a b) (k : Fr F' b c) (hF : ∀ i, F' i → F i ∨ a.heap.size ≤ i) : Fr F a c :=
  ⟨k.os.trans h.os, k.tape.trans h.tape, k.output.trans h.output, Nat.le_trans h.size k.size, fun i hi hn =>
    (k.block i (Nat.lt_of_lt_of_le hi h.size) (fun hf => (hF i hf).elim hn (fun hge => absurd hge (Nat.not_le_of_lt hi)))).trans (h.block i hi hn)⟩
theorem Fr.mono {F F' : Nat → Prop} {a b : World} (h : Fr F a b) (hF : ∀ i, F i → F' i) : Fr F' a b :=
  ⟨h.os, h.tape, h.output, h.size, fun i hi hn => h.block i hi (fun hf => hn (hF i hf))⟩
theorem Fr.drew {F : Nat → Prop} {a w : World} (h : Fr F a w) : Fr F a w.drew := ⟨h.os, h.tape, h.output, h.size, h.block⟩
theorem Fr.drewN {F : Nat → Prop} {a w : World} (h : Fr F a w) (n : Nat) : Fr F a (w.drewN n) := ⟨h.os, h.tape, h.output, h.size, h.block⟩
theorem Fr.alloc {F : Nat → Prop} {a w : World} (h : Fr F a w) (o : Obj) : Fr F a (w.alloc o) :=
  ⟨h.os, h.tape, h.output, by simpa using Nat.le_succ_of_le h.size, fun i hi hn => (Below.heap_alloc w o i (Nat.lt_of_lt_of_le hi h.size)).trans (h.block i hi hn)⟩
theorem Fr.setCell {F : Nat → Prop} {a w : World} (h : Fr F a w) {p : Addr} (hp : F p.block ∨ a.heap.size ≤ p.block) (v : Value) : Fr F a (w.setCell p v) :=
  ⟨h.os, h.tape, h.output, by simpa [World.setCell] using h.size, fun i hi hn => (Below.heap_setCell w p v i (fun e => by subst e; exact hp.elim hn (fun hge => absurd hge (Nat.not_le_of_lt hi)))).trans (h.block i hi hn)⟩
theorem setCells_misc (b : Nat) : ∀ (vs : List Value) (o : Nat) (w : World), (w.setCells b o vs).os = w.os ∧ (w.setCells b o vs).tape = w.tape ∧ (w.setCells b o vs).output = w.output ∧ (w.setCells b o vs).heap.size = w.heap.size
  | [], _, _ => ⟨rfl, rfl, rfl, rfl⟩
  | v :: r, o, w => by
    obtain ⟨h1, h2, h3, h4⟩ := setCells_misc b r (o + 1) (w.setCell ⟨b, o, none⟩ v)
    exact ⟨h1, h2, h3, h4.trans (by simp [World.setCell])⟩
theorem Fr.setCells {F : Nat → Prop} {a w : World} (h : Fr F a w) {b : Nat} (hp : F b ∨ a.heap.size ≤ b) (o : Nat) (vs : List Value) : Fr F a (w.setCells b o vs) := by
  obtain ⟨h1, h2, h3, h4⟩ := setCells_misc b vs o w
  exact ⟨h1.trans h.os, h2.trans h.tape, h3.trans h.output, by rw [h4]; exact h.size, fun i hi hn => (Tr.setCells_ne vs o w (fun e => by subst e; exact hp.elim hn (fun hge => absurd hge (Nat.not_le_of_lt hi)))).trans (h.block i hi hn)⟩
theorem Fr.grown {F : Nat → Prop} {a w w' : World} {row : Option Nat} (h : Fr F a w) (hg : w.grownBy w' row) (hr : ∀ k, row = some k → F k ∨ a.heap.size ≤ k) : Fr F a w' :=
  ⟨hg.os.trans h.os, hg.tape.trans h.tape, hg.output.trans h.output, Nat.le_trans h.size hg.size, fun i hi hn =>
    (hg.block i (Nat.lt_of_lt_of_le hi h.size) (fun e => (hr i e.symm).elim hn (fun hge => absurd hge (Nat.not_le_of_lt hi)))).trans (h.block i hi hn)⟩
theorem Fr.below {F : Nat → Prop} {B : Nat} {w w' : World} (h : Fr F w w') (hB : B ≤ w.heap.size) (hF : ∀ k, F k → B ≤ k) : Below B w w' :=
  ⟨h.os, h.tape, h.output, h.size, fun k hk => h.block k (by omega) (fun hf => absurd (hF k hf) (by omega))⟩
theorem Fr.blk {F : Nat → Prop} {w w' : World} (h : Fr F w w') {b : Nat} {t : TypeId} {xs : List Value} (hb : Blk w b t xs) (hn : ¬ F b) : Blk w' b t xs := hb.of_eq (h.block b hb.lt hn)

theorem owns_of_eq {w w' : World} {B : Nat} {e : TypeId} {size : Nat} {v : Value} {n : Nat} {xs : List Value} (h : w.ownsRow B e size v n xs) (he : ∀ k, v.ownBlock = some k → w'.heap[k]? = w.heap[k]?) : w'.ownsRow B e size v n xs := by
  refine ⟨h.1, ?_⟩
  rcases h.2 with h0 | ⟨g, cap, cur, hv, hb, hg, h1⟩
  · exact .inl h0
  · exact .inr ⟨g, cap, cur, hv, hb, by rw [he g (by rw [hv]; rfl)]; exact hg, h1⟩

/-! ### Bytes -/
def bv (x : UInt8) : Value := .int .u8 (x.toNat : Int)
def bs (l : List UInt8) : List Value := l.map bv
theorem bs_length (l : List UInt8) : (bs l).length = l.length := by simp [bs]
theorem bs_one (l : List UInt8) : ∀ v ∈ bs l, v.oneCell' = true := by
  intro v hv
  simp only [bs, List.mem_map] at hv
  obtain ⟨x, _, rfl⟩ := hv
  rfl
theorem bs_splice (L : List UInt8) (o : Nat) (s : List UInt8) : splice (bs L) o (bs s) = bs (splice L o s) := by
  simp [splice, bs, List.map_take, List.map_drop]
theorem bs_splice_app (L : List UInt8) (Z : List Value) (o : Nat) (s : List UInt8) (h : o + s.length ≤ L.length) : splice (bs L ++ Z) o (bs s) = bs (splice L o s) ++ Z := by
  rw [← bs_splice]
  unfold splice
  have hl : o + (bs s).length ≤ (bs L).length := by rw [bs_length, bs_length]; exact h
  rw [List.take_append_of_le_length (by omega), List.drop_append_of_le_length (by omega)]
  simp
theorem bs_part_app (L : List UInt8) (Z : List Value) (o n : Nat) (h : o + n ≤ L.length) : ((bs L ++ Z).drop o).take n = bs ((L.drop o).take n) := by
  have hl : o + n ≤ (bs L).length := by rw [bs_length]; exact h
  rw [List.drop_append_of_le_length (by omega), List.take_append_of_le_length (by rw [List.length_drop]; omega)]
  simp [bs, List.map_take, List.map_drop]
theorem bs_part (L : List UInt8) (o n : Nat) : ((bs L).drop o).take n = bs ((L.drop o).take n) := by
  simp [bs, List.map_take, List.map_drop]

theorem hid {p : Prop} (h : p) : Hid p := h

/-- The bytes of a slice, where it has any. -/
def Src (w : World) (ad : Option Addr) (b : List UInt8) : Prop := b ≠ [] → ∃ bb bo, ad = some ⟨bb, bo, none⟩ ∧ w.rangeAt bb bo (bs b)

end Go.Proofs.YtniailfcmlongaaGreatDoor.Tr
/- Floats in their order, in plain words. Nothing here speaks of the Go text. -/
namespace Go.Proofs.YtniailfcmlongaaGreatDoor.Tr
open Ieee

theorem signed_up (s : Bool) (m a d : Nat) : signed s m (a + d) = signed s m a * 2 ^ d := by
  have h : m <<< (a + d) = (m <<< a) * 2 ^ d := by
    simp only [Nat.shiftLeft_eq, Nat.pow_add, Nat.mul_assoc]
  unfold signed
  rw [h]
  cases s
  · simp
  · simp [Int.neg_mul]
theorem cmp_int_mul (x y : Int) (d : Nat) : compare (x * 2 ^ d) (y * 2 ^ d) = compare x y := by
  have hp : (0 : Int) < 2 ^ d := Int.pow_pos (by decide)
  rcases Int.lt_trichotomy x y with h | h | h
  · have h2 : x * 2 ^ d < y * 2 ^ d := Int.mul_lt_mul_of_pos_right h hp
    rw [show compare x y = .lt from by simp [compare, compareOfLessAndEq, h], show compare (x * 2 ^ d) (y * 2 ^ d) = .lt from by simp [compare, compareOfLessAndEq, h2]]
  · subst h
    simp [compare, compareOfLessAndEq]
  · have h2 : y * 2 ^ d < x * 2 ^ d := Int.mul_lt_mul_of_pos_right h hp
    have e1 : ¬ x < y := by omega
    have e2 : ¬ x = y := by omega
    have e3 : ¬ x * 2 ^ d < y * 2 ^ d := by omega
    have e4 : ¬ x * 2 ^ d = y * 2 ^ d := by omega
    rw [show compare x y = .gt from by simp [compare, compareOfLessAndEq, e1, e2], show compare (x * 2 ^ d) (y * 2 ^ d) = .gt from by simp [compare, compareOfLessAndEq, e3, e4]]
/-- Two numbers stand to each other as at any base below both. -/
theorem order_base (s t : Bool) (m n : Nat) (i j b : Int) (hi : b ≤ i) (hj : b ≤ j) : Datum.order (.number s m i) (.number t n j) = some (compare (signed s m (i - b).toNat) (signed t n (j - b).toNat)) := by
  obtain ⟨d, hd⟩ : ∃ d : Nat, min i j - b = (d : Int) := ⟨(min i j - b).toNat, by omega⟩
  have e1 : (i - b).toNat = (i - min i j).toNat + d := by omega
  have e2 : (j - b).toNat = (j - min i j).toNat + d := by omega
  simp only [Datum.order]
  rw [e1, e2, signed_up, signed_up, cmp_int_mul]

theorem cmp_lt (x y : Int) : compare x y = .lt ↔ x < y := by
  simp only [compare, compareOfLessAndEq]; split <;> (try split) <;> simp <;> omega
theorem cmp_gt (x y : Int) : compare x y = .gt ↔ y < x := by
  simp only [compare, compareOfLessAndEq]; split <;> (try split) <;> simp <;> omega
theorem cmp_eq (x y : Int) : compare x y = .eq ↔ x = y := by
  simp only [compare, compareOfLessAndEq]; split <;> (try split) <;> simp <;> omega
theorem cmp_swap (x y : Int) : compare y x = (compare x y).swap := by
  rcases Int.lt_trichotomy x y with h | h | h
  · rw [(cmp_lt x y).2 h, (cmp_gt y x).2 h]; rfl
  · rw [(cmp_eq x y).2 h, (cmp_eq y x).2 h.symm]; rfl
  · rw [(cmp_gt x y).2 h, (cmp_lt y x).2 h]; rfl
theorem order_swap (a b : Datum) : Datum.order b a = (Datum.order a b).map Ordering.swap := by
  cases a <;> cases b
  case number.number s m i t n j =>
    rw [order_base _ _ _ _ _ _ (min i j) (by omega) (by omega), order_base _ _ _ _ _ _ (min i j) (by omega) (by omega), cmp_swap]
    rfl
  case number.infinity s m i t => cases t <;> rfl
  case infinity.number s t n j => cases s <;> rfl
  case infinity.infinity s t => cases s <;> cases t <;> rfl
  all_goals rfl
theorem order_none (a b : Datum) : Datum.order a b = none ↔ a.isNaN = true ∨ b.isNaN = true := by
  cases a <;> cases b <;> simp [Datum.order, Datum.isNaN]
theorem order_trans : ∀ (a b c : Datum), Datum.order a b = some .lt → Datum.order b c = some .lt → Datum.order a c = some .lt
  | .number s m i, .number t n j, .number u o k, h1, h2 => by
    rw [order_base _ _ _ _ _ _ (min i (min j k)) (by omega) (by omega), Option.some.injEq, cmp_lt] at h1 h2 ⊢
    omega
  | .number .., .number .., .infinity u, _, h2 => by revert h2; cases u <;> simp [Datum.order]
  | .number .., .infinity t, .number .., h1, h2 => by revert h1 h2; cases t <;> simp [Datum.order]
  | .number .., .infinity t, .infinity u, h1, h2 => by revert h1 h2; cases t <;> cases u <;> simp [Datum.order] <;> decide
  | .infinity s, .number .., .number .., h1, _ => by revert h1; cases s <;> simp [Datum.order]
  | .infinity s, .number .., .infinity u, h1, h2 => by revert h1 h2; cases s <;> cases u <;> simp [Datum.order] <;> decide
  | .infinity s, .infinity t, .number .., h1, h2 => by revert h1 h2; cases s <;> cases t <;> simp [Datum.order] <;> decide
  | .infinity s, .infinity t, .infinity u, h1, h2 => by revert h1 h2; cases s <;> cases t <;> cases u <;> simp [Datum.order] <;> decide
  | .nan .., b, _, h1, _ => by simp [Datum.order] at h1
  | .number .., .nan .., _, h1, _ => by simp [Datum.order] at h1
  | .infinity _, .nan .., _, h1, _ => by simp [Datum.order] at h1
  | .number .., .number .., .nan .., _, h2 => by simp [Datum.order] at h2
  | .number .., .infinity _, .nan .., _, h2 => by simp [Datum.order] at h2
  | .infinity _, .number .., .nan .., _, h2 => by simp [Datum.order] at h2
  | .infinity _, .infinity _, .nan .., _, h2 => by simp [Datum.order] at h2
end Go.Proofs.YtniailfcmlongaaGreatDoor.Tr
/- Ints of 64 bits: what wraps round, in plain words. Nothing here speaks of the Go text. -/
namespace Go.Proofs.YtniailfcmlongaaGreatDoor.Tr
open Go.RowKit

/-- An int of 64 bits. -/
def I64 (x : Int) : Prop := -9223372036854775808 ≤ x ∧ x ≤ 9223372036854775807
instance (x : Int) : Decidable (I64 x) := by unfold I64; infer_instance
theorem I64.wrap (x : Int) : I64 (wrap64 x) := by
  unfold I64 wrap64; omega
theorem I64.same {x : Int} (h : I64 x) : wrap64 x = x := by
  unfold I64 at h; unfold wrap64; omega
theorem wrap_mul (x : Int) : ∃ k : Int, wrap64 x = x + k * 18446744073709551616 := by
  unfold wrap64
  exact ⟨-((x + 9223372036854775808) / 18446744073709551616), by omega⟩

theorem plus_fits {a b : Int} (ha : I64 a) (hb : I64 b) : (decide (wrap64 (a + b) > a) == decide (b > 0)) = decide (I64 (a + b)) := by
  unfold wrap64
  rw [Bool.eq_iff_iff]
  simp only [beq_iff_eq, decide_eq_decide, decide_eq_true_eq]
  unfold I64 at *
  omega
theorem minus_fits {a b : Int} (ha : I64 a) (hb : I64 b) : (decide (wrap64 (a - b) < a) == decide (b > 0)) = decide (I64 (a - b)) := by
  unfold wrap64
  rw [Bool.eq_iff_iff]
  simp only [beq_iff_eq, decide_eq_decide, decide_eq_true_eq]
  unfold I64 at *
  omega

/-- A quotient is an int, but for the lowest by -1. -/
theorem I64.tdiv {a b : Int} (ha : I64 a) (hb : I64 b) (hn : ¬ (a = -9223372036854775808 ∧ b = -1)) : I64 (a.tdiv b) := by
  unfold I64 at *
  have h : (a.tdiv b).natAbs = a.natAbs / b.natAbs := Int.natAbs_tdiv a b
  by_cases hb1 : b.natAbs ≤ 1
  · by_cases hb0 : b = 0
    · subst hb0; simp
    · by_cases h1 : b = 1
      · subst h1; simpa using ha
      · have h2 : b = -1 := by omega
        subst h2
        have e : a.tdiv (-1) = -a := by rw [Int.tdiv_neg, Int.tdiv_one]
        rw [e]; omega
  · have h2 : a.natAbs / b.natAbs ≤ a.natAbs / 2 := Nat.div_le_div_left (by omega) (by decide)
    omega
theorem times_fits {a b : Int} (ha : I64 a) (hb : I64 b) (hb0 : b ≠ 0) : (decide (wrap64 ((wrap64 (a * b)).tdiv b) = a) && !(decide (a = -9223372036854775808) && decide (b = -1))) = decide (I64 (a * b)) := by
  rw [Bool.eq_iff_iff]
  simp only [Bool.and_eq_true, decide_eq_true_eq, Bool.not_eq_true', Bool.and_eq_false_iff, decide_eq_false_iff_not]
  have hW := I64.wrap (a * b)
  obtain ⟨k, hk⟩ := wrap_mul (a * b)
  constructor
  · rintro ⟨h1, h2⟩
    generalize hn : wrap64 (a * b) = n at *
    have hnl : ¬ (n = -9223372036854775808 ∧ b = -1) := by
      rintro ⟨rfl, rfl⟩
      unfold I64 at *
      omega
    rw [(I64.tdiv hW hb hnl).same] at h1
    have hm := Int.mul_tdiv_add_tmod n b
    rw [h1] at hm
    have hr : (n.tmod b).natAbs < b.natAbs := by
      rw [Int.natAbs_tmod]
      exact Nat.mod_lt _ (by omega)
    have hc : b * a = a * b := Int.mul_comm b a
    have hk0 : k = 0 := by
      unfold I64 at *
      omega
    have : n = a * b := by rw [hk, hk0]; omega
    rw [← this]; exact hW
  · intro h
    rw [h.same]
    refine ⟨?_, ?_⟩
    · rw [Int.mul_tdiv_cancel a hb0, ha.same]
    · by_cases h1 : a = -9223372036854775808
      · right
        intro h2
        subst h1 h2
        exact absurd h (by decide)
      · exact .inl h1
/-- A quotient and its rest make the whole. -/
theorem quot_rest {a b : Int} (ha : I64 a) : wrap64 (wrap64 (a.tdiv b * b) + a.tmod b) = a := by
  obtain ⟨k, hk⟩ := wrap_mul (a.tdiv b * b)
  have hm := Int.mul_tdiv_add_tmod a b
  have hc : a.tdiv b * b = b * a.tdiv b := Int.mul_comm _ _
  unfold I64 at ha
  rw [hk]
  unfold wrap64
  omega
end Go.Proofs.YtniailfcmlongaaGreatDoor.Tr
