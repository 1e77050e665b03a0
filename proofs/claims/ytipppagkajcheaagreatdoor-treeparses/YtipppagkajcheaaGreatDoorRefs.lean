/- Store paths in bytes: plain facts. Nothing here speaks of the Go text. -/
import Derived.Test.YtipppagkajcheaaGreatDoorPlain
namespace Go.Proofs.YtipppagkajcheaaGreatDoor.Tr

def hexB (c : UInt8) : Bool := (decide (48 ≤ c.toNat) && decide (c.toNat ≤ 57)) || (decide (97 ≤ c.toNat) && decide (c.toNat ≤ 102))
def storeL : List UInt8 := [47, 115, 116, 111, 114, 101, 47]
/-- What a store path begins with: 24 bytes. -/
def headAt (d : List UInt8) : Bool := (d.take 7 == storeL) && ((d.drop 7).take 16).all hexB && decide (24 ≤ d.length) && (d[23]? == some 45)
def isPathB (s : List UInt8) : Bool := decide (25 ≤ s.length) && decide (s.length ≤ 43) && headAt s && (s.drop 24).all mayB
/-- How many bytes may stand behind. -/
def tailN (d : List UInt8) : Nat := ((d.drop 24).takeWhile mayB).length
/-- The store path that begins here; nothing, if none does. -/
def refAt (d : List UInt8) : List UInt8 := if headAt d && decide (1 ≤ tailN d) then d.take (24 + min 19 (tailN d)) else []
theorem tailN_le (d : List UInt8) : tailN d ≤ d.length - 24 := by
  have := List.IsPrefix.length_le (List.takeWhile_prefix mayB (l := d.drop 24))
  simpa [tailN] using this
theorem all_take_iff {α : Type} (p : α → Bool) : ∀ (l : List α) (m : Nat), m ≤ l.length → ((l.take m).all p = true ↔ m ≤ (l.takeWhile p).length)
  | l, 0, _ => by simp
  | [], m + 1, h => absurd h (by simp)
  | x :: r, m + 1, h => by
    rw [List.take_succ_cons, List.all_cons, List.takeWhile_cons]
    by_cases hx : p x = true
    · rw [hx, Bool.true_and, if_pos rfl, all_take_iff p r m (by simpa using h)]; simp
    · simp [hx]
theorem headAt_take (d : List UInt8) (n : Nat) (h : 24 ≤ n) (hn : n ≤ d.length) : headAt (d.take n) = headAt d := by
  unfold headAt
  have e1 : (d.take n).take 7 = d.take 7 := by rw [List.take_take, Nat.min_eq_left (by omega)]
  have e2 : ((d.take n).drop 7).take 16 = (d.drop 7).take 16 := by rw [List.drop_take, List.take_take, Nat.min_eq_left (by omega)]
  have e3 : (d.take n)[23]? = d[23]? := by rw [List.getElem?_take, if_pos (by omega)]
  rw [e1, e2, e3]
  simp only [List.length_take]
  congr 2
  rw [decide_eq_decide]; omega
theorem isPath_take (d : List UInt8) (n : Nat) (h1 : 25 ≤ n) (h2 : n ≤ 43) (hn : n ≤ d.length) : isPathB (d.take n) = (headAt d && decide (n - 24 ≤ tailN d)) := by
  unfold isPathB
  rw [headAt_take d n (by omega) hn]
  have e : (List.drop 24 (d.take n)).all mayB = decide (n - 24 ≤ tailN d) := by
    rw [List.drop_take, Bool.eq_iff_iff, all_take_iff mayB (d.drop 24) (n - 24) (by simp; omega), decide_eq_true_eq]; rfl
  rw [e]
  have l1 : decide (25 ≤ (d.take n).length) = true := decide_eq_true (by simp; omega)
  have l2 : decide ((d.take n).length ≤ 43) = true := decide_eq_true (by simp; omega)
  rw [l1, l2]; simp
/-- The longest so far: lengths below n were tried. -/
def bestU (d : List UInt8) (n : Nat) : List UInt8 := if headAt d && decide (1 ≤ min (n - 25) (tailN d)) then d.take (24 + min (n - 25) (tailN d)) else []
theorem bestU_start (d : List UInt8) : bestU d 25 = [] := by simp [bestU]
theorem bestU_yes (d : List UInt8) (n : Nat) (h1 : 25 ≤ n) (h2 : n ≤ 43) (hn : n ≤ d.length) (h : isPathB (d.take n) = true) : bestU d (n + 1) = d.take n := by
  rw [isPath_take d n h1 h2 hn, Bool.and_eq_true, decide_eq_true_eq] at h
  unfold bestU
  have e : min (n + 1 - 25) (tailN d) = n - 24 := by omega
  rw [h.1, e, decide_eq_true (by omega)]
  simp only [Bool.and_self, if_true]
  congr 1; omega
theorem bestU_no (d : List UInt8) (n : Nat) (h1 : 25 ≤ n) (h2 : n ≤ 43) (hn : n ≤ d.length) (h : isPathB (d.take n) = false) : bestU d (n + 1) = bestU d n := by
  rw [isPath_take d n h1 h2 hn, Bool.and_eq_false_iff, decide_eq_false_iff_not] at h
  unfold bestU
  rcases h with h | h
  · rw [h]; rfl
  · have e : min (n + 1 - 25) (tailN d) = min (n - 25) (tailN d) := by omega
    rw [e]
theorem bestU_end (d : List UInt8) (n : Nat) (h0 : n ≤ 44) (h : n = 44 ∨ d.length < n) : bestU d n = refAt d := by
  have ht := tailN_le d
  unfold bestU refAt
  by_cases hl : 24 ≤ d.length
  · have e : min (n - 25) (tailN d) = min 19 (tailN d) := by omega
    rw [e]
    have e1 : (decide (1 ≤ min 19 (tailN d))) = decide (1 ≤ tailN d) := by rw [decide_eq_decide]; omega
    rw [e1]
  · have : headAt d = false := by unfold headAt; rw [decide_eq_false hl]; simp
    rw [this]; rfl
theorem refAt_short (d : List UInt8) (h : d.length < 25) : refAt d = [] := by
  have ht := tailN_le d
  unfold refAt
  rw [decide_eq_false (show ¬ 1 ≤ tailN d by omega)]; simp
theorem refAt_isPath (d : List UInt8) (h : refAt d ≠ []) : isPathB (refAt d) = true ∧ refAt d <+: d := by
  have ht := tailN_le d
  unfold refAt at h ⊢
  by_cases hb : (headAt d && decide (1 ≤ tailN d)) = true
  · rw [if_pos hb] at h ⊢
    rw [Bool.and_eq_true, decide_eq_true_eq] at hb
    refine ⟨?_, List.take_prefix _ _⟩
    rw [isPath_take d _ (by omega) (by omega) (by omega), hb.1, decide_eq_true (by omega)]; rfl
  · rw [if_neg hb] at h; exact absurd rfl h
/-- A store path that stands here, and does not go on. -/
theorem refAt_here (p r : List UInt8) (h : isPathB p = true) (hr : ∀ c ∈ r.head?, mayB c = false) : refAt (p ++ r) = p := by
  have h0 := h
  unfold isPathB at h
  simp only [Bool.and_eq_true, decide_eq_true_eq] at h
  obtain ⟨⟨⟨h1, h2⟩, h3⟩, h4⟩ := h
  have hd : headAt (p ++ r) = true := by
    have := headAt_take (p ++ r) p.length (by omega) (by simp)
    rw [List.take_left] at this
    rw [← this]; exact h3
  have ht : tailN (p ++ r) = p.length - 24 := by
    unfold tailN
    rw [List.drop_append_of_le_length (by omega), List.takeWhile_append_of_pos (fun a ha => List.all_eq_true.1 h4 a ha)]
    have : r.takeWhile mayB = [] := by
      cases r with
      | nil => rfl
      | cons c q =>
        have := hr c (by simp)
        simp [this]
    rw [this]; simp
  unfold refAt
  rw [hd, ht, decide_eq_true (by omega)]
  simp only [Bool.and_self, if_true]
  have e : 24 + min 19 (p.length - 24) = p.length := by omega
  rw [e, List.take_left]

/-! ### Rows of texts, rising, each once -/
def addL : List (List UInt8) → List UInt8 → List (List UInt8)
  | [], s => [s]
  | x :: r, s => if Op.bytesLess x s then x :: addL r s else if x = s then x :: r else s :: x :: r
theorem less_eq : ∀ (x y : List UInt8), Op.bytesLess x y = decide (x < y)
  | [], [] => by simp [Op.bytesLess]
  | _ :: _, [] => by simp [Op.bytesLess]
  | [], _ :: _ => by simp [Op.bytesLess]
  | a :: x, b :: y => by
    rw [Op.bytesLess, less_eq x y]
    simp only [List.cons_lt_cons_iff]
    by_cases h1 : a < b <;> by_cases h2 : a = b <;> by_cases h3 : x < y <;> simp [h1, h2, h3]
theorem lt_irr (x : List UInt8) : ¬ x < x := List.lt_irrefl x
theorem lt_tr {x y z : List UInt8} (h : x < y) (k : y < z) : x < z := List.lt_trans h k
theorem lt_tri (x y : List UInt8) (h1 : ¬ x < y) (h2 : x ≠ y) : y < x := by
  rcases Classical.em (y < x) with h | h
  · exact h
  · exact absurd (List.le_antisymm h h1) h2
def Rise (l : List (List UInt8)) : Prop := l.Pairwise (· < ·)
theorem addL_mem (l : List (List UInt8)) (s x : List UInt8) : x ∈ addL l s ↔ x = s ∨ x ∈ l := by
  induction l with
  | nil => simp [addL]
  | cons y r ih =>
    unfold addL
    split
    · rw [List.mem_cons, ih, List.mem_cons]
      constructor
      · rintro (h | h | h)
        · exact .inr (.inl h)
        · exact .inl h
        · exact .inr (.inr h)
      · rintro (h | h | h)
        · exact .inr (.inl h)
        · exact .inl h
        · exact .inr (.inr h)
    · split
      · rename_i h
        subst h
        simp
      · simp
theorem addL_rise (l : List (List UInt8)) (s : List UInt8) (h : Rise l) : Rise (addL l s) := by
  induction l with
  | nil => simp [addL, Rise]
  | cons y r ih =>
    unfold Rise at h ih ⊢
    rw [List.pairwise_cons] at h
    unfold addL
    rw [less_eq]
    split
    · rename_i hy
      rw [decide_eq_true_eq] at hy
      rw [List.pairwise_cons]
      refine ⟨fun z hz => ?_, ih h.2⟩
      rcases (addL_mem r s z).1 hz with rfl | hz
      · exact hy
      · exact h.1 z hz
    · rename_i hy
      rw [decide_eq_true_eq] at hy
      split
      · rw [List.pairwise_cons]; exact h
      · rename_i hne
        have hs := lt_tri y s hy hne
        rw [List.pairwise_cons, List.pairwise_cons]
        refine ⟨fun z hz => ?_, h⟩
        rcases List.mem_cons.1 hz with rfl | hz
        · exact hs
        · exact lt_tr hs (h.1 z hz)
/-- Two rising rows of the same texts are one. -/
theorem rise_one : ∀ (a b : List (List UInt8)), Rise a → Rise b → (∀ x, x ∈ a ↔ x ∈ b) → a = b
  | [], [], _, _, _ => rfl
  | [], y :: b, _, _, h => absurd ((h y).2 (by simp)) (by simp)
  | x :: a, [], _, _, h => absurd ((h x).1 (by simp)) (by simp)
  | x :: a, y :: b, ha, hb, h => by
    unfold Rise at ha hb
    rw [List.pairwise_cons] at ha hb
    have e : x = y := by
      rcases List.mem_cons.1 ((h x).1 (by simp)) with e | hx
      · exact e
      · rcases List.mem_cons.1 ((h y).2 (by simp)) with e | hy
        · exact e.symm
        · exact absurd (lt_tr (hb.1 x hx) (ha.1 y hy)) (lt_irr _)
    subst e
    congr 1
    refine rise_one a b ha.2 hb.2 (fun z => ⟨fun hz => ?_, fun hz => ?_⟩)
    · rcases List.mem_cons.1 ((h z).1 (by simp [hz])) with rfl | hz'
      · exact absurd (ha.1 _ hz) (lt_irr _)
      · exact hz'
    · rcases List.mem_cons.1 ((h z).2 (by simp [hz])) with rfl | hz'
      · exact absurd (hb.1 _ hz) (lt_irr _)
      · exact hz'
/-- The store paths of some bytes, from k on, put into a row. -/
def refsOf (d : List UInt8) : Nat → List (List UInt8) → List (List UInt8)
  | 0, out => out
  | k + 1, out => if refAt (d.drop k) = [] then refsOf d k out else addL (refsOf d k out) (refAt (d.drop k))
def refsB (l : List Ent) : List (List UInt8) := l.foldl (fun out x => refsOf x.data (x.data.length - 24) out) []
theorem refsOf_mem (d : List UInt8) (out : List (List UInt8)) (x : List UInt8) : ∀ k, x ∈ refsOf d k out ↔ x ∈ out ∨ ∃ j, j < k ∧ x = refAt (d.drop j) ∧ x ≠ []
  | 0 => by simp [refsOf]
  | k + 1 => by
    unfold refsOf
    have ih := refsOf_mem d out x k
    split
    · rename_i he
      rw [ih]
      constructor
      · rintro (h | ⟨j, h1, h2⟩)
        · exact .inl h
        · exact .inr ⟨j, by omega, h2⟩
      · rintro (h | ⟨j, h1, h2, h3⟩)
        · exact .inl h
        · rcases Nat.lt_or_ge j k with hj | hj
          · exact .inr ⟨j, hj, h2, h3⟩
          · obtain rfl : j = k := by omega
            exact absurd (h2.trans he) h3
    · rename_i he
      rw [addL_mem, ih]
      constructor
      · rintro (h | h | ⟨j, h1, h2⟩)
        · exact .inr ⟨k, by omega, h, by rw [h]; exact he⟩
        · exact .inl h
        · exact .inr ⟨j, by omega, h2⟩
      · rintro (h | ⟨j, h1, h2, h3⟩)
        · exact .inr (.inl h)
        · rcases Nat.lt_or_ge j k with hj | hj
          · exact .inr (.inr ⟨j, hj, h2, h3⟩)
          · obtain rfl : j = k := by omega
            exact .inl h2
theorem refsOf_rise (d : List UInt8) (out : List (List UInt8)) (h : Rise out) : ∀ k, Rise (refsOf d k out)
  | 0 => h
  | k + 1 => by
    unfold refsOf
    split
    · exact refsOf_rise d out h k
    · exact addL_rise _ _ (refsOf_rise d out h k)
/-- Where a text stands as a store path. -/
def RefIn (d x : List UInt8) : Prop := ∃ j, x = refAt (d.drop j) ∧ x ≠ []
theorem refsOf_all (d : List UInt8) (out : List (List UInt8)) (x : List UInt8) : x ∈ refsOf d (d.length - 24) out ↔ x ∈ out ∨ RefIn d x := by
  rw [refsOf_mem]
  refine or_congr Iff.rfl ⟨fun ⟨j, _, h⟩ => ⟨j, h⟩, fun ⟨j, h1, h2⟩ => ⟨j, ?_, h1, h2⟩⟩
  rcases Nat.lt_or_ge j (d.length - 24) with h | h
  · exact h
  · exact absurd (h1.trans (refAt_short _ (by simp; omega))) h2
theorem refs_fold (l : List Ent) : ∀ (out : List (List UInt8)), Rise out → Rise (l.foldl (fun out x => refsOf x.data (x.data.length - 24) out) out) ∧ ∀ x, x ∈ l.foldl (fun out x => refsOf x.data (x.data.length - 24) out) out ↔ x ∈ out ∨ ∃ y ∈ l, RefIn y.data x := by
  induction l with
  | nil => intro out h; exact ⟨h, fun x => by simp⟩
  | cons y r ih =>
    intro out h
    obtain ⟨h1, h2⟩ := ih (refsOf y.data (y.data.length - 24) out) (refsOf_rise _ _ h _)
    refine ⟨h1, fun x => ?_⟩
    rw [List.foldl_cons, h2, refsOf_all]
    constructor
    · rintro ((h | h) | ⟨z, hz, h⟩)
      · exact .inl h
      · exact .inr ⟨y, by simp, h⟩
      · exact .inr ⟨z, by simp [hz], h⟩
    · rintro (h | ⟨z, hz, h⟩)
      · exact .inl (.inl h)
      · rcases List.mem_cons.1 hz with rfl | hz
        · exact .inl (.inr h)
        · exact .inr ⟨z, hz, h⟩
theorem refsB_spec (l : List Ent) : Rise (refsB l) ∧ ∀ x, x ∈ refsB l ↔ ∃ y ∈ l, RefIn y.data x := by
  obtain ⟨h1, h2⟩ := refs_fold l [] List.Pairwise.nil
  exact ⟨h1, fun x => by rw [refsB, h2]; simp⟩

end Go.Proofs.YtipppagkajcheaaGreatDoor.Tr
