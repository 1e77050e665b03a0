/- A set put over another one, in plain words. -/
import Derived.Test.YtlepjghfcpgbcaaGreatDoorLsp
import Derived.Test.YtlepjghfcpgbcaaGreatDoorStp
namespace Go.Proofs.YtlepjghfcpgbcaaGreatDoor.Tr
open Go.RowKit

section
variable {β : Type}
abbrev Kv (β : Type) := List UInt8 × β
/-- Names rise. -/
def Srt (A : List (Kv β)) : Prop := A.Pairwise fun a b => Op.bytesLess a.1 b.1 = true
/-- All names of both, with the second's value where it has one. -/
def mg : List (Kv β) → List (Kv β) → List (Kv β)
  | [], B => B
  | a :: A, [] => a :: A
  | a :: A, b :: B => if Op.bytesLess a.1 b.1 = true then a :: mg A (b :: B) else if a.1 = b.1 then b :: mg A B else b :: mg (a :: A) B
termination_by A B => A.length + B.length
theorem mg_nil (B : List (Kv β)) : mg [] B = B := by rw [mg]
theorem mg_rnil : ∀ A : List (Kv β), mg A [] = A
  | [] => by rw [mg]
  | a :: A => by rw [mg]
theorem mg_lt {a b : Kv β} (A B : List (Kv β)) (h : Op.bytesLess a.1 b.1 = true) : mg (a :: A) (b :: B) = a :: mg A (b :: B) := by rw [mg, if_pos h]
theorem mg_eq {a b : Kv β} (A B : List (Kv β)) (h : a.1 = b.1) : mg (a :: A) (b :: B) = b :: mg A B := by rw [mg, if_neg (by rw [h, bl_irrefl]; simp), if_pos h]
theorem mg_gt {a b : Kv β} (A B : List (Kv β)) (h : Op.bytesLess a.1 b.1 = false) (h' : a.1 ≠ b.1) : mg (a :: A) (b :: B) = b :: mg (a :: A) B := by rw [mg, if_neg (by rw [h]; simp), if_neg h']
theorem mg_le (A B : List (Kv β)) : (mg A B).length ≤ A.length + B.length := by
  fun_induction mg A B <;> simp_all <;> omega
def keyIn (k : List UInt8) (B : List (Kv β)) : Prop := ∃ b ∈ B, b.1 = k
theorem bl_ne {a b : List UInt8} (h : Op.bytesLess a b = true) : a ≠ b := fun e => by rw [e, bl_irrefl] at h; cases h
theorem bl_gt {a b : List UInt8} (h : Op.bytesLess a b = false) (h' : a ≠ b) : Op.bytesLess b a = true := by
  rcases bl_three a b with ⟨h1, _⟩ | ⟨_, h2, _⟩ | ⟨_, _, h3⟩
  · rw [h1] at h; cases h
  · exact h2
  · exact absurd h3 h'
theorem Srt.head {a : Kv β} {A : List (Kv β)} (h : Srt (a :: A)) : ∀ x ∈ A, Op.bytesLess a.1 x.1 = true := (List.pairwise_cons.1 h).1
theorem Srt.tail {a : Kv β} {A : List (Kv β)} (h : Srt (a :: A)) : Srt A := (List.pairwise_cons.1 h).2
theorem mg_mem (A B : List (Kv β)) : Srt A → Srt B → ∀ x, x ∈ mg A B ↔ x ∈ B ∨ (x ∈ A ∧ ¬ keyIn x.1 B) := by
  fun_induction mg A B with
  | case1 B => intro _ _ x; simp
  | case2 a A => intro _ _ x; simp [keyIn]
  | case3 a A b B h ih =>
    intro hA hB x
    rw [List.mem_cons, ih hA.tail hB x]
    have hk : ¬ keyIn a.1 (b :: B) := by
      rintro ⟨y, hy, e⟩
      rcases List.mem_cons.1 hy with rfl | hy
      · exact bl_ne h e.symm
      · exact bl_ne (bl_trans _ _ _ h (hB.head y hy)) e.symm
    constructor
    · rintro (rfl | h | ⟨h1, h2⟩)
      · exact .inr ⟨List.mem_cons_self, hk⟩
      · exact .inl h
      · exact .inr ⟨List.mem_cons_of_mem _ h1, h2⟩
    · rintro (h | ⟨h1, h2⟩)
      · exact .inr (.inl h)
      · rcases List.mem_cons.1 h1 with rfl | h1
        · exact .inl rfl
        · exact .inr (.inr ⟨h1, h2⟩)
  | case4 a A b B h e ih =>
    intro hA hB x
    rw [List.mem_cons, ih hA.tail hB.tail x]
    constructor
    · rintro (rfl | h | ⟨h1, h2⟩)
      · exact .inl List.mem_cons_self
      · exact .inl (List.mem_cons_of_mem _ h)
      · refine .inr ⟨List.mem_cons_of_mem _ h1, ?_⟩
        rintro ⟨y, hy, ey⟩
        rcases List.mem_cons.1 hy with rfl | hy
        · exact bl_ne (hA.head x h1) (e.trans ey)
        · exact h2 ⟨y, hy, ey⟩
    · rintro (h | ⟨h1, h2⟩)
      · rcases List.mem_cons.1 h with rfl | h
        · exact .inl rfl
        · exact .inr (.inl h)
      · rcases List.mem_cons.1 h1 with rfl | h1
        · exact absurd ⟨b, List.mem_cons_self, e.symm⟩ h2
        · exact .inr (.inr ⟨h1, fun ⟨y, hy, ey⟩ => h2 ⟨y, List.mem_cons_of_mem _ hy, ey⟩⟩)
  | case5 a A b B h e ih =>
    intro hA hB x
    rw [List.mem_cons, ih hA hB.tail x]
    have hg : Op.bytesLess b.1 a.1 = true := bl_gt (by simpa using h) e
    constructor
    · rintro (rfl | h | ⟨h1, h2⟩)
      · exact .inl List.mem_cons_self
      · exact .inl (List.mem_cons_of_mem _ h)
      · refine .inr ⟨h1, ?_⟩
        rintro ⟨y, hy, ey⟩
        rcases List.mem_cons.1 hy with rfl | hy
        · rcases List.mem_cons.1 h1 with rfl | h1
          · exact e ey.symm
          · exact bl_ne (bl_trans _ _ _ hg (hA.head x h1)) ey
        · exact h2 ⟨y, hy, ey⟩
    · rintro (h | ⟨h1, h2⟩)
      · rcases List.mem_cons.1 h with rfl | h
        · exact .inl rfl
        · exact .inr (.inl h)
      · exact .inr (.inr ⟨h1, fun ⟨y, hy, ey⟩ => h2 ⟨y, List.mem_cons_of_mem _ hy, ey⟩⟩)
theorem mg_srt (A B : List (Kv β)) : Srt A → Srt B → Srt (mg A B) := by
  fun_induction mg A B with
  | case1 B => intro _ h; exact h
  | case2 a A => intro h _; exact h
  | case3 a A b B h ih =>
    intro hA hB
    refine List.pairwise_cons.2 ⟨fun x hx => ?_, ih hA.tail hB⟩
    rcases (mg_mem _ _ hA.tail hB x).1 hx with hx | ⟨hx, _⟩
    · rcases List.mem_cons.1 hx with rfl | hx
      · exact h
      · exact bl_trans _ _ _ h (hB.head x hx)
    · exact hA.head x hx
  | case4 a A b B h e ih =>
    intro hA hB
    refine List.pairwise_cons.2 ⟨fun x hx => ?_, ih hA.tail hB.tail⟩
    rcases (mg_mem _ _ hA.tail hB.tail x).1 hx with hx | ⟨hx, _⟩
    · exact hB.head x hx
    · rw [← e]; exact hA.head x hx
  | case5 a A b B h e ih =>
    intro hA hB
    have hg : Op.bytesLess b.1 a.1 = true := bl_gt (by simpa using h) e
    refine List.pairwise_cons.2 ⟨fun x hx => ?_, ih hA hB.tail⟩
    rcases (mg_mem _ _ hA hB.tail x).1 hx with hx | ⟨hx, _⟩
    · exact hB.head x hx
    · rcases List.mem_cons.1 hx with rfl | hx
      · exact hg
      · exact bl_trans _ _ _ hg (hA.head x hx)
/-- How many names of the first stand not in the second. -/
def newN (B : List (Kv β)) : List (Kv β) → Nat
  | [] => 0
  | a :: A => (if B.any (fun b => b.1 == a.1) = true then 0 else 1) + newN B A
theorem any_key (B : List (Kv β)) (k : List UInt8) : B.any (fun b => b.1 == k) = true ↔ keyIn k B := by
  simp [keyIn, List.any_eq_true]
theorem newN_drop (b : Kv β) (B : List (Kv β)) : ∀ A : List (Kv β), (∀ a ∈ A, a.1 ≠ b.1) → newN (b :: B) A = newN B A
  | [], _ => rfl
  | a :: A, h => by
    have h1 : (b.1 == a.1) = false := by
      have := h a List.mem_cons_self
      simpa using fun e => this e.symm
    rw [newN, newN, newN_drop b B A (fun x hx => h x (List.mem_cons_of_mem _ hx)), List.any_cons, h1, Bool.false_or]
theorem newN_nil : ∀ A : List (Kv β), newN [] A = A.length
  | [] => rfl
  | a :: A => by rw [newN, newN_nil A]; simp; omega
theorem mg_len (A B : List (Kv β)) : Srt A → Srt B → (mg A B).length = newN B A + B.length := by
  fun_induction mg A B with
  | case1 B => intro _ _; simp [newN]
  | case2 a A => intro _ _; rw [newN_nil]; simp
  | case3 a A b B h ih =>
    intro hA hB
    have hk : (b :: B).any (fun x => x.1 == a.1) = false := by
      cases hq : (b :: B).any (fun x => x.1 == a.1) with
      | false => rfl
      | true =>
        obtain ⟨y, hy, e⟩ := (any_key _ _).1 hq
        rcases List.mem_cons.1 hy with rfl | hy
        · exact absurd e.symm (bl_ne h)
        · exact absurd e.symm (bl_ne (bl_trans _ _ _ h (hB.head y hy)))
    rw [List.length_cons, ih hA.tail hB, newN, hk]
    simp; omega
  | case4 a A b B h e ih =>
    intro hA hB
    have hk : (b :: B).any (fun x => x.1 == a.1) = true := (any_key _ _).2 ⟨b, List.mem_cons_self, e.symm⟩
    rw [List.length_cons, ih hA.tail hB.tail, newN, hk, newN_drop b B A (fun x hx he => bl_ne (hA.head x hx) (e.trans he.symm))]
    simp; omega
  | case5 a A b B h e ih =>
    intro hA hB
    have hg : Op.bytesLess b.1 a.1 = true := bl_gt (by simpa using h) e
    rw [List.length_cons, ih hA hB.tail, newN_drop b B (a :: A) (fun x hx he => by
      rcases List.mem_cons.1 hx with rfl | hx
      · exact e he
      · exact bl_ne (bl_trans _ _ _ hg (hA.head x hx)) he.symm)]
    simp; omega
theorem mg_self : ∀ A : List (Kv β), mg A A = A
  | [] => by rw [mg]
  | a :: A => by rw [mg_eq A A rfl, mg_self A]
theorem newN_take (B A : List (Kv β)) (i : Nat) (h : i < A.length) : newN B (A.take (i + 1)) = newN B (A.take i) + (if B.any (fun b => b.1 == A[i].1) = true then 0 else 1) := by
  induction A generalizing i with
  | nil => simp at h
  | cons a A ih =>
    cases i with
    | zero => simp [newN]
    | succ i =>
      rw [List.take_succ_cons, List.take_succ_cons, newN, newN, ih i (by simpa using h)]
      simp only [List.getElem_cons_succ]
      omega
theorem newN_le (B : List (Kv β)) : ∀ A : List (Kv β), newN B A ≤ A.length
  | [] => Nat.le_refl _
  | a :: A => by have := newN_le B A; rw [newN, List.length_cons]; split <;> omega
theorem Srt.uniq {A : List (Kv β)} (h : Srt A) (x y : Kv β) (hx : x ∈ A) (hy : y ∈ A) (e : x.1 = y.1) : x = y := by
  induction A with
  | nil => simp at hx
  | cons a A ih =>
    rcases List.mem_cons.1 hx with h1 | h1
    · rcases List.mem_cons.1 hy with h2 | h2
      · rw [h1, h2]
      · subst h1; exact absurd e (bl_ne (h.head y h2))
    · rcases List.mem_cons.1 hy with h2 | h2
      · subst h2; exact absurd e.symm (bl_ne (h.head x h1))
      · exact ih h.tail h1 h2
end

theorem getD_at {α : Type} (l : List α) (d : α) (i : Nat) (h : i < l.length) : l.getD i d = l[i] := by simp [List.getD, h]
theorem rn_lt {ns : List (List UInt8)} (h : rnB ns = true) : ∀ (j i : Nat) (hj : j < ns.length) (hi : i < j), Op.bytesLess (ns[i]'(by omega)) ns[j] = true := by
  have hall : ∀ j, j < ns.length → rnAt ns j = true := fun j hj => List.all_eq_true.1 h j (List.mem_range.2 hj)
  have hst : ∀ j (hj : j + 1 < ns.length), Op.bytesLess (ns[j]'(by omega)) ns[j + 1] = true := fun j hj => by
    have := hall (j + 1) hj
    unfold rnAt at this
    simp only [Bool.and_eq_true, Bool.or_eq_true, decide_eq_true_eq, Nat.add_eq_zero_iff, Nat.add_sub_cancel] at this
    rcases this.2 with h | h
    · omega
    · rw [getD_at _ _ _ (by omega), getD_at _ _ _ hj] at h; exact h
  intro j
  induction j with
  | zero => intro i _ hi; omega
  | succ j ih =>
    intro i hj hi
    by_cases e : i = j
    · subst e; exact hst i hj
    · exact bl_trans _ _ _ (ih i (by omega) (by omega)) (hst j hj)
theorem rn_len {ns : List (List UInt8)} (h : rnB ns = true) : ∀ s ∈ ns, s.length ≤ 1024 := fun s hs => by
  obtain ⟨i, hi, rfl⟩ := List.getElem_of_mem hs
  have := List.all_eq_true.1 h i (List.mem_range.2 hi)
  unfold rnAt at this
  simp only [Bool.and_eq_true, decide_eq_true_eq] at this
  rw [getD_at _ _ _ hi] at this
  exact this.1
theorem rn_mk {ns : List (List UInt8)} (h1 : ns.Pairwise fun a b => Op.bytesLess a b = true) (h2 : ∀ s ∈ ns, s.length ≤ 1024) : rnB ns = true := rnB_true fun j hj => by
  unfold rnAt
  rw [getD_at _ _ _ hj, decide_eq_true (h2 _ (List.getElem_mem hj)), Bool.true_and]
  by_cases h0 : j = 0
  · simp [h0]
  · rw [getD_at _ _ _ (by omega), List.pairwise_iff_getElem.1 h1 (j - 1) j (by omega) hj (by omega), Bool.or_true]
end Go.Proofs.YtlepjghfcpgbcaaGreatDoor.Tr
