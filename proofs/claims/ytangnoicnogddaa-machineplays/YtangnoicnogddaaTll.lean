/- A drawn region by hand, in which a cell is read and then stored into: what is known of the world may end with one operation, the pivot, that waits for the readers. Nothing here speaks of the Go text. -/
import Derived.Test.YtangnoicnogddaaRfh
namespace Go.Proofs.Ytangnoicnogddaa.Tr
open Go.RowKit

section
variable {P : Program} {ops : Array Oper} {Q : Exit → Act → World → Prop} {md : Region.Mode} {S T : World → Prop} {p : Nat}
/-- Whatever comes up: S holds behind every operation, T behind each that comes ahead of the pivot p. -/
def wpTill (P : Program) (md : Region.Mode) (ops : Array Oper) (Q : Exit → Act → World → Prop) (S T : World → Prop) (p : Nat) : Nat → Array Bool → Act → World → Prop
  | 0, L, a, w => Region.ready md ops L = [] ∧ Q .normal a w
  | n + 1, L, a, w => (Region.ready md ops L = [] → Q .normal a w) ∧
    ∀ i, i ∈ Region.ready md ops L → wpOp P ops Q i (fun a' w' => (S w' ∧ (i ≠ p → L.getD p true = false → T w')) ∧ wpTill P md ops Q S T p n (L.setIfInBounds i true) a' w') a w
theorem any_of_till (n : Nat) : ∀ (L : Array Bool) (a : Act) (w : World), wpTill P md ops Q S T p n L a w → wpAny P md ops Q n L a w := by
  induction n with
  | zero => exact fun _ _ _ h => h
  | succ n ih => exact fun L a w h => ⟨h.1, fun i hi => wpOp_mono (fun a' w' h' => ih _ a' w' h'.2) (h.2 i hi)⟩
/-- Does the pivot wait for operation i? -/
def waits (md : Region.Mode) (ops : Array Oper) (p i : Nat) : Bool := match ops[p]? with
  | some o => o.after.any fun e => Region.binds md e && e.on == i
  | none => false
/-- When an operation that gives a value in every world that meets U may be taken first. -/
def Sure (md : Region.Mode) (ops : Array Oper) (S T U : World → Prop) (p i : Nat) (L : Array Bool) : Prop := (∀ w, S w → U w) ∨ ((∀ w, S w → T w → U w) ∧ waits md ops p i = true ∧ L.getD p true = false)
theorem Sure.at {U : World → Prop} {i : Nat} {L : Array Bool} {w : World} (h : Sure md ops S T U p i L) (hS : S w) (hT : L.getD p true = false → T w) : U w := by
  rcases h with h | ⟨h, _, hp⟩
  · exact h w hS
  · exact h w hS (hT hp)
theorem Sure.next {U : World → Prop} {i j : Nat} {L : Array Bool} (h : Sure md ops S T U p i L) (hi : L.getD i true = false) (hj : j ∈ Region.ready md ops L) (hsz : i < L.size) : Sure md ops S T U p i (L.setIfInBounds j true) := by
  rcases h with h | ⟨h, hw, hp⟩
  · exact .inl h
  · refine .inr ⟨h, hw, ?_⟩
    have hjp : j ≠ p := fun e => by
      subst e
      obtain ⟨_, o, ho, hall⟩ := mem_ready.1 hj
      unfold waits at hw
      rw [ho] at hw
      simp only [Array.any_eq_true', Bool.and_eq_true, beq_iff_eq] at hw
      obtain ⟨e, he, hb, hon⟩ := hw
      have := hall e he hb
      rw [hon] at this
      simp [hsz] at this hi
      rw [hi] at this; cases this
    rw [getD_set_ne true hjp]
    exact hp
theorem till_first {U : World → Prop} {i : Nat} {oi : Oper} {v : Value} (hi : ops[i]? = some oi) (hs : Region.noSelect ops = true) (hip : i ≠ p) (hQ : ∀ c a w, Q (.panic c) (a.put oi.dst v) w → Q (.panic c) a w) (n : Nat) :
    ∀ (L : Array Bool) (a : Act) (w : World), i < L.size → (∀ j oj, ops[j]? = some oj → j ≠ i → L.getD j true = false → (∀ e ∈ oj.after, Region.binds md e = true → e.on ≠ i) → oi.apart ops oj = true) →
      i ∈ Region.ready md ops L → YieldsIf P ops U oi v a → S w → (L.getD p true = false → T w) → Sure md ops S T U p i L →
      wpTill P md ops Q S T p n (L.setIfInBounds i true) (a.put oi.dst v) w → wpTill P md ops Q S T p (n + 1) L a w := by
  have hsel := Region.noSelect_spec hs
  induction n with
  | zero =>
    intro L a w _ _ hr hy hS hT hc H
    refine ⟨fun h => absurd (h ▸ hr) (by simp), fun j hj => ?_⟩
    by_cases e : j = i
    · subst e
      exact hy.wpOp hi (hc.at hS hT) ⟨⟨hS, fun _ => hT⟩, H⟩
    · have := ready_mono hj e
      rw [H.1] at this
      exact absurd this (by simp)
  | succ n ih =>
    intro L a w hsz hfree hr hy hS hT hc H
    refine ⟨fun h => absurd (h ▸ hr) (by simp), fun j hj => ?_⟩
    by_cases e : j = i
    · subst e
      exact hy.wpOp hi (hc.at hS hT) ⟨⟨hS, fun _ => hT⟩, H⟩
    · have hiL : L.getD i true = false := (mem_ready.1 hr).1
      obtain ⟨hjL, oj, hoj, hall⟩ := mem_ready.1 hj
      have hno : ∀ e ∈ oj.after, Region.binds md e = true → e.on ≠ i := fun e he hb heq => by
        have h1 := hall e he hb
        rw [heq] at h1
        simp [hsz] at h1 hiL
        rw [hiL] at h1; cases h1
      have hstep := wpOp_putIf hoj (hfree j oj hoj e hjL hno) (fun cs b => hsel i oi cs b hi) (fun cs b => hsel j oj cs b hoj) hQ hy (H.2 j (ready_mono hj e))
      refine wpOp_mono (fun a' w' h3 => ?_) hstep
      obtain ⟨hy', ⟨hS', hT'⟩, hgo⟩ := h3
      rw [getD_set_ne true hip] at hT'
      refine ⟨⟨hS', hT'⟩, ih (L.setIfInBounds j true) a' w' (by simpa using hsz) (fun k ok hk hki hun hnk => hfree k ok hk hki ?_ hnk) (ready_mono hr (Ne.symm e)) hy' hS' (fun hp' => ?_) (hc.next hiL hj hsz) ?_⟩
      · by_cases hjk : j = k
        · subst hjk; exact hjL
        · rw [getD_set_ne true hjk] at hun; exact hun
      · by_cases hjp : j = p
        · subst hjp
          rcases Nat.lt_or_ge j L.size with h | h
          · simp [h] at hp'
          · simp [Array.getElem?_eq_none h] at hjL
        · rw [getD_set_ne true hjp] at hp'
          exact hT' hjp hp'
      · rw [Array.setIfInBounds_comm _ _ e]
        exact hgo

/-- Operation number i is taken first. -/
theorem takeT (U : World → Prop) {i : Nat} {d : Option Tmp} {n : Nat} {L : Array Bool} {a : Act} {w : World} (v : Value) (hd : (ops[i]?).map (·.dst) = some d) (hs : Region.noSelect ops = true) (hip : i ≠ p) (hsz : decide (i < L.size) = true) (hf : Region.free md ops L i = true)
    (hr : (Region.ready md ops L).contains i = true) (hQ : ∀ (o : Oper) c a w, Q (.panic c) (a.put o.dst v) w → Q (.panic c) a w) (hS : S w) (hT : L.getD p true = false → T w) (hc : Sure md ops S T U p i L) (hy : ∀ o, ops[i]? = some o → YieldsIf P ops U o v a)
    (h : wpTill P md ops Q S T p n (L.setIfInBounds i true) (a.put d v) w) : wpTill P md ops Q S T p (n + 1) L a w := by
  cases ho : ops[i]? with
  | none => simp [ho] at hd
  | some o =>
    have e : o.dst = d := by simpa [ho] using hd
    subst e
    exact till_first ho hs hip (hQ o) n L a w (of_decide_eq_true hsz) (Region.free_spec ho hf) (by simpa using hr) (hy o ho) hS hT hc h
/-- What a step must show. -/
def StepT (P : Program) (md : Region.Mode) (ops : Array Oper) (Q : Exit → Act → World → Prop) (S T : World → Prop) (p n : Nat) (L : Array Bool) (a : Act) (w : World) (i : Nat) : Prop :=
  ∀ o, ops[i]? = some o → ∀ K' : Act → World → Prop, Hid (∀ a w, S w → (i ≠ p → L.getD p true = false → T w) → wpTill P md ops Q S T p n (L.setIfInBounds i true) a w → K' a w) → if Region.wanted o (yielded ops a.tmps) = true then Oper.wp P o a w K' Q else K' (a.put o.dst undef) w
theorem StepT.op {n : Nat} {L : Array Bool} {a : Act} {w : World} {i : Nat} (h : StepT P md ops Q S T p n L a w i) (hi : i < ops.size) : wpOp P ops Q i (fun a' w' => (S w' ∧ (i ≠ p → L.getD p true = false → T w')) ∧ wpTill P md ops Q S T p n (L.setIfInBounds i true) a' w') a w := by
  have ho : ops[i]? = some ops[i] := Array.getElem?_eq_getElem hi
  have := h _ ho (fun a' w' => (S w' ∧ (i ≠ p → L.getD p true = false → T w')) ∧ wpTill P md ops Q S T p n (L.setIfInBounds i true) a' w') (fun a w h1 h2 h3 => ⟨⟨h1, h2⟩, h3⟩)
  unfold wpOp
  rw [ho]
  simp only
  split
  · rename_i hw
    rw [if_pos hw] at this
    exact .inl this
  · rename_i hw
    rw [if_neg hw] at this
    exact this
/-- Operation number i alone can come up. -/
theorem oneT {i n : Nat} {L : Array Bool} {a : Act} {w : World} (hr : Region.ready md ops L = [i]) (hi : i < ops.size) (h : StepT P md ops Q S T p n L a w i) : wpTill P md ops Q S T p (n + 1) L a w :=
  ⟨fun h0 => absurd (hr.symm.trans h0) (by simp), fun j hj => by
    rw [hr] at hj
    obtain rfl := List.mem_singleton.1 hj
    exact h.op hi⟩
/-- Two operations can come up. -/
theorem twoT {i j n : Nat} {L : Array Bool} {a : Act} {w : World} (hr : Region.ready md ops L = [i, j]) (hi : i < ops.size) (hj : j < ops.size) (h1 : StepT P md ops Q S T p n L a w i) (h2 : StepT P md ops Q S T p n L a w j) : wpTill P md ops Q S T p (n + 1) L a w :=
  ⟨fun h0 => absurd (hr.symm.trans h0) (by simp), fun k hk => by
    rw [hr] at hk
    rcases List.mem_cons.1 hk with rfl | hk
    · exact h1.op hi
    · obtain rfl := List.mem_singleton.1 hk
      exact h2.op hj⟩
/-- All have come up. -/
theorem doneT {n : Nat} {L : Array Bool} {a : Act} {w : World} (hr : Region.ready md ops L = []) (h : Q .normal a w) : wpTill P md ops Q S T p n L a w := by
  cases n with
  | zero => exact ⟨hr, h⟩
  | succ n => exact ⟨fun _ => h, fun i hi => by rw [hr] at hi; cases hi⟩
theorem region_till {id : Nat} {a : Act} {w : World} (S T : World → Prop) (p : Nat) (hm : P.follows .mixedOrders = true) (h : wpTill P .any ops Q S T p ops.size (Array.replicate ops.size false) a w.drew) : (Code.region id ops true).wp P Q a w :=
  wp_region_any hm (any_of_till _ _ _ _ h)
end
end Go.Proofs.Ytangnoicnogddaa.Tr
