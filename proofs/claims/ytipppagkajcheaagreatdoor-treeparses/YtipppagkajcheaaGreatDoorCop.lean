/- The contract of copied. -/
import Derived.Test.YtipppagkajcheaaGreatDoorShw
import Derived.OwnWalk
namespace Go.Proofs.YtipppagkajcheaaGreatDoor.Tr
open Go.RowKit

theorem infoE : (Tryz.prog.info? 36).map (fun i => (i.zero, i.size, i.bytes)) = some (some (.agg #[.string ⟨#[]⟩, .int .i64 0, .slice none 0 0]), 3, 48) := by kernel_rfl
abbrev Mv := Option Addr × Nat
def entC (x : Ent) (m : Mv) : List Value := [.string ⟨x.path.toArray⟩, .int .i64 x.kind, .slice m.1 x.data.length m.2]
def entsC : List Ent → List Mv → List Value
  | x :: r, m :: s => entC x m ++ entsC r s
  | _, _ => []
theorem entsC_snoc : ∀ (A : List Ent) (M : List Mv) (x : Ent) (m : Mv), M.length = A.length → entsC (A ++ [x]) (M ++ [m]) = entsC A M ++ entC x m
  | [], [], x, m, _ => by simp [entsC]
  | [], _ :: _, _, _, h => absurd h (by simp)
  | _ :: _, [], _, _, h => absurd h (by simp)
  | a :: A, b :: M, x, m, h => by
    simp only [List.cons_append, entsC]
    rw [entsC_snoc A M x m (by simpa using h), List.append_assoc]
theorem entsC_len : ∀ (A : List Ent) (M : List Mv), M.length = A.length → (entsC A M).length = A.length * 3
  | [], [], _ => rfl
  | [], _ :: _, h => absurd h (by simp)
  | _ :: _, [], h => absurd h (by simp)
  | a :: A, b :: M, h => by
    rw [entsC, List.length_append, entsC_len A M (by simpa using h)]
    simp [entC]; omega
theorem entsC_at : ∀ (A : List Ent) (M : List Mv) (hl : M.length = A.length) (i : Nat) (h : i < A.length), (entsC A M)[i * 3]? = some (.string ⟨A[i].path.toArray⟩) ∧ (entsC A M)[i * 3 + 1]? = some (.int .i64 A[i].kind) ∧ (entsC A M)[i * 3 + 2]? = some (.slice (M[i]'(by omega)).1 A[i].data.length (M[i]'(by omega)).2)
  | [], _, _, i, h => absurd h (by simp)
  | _ :: _, [], h, _, _ => absurd h (by simp)
  | a :: A, b :: M, hl, 0, _ => by simp [entsC, entC]
  | a :: A, b :: M, hl, i + 1, h => by
    have ih := entsC_at A M (by simpa using hl) i (by simpa using h)
    have e : ∀ j, (entsC (a :: A) (b :: M))[3 + j]? = (entsC A M)[j]? := fun j => by
      rw [entsC, List.getElem?_append_right (by simp [entC])]
      congr 1
      simp [entC]
    have e0 : (i + 1) * 3 = 3 + i * 3 := by omega
    rw [e0, Nat.add_assoc, Nat.add_assoc, e, e, e]
    simpa using ih

/-- An entry's bytes in a row of their own. -/
def DOwn (B : Nat) (W : World) (x : Ent) (m : Mv) : Prop := W.ownsRow B 5 1 (.slice m.1 x.data.length m.2) x.data.length (bs x.data)
theorem DOwn.cap {B : Nat} {W : World} {x : Ent} {m : Mv} (h : DOwn B W x m) : x.data.length ≤ m.2 := by
  obtain ⟨p, q⟩ := m
  rcases h.2 with ⟨h0, h1⟩ | ⟨g, cap, cur, h0, _, _, hn, _⟩
  · omega
  · cases h0; exact hn
theorem DOwn.fr {B : Nat} {W W' : World} {x : Ent} {m : Mv} (h : DOwn B W x m) (f : Fr (fun _ => False) W W') : DOwn B W' x m :=
  owns_of_eq h (fun k hk => f.block k (h.lt k hk).2 (fun h => h))
/-- A change of a block that holds no bytes leaves it. -/
theorem DOwn.tag {B : Nat} {W W' : World} {x : Ent} {m : Mv} (h : DOwn B W x m) {r : Option Nat} (g : W.grownBy W' r) (ht : ∀ k, r = some k → ∃ cs, W.heap[k]? = some (.cells cs 36 (0, 0))) : DOwn B W' x m := by
  refine owns_of_eq h (fun k hk => g.block k (h.lt k hk).2 (fun e => ?_))
  obtain ⟨cs, hc⟩ := ht k e.symm
  rcases h.2 with ⟨h0, _⟩ | ⟨g', cap, cur, h0, _, hg, _⟩
  · rw [h0] at hk; cases hk
  · rw [h0] at hk; cases hk
    rw [hg] at hc
    cases hc
/-- What is copied so far. -/
structure Cop (w W : World) (L : List Ent) (i : Nat) (v : Value) : Prop where
  f : Fr (fun _ => False) w W
  own : ∃ M : List Mv, M.length = i ∧ W.ownsRow w.heap.size 36 3 v i (entsC (L.take i) M) ∧ ∀ j (hj : j < M.length) (hl : j < L.length), DOwn w.heap.size W L[j] M[j]
theorem Cop.tag {w W : World} {i : Nat} {v : Value} {xs : List Value} (h : W.ownsRow w.heap.size 36 3 v i xs) : ∀ k, v.ownBlock = some k → ∃ cs, W.heap[k]? = some (.cells cs 36 (0, 0)) := by
  intro k hk
  rcases h.2 with ⟨rfl, _⟩ | ⟨g, cap, cur, rfl, _, hg, _⟩
  · cases hk
  · cases hk; exact ⟨cur, hg⟩
/-- At the end: the entries, in memory of their own. -/
theorem Cop.ents {w W : World} {L : List Ent} {v : Value} (h : Cop w W L L.length v) (hb : ∀ x ∈ L, x.path.length ≤ 140737488351232 ∧ x.data.length ≤ 140737488351232 ∧ -9223372036854775808 ≤ x.kind ∧ x.kind ≤ 9223372036854775807) : ∃ ad cap, v = .slice ad L.length cap ∧ L.length ≤ cap ∧ Ents W ad L := by
  obtain ⟨M, hM, ho, hd⟩ := h.own
  rw [List.take_length] at ho
  rcases ho.2 with ⟨rfl, h0⟩ | ⟨g, cap, cur, rfl, hg1, hg, hn, hm, hs, ht⟩
  · exact ⟨none, 0, by rw [h0], by omega, fun hne => absurd (List.eq_nil_of_length_eq_zero h0) hne⟩
  · refine ⟨_, cap, rfl, hn, fun _ => ⟨g, 0, rfl, fun i hi => ?_⟩⟩
    have hc : ∀ j u, (entsC L M)[j]? = some u → W.cell? ⟨g, j, none⟩ = some u := fun j u hu => by
      rw [cell_of_row W g j cur 36 (0, 0) hg]
      rw [← ht, List.getElem?_take] at hu
      split at hu
      · simpa using hu
      · cases hu
    obtain ⟨e1, e2, e3⟩ := entsC_at L M hM i hi
    have hD := hd i (by omega) hi
    obtain ⟨b1, b2, b3, b4⟩ := hb L[i] (List.getElem_mem _)
    refine ⟨_, _, ?_, ?_, ?_, ⟨src_own hD, hD.cap, b2, b1, b3, b4⟩⟩
    · rw [Nat.zero_add]; exact hc _ _ e1
    · rw [Nat.zero_add]; exact hc _ _ e2
    · rw [Nat.zero_add]; exact hc _ _ e3

end Go.Proofs.YtipppagkajcheaaGreatDoor.Tr
