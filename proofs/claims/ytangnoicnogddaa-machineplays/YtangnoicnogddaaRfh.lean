/- Files of the document's machine: what the contract of file wants. -/
import Derived.Test.YtangnoicnogddaaRd2
import Derived.Test.YtangnoicnogddaaRsa
namespace Go.Proofs.Ytangnoicnogddaa.Tr
open Go.RowKit

theorem ents_oneK {E : Nat → Prop} {w W : World} {e : Ent} {x : Xv} (he : EK E w e x) (hE : Fr (fun _ => False) w W) {j : Nat} (hb : Blk W j 39 x.cs) : Ents W (some ⟨j, 0, none⟩) [e] := fun _ => ⟨j, 0, rfl, fun i hi => by
  have h0 : i = 0 := by simp at hi; omega
  subst h0
  have k0 := hb.cell 0
  have k1 := hb.cell 1
  have k2 := hb.cell 2
  simp only [Xv.cs, List.getElem?_cons_zero, List.getElem?_cons_succ] at k0 k1 k2
  rw [he.p] at k0
  rw [he.k] at k1
  rw [he.l] at k2
  exact ⟨x.da, x.dc, k0, k1, k2, he.v.fr hE⟩⟩
theorem pos_map_lt {f : List Ent} {n : Nm} {i : Nat} (hi : i < f.length) (h : i < pos (paths f) n) : f[i].path < n := by
  have := pos_lt (l := paths f) (t := n) (i := i) (by unfold paths; rw [List.length_map]; exact hi) h
  simpa [paths] using this
theorem pos_map_ge {f : List Ent} {n : Nm} (h : pos (paths f) n < f.length) : ¬ f[pos (paths f) n].path < n := by
  have := pos_ge (l := paths f) (t := n) (by unfold paths at h ⊢; rw [List.length_map]; exact h)
  simpa [paths] using this
theorem isAt_map {f : List Ent} {n : Nm} {q : Nat} (hq : pos (paths f) n = q) (h : q < f.length) : isAt (paths f) n = decide (f[q].path = n) := by
  unfold isAt; rw [hq]
  have : (paths f)[q]? = some f[q].path := by simp [paths, h]
  rw [this]; simp
theorem isAt_map_no {f : List Ent} {n : Nm} {q : Nat} (hq : pos (paths f) n = q) (h : ¬ q < f.length) : isAt (paths f) n = false := by
  unfold isAt; rw [hq]
  have : (paths f)[q]? = none := by simp [paths]; omega
  rw [this]; simp
theorem rightB_one (e : Ent) : rightB [e] = oneB e := by simp [rightB, rightR]
theorem keepset {W : World} {b rb : Nat} {v x y z : Value} (hne : b ≠ rb) (h : W.cell? ⟨b, 0, none⟩ = some x ∧ W.cell? ⟨b, 1, none⟩ = some y ∧ W.cell? ⟨b, 2, none⟩ = some z) : (W.setCell ⟨rb, 0, none⟩ v).cell? ⟨b, 0, none⟩ = some x ∧ (W.setCell ⟨rb, 0, none⟩ v).cell? ⟨b, 1, none⟩ = some y ∧ (W.setCell ⟨rb, 0, none⟩ v).cell? ⟨b, 2, none⟩ = some z := by
  have hb : (W.setCell ⟨rb, 0, none⟩ v).heap[b]? = W.heap[b]? := Below.heap_setCell W _ _ b hne
  refine ⟨?_, ?_, ?_⟩
  · rw [World.cell?_of_block (w := W) hb]; exact h.1
  · rw [World.cell?_of_block (w := W) hb]; exact h.2.1
  · rw [World.cell?_of_block (w := W) hb]; exact h.2.2
end Go.Proofs.Ytangnoicnogddaa.Tr
