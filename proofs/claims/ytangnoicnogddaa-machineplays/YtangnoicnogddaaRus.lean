/- Rows of names cut. -/
import Derived.Test.YtangnoicnogddaaRst
namespace Go.Proofs.Ytangnoicnogddaa.Tr
open Go.RowKit

theorem bl_lt : ∀ a b : Nm, Op.bytesLess a b = decide (a < b)
  | [], [] => by simp [Op.bytesLess]
  | _ :: _, [] => by simp [Op.bytesLess]
  | [], _ :: _ => by simp [Op.bytesLess]
  | x :: a, y :: b => by
    rw [Op.bytesLess, bl_lt a b, Bool.eq_iff_iff]
    simp [List.cons_lt_cons_iff]
theorem own_fr0 {w W : World} {B t k n : Nat} {v : Value} {xs : List Value} (h : w.ownsRow B t k v n xs) (f : Fr (fun _ => False) w W) : W.ownsRow B t k v n xs := by
  refine ⟨h.1, ?_⟩
  rcases h.2 with h0 | ⟨g, cap, cur, hv, hB, hg, h2⟩
  · exact .inl h0
  · have hl : g < w.heap.size := (own_lt h g (by rw [hv]; rfl)).2
    exact .inr ⟨g, cap, cur, hv, hB, (f.block g hl (fun h => h)).trans hg, h2⟩
theorem strs_blk {W : World} {j : Nat} {n : Nm} (h : Blk W j 9 [.string ⟨n.toArray⟩]) : Strs W (some ⟨j, 0, none⟩) [n] := fun _ => ⟨_, _, rfl, fun i hi => by
  have : i = 0 := by simp at hi; omega
  subst this
  exact h.cell 0⟩
theorem Strs.take {W : World} {ad : Option Addr} {l : List Nm} (h : Strs W ad l) (k : Nat) : Strs W ad (l.take k) := fun hne => by
  obtain ⟨b, o, e, hc⟩ := h (fun e => hne (by rw [e]; simp))
  exact ⟨b, o, e, fun i hi => by rw [List.getElem_take]; exact hc i (by simp at hi; omega)⟩
theorem Strs.drop {W : World} {b o : Nat} {l : List Nm} (h : Strs W (some ⟨b, o, none⟩) l) (k : Nat) : Strs W (some ⟨b, o + k, none⟩) (l.drop k) := fun hne => by
  obtain ⟨b', o', e, hc⟩ := h (fun e => hne (by rw [e]; simp))
  cases e
  exact ⟨b, o + k, rfl, fun i hi => by rw [List.getElem_drop, Nat.add_assoc]; exact hc (k + i) (by simp at hi; omega)⟩
section
variable {E : Nat → Prop} {w : World} {rb : Nat} {s : St} {o : Ov} {pa : Option Addr} {pc : Nat} {XF : List Xv} {XR : List Uv}
theorem RI.endU (h : RI E w rb s o pa pc XF XR) {W : World} (f : Fr (fun _ => False) w W) {B n c : Nat} {a : Option Addr} {u' : List Nm} (ow : W.ownsRow B 9 1 (.slice a n c) u'.length (strC u')) (hB : w.heap.size ≤ B) :
    W.cell? ⟨rb, 1, none⟩ = some (.slice o.ua s.u.length o.uc) ∧ W.frozen? ⟨rb, 1, none⟩ = false ∧ Fr (fun k => k = rb) w (W.setCell ⟨rb, 1, none⟩ (.slice a n c)) ∧ RX (fun k => E k ∨ Bt w.heap.size (W.setCell ⟨rb, 1, none⟩ (.slice a n c)).heap.size k) (W.setCell ⟨rb, 1, none⟩ (.slice a n c)) rb { s with u := u' } := by
  have oc := own_cap ow
  refine ⟨(h.keep0 f).cells.2.1, (h.keep0 f).blk.frozen 1, (f.upO : Fr (fun k => k = rb) w W).setCell (p := ⟨rb, 1, none⟩) (.inl rfl) _, ?_⟩
  rw [sz_set]
  exact (h.grow f).setU oc.1 ((lies_own ow hB).mono (fun k hk => .inr hk)) oc.2
end
end Go.Proofs.Ytangnoicnogddaa.Tr
