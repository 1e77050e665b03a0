/- What came out of Order may be written to: its row and its lists, while they are filled with other things. -/
import Derived.Test.YtcpeebkfnnkjnaaDoorUoq
import Derived.Test.YtcpeebkfnnkjnaaDoorUco
namespace Go.Proofs.YtcpeebkfnnkjnaaDoor.Tr
open Go.RowKit Go.Maps

structure Iw (wr : World) (X : List Uv) (rb i : Nat) (wx : World) : Prop where
  fr : Fr (fun _ => False) wr wx
  ge : wr.heap.size ≤ rb
  row : ∃ L, Blk wx rb 32 L ∧ X.length * 4 ≤ L.length ∧ ∀ q (h : q < X.length), i ≤ q → ∀ j, j < 4 → L[q * 4 + j]? = X[q].cs[j]?
  lw : ∀ x ∈ X, Lw wx wr.heap.size x.ra x.rl ∧ Lw wx wr.heap.size x.aa x.al
theorem Iw.start {wr wx : World} {X : List Uv} {out : List Ut} {v : Value} (f : Fr (fun _ => False) wr wx) (h : Ot wr.heap.size wx out v X) (hX : 0 < X.length) : ∃ rb cap, v = .slice (some ⟨rb, 0, none⟩) X.length cap ∧ Iw wr X rb 0 wx := by
  have ho := h.own
  rcases ho.2 with ⟨_, h0⟩ | ⟨g, c, cur, e, hb, hg, hnc, _, hcs, ht⟩
  · omega
  · refine ⟨g, c, e, f, hb, ⟨cur.toList, ?_, ?_, fun q hq _ j hj => ?_⟩, h.lw⟩
    · show wx.heap[g]? = some (.cells cur.toList.toArray _ (0, 0))
      rw [Array.toArray_toList]; exact hg
    · have h3 : cur.toList.length = cur.size := Array.length_toList
      omega
    · have h1 := flatU_at X q j hq hj
      rw [← h1, ← ht, List.getElem?_take, if_pos (by omega)]
theorem Iw.cells {wr wx : World} {X : List Uv} {rb i : Nat} (h : Iw wr X rb i wx) (hi : i < X.length) : fourB wx rb (i * 4) X[i] := by
  obtain ⟨L, hB, _, hL⟩ := h.row
  have h4 : ∀ j, j < 4 → wx.cell? ⟨rb, i * 4 + j, none⟩ = X[i].cs[j]? := fun j hj => by rw [hB.cell, hL i hi (Nat.le_refl _) j hj]
  exact ⟨h4 0 (by omega), h4 1 (by omega), h4 2 (by omega), h4 3 (by omega)⟩
theorem Lw.at {W : World} {B n k : Nat} {ad : Option Addr} (h : Lw W B ad n) (hk : k < n) : ∃ g cur c, ad = some ⟨g, 0, none⟩ ∧ B ≤ g ∧ W.heap[g]? = some (.cells cur 9 (0, 0)) ∧ W.cell? ⟨g, k, none⟩ = some c ∧ W.frozen? ⟨g, k, none⟩ = false := by
  obtain ⟨g, cur, e, hb, hg, hn⟩ := h (by omega)
  have hB : Blk W g 9 cur.toList := by
    show W.heap[g]? = some (.cells cur.toList.toArray _ (0, 0))
    rw [Array.toArray_toList]; exact hg
  have hkl : k < cur.toList.length := by rw [Array.length_toList]; omega
  exact ⟨g, cur, cur.toList[k], e, hb, hg, by rw [hB.cell, List.getElem?_eq_getElem hkl], hB.frozen k⟩
theorem lw_put {W : World} {B n g k : Nat} {ad : Option Addr} {v : Value} (h : Lw W B ad n) : Lw (W.setCell ⟨g, k, none⟩ v) B ad n := fun hn => by
  obtain ⟨g', cur, e, hb, hg, hl⟩ := h hn
  by_cases e2 : g' = g
  · subst e2
    have hB : Blk W g' 9 cur.toList := by
      show W.heap[g']? = some (.cells cur.toList.toArray _ (0, 0))
      rw [Array.toArray_toList]; exact hg
    have := hB.setCell k v
    exact ⟨g', (cur.toList.set k v).toArray, e, hb, this, by simp; omega⟩
  · exact ⟨g', cur, e, hb, (Below.heap_setCell W ⟨g, k, none⟩ v g' e2).trans hg, hl⟩
theorem Iw.put {wr wx : World} {X : List Uv} {rb i g k : Nat} {cur : Array Value} (h : Iw wr X rb i wx) (hg : wx.heap[g]? = some (.cells cur 9 (0, 0))) (hb : wr.heap.size ≤ g) (v : Value) : Iw wr X rb i (wx.setCell ⟨g, k, none⟩ v) := by
  obtain ⟨L, hB, h1, h2⟩ := h.row
  have hne : rb ≠ g := fun e => by
    have h' : wx.heap[rb]? = some (.cells L.toArray 32 (0, 0)) := hB
    rw [e, hg] at h'
    cases h'
  exact ⟨h.fr.setCell (.inr hb) v, h.ge, ⟨L, hB.setCell_ne hne v, h1, h2⟩, fun x hx => ⟨lw_put (h.lw x hx).1, lw_put (h.lw x hx).2⟩⟩
theorem Iw.zero {wr wx : World} {X : List Uv} {rb i : Nat} {vs : List Value} (h : Iw wr X rb i wx) (hi : i < X.length) (hv : vs.length = 4) : Iw wr X rb (i + 1) (wx.setCells rb (i * 4) vs) := by
  obtain ⟨L, hB, h1, h2⟩ := h.row
  have hB2 := hB.setCells vs (i * 4) (by omega)
  have hty : ∀ {ad : Option Addr} {n : Nat}, Lw wx wr.heap.size ad n → Lw (wx.setCells rb (i * 4) vs) wr.heap.size ad n := fun hl hn => by
    obtain ⟨g', cur, e, hb, hg, hl2⟩ := hl hn
    have hne : g' ≠ rb := fun e2 => by
      have h' : wx.heap[rb]? = some (.cells L.toArray 32 (0, 0)) := hB
      rw [← e2, hg] at h'
      cases h'
    exact ⟨g', cur, e, hb, (setCells_ne vs _ wx hne).trans hg, hl2⟩
  refine ⟨h.fr.setCells (.inr h.ge) _ _, h.ge, ⟨_, hB2, ?_, fun q hq hiq j hj => ?_⟩, fun x hx => ⟨hty (h.lw x hx).1, hty (h.lw x hx).2⟩⟩
  · unfold splice
    simp only [List.length_append, List.length_take, List.length_drop]
    omega
  · rw [← hB2.cell, World.cell?_setCells_out rb vs (i * 4) wx ⟨rb, q * 4 + j, none⟩ (fun _ _ => .inr (by show i * 4 + vs.length ≤ q * 4 + j; omega)), hB.cell, h2 q hq (by omega) j hj]
theorem Iw.there {wr wx : World} {X : List Uv} {rb i : Nat} (h : Iw wr X rb i wx) (hi : i < X.length) : wx.there rb (i * 4) 4 := by
  obtain ⟨L, hB, h1, _⟩ := h.row
  exact hB.there (i * 4) 4 (by omega)
theorem Iw.store {wr wx : World} {X : List Uv} {rb i : Nat} (h : Iw wr X rb i wx) (hi : i < X.length) : (Instr.storeAt 32 (.pointer (some ⟨rb, i * 4, none⟩)) uZ.v).run Tryd.prog wx = .ok () (wx.setCells rb (i * 4) uZ.cs) := by
  have h := run_storeAt_mid (P := Tryd.prog) wx rb (i * 4) 32 uZ.cs.toArray (h.there hi) sizeU (all_oneCell_toArray (uv_one uZ))
  rw [show uZ.v = .agg uZ.cs.toArray from rfl]
  simpa using h
theorem sets_uZ (W : World) (rb o : Nat) : W.setCells rb o uZ.cs = (((W.setCell ⟨rb, o, none⟩ (.string ⟨#[]⟩)).setCell ⟨rb, o + 1, none⟩ (.string ⟨#[]⟩)).setCell ⟨rb, o + 2, none⟩ (.slice none 0 0)).setCell ⟨rb, o + 3, none⟩ (.slice none 0 0) := rfl
end Go.Proofs.YtcpeebkfnnkjnaaDoor.Tr
