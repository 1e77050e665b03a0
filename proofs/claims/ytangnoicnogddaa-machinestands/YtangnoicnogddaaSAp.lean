/- Appending bytes, and bytes as strings. -/
import Derived.Laws.Concat
import Derived.Test.YtangnoicnogddaaRpa
namespace Go.Proofs.Ytangnoicnogddaa.Tr
open Go.RowKit

theorem bs_at (l : List UInt8) (j : Nat) (h : j < l.length) : (bs l)[j]? = some (bv l[j]) := by
  unfold bs; rw [List.getElem?_map, List.getElem?_eq_getElem h]; rfl

theorem Src.nil (w : World) (ad : Option Addr) : Src w ad [] := fun h => absurd rfl h
theorem Src.fr {w w' : World} {ad : Option Addr} {b : List UInt8} (h : Src w ad b) (f : Fr (fun _ => False) w w') : Src w' ad b := by
  intro hb
  obtain ⟨bb, bo, e, hr⟩ := h hb
  refine ⟨bb, bo, e, fun j v hv => ?_⟩
  have hc := hr j v hv
  have hlt := World.block_lt_of_cell? w ⟨bb, bo + j, none⟩ hc
  rw [World.cell?_of_block (w := w) (f.block bb hlt (fun h => h))]
  exact hc

theorem info5 : (Try.prog.info? 5).map (fun i => (i.zero, i.size, i.bytes)) = some (some (.int .u8 0), 1, 1) := by kernel_rfl

/-- 'append(v, s...)' of bytes that may be none, onto a row of the call's own. -/
theorem wpList_append_bytes {ops : Array Oper} {rest : List Oper} {o : Oper} {a : Act} {W : World} {Q : Exit → Act → World → Prop} (hgd : o.guard = none) (d s : Operand)
    (ho : o.op = .call { callee := .builtin .append, args := #[d, s], argTypes := #[37, 37] }) (base n : Nat) (v : Value) (xs : List Value) (b : List UInt8) (ad : Option Addr) (cap : Nat)
    (hd : a.eval d = v) (hs : a.eval s = .slice ad b.length cap) (hown : W.ownsRow base 5 1 v n xs) (hbase : base ≤ W.heap.size) (hsz : n + b.length ≤ 140737488355328)
    (hsrc : b ≠ [] → ∃ bb bo, ad = some ⟨bb, bo, none⟩ ∧ W.rangeAt bb bo (bs b))
    (h : ∀ v' W', W'.ownsRow base 5 1 v' (n + b.length) (xs ++ bs b) → W.grownBy W' v.ownBlock → wpList Try.prog ops Q rest (a.put o.dst v') W') : wpList Try.prog ops Q (o :: rest) a W := by
  obtain ⟨i0, hi0, hz0, hz1, hz2⟩ := info_parts info5
  by_cases hb : b = []
  · subst hb
    have hl : ∀ (x : Addr), (loadCells x 0).run Try.prog W = .ok #[] W := fun x => by simpa using run_loadCells_list (P := Try.prog) W x [] (by simp)
    have hrun : (Builtin.append_ #[37, 37] o.type #[v, .slice ad 0 cap]).run Try.prog W = .ok v W := by
      rcases hown.2 with ⟨rfl, rfl⟩ | ⟨g, cap', cur, rfl, _, _, hnc, _⟩
      · cases ad <;> simp [Builtin.append_, run_underlying Try.underlying37, sizeOf, typeInfo, hi0, Builtin.lenOf, Builtin.firstCells, hl]
      · cases ad <;> simp [Builtin.append_, run_underlying Try.underlying37, sizeOf, typeInfo, hi0, Builtin.lenOf, Builtin.firstCells, hnc, storeCells, hl]
    refine wpList_plain hgd fun K hK => ?_
    unfold Oper.wp
    simp only [List.length_nil] at hs
    simp [execOp, ho, resolve, invoke, builtin, hd, hs, hrun, Result.andThen]
    exact hK _ _ (h v W (by simpa [bs] using hown) ⟨rfl, rfl, rfl, Nat.le_refl _, fun _ _ _ => rfl⟩)
  · obtain ⟨bb, bo, rfl, hr⟩ := hsrc hb
    have hpos : 0 < b.length := List.length_pos_iff.2 hb
    refine wpList_append_lies W hgd d s 37 ho base 5 i0 _ 1 1 Try.underlying37 hi0 hz0 hz1 hz2 rfl (by omega) v n xs hd hown ⟨bb, bo, none⟩ b.length cap (bs b) hs (by rw [bs_length]; omega) (fun j u hu => by rw [Addr.add_mid]; exact hr j u hu) (bs_one b) hpos (by unfold maxLen; omega) (by omega) hbase _ rfl ?_
    intro g cap' W' h1 h2 _ _
    exact h _ _ h1 h2

theorem owned_range {w : World} {base n : Nat} {v : Value} {b : List UInt8} (h : w.ownsRow base 5 1 v n (bs b)) (hb : b ≠ []) : ∃ g cap, v = .slice (some ⟨g, 0, none⟩) b.length cap ∧ base ≤ g ∧ g < w.heap.size ∧ w.rangeAt g 0 (bs b) := by
  have hl : b.length = n := by have := h.1; rw [bs_length] at this; omega
  subst hl
  obtain ⟨g, cap, rfl, h1, h2⟩ := h.form (List.length_pos_iff.2 hb)
  refine ⟨g, cap, rfl, h1, h2, fun j u hu => ?_⟩
  have := h.cells rfl j u hu
  rw [Addr.add_mid] at this
  exact this
theorem owned_form {w : World} {base n : Nat} {v : Value} {b : List UInt8} (h : w.ownsRow base 5 1 v n (bs b)) : ∃ ad cap, v = .slice ad b.length cap := by
  have hl : b.length = n := by have := h.1; rw [bs_length] at this; omega
  subst hl
  exact own_len h

/-- A row of the call's own, which has something. -/
theorem owned_src {w : World} {base n : Nat} {v : Value} {b : List UInt8} (h : w.ownsRow base 5 1 v n (bs b)) (hb : b ≠ []) :
    ∃ g cap cur, v = .slice (some ⟨g, 0, none⟩) b.length cap ∧ base ≤ g ∧ b.length ≤ cap ∧ cap ≤ maxLen ∧ w.heap[g]? = some (.cells cur 5 (0, 0)) ∧ cur.size = cap ∧ w.rangeAt g 0 (bs b) := by
  have hl : b.length = n := by have := h.1; rw [bs_length] at this; omega
  subst hl
  obtain ⟨g', cap', e', h1, h2, hr⟩ := owned_range h hb
  rcases h.2 with ⟨h0, h00⟩ | ⟨g, cap, cur, hv, hg, hc, hle, hm, hs, ht⟩
  · exact absurd (List.length_eq_zero_iff.1 h00) hb
  · rw [hv] at e'
    simp only [Value.slice.injEq, Option.some.injEq, Addr.mk.injEq] at e'
    obtain ⟨⟨rfl, _⟩, _, rfl⟩ := e'
    exact ⟨g, cap, cur, hv, hg, hle, hm, hc, by omega, hr⟩

theorem conv_bytes {w : World} {ad : Option Addr} {b : List UInt8} (h : Src w ad b) (cap : Nat) : (convert 37 9 (.slice ad b.length cap)).run Try.prog w = .ok (.string ⟨b.toArray⟩) w := by
  by_cases hb : b = []
  · subst hb
    cases ad with
    | none =>
      rw [run_convert_bytes_string w 37 9 5 none _ cap Try.underlying37 Try.underlying5 Try.underlying9]
      simp [Conv.bytesToString]
      rfl
    | some a => exact run_convert_bytes_back (P := Try.prog) w 37 9 5 a cap [] Try.underlying37 Try.underlying5 Try.underlying9 (fun j hj => by simp at hj)
  · obtain ⟨bb, bo, rfl, hr⟩ := h hb
    exact run_convert_bytes_back (P := Try.prog) w 37 9 5 ⟨bb, bo, none⟩ cap b Try.underlying37 Try.underlying5 Try.underlying9 (fun j hj => by
      rw [Addr.add_mid]; exact hr j _ (bs_at b j hj))

end Go.Proofs.Ytangnoicnogddaa.Tr
