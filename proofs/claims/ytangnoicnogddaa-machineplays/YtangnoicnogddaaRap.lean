/- Appends of units and of entries, as steps; rows of the document's machine. -/
import Derived.Test.YtangnoicnogddaaRat
namespace Go.Proofs.Ytangnoicnogddaa.Tr
open Go.RowKit

theorem wp_app_U {o : Oper} {a : Act} {W : World} {K : Act → World → Prop} {Q : Exit → Act → World → Prop} (d s : Operand) (ho : o.op = .call { callee := .builtin .append, args := #[d, s], argTypes := #[31, 31] })
    (base : Nat) (v : Value) (X Y : List Uv) (ad : Option Addr) (cap : Nat) (hd : a.eval d = v) (hs : a.eval s = .slice ad Y.length cap) (hown : W.ownsRow base 41 4 v X.length (flatU X)) (hsrc : Y ≠ [] → ∃ bb bo, ad = some ⟨bb, bo, none⟩ ∧ ∀ q u, (flatU Y)[q]? = some u → W.cell? ⟨bb, bo + q, none⟩ = some u) (hb : base ≤ W.heap.size) (hl : X.length + Y.length ≤ 1000000)
    (h : ∀ v' W', W'.ownsRow base 41 4 v' (X ++ Y).length (flatU (X ++ Y)) → W.grownBy W' v.ownBlock → (∀ k, v'.ownBlock = some k → v.ownBlock = some k ∨ W.heap.size ≤ k) → K (a.put o.dst v') W') : o.wp Try.prog a W K Q := by
  obtain ⟨i0, hi0, hz0, hz1, hz2⟩ := info_parts infoU
  by_cases hy : Y = []
  · subst hy
    have hl : ∀ (x : Addr), (loadCells x 0).run Try.prog W = .ok #[] W := fun x => by simpa using run_loadCells_list (P := Try.prog) W x [] (by simp)
    have hrun : (Builtin.append_ #[31, 31] o.type #[v, .slice ad 0 cap]).run Try.prog W = .ok v W := by
      rcases hown.2 with ⟨rfl, h00⟩ | ⟨g, cap', cur, rfl, _, _, hnc, _⟩
      · cases ad <;> simp [Builtin.append_, run_underlying Try.underlying31, sizeOf, typeInfo, hi0, Builtin.lenOf, Builtin.firstCells, hl]
      · cases ad <;> simp [Builtin.append_, run_underlying Try.underlying31, sizeOf, typeInfo, hi0, Builtin.lenOf, Builtin.firstCells, hnc, storeCells, hl]
    unfold Oper.wp
    simp only [List.length_nil] at hs
    simp [execOp, ho, resolve, invoke, builtin, hd, hs, hrun, Result.andThen]
    exact (h v W (by simpa using hown) ⟨rfl, rfl, rfl, Nat.le_refl _, fun _ _ _ => rfl⟩ (fun k hk => .inl hk))
  · obtain ⟨bb, bo, rfl, hr⟩ := hsrc hy
    have hpos : 0 < Y.length := List.length_pos_iff.2 hy
    refine wp_append_lies W d s 31 ho base 41 i0 _ 4 80 Try.underlying31 hi0 hz0 hz1 hz2 rfl (by omega) v X.length (flatU X) hd hown ⟨bb, bo, none⟩ Y.length cap (flatU Y) hs (by rw [flatU_len]) (fun j u hu => by rw [Addr.add_mid]; exact hr j u hu) (flatU_one Y) hpos (by unfold maxLen; omega) (by omega) hb _ rfl ?_
    intro g cap' W' h1 h2 h3 h4
    refine h _ _ ?_ h2 ?_
    · rw [List.length_append, flatU_app]
      exact h1
    · intro k hk
      cases hk
      rcases h3 with h3 | h3
      · exact .inl h3
      · exact .inr (by rw [h3]; exact Nat.le_refl _)
theorem step_app_U {ops : Array Oper} {o : Oper} {a : Act} {W : World} {K : Act → World → Prop} {Q : Exit → Act → World → Prop} {E : Prop} (hgd : o.guard = none) (d s : Operand) (ho : o.op = .call { callee := .builtin .append, args := #[d, s], argTypes := #[31, 31] })
    (base : Nat) (v : Value) (X Y : List Uv) (ad : Option Addr) (cap : Nat) (hd : a.eval d = v) (hs : a.eval s = .slice ad Y.length cap) (hown : W.ownsRow base 41 4 v X.length (flatU X)) (hsrc : Y ≠ [] → ∃ bb bo, ad = some ⟨bb, bo, none⟩ ∧ ∀ q u, (flatU Y)[q]? = some u → W.cell? ⟨bb, bo + q, none⟩ = some u) (hb : base ≤ W.heap.size) (hl : X.length + Y.length ≤ 1000000)
    (h : ∀ v' W', W'.ownsRow base 41 4 v' (X ++ Y).length (flatU (X ++ Y)) → W.grownBy W' v.ownBlock → (∀ k, v'.ownBlock = some k → v.ownBlock = some k ∨ W.heap.size ≤ k) → K (a.put o.dst v') W') : if Region.wanted o (yielded ops a.tmps) = true then Oper.wp Try.prog o a W K Q else E := by
  have hw : Region.wanted o (yielded ops a.tmps) = true := by simp [Region.wanted, hgd]
  rw [if_pos hw]
  exact wp_app_U d s ho base v X Y ad cap hd hs hown hsrc hb hl h
theorem wp_app_E {o : Oper} {a : Act} {W : World} {K : Act → World → Prop} {Q : Exit → Act → World → Prop} (d s : Operand) (ho : o.op = .call { callee := .builtin .append, args := #[d, s], argTypes := #[29, 29] })
    (base : Nat) (v : Value) (X Y : List Xv) (ad : Option Addr) (cap : Nat) (hd : a.eval d = v) (hs : a.eval s = .slice ad Y.length cap) (hown : W.ownsRow base 39 3 v X.length (flatE X)) (hsrc : Y ≠ [] → ∃ bb bo, ad = some ⟨bb, bo, none⟩ ∧ ∀ q u, (flatE Y)[q]? = some u → W.cell? ⟨bb, bo + q, none⟩ = some u) (hb : base ≤ W.heap.size) (hl : X.length + Y.length ≤ 1000000)
    (h : ∀ v' W', W'.ownsRow base 39 3 v' (X ++ Y).length (flatE (X ++ Y)) → W.grownBy W' v.ownBlock → (∀ k, v'.ownBlock = some k → v.ownBlock = some k ∨ W.heap.size ≤ k) → K (a.put o.dst v') W') : o.wp Try.prog a W K Q := by
  obtain ⟨i0, hi0, hz0, hz1, hz2⟩ := info_parts infoE
  by_cases hy : Y = []
  · subst hy
    have hl : ∀ (x : Addr), (loadCells x 0).run Try.prog W = .ok #[] W := fun x => by simpa using run_loadCells_list (P := Try.prog) W x [] (by simp)
    have hrun : (Builtin.append_ #[29, 29] o.type #[v, .slice ad 0 cap]).run Try.prog W = .ok v W := by
      rcases hown.2 with ⟨rfl, h00⟩ | ⟨g, cap', cur, rfl, _, _, hnc, _⟩
      · cases ad <;> simp [Builtin.append_, run_underlying Try.underlying29, sizeOf, typeInfo, hi0, Builtin.lenOf, Builtin.firstCells, hl]
      · cases ad <;> simp [Builtin.append_, run_underlying Try.underlying29, sizeOf, typeInfo, hi0, Builtin.lenOf, Builtin.firstCells, hnc, storeCells, hl]
    unfold Oper.wp
    simp only [List.length_nil] at hs
    simp [execOp, ho, resolve, invoke, builtin, hd, hs, hrun, Result.andThen]
    exact (h v W (by simpa using hown) ⟨rfl, rfl, rfl, Nat.le_refl _, fun _ _ _ => rfl⟩ (fun k hk => .inl hk))
  · obtain ⟨bb, bo, rfl, hr⟩ := hsrc hy
    have hpos : 0 < Y.length := List.length_pos_iff.2 hy
    refine wp_append_lies W d s 29 ho base 39 i0 _ 3 48 Try.underlying29 hi0 hz0 hz1 hz2 rfl (by omega) v X.length (flatE X) hd hown ⟨bb, bo, none⟩ Y.length cap (flatE Y) hs (by rw [flatE_len]) (fun j u hu => by rw [Addr.add_mid]; exact hr j u hu) (flatE_one Y) hpos (by unfold maxLen; omega) (by omega) hb _ rfl ?_
    intro g cap' W' h1 h2 h3 h4
    refine h _ _ ?_ h2 ?_
    · rw [List.length_append, flatE_app]
      exact h1
    · intro k hk
      cases hk
      rcases h3 with h3 | h3
      · exact .inl h3
      · exact .inr (by rw [h3]; exact Nat.le_refl _)
theorem step_app_E {ops : Array Oper} {o : Oper} {a : Act} {W : World} {K : Act → World → Prop} {Q : Exit → Act → World → Prop} {E : Prop} (hgd : o.guard = none) (d s : Operand) (ho : o.op = .call { callee := .builtin .append, args := #[d, s], argTypes := #[29, 29] })
    (base : Nat) (v : Value) (X Y : List Xv) (ad : Option Addr) (cap : Nat) (hd : a.eval d = v) (hs : a.eval s = .slice ad Y.length cap) (hown : W.ownsRow base 39 3 v X.length (flatE X)) (hsrc : Y ≠ [] → ∃ bb bo, ad = some ⟨bb, bo, none⟩ ∧ ∀ q u, (flatE Y)[q]? = some u → W.cell? ⟨bb, bo + q, none⟩ = some u) (hb : base ≤ W.heap.size) (hl : X.length + Y.length ≤ 1000000)
    (h : ∀ v' W', W'.ownsRow base 39 3 v' (X ++ Y).length (flatE (X ++ Y)) → W.grownBy W' v.ownBlock → (∀ k, v'.ownBlock = some k → v.ownBlock = some k ∨ W.heap.size ≤ k) → K (a.put o.dst v') W') : if Region.wanted o (yielded ops a.tmps) = true then Oper.wp Try.prog o a W K Q else E := by
  have hw : Region.wanted o (yielded ops a.tmps) = true := by simp [Region.wanted, hgd]
  rw [if_pos hw]
  exact wp_app_E d s ho base v X Y ad cap hd hs hown hsrc hb hl h
end Go.Proofs.Ytangnoicnogddaa.Tr
