/- The contract of the document's Do, kind 2: a file is removed. -/
import Derived.Test.YtangnoicnogddaaRd3
namespace Go.Proofs.Ytangnoicnogddaa.Tr
open Go.RowKit

theorem wpList_app_E {ops : Array Oper} {rest : List Oper} {o : Oper} {a : Act} {W : World} {Q : Exit → Act → World → Prop} (hgd : o.guard = none) (d s : Operand) (ho : o.op = .call { callee := .builtin .append, args := #[d, s], argTypes := #[29, 29] })
    (base : Nat) (v : Value) (X Y : List Xv) (ad : Option Addr) (cap : Nat) (hd : a.eval d = v) (hs : a.eval s = .slice ad Y.length cap) (hown : W.ownsRow base 39 3 v X.length (flatE X)) (hsrc : Y ≠ [] → ∃ bb bo, ad = some ⟨bb, bo, none⟩ ∧ ∀ q u, (flatE Y)[q]? = some u → W.cell? ⟨bb, bo + q, none⟩ = some u) (hb : base ≤ W.heap.size) (hl : X.length + Y.length ≤ 1000000)
    (h : ∀ v' W', W'.ownsRow base 39 3 v' (X ++ Y).length (flatE (X ++ Y)) → W.grownBy W' v.ownBlock → (∀ k, v'.ownBlock = some k → v.ownBlock = some k ∨ W.heap.size ≤ k) → wpList Try.prog ops Q rest (a.put o.dst v') W') : wpList Try.prog ops Q (o :: rest) a W := by
  obtain ⟨i0, hi0, hz0, hz1, hz2⟩ := info_parts infoE
  by_cases hy : Y = []
  · subst hy
    have hl : ∀ (x : Addr), (loadCells x 0).run Try.prog W = .ok #[] W := fun x => by simpa using run_loadCells_list (P := Try.prog) W x [] (by simp)
    have hrun : (Builtin.append_ #[29, 29] o.type #[v, .slice ad 0 cap]).run Try.prog W = .ok v W := by
      rcases hown.2 with ⟨rfl, h00⟩ | ⟨g, cap', cur, rfl, _, _, hnc, _⟩
      · cases ad <;> simp [Builtin.append_, run_underlying Try.underlying29, sizeOf, typeInfo, hi0, Builtin.lenOf, Builtin.firstCells, hl]
      · cases ad <;> simp [Builtin.append_, run_underlying Try.underlying29, sizeOf, typeInfo, hi0, Builtin.lenOf, Builtin.firstCells, hnc, storeCells, hl]
    refine wpList_plain hgd fun K hK => ?_
    unfold Oper.wp
    simp only [List.length_nil] at hs
    simp [execOp, ho, resolve, invoke, builtin, hd, hs, hrun, Result.andThen]
    exact hK _ _ (h v W (by simpa using hown) ⟨rfl, rfl, rfl, Nat.le_refl _, fun _ _ _ => rfl⟩ (fun k hk => .inl hk))
  · obtain ⟨bb, bo, rfl, hr⟩ := hsrc hy
    have hpos : 0 < Y.length := List.length_pos_iff.2 hy
    refine wpList_append_lies W hgd d s 29 ho base 39 i0 _ 3 48 Try.underlying29 hi0 hz0 hz1 hz2 rfl (by omega) v X.length (flatE X) hd hown ⟨bb, bo, none⟩ Y.length cap (flatE Y) hs (by rw [flatE_len]) (fun j u hu => by rw [Addr.add_mid]; exact hr j u hu) (flatE_one Y) hpos (by unfold maxLen; omega) (by omega) hb _ rfl ?_
    intro g cap' W' h1 h2 h3 h4
    refine h _ _ ?_ h2 ?_
    · rw [List.length_append, flatE_app]
      exact h1
    · intro k hk
      cases hk
      rcases h3 with h3 | h3
      · exact .inl h3
      · exact .inr (by rw [h3]; exact Nat.le_refl _)

theorem entry_src {W : World} {j : Nat} {x : Xv} (h : Blk W j 39 x.cs) : [x] ≠ [] → ∃ bb bo, (some (⟨j, 0, none⟩ : Addr)) = some ⟨bb, bo, none⟩ ∧ ∀ q u, (flatE [x])[q]? = some u → W.cell? ⟨bb, bo + q, none⟩ = some u := fun _ => ⟨j, 0, rfl, fun q u hq => by
  rw [Nat.zero_add]
  exact (h.cell q).trans (by simpa [flatE] using hq)⟩
section
variable {E : Nat → Prop} {w : World} {rb : Nat} {s : St} {o : Ov} {pa : Option Addr} {pc : Nat} {XF : List Xv} {XR : List Uv}
theorem RI.endF (h : RI E w rb s o pa pc XF XR) {W : World} (f : Fr (fun _ => False) w W) {B n c : Nat} {a : Option Addr} {f' : List Ent} {X' : List Xv} (ow : W.ownsRow B 39 3 (.slice a n c) X'.length (flatE X')) (hB : w.heap.size ≤ B) (hX : X'.length = f'.length) (he : ∀ i (h1 : i < f'.length) (h2 : i < X'.length), EK (fun k => E k ∨ Bt w.heap.size W.heap.size k) W f'[i] X'[i]) :
    W.cell? ⟨rb, 0, none⟩ = some (.slice o.fa s.f.length o.fc) ∧ W.frozen? ⟨rb, 0, none⟩ = false ∧ Fr (fun k => k = rb) w (W.setCell ⟨rb, 0, none⟩ (.slice a n c)) ∧ RX (fun k => E k ∨ Bt w.heap.size (W.setCell ⟨rb, 0, none⟩ (.slice a n c)).heap.size k) (W.setCell ⟨rb, 0, none⟩ (.slice a n c)) rb { s with f := f' } := by
  have oc := own_cap ow
  refine ⟨(h.keep0 f).cells.1, (h.keep0 f).blk.frozen 0, (f.upO : Fr (fun k => k = rb) w W).setCell (p := ⟨rb, 0, none⟩) (.inl rfl) _, ?_⟩
  rw [sz_set]
  exact (h.grow f).setF (oc.1.trans hX) ((lies_own ow hB).mono (fun k hk => .inr hk)) hX he (by rw [← hX]; exact oc.2)
theorem RI.fcell (h : RI E w rb s o pa pc XF XR) {i : Nat} (hi : i < s.f.length) : ∃ (hx : i < XF.length) (bb bo : Nat), o.fa = some ⟨bb, bo, none⟩ ∧ (∀ W, Fr (fun _ => False) w W → W.cell? ⟨bb, bo + i * 3, none⟩ = some (.string ⟨XF[i].p.toArray⟩) ∧ W.cell? ⟨bb, bo + i * 3 + 1, none⟩ = some (.int .i64 XF[i].k) ∧ W.cell? ⟨bb, bo + i * 3 + 2, none⟩ = some (.slice XF[i].da XF[i].dl XF[i].dc)) ∧ EK E w s.f[i] XF[i] := by
  have hx : i < XF.length := by rw [h.fl]; exact hi
  obtain ⟨bb, bo, e, _, hc⟩ := h.f (fun e => by have := flatE_len XF; rw [e] at this; simp at this; omega)
  have hcc : ∀ j v, (XF[i]).cs[j]? = some v → w.cell? ⟨bb, bo + i * 3 + j, none⟩ = some v := fun j v hv => by
    have := hc (i * 3 + j) v (by rw [flatE_at XF i j hx (List.getElem?_eq_some_iff.1 hv).1]; exact hv)
    rw [← Nat.add_assoc] at this; exact this
  exact ⟨hx, bb, bo, e, fun W f => ⟨cell_fr f (hcc 0 _ rfl), cell_fr f (hcc 1 _ rfl), cell_fr f (hcc 2 _ rfl)⟩, h.fe i hi hx⟩
set_option maxRecDepth 100000 in
set_option maxHeartbeats 8000000 in
theorem rdo2_any (h : RI E w rb s o pa pc XF XR) (hs : s.ok) (z : Zv) (h2 : z.k = 2) :
    Calls Try.prog 14 #[.pointer (some ⟨rb, 0, none⟩), z.v] w fun e w' => RPost E w rb (removeF s z.n, 0) e w' := by
  rw [filter_remove hs]
  have hfl := hs.fl
  have HEnd := hid (fun (W : World) (f : Fr (fun _ => False) w W) (a : Option Addr) (m c B : Nat) (hB : w.heap.size ≤ B) (f' : List Ent) (X' : List Xv) (ow : W.ownsRow B 39 3 (.slice a m c) X'.length (flatE X')) (hX : X'.length = f'.length) (he : ∀ i (h1 : i < f'.length) (h2 : i < X'.length), EK E w f'[i] X'[i]) => h.endF f ow hB hX (fun i h1 h2 => ((he i h1 h2).on (h.on f)).mono (fun _ => .inl)))
  have HFC := hid (fun (i : Nat) (hi : i < s.f.length) => h.fcell hi)
  have c0 := h.cells.1
  have HF0 : Hid (Fr (fun _ => False) w (zBox w z)) := (Fr.refl _ w).alloc _
  have hBz := Blk.new w 43 z.cs
  have HCL : Hid (∀ W, Fr (fun _ => False) (zBox w z) W → W.cell? ⟨w.heap.size, 1, none⟩ = some (.string ⟨z.n.toArray⟩) ∧ W.cell? ⟨rb, 0, none⟩ = some (.slice o.fa s.f.length o.fc)) := fun W f => ⟨(f.blk hBz (fun h => h)).cell 1, cell_fr (HF0.out.trans f (fun _ h => h.elim)) c0⟩
  have b0 := hBz.cell 0
  obtain ⟨r, hr⟩ : ∃ r, r = { s with f := s.f.filter (fun x => decide (x.path ≠ z.n)) } := ⟨_, rfl⟩
  rw [← hr]
  have HR := hid hr
  clear hr h hs c0 hBz
  obtain ⟨k', n, ⟨xp, xk, xa, xl, xc⟩, ⟨yn, ys, yra, yrl, yrc, yaa, yal, yac⟩⟩ := z
  obtain ⟨fs, us, rs, p⟩ := s
  obtain ⟨fa, fl, fc, oua, oul, ouc, ra, rl, rc⟩ := o
  simp only at h2
  subst h2
  simp only [Zv.v, Zv.cs, List.getElem?_cons_zero] at *
  have e1 : ((2 : Int) == 1) = false := by decide
  obtain ⟨d1, d2⟩ := HCL.out _ (Fr.refl _ _)
  obtain ⟨W0, hW0⟩ : ∃ W0, W0 = zBox w ⟨2, n, ⟨xp, xk, xa, xl, xc⟩, ⟨yn, ys, yra, yrl, yrc, yaa, yal, yac⟩⟩ := ⟨_, rfl⟩
  go_enter Try.func14, Try.ntmps14
  go_upto_block 1 with fail
  have hW' : w.alloc (.cells (Zv.cs ⟨2, n, ⟨xp, xk, xa, xl, xc⟩, ⟨yn, ys, yra, yrl, yrc, yaa, yal, yac⟩⟩).toArray 43) = W0 := hW0.symm
  simp only [Zv.cs] at hW'
  rw [hW']
  clear hW' b0
  have HCL : Hid (∀ W, Fr (fun _ => False) W0 W → W.cell? ⟨w.heap.size, 1, none⟩ = some (.string ⟨n.toArray⟩) ∧ W.cell? ⟨rb, 0, none⟩ = some (.slice fa fs.length fc)) := by rw [hW0]; exact HCL.out
  have HF0 : Hid (Fr (fun _ => False) w W0) := by rw [hW0]; exact HF0.out
  have hs0 : W0.heap.size = w.heap.size + 1 := by rw [hW0, World.size_alloc]
  have HS0 := hid hs0
  clear hW0 hs0 d1 d2
  go_wp2_with fail
  go_loopw [5, 6] (fun lv iv wr => ∃ (i : Nat) (L : List Ent) (X : List Xv) (la : Option Addr) (lc : Nat), i ≤ fs.length ∧ iv = .int .i64 (i : Int) ∧ Hid (L = (fs.take i).filter (fun x => decide (x.path ≠ n))) ∧ Hid (X.length = L.length ∧ ∀ j (h1 : j < L.length) (h2 : j < X.length), EK E w L[j] X[j]) ∧ lv = .slice la X.length lc ∧ Hid (wr.ownsRow W0.heap.size 39 3 (.slice la X.length lc) X.length (flatE X)) ∧ Hid (Fr (fun _ => False) W0 wr)) (fun _ iv _ => fs.length - (intOf iv).toNat)
  case atStart => exact ⟨0, [], [], none, 0, Nat.zero_le _, rfl, rfl, ⟨rfl, fun j h => absurd h (by simp)⟩, rfl, World.ownsRow_nil _ _ _ _, Fr.refl _ _⟩
  case round =>
    obtain ⟨i, L, X, la, lc, hi, rfl, HL, HX, rfl, HO, HF⟩ := hrel
    obtain ⟨d1, d2⟩ := HCL.out _ HF.out
    by_cases hlt : i < fs.length
    · have hi1 : (i : Int) < ((fs.length : Nat) : Int) := by omega
      have hi0 : (0 : Int) ≤ (i : Int) := Int.natCast_nonneg _
      obtain ⟨hix, bb, bo, rfl, hcell, hek⟩ := HFC.out i hlt
      have HCe := hid (fun (W : World) (f : Fr (fun _ => False) W0 W) => hcell W (HF0.out.trans f (fun _ h => h.elim)))
      have HEk := hid hek
      have hpp := hek.p
      obtain ⟨y0, y1, y2⟩ := HCe.out _ HF.out
      have HSt := hid (filter_step (fun x => decide (x.path ≠ n)) fs hlt)
      clear hcell hek
      by_cases hp : fs[i].path = n
      · have hs1 : (!(XF[i].p == n)) = false := by rw [hpp]; simpa using hp
        have HN : Hid (L = (fs.take (i + 1)).filter (fun x => decide (x.path ≠ n))) := by unfold Hid; rw [HSt.out, if_neg (by simpa using hp)]; exact HL.out
        clear hp HSt HL hpp
        generalize XF[i] = y at *
        obtain ⟨yp', yk', yda', ydl', ydc'⟩ := y
        go_wp2_with fail
        go_quiet (fail)
        have HFn : Hid (Fr (fun _ => False) W0 (wr.drewN nq)) := HF.out.drewN nq
        have HOn : Hid ((wr.drewN nq).ownsRow W0.heap.size 39 3 (.slice la X.length lc) X.length (flatE X)) := own_fr0 HO.out ((Fr.refl _ _).drewN nq)
        go_wp2
        exact ⟨⟨i + 1, L, X, la, lc, by omega, by go_num, HN, HX, rfl, HOn, HFn⟩, by simp [intOf]; omega⟩
      · have hs1 : (!(XF[i].p == n)) = true := by rw [hpp]; simpa using hp
        have HN : Hid (L ++ [fs[i]] = (fs.take (i + 1)).filter (fun x => decide (x.path ≠ n))) := by unfold Hid; rw [HSt.out, if_pos (by simpa using hp), HL.out]
        have HXN : Hid ((X ++ [XF[i]]).length = (L ++ [fs[i]]).length ∧ ∀ j (h1 : j < (L ++ [fs[i]]).length) (h2 : j < (X ++ [XF[i]]).length), EK E w (L ++ [fs[i]])[j] (X ++ [XF[i]])[j]) :=
          ⟨by rw [List.length_append, List.length_append, HX.out.1]; rfl, pair_snoc (EK E w) L X HX.out.1 _ _ HEk.out HX.out.2⟩
        have HLL : Hid (X.length ≤ fs.length) := by
          unfold Hid; rw [HX.out.1, HL.out]
          exact Nat.le_trans (List.length_filter_le _ _) (by rw [List.length_take]; omega)
        clear hp HSt HL hpp HX HEk
        generalize XF[i] = y at *
        obtain ⟨yp', yk', yda', ydl', ydc'⟩ := y
        generalize fs[i] = en at *
        go_wp2_with fail
        go_quiet (fail)
        have HFn : Hid (Fr (fun _ => False) W0 (wr.drewN nq)) := HF.out.drewN nq
        have HOn : Hid (((wr.drewN nq).alloc (.cells #[.string ⟨yp'.toArray⟩, .int .i64 yk', .slice yda' ydl' ydc'] 39)).ownsRow W0.heap.size 39 3 (.slice la X.length lc) X.length (flatE X)) := own_fr0 HO.out (((Fr.refl _ _).drewN nq).alloc (.cells #[.string ⟨yp'.toArray⟩, .int .i64 yk', .slice yda' ydl' ydc'] 39))
        obtain ⟨d1', d2'⟩ := HCL.out _ HFn.out
        obtain ⟨y0', y1', y2'⟩ := HCe.out _ HFn.out
        have HS1 := hid (entry_src (Blk.new (wr.drewN nq) 39 (Xv.cs ⟨yp', yk', yda', ydl', ydc'⟩)))
        have HF1 : Hid (Fr (fun _ => False) W0 ((wr.drewN nq).alloc (.cells #[.string ⟨yp'.toArray⟩, .int .i64 yk', .slice yda' ydl' ydc'] 39))) := HFn.out.alloc _
        have HLm : Hid (X.length + 1 ≤ 1000000) := by unfold Hid; have := HLL.out; omega
        have hml : X.length ≤ fs.length := HLL.out
        clear HLL
        go_wp2_with (at_builtin; refine Hid.out ?_)
        refine wpList_app_E (by rfl) _ _ (by rfl) W0.heap.size (.slice la X.length lc) X [⟨yp', yk', yda', ydl', ydc'⟩] (some ⟨(wr.drewN nq).heap.size, 0, none⟩) 1 (by rfl) (by rfl) HOn.out HS1.out HF1.out.size (by have := HLm.out; simpa using this) ?_
        intro v5 W5 o5 g5 _
        obtain ⟨a5, c5, hv5⟩ := own_len o5
        obtain ⟨n5, hn5⟩ : ∃ n5, n5 = (X ++ [(⟨yp', yk', yda', ydl', ydc'⟩ : Xv)]).length := ⟨_, rfl⟩
        rw [← hn5] at hv5
        subst hv5
        have O5 := hid o5
        have HN5 := hid hn5
        have HF5 := hid (HF1.out.grown g5 (fun k hk => .inr (own_lt HOn.out k hk).1))
        obtain ⟨d1, d2⟩ := HCL.out _ HF5.out
        clear o5 g5 hn5
        go_wp2
        have hn5 := HN5.out
        subst hn5
        exact ⟨⟨i + 1, L ++ [en], X ++ [⟨yp', yk', yda', ydl', ydc'⟩], a5, c5, by omega, by go_num, HN, HXN, rfl, O5, HF5⟩, by simp [intOf]; omega⟩
    · obtain rfl : i = fs.length := by omega
      have hi1 : ¬ (((fs.length : Nat) : Int) < ((fs.length : Nat) : Int)) := by omega
      have HLe : Hid (L = fs.filter (fun x => decide (x.path ≠ n))) := by unfold Hid; rw [HL.out, List.take_length]
      obtain ⟨cc, zz, ff, xx⟩ := HEnd.out _ (HF0.out.trans HF.out (fun _ h => h.elim)) _ _ _ _ (by have := HS0.out; omega) L X HO.out HX.out.1 HX.out.2
      have FF := hid ff
      have XX := hid xx
      clear ff xx
      go_wp2_with fail
      go_ret
      rw [HR.out, ← HLe.out]
      exact ⟨rfl, FF.out, XX.out⟩
end
end Go.Proofs.Ytangnoicnogddaa.Tr
