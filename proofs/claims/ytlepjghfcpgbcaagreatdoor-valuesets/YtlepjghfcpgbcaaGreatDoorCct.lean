/- The contracts of slices.Grow and slices.Concat of values, and of joinLists. -/
import Derived.Test.YtlepjghfcpgbcaaGreatDoorLsp
import Derived.Test.YtlepjghfcpgbcaaGreatDoorApp
import Derived.Test.YtlepjghfcpgbcaaGreatDoorRkn
import Derived.Lib.AppendZeros
namespace Go.Proofs.YtlepjghfcpgbcaaGreatDoor.Tr
open Go.RowKit

theorem infoV : (Tryz.prog.info? 26).map (fun i => (i.zero, i.size, i.bytes)) = some (some vZ.v, 6, 88) := by kernel_rfl
theorem flatV_one (xs : List Vv) : ∀ v ∈ flatV xs, v.oneCell' = true := fun v hv => by
  unfold flatV at hv
  obtain ⟨x, _, h⟩ := List.mem_flatMap.1 hv
  exact vv_one x v h

/-- 'append(nil, make(.., n)...)'. -/
theorem wpList_append_zeros {ops : Array Oper} {rest : List Oper} {o : Oper} {a : Act} {W : World} {Q : Exit → Act → World → Prop} (hgd : o.guard = none) (d s : Operand)
    (ho : o.op = .call { callee := .builtin .append, args := #[d, s], argTypes := #[24, 3] }) (n : Nat) (h0 : 0 < n) (hn : n ≤ 100000) (hd : a.eval d = .slice none 0 0) (hs : a.eval s = .int .i64 (n : Int))
    (h : ∀ cap W', n ≤ cap → W'.ownsRow W.heap.size 26 6 (.slice (some ⟨W.heap.size, 0, none⟩) 0 cap) 0 [] → Fr (fun _ => False) W W' → wpList Tryz.prog ops Q rest (a.put o.dst (.slice (some ⟨W.heap.size, 0, none⟩) n cap)) W') : wpList Tryz.prog ops Q (o :: rest) a W := by
  obtain ⟨i0, hi0, hz0, hz1, hz2⟩ := info_parts infoV
  have hrun := Lib.run_append_nil_zeros (P := Tryz.prog) W 24 3 o.type 26 i0 vZ.v .i64 .i64 Tryz.underlying24 Tryz.underlying3 hi0 hz0 n h0 (by omega) (by omega) (by rw [hz2]; omega)
  refine wpList_plain hgd fun K hK => ?_
  unfold Oper.wp
  simp [execOp, ho, resolve, invoke, builtin, hd, hs, hrun, Result.andThen]
  have hge := grownCap_ge W n 0 26
  have hcm : grownCap W n 0 26 ≤ maxLen := grownCap_le_maxLen W n 0 26 (by unfold maxLen; omega)
  refine hK _ _ (h _ _ hge ⟨rfl, .inr ⟨W.heap.size, _, _, rfl, Nat.le_refl _, heap_alloc_new W.drew _, Nat.zero_le _, hcm, ?_, by simp⟩⟩ ((Fr.refl _ W).drew.alloc _))
  simp only [Array.size_append, size_zeroCells]
  have : vZ.v.cells.size = 6 := rfl
  rw [this]; omega

set_option maxRecDepth 100000 in
set_option maxHeartbeats 1000000 in
theorem grow_nil (w : World) (n : Nat) (hn : n ≤ 100000) : Calls Tryz.prog 117 #[.slice none 0 0, .int .i64 (n : Int)] w fun e w' => ∃ v, e = .returned v ∧ w'.ownsRow w.heap.size 26 6 v 0 [] ∧ Fr (fun _ => False) w w' := by
  rcases Nat.eq_zero_or_pos n with rfl | hpos
  · go_enter Tryz.func117, Tryz.ntmps117
    go_wp2_with fail
    go_ret
    exact ⟨_, rfl, World.ownsRow_nil w _ _ _, Fr.refl _ _⟩
  · have h1 : ¬ ((n : Int) < 0) := by omega
    have h2 : (n : Int) > 0 := by omega
    go_enter Tryz.func117, Tryz.ntmps117
    go_wp2_with (at_builtin; refine wpList_append_zeros (by rfl) _ _ (by rfl) n hpos hn (by rfl) (by rfl) ?_; intro cap W' hc ho hf; have HO := hid ho; have HF := hid hf; clear ho hf)
    go_ret
    exact ⟨_, rfl, HO.out, HF.out⟩

/-- 'append(v, s...)' of values, onto a row of the call's own. -/
theorem wpList_append_V {ops : Array Oper} {rest : List Oper} {o : Oper} {a : Act} {W : World} {Q : Exit → Act → World → Prop} (hgd : o.guard = none) (d s : Operand)
    (ho : o.op = .call { callee := .builtin .append, args := #[d, s], argTypes := #[24, 24] }) (base n : Nat) (v : Value) (xs : List Value) (ys : List Vv) (ad : Option Addr) (cap : Nat)
    (hd : a.eval d = v) (hs : a.eval s = .slice ad ys.length cap) (hown : W.ownsRow base 26 6 v n xs) (hbase : base ≤ W.heap.size) (hsz : n + ys.length ≤ 100000)
    (hsrc : ys ≠ [] → ∃ bb bo, ad = some ⟨bb, bo, none⟩ ∧ ∀ q u, (flatV ys)[q]? = some u → W.cell? ⟨bb, bo + q, none⟩ = some u)
    (h : ∀ v' W', W'.ownsRow base 26 6 v' (n + ys.length) (xs ++ flatV ys) → W.grownBy W' v.ownBlock → wpList Tryz.prog ops Q rest (a.put o.dst v') W') : wpList Tryz.prog ops Q (o :: rest) a W := by
  obtain ⟨i0, hi0, hz0, hz1, hz2⟩ := info_parts infoV
  by_cases hb : ys = []
  · subst hb
    have hl : ∀ (x : Addr), (loadCells x 0).run Tryz.prog W = .ok #[] W := fun x => by simpa using run_loadCells_list (P := Tryz.prog) W x [] (by simp)
    have hrun : (Builtin.append_ #[24, 24] o.type #[v, .slice ad 0 cap]).run Tryz.prog W = .ok v W := by
      rcases hown.2 with ⟨rfl, rfl⟩ | ⟨g, cap', cur, rfl, _, _, hnc, _⟩
      · cases ad <;> simp [Builtin.append_, run_underlying Tryz.underlying24, sizeOf, typeInfo, hi0, Builtin.lenOf, Builtin.firstCells, hl]
      · cases ad <;> simp [Builtin.append_, run_underlying Tryz.underlying24, sizeOf, typeInfo, hi0, Builtin.lenOf, Builtin.firstCells, hnc, storeCells, hl]
    refine wpList_plain hgd fun K hK => ?_
    unfold Oper.wp
    simp only [List.length_nil] at hs
    simp [execOp, ho, resolve, invoke, builtin, hd, hs, hrun, Result.andThen]
    exact hK _ _ (h v W (by simpa [flatV] using hown) ⟨rfl, rfl, rfl, Nat.le_refl _, fun _ _ _ => rfl⟩)
  · obtain ⟨bb, bo, rfl, hr⟩ := hsrc hb
    have hpos : 0 < ys.length := List.length_pos_iff.2 hb
    refine wpList_append_lies W hgd d s 24 ho base 26 i0 vZ.v 6 88 Tryz.underlying24 hi0 hz0 hz1 hz2 rfl (by omega) v n xs hd hown ⟨bb, bo, none⟩ ys.length cap (flatV ys) hs (flatV_len ys) (fun j u hu => by rw [Addr.add_mid]; exact hr j u hu) (flatV_one ys) hpos (by unfold maxLen; omega) (by omega) hbase _ rfl ?_
    intro g cap' W' h1 h2 _ _
    exact h _ _ h1 h2

/-- A row of values in memory, with its fields. -/
theorem IIn.fields {w : World} {l : List Vt} {ad : Option Addr} (h : IIn w l ad) : ∃ xs : List Vv, xs.length = l.length ∧ (xs ≠ [] → ∃ bb bo, ad = .some ⟨bb, bo, none⟩ ∧ ∀ q u, (flatV xs)[q]? = .some u → w.cell? ⟨bb, bo + q, none⟩ = .some u) ∧ ∀ i (h : i < l.length) (h' : i < xs.length), VIn w l[i] xs[i] := by
  by_cases hl : l = []
  · subst hl
    exact ⟨[], rfl, fun h => absurd rfl h, fun i h => absurd h (by simp)⟩
  · obtain ⟨b, o, rfl⟩ := h.some hl
    obtain ⟨xs, h1, h2⟩ := h.rows
    exact ⟨xs, h1, fun _ => ⟨b, o, rfl, rows_cells h1 h2⟩, fun i hi hi' => (h2 i hi hi').2⟩

def CtA (w : World) (n m : Nat) (sv iv : Value) (wr : World) : Prop := wr = w ∧ ((iv = .int .i64 0 ∧ sv = .int .i64 0) ∨ (iv = .int .i64 1 ∧ sv = .int .i64 (n : Int)) ∨ (iv = .int .i64 2 ∧ sv = .int .i64 ((n : Int) + (m : Int))))
def CtB (w : World) (X Y : List Vv) (v iv : Value) (wr : World) : Prop := Fr (fun _ => False) w wr ∧ ((iv = .int .i64 0 ∧ wr.ownsRow w.heap.size 26 6 v 0 []) ∨ (iv = .int .i64 1 ∧ wr.ownsRow w.heap.size 26 6 v X.length (flatV X)) ∨ (iv = .int .i64 2 ∧ wr.ownsRow w.heap.size 26 6 v (X.length + Y.length) (flatV X ++ flatV Y)))
theorem own_fr {w wr W' : World} {v : Value} {n : Nat} {xs : List Value} (hf : Fr (fun _ => False) w wr) (ho : wr.ownsRow w.heap.size 26 6 v n xs) (hg : wr.grownBy W' v.ownBlock) : Fr (fun _ => False) w W' :=
  hf.grown hg fun k hk => .inr (by
    rcases ho.2 with ⟨rfl, _⟩ | ⟨g, cap, cur, rfl, hb, _⟩
    · cases hk
    · simp only [Value.ownBlock, Option.some.injEq] at hk
      omega)

set_option maxRecDepth 100000 in
set_option maxHeartbeats 2000000 in
theorem concat_any (w : World) (q c : Nat) (X Y : List Vv) (ad bd : Option Addr) (ca cb : Nat) (hq0 : w.cell? ⟨q, 0, none⟩ = some (.slice ad X.length ca)) (hq1 : w.cell? ⟨q, 1, none⟩ = some (.slice bd Y.length cb)) (hX : X ≠ [] → ∃ bb bo, ad = some ⟨bb, bo, none⟩ ∧ ∀ q u, (flatV X)[q]? = some u → w.cell? ⟨bb, bo + q, none⟩ = some u) (hY : Y ≠ [] → ∃ bb bo, bd = some ⟨bb, bo, none⟩ ∧ ∀ q u, (flatV Y)[q]? = some u → w.cell? ⟨bb, bo + q, none⟩ = some u) (hl : X.length + Y.length ≤ 256) :
    Calls Tryz.prog 94 #[.slice (some ⟨q, 0, none⟩) 2 c] w fun e w' => ∃ v, e = .returned v ∧ w'.ownsRow w.heap.size 26 6 v (X.length + Y.length) (flatV X ++ flatV Y) ∧ Fr (fun _ => False) w w' := by
  have HX := hid hX
  have HY := hid hY
  have HG := hid (fun W n h => grow_nil W n h)
  clear hX hY
  go_enter Tryz.func94, Tryz.ntmps94
  go_wp2_with fail
  go_loopw [3, 5, 11] (fun sv _ iv wr => CtA w X.length Y.length sv iv wr) (fun _ _ iv _ => 2 - (intOf iv).toNat)
  case atStart => exact ⟨rfl, .inl ⟨rfl, rfl⟩⟩
  case round =>
    obtain ⟨rfl, ⟨rfl, rfl⟩ | ⟨rfl, rfl⟩ | ⟨rfl, rfl⟩⟩ := hrel
    · have h0 : ¬ ((X.length : Int) < 0) := by omega
      go_wp2_with fail
      exact ⟨⟨rfl, .inr (.inl ⟨rfl, rfl⟩)⟩, by simp [intOf]⟩
    · have h0 : ¬ ((X.length : Int) + (Y.length : Int) < 0) := by omega
      go_wp2_with fail
      exact ⟨⟨rfl, .inr (.inr ⟨rfl, rfl⟩)⟩, by simp [intOf]⟩
    · have HG2 := hid (HG.out wr (X.length + Y.length) (by omega))
      simp only [Int.natCast_add] at HG2
      go_wp2_with fail
      refine HG2.out.mono ?_
      rintro e w1 ⟨v0, rfl, ho, hf⟩
      have HO := hid ho
      have HF := hid hf
      clear ho hf HG2
      go_wp2_with fail
      go_loopw [6, 8, 27] (fun v _ iv wx => CtB wr X Y v iv wx) (fun _ _ iv _ => 2 - (intOf iv).toNat)
      case atStart => exact ⟨HF.out, .inl ⟨rfl, HO.out⟩⟩
      case round =>
        obtain ⟨hf, ⟨rfl, ho⟩ | ⟨rfl, ho⟩ | ⟨rfl, ho⟩⟩ := hrel
        · have HO := hid ho
          have HF := hid hf
          have g0 := (Env.of hf).cell hq0
          have g1 := (Env.of hf).cell hq1
          clear ho hf
          go_wp2_with (at_builtin; refine wpList_append_V (by rfl) _ _ (by rfl) _ 0 _ [] X ad ca (by rfl) (by rfl) HO.out HF.out.size (by omega) (fun h => by obtain ⟨bb, bo, e1, e2⟩ := HX.out h; exact ⟨bb, bo, e1, fun q u hu => (Env.of HF.out).cell (e2 q u hu)⟩) ?_; intro v2 W2 ho2 hg2; have HO2 := hid ho2; have HF2 := hid (own_fr HF.out HO.out hg2); clear ho2 hg2)
          exact ⟨⟨HF2.out, .inr (.inl ⟨rfl, by have := HO2.out; simpa using this⟩)⟩, by simp [intOf]⟩
        · have HO := hid ho
          have HF := hid hf
          have g0 := (Env.of hf).cell hq0
          have g1 := (Env.of hf).cell hq1
          clear ho hf
          go_wp2_with (at_builtin; refine wpList_append_V (by rfl) _ _ (by rfl) _ X.length _ (flatV X) Y bd cb (by rfl) (by rfl) HO.out HF.out.size (by omega) (fun h => by obtain ⟨bb, bo, e1, e2⟩ := HY.out h; exact ⟨bb, bo, e1, fun q u hu => (Env.of HF.out).cell (e2 q u hu)⟩) ?_; intro v2 W2 ho2 hg2; have HO2 := hid ho2; have HF2 := hid (own_fr HF.out HO.out hg2); clear ho2 hg2)
          exact ⟨⟨HF2.out, .inr (.inr ⟨rfl, HO2.out⟩)⟩, by simp [intOf]⟩
        · have HO := hid ho
          have HF := hid hf
          clear ho hf
          go_wp2_with fail
          go_ret
          exact ⟨_, rfl, HO.out, HF.out⟩
end Go.Proofs.YtlepjghfcpgbcaaGreatDoor.Tr
