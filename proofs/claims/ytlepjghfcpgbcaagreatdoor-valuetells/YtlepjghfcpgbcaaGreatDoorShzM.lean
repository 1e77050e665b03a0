import Derived.Test.YtlepjghfcpgbcaaGreatDoorVeq
import Derived.Test.YtlepjghfcpgbcaaGreatDoorApp
import Derived.Test.YtlepjghfcpgbcaaGreatDoorRkn
import Derived.Lib.AppendZeros
import Derived.Test.YtlepjghfcpgbcaaGreatDoorHnd
import Derived.Test.YtlepjghfcpgbcaaGreatDoorQutM
/- Plain facts for lists: a value is the same as itself, and equal to itself unless it is odd. -/
namespace Go.Proofs.YtlepjghfcpgbcaaGreatDoor.Tr
open Go.RowKit

mutual
theorem sam_refl : ∀ v : Vt, samB v v = true
  | .mk k n f t ns its => by
    rw [samB]
    simp only [Vt.k, Vt.n, Vt.f, Vt.t, Vt.ns, Vt.its, decide_true, Bool.true_and, samF, Bool.true_or]
    exact samL_refl its
theorem samL_refl : ∀ l : List Vt, samL l l = true
  | [] => by rw [samL]
  | v :: r => by rw [samL, sam_refl v, samL_refl r]; rfl
end
mutual
/-- Does a value hold a function, or what is no number? -/
def oddB : Vt → Bool
  | .mk k _ f _ _ its => decide (k = 7) || nanF f || oddL its
def oddL : List Vt → Bool
  | [] => false
  | v :: r => oddB v || oddL r
end
theorem oddB_eq (v : Vt) : oddB v = (decide (v.k = 7) || nanF v.f || oddL v.its) := by cases v; rw [oddB]; rfl
theorem oddL_step (l : List Vt) (i : Nat) (h : i < l.length) : oddL (l.drop i) = (oddB l[i] || oddL (l.drop (i + 1))) := by rw [drop_cons l i h, oddL]
theorem nan_eq (f : Nat) (h : nanF f = false) : (FloatKind.f64.format.order f f == some Ordering.eq) = true := by
  unfold nanF at h
  simpa using h
mutual
theorem eq_self : ∀ v : Vt, oddB v = false → eqV v v = (true, 0)
  | .mk k n f t ns its, h => by
    rw [oddB] at h
    simp only [Bool.or_eq_false_iff, decide_eq_false_iff_not] at h
    obtain ⟨⟨h7, hn⟩, hi⟩ := h
    rw [eqV]
    simp only [Vt.nv, Vt.k, Vt.n, Vt.f, Vt.ns, Vt.its, ne_eq, not_true_eq_false, if_false, if_true]
    rw [eqI_self its hi, sam_refl]
    by_cases h2 : k = 2
    · subst h2; simp [numB, eqN]
    by_cases h3 : k = 3
    · subst h3; simp [numB, eqN, asF, nan_eq f hn]
    have hb : numB ⟨k, n, f, [], none, 0, 0, none, 0, 0⟩ = false := by simp [numB, h2, h3]
    rw [hb]
    simp [h7]
theorem eqI_self : ∀ l : List Vt, oddL l = false → eqI l l = (true, 0)
  | [], _ => by rw [eqI]
  | v :: r, h => by
    rw [oddL] at h
    simp only [Bool.or_eq_false_iff] at h
    rw [eqI, eq_self v h.1, eqI_self r h.2]
    rfl
end
/-- A value is equal to itself, unless it is odd. -/
theorem eq_or_odd (v : Vt) : eqV v v = (true, 0) ∨ oddB v = true := by
  cases h : oddB v
  · exact .inl (eq_self v h)
  · exact .inr rfl

/-- A row of values in memory, one behind the other. -/
theorem IIn.rows {w : World} : ∀ {l : List Vt} {b o : Nat}, IIn w l (.some ⟨b, o, none⟩) → ∃ xs : List Vv, xs.length = l.length ∧ ∀ i (h : i < l.length) (h' : i < xs.length), sixO w b (o + i * 6) xs[i] ∧ VIn w l[i] xs[i]
  | [], b, o, _ => ⟨[], rfl, fun i h => absurd h (by simp)⟩
  | v :: r, b, o, h => by
    rw [IIn] at h
    obtain ⟨b', o', x, h1, h2, h3, h4⟩ := h
    simp only [Option.some.injEq, Addr.mk.injEq, and_true] at h1
    obtain ⟨rfl, rfl⟩ := h1
    obtain ⟨xs, g1, g2⟩ := IIn.rows h4
    refine ⟨x :: xs, by simp [g1], fun i hi hi' => ?_⟩
    cases i with
    | zero => exact ⟨h2, h3⟩
    | succ i =>
      have := g2 i (by simpa using hi) (by simpa using hi')
      rw [show o + (i + 1) * 6 = o + 6 + i * 6 by omega]
      exact this
/-- The cells of a row of values. -/
def flatV (xs : List Vv) : List Value := xs.flatMap Vv.cs
theorem flatV_nil : flatV [] = [] := rfl
theorem flatV_cons (x : Vv) (xs : List Vv) : flatV (x :: xs) = x.cs ++ flatV xs := rfl
theorem flatV_app (xs ys : List Vv) : flatV (xs ++ ys) = flatV xs ++ flatV ys := List.flatMap_append
theorem csLen (x : Vv) : x.cs.length = 6 := rfl
theorem flatV_len : ∀ xs : List Vv, (flatV xs).length = xs.length * 6
  | [] => rfl
  | x :: xs => by rw [flatV_cons, List.length_append, flatV_len xs, csLen, List.length_cons]; omega
theorem flatV_at : ∀ (xs : List Vv) (i j : Nat) (h : i < xs.length), j < 6 → (flatV xs)[i * 6 + j]? = xs[i].cs[j]?
  | x :: xs, 0, j, _, hj => by
    rw [flatV_cons, Nat.zero_mul, Nat.zero_add, List.getElem?_append_left (by rw [csLen]; exact hj)]; rfl
  | x :: xs, i + 1, j, h, hj => by
    rw [flatV_cons, List.getElem?_append_right (by rw [csLen]; omega), csLen, show (i + 1) * 6 + j - 6 = i * 6 + j by omega, flatV_at xs i j (by simpa using h) hj]
    rfl
theorem flatV_inv (xs : List Vv) (q : Nat) (u : Value) (h : (flatV xs)[q]? = some u) : ∃ i j, ∃ hi : i < xs.length, j < 6 ∧ q = i * 6 + j ∧ xs[i].cs[j]? = some u := by
  have hq : q < (flatV xs).length := (List.getElem?_eq_some_iff.1 h).1
  rw [flatV_len] at hq
  have hi : q / 6 < xs.length := by omega
  refine ⟨q / 6, q % 6, hi, by omega, by omega, ?_⟩
  rw [← flatV_at xs (q / 6) (q % 6) hi (by omega), show q / 6 * 6 + q % 6 = q by omega]
  exact h
/-- A row of values that lies somewhere, as its cells. -/
theorem rows_cells {w : World} {l : List Vt} {b o : Nat} {xs : List Vv} (hl : xs.length = l.length) (h : ∀ i (h : i < l.length) (h' : i < xs.length), sixO w b (o + i * 6) xs[i] ∧ VIn w l[i] xs[i]) : ∀ q u, (flatV xs)[q]? = some u → w.cell? ⟨b, o + q, none⟩ = some u := fun q u hq => by
  obtain ⟨i, j, hi, hj, rfl, hu⟩ := flatV_inv xs q u hq
  have := (h i (by omega) hi).1 j u hu
  rw [show o + (i * 6 + j) = o + i * 6 + j by omega]
  exact this
/-- Cells that lie one behind the other are a row of values. -/
theorem IIn_mk {w : World} {b o : Nat} (l : List Vt) (xs : List Vv) (hl : xs.length = l.length) (hc : ∀ q u, (flatV xs)[q]? = some u → w.cell? ⟨b, o + q, none⟩ = some u) (hv : ∀ i (h : i < l.length) (h' : i < xs.length), VIn w l[i] xs[i]) : IIn w l (some ⟨b, o, none⟩) := by
  induction l generalizing xs o with
  | nil => rw [IIn]; trivial
  | cons v r ih =>
    cases xs with
    | nil => simp at hl
    | cons x xs =>
      rw [IIn]
      refine ⟨b, o, x, rfl, fun j u hu => hc j u (by rw [flatV_cons, List.getElem?_append_left (List.getElem?_eq_some_iff.1 hu).1]; exact hu), hv 0 (by simp) (by simp), ih xs (by simpa using hl) (fun q u hq => ?_) (fun i h h' => ?_)⟩
      · rw [show o + 6 + q = o + (q + 6) by omega]
        refine hc (q + 6) u ?_
        rw [flatV_cons, List.getElem?_append_right (by rw [csLen]; omega), csLen, Nat.add_sub_cancel]
        exact hq
      · exact hv (i + 1) (by simpa using h) (by simpa using h')
end Go.Proofs.YtlepjghfcpgbcaaGreatDoor.Tr
/- The contracts of slices.Grow and slices.Concat of values, and of joinLists. -/
namespace Go.Proofs.YtlepjghfcpgbcaaGreatDoor.Tr
open Go.RowKit

theorem infoV : (Tryz.prog.info? 26).map (fun i => (i.zero, i.size, i.bytes)) = some (some vZ.v, 6, 88) := by kernel_rfl
theorem flatV_one (xs : List Vv) : ∀ v ∈ flatV xs, v.oneCell' = true := fun v hv => by
  unfold flatV at hv
  obtain ⟨x, _, h⟩ := List.mem_flatMap.1 hv
  exact vv_one x v h

/-- 'append(nil, make(.., n)...)'. -/
theorem wpList_append_zeros {ops : Array Oper} {rest : List Oper} {o : Oper} {a : Act} {W : World} {Q : Exit → Act → World → Prop} (hgd : o.guard = none) (d s : Operand)
    (ho : o.op = .call { callee := .builtin .append, args := #[d, s], argTypes := #[24, 3] }) (n : Nat) (h0 : 0 < n) (hn : n ≤ 100000) (hd : a.eval d = .slice none 0 0) (hs : a.eval s = .int .i64 (n : Int))
    (h : ∀ cap W', n ≤ cap → W'.ownsRow W.heap.size 26 6 (.slice (some ⟨W.heap.size, 0, none⟩) 0 cap) 0 [] → Fr (fun _ => False) W W' → wpList Tryz.prog ops Q rest (a.put o.dst (.slice (some ⟨W.heap.size, 0, none⟩) n cap)) W') : wpList Tryz.prog ops Q (o :: rest) a W := by
  obtain ⟨i0, hi0, hz0, hz1, hz2⟩ := info_parts infoV
  have hrun := Lib.run_append_nil_zeros (P := Tryz.prog) W 24 3 o.type 26 i0 vZ.v .i64 .i64 Tryz.underlying24 Tryz.underlying3 hi0 hz0 n h0 (by omega) (by omega) (by rw [hz2]; omega)
  refine wpList_plain hgd fun K hK => ?_
  unfold Oper.wp
  simp [execOp, ho, resolve, invoke, builtin, hd, hs, hrun, Result.andThen]
  have hge := grownCap_ge W n 0 26
  have hcm : grownCap W n 0 26 ≤ maxLen := grownCap_le_maxLen W n 0 26 (by unfold maxLen; omega)
  refine hK _ _ (h _ _ hge ⟨rfl, .inr ⟨W.heap.size, _, _, rfl, Nat.le_refl _, heap_alloc_new W.drew _, Nat.zero_le _, hcm, ?_, by simp⟩⟩ ((Fr.refl _ W).drew.alloc _))
  simp only [Array.size_append, size_zeroCells]
  have : vZ.v.cells.size = 6 := rfl
  rw [this]; omega

set_option maxRecDepth 100000 in
set_option maxHeartbeats 1000000 in
theorem grow_nil (w : World) (n : Nat) (hn : n ≤ 100000) : Calls Tryz.prog 117 #[.slice none 0 0, .int .i64 (n : Int)] w fun e w' => ∃ v, e = .returned v ∧ w'.ownsRow w.heap.size 26 6 v 0 [] ∧ Fr (fun _ => False) w w' := by
  rcases Nat.eq_zero_or_pos n with rfl | hpos
  · go_enter Tryz.func117, Tryz.ntmps117
    go_wp2_with fail
    go_ret
    exact ⟨_, rfl, World.ownsRow_nil w _ _ _, Fr.refl _ _⟩
  · have h1 : ¬ ((n : Int) < 0) := by omega
    have h2 : (n : Int) > 0 := by omega
    go_enter Tryz.func117, Tryz.ntmps117
    go_wp2_with (at_builtin; refine wpList_append_zeros (by rfl) _ _ (by rfl) n hpos hn (by rfl) (by rfl) ?_; intro cap W' hc ho hf; have HO := hid ho; have HF := hid hf; clear ho hf)
    go_ret
    exact ⟨_, rfl, HO.out, HF.out⟩

/-- 'append(v, s...)' of values, onto a row of the call's own. -/
theorem wpList_append_V {ops : Array Oper} {rest : List Oper} {o : Oper} {a : Act} {W : World} {Q : Exit → Act → World → Prop} (hgd : o.guard = none) (d s : Operand)
    (ho : o.op = .call { callee := .builtin .append, args := #[d, s], argTypes := #[24, 24] }) (base n : Nat) (v : Value) (xs : List Value) (ys : List Vv) (ad : Option Addr) (cap : Nat)
    (hd : a.eval d = v) (hs : a.eval s = .slice ad ys.length cap) (hown : W.ownsRow base 26 6 v n xs) (hbase : base ≤ W.heap.size) (hsz : n + ys.length ≤ 100000)
    (hsrc : ys ≠ [] → ∃ bb bo, ad = some ⟨bb, bo, none⟩ ∧ ∀ q u, (flatV ys)[q]? = some u → W.cell? ⟨bb, bo + q, none⟩ = some u)
    (h : ∀ v' W', W'.ownsRow base 26 6 v' (n + ys.length) (xs ++ flatV ys) → W.grownBy W' v.ownBlock → wpList Tryz.prog ops Q rest (a.put o.dst v') W') : wpList Tryz.prog ops Q (o :: rest) a W := by
  obtain ⟨i0, hi0, hz0, hz1, hz2⟩ := info_parts infoV
  by_cases hb : ys = []
  · subst hb
    have hl : ∀ (x : Addr), (loadCells x 0).run Tryz.prog W = .ok #[] W := fun x => by simpa using run_loadCells_list (P := Tryz.prog) W x [] (by simp)
    have hrun : (Builtin.append_ #[24, 24] o.type #[v, .slice ad 0 cap]).run Tryz.prog W = .ok v W := by
      rcases hown.2 with ⟨rfl, rfl⟩ | ⟨g, cap', cur, rfl, _, _, hnc, _⟩
      · cases ad <;> simp [Builtin.append_, run_underlying Tryz.underlying24, sizeOf, typeInfo, hi0, Builtin.lenOf, Builtin.firstCells, hl]
      · cases ad <;> simp [Builtin.append_, run_underlying Tryz.underlying24, sizeOf, typeInfo, hi0, Builtin.lenOf, Builtin.firstCells, hnc, storeCells, hl]
    refine wpList_plain hgd fun K hK => ?_
    unfold Oper.wp
    simp only [List.length_nil] at hs
    simp [execOp, ho, resolve, invoke, builtin, hd, hs, hrun, Result.andThen]
    exact hK _ _ (h v W (by simpa [flatV] using hown) ⟨rfl, rfl, rfl, Nat.le_refl _, fun _ _ _ => rfl⟩)
  · obtain ⟨bb, bo, rfl, hr⟩ := hsrc hb
    have hpos : 0 < ys.length := List.length_pos_iff.2 hb
    refine wpList_append_lies W hgd d s 24 ho base 26 i0 vZ.v 6 88 Tryz.underlying24 hi0 hz0 hz1 hz2 rfl (by omega) v n xs hd hown ⟨bb, bo, none⟩ ys.length cap (flatV ys) hs (flatV_len ys) (fun j u hu => by rw [Addr.add_mid]; exact hr j u hu) (flatV_one ys) hpos (by unfold maxLen; omega) (by omega) hbase _ rfl ?_
    intro g cap' W' h1 h2 _ _
    exact h _ _ h1 h2

/-- A row of values in memory, with its fields. -/
theorem IIn.fields {w : World} {l : List Vt} {ad : Option Addr} (h : IIn w l ad) : ∃ xs : List Vv, xs.length = l.length ∧ (xs ≠ [] → ∃ bb bo, ad = .some ⟨bb, bo, none⟩ ∧ ∀ q u, (flatV xs)[q]? = .some u → w.cell? ⟨bb, bo + q, none⟩ = .some u) ∧ ∀ i (h : i < l.length) (h' : i < xs.length), VIn w l[i] xs[i] := by
  by_cases hl : l = []
  · subst hl
    exact ⟨[], rfl, fun h => absurd rfl h, fun i h => absurd h (by simp)⟩
  · obtain ⟨b, o, rfl⟩ := h.some hl
    obtain ⟨xs, h1, h2⟩ := h.rows
    exact ⟨xs, h1, fun _ => ⟨b, o, rfl, rows_cells h1 h2⟩, fun i hi hi' => (h2 i hi hi').2⟩

def CtA (w : World) (n m : Nat) (sv iv : Value) (wr : World) : Prop := wr = w ∧ ((iv = .int .i64 0 ∧ sv = .int .i64 0) ∨ (iv = .int .i64 1 ∧ sv = .int .i64 (n : Int)) ∨ (iv = .int .i64 2 ∧ sv = .int .i64 ((n : Int) + (m : Int))))
def CtB (w : World) (X Y : List Vv) (v iv : Value) (wr : World) : Prop := Fr (fun _ => False) w wr ∧ ((iv = .int .i64 0 ∧ wr.ownsRow w.heap.size 26 6 v 0 []) ∨ (iv = .int .i64 1 ∧ wr.ownsRow w.heap.size 26 6 v X.length (flatV X)) ∨ (iv = .int .i64 2 ∧ wr.ownsRow w.heap.size 26 6 v (X.length + Y.length) (flatV X ++ flatV Y)))
theorem own_fr {w wr W' : World} {v : Value} {n : Nat} {xs : List Value} (hf : Fr (fun _ => False) w wr) (ho : wr.ownsRow w.heap.size 26 6 v n xs) (hg : wr.grownBy W' v.ownBlock) : Fr (fun _ => False) w W' :=
  hf.grown hg fun k hk => .inr (by
    rcases ho.2 with ⟨rfl, _⟩ | ⟨g, cap, cur, rfl, hb, _⟩
    · cases hk
    · simp only [Value.ownBlock, Option.some.injEq] at hk
      omega)

set_option maxRecDepth 100000 in
set_option maxHeartbeats 2000000 in
theorem concat_any (w : World) (q c : Nat) (X Y : List Vv) (ad bd : Option Addr) (ca cb : Nat) (hq0 : w.cell? ⟨q, 0, none⟩ = some (.slice ad X.length ca)) (hq1 : w.cell? ⟨q, 1, none⟩ = some (.slice bd Y.length cb)) (hX : X ≠ [] → ∃ bb bo, ad = some ⟨bb, bo, none⟩ ∧ ∀ q u, (flatV X)[q]? = some u → w.cell? ⟨bb, bo + q, none⟩ = some u) (hY : Y ≠ [] → ∃ bb bo, bd = some ⟨bb, bo, none⟩ ∧ ∀ q u, (flatV Y)[q]? = some u → w.cell? ⟨bb, bo + q, none⟩ = some u) (hl : X.length + Y.length ≤ 256) :
    Calls Tryz.prog 94 #[.slice (some ⟨q, 0, none⟩) 2 c] w fun e w' => ∃ v, e = .returned v ∧ w'.ownsRow w.heap.size 26 6 v (X.length + Y.length) (flatV X ++ flatV Y) ∧ Fr (fun _ => False) w w' := by
  have HX := hid hX
  have HY := hid hY
  have HG := hid (fun W n h => grow_nil W n h)
  clear hX hY
  go_enter Tryz.func94, Tryz.ntmps94
  go_wp2_with fail
  go_loopw [3, 5, 11] (fun sv _ iv wr => CtA w X.length Y.length sv iv wr) (fun _ _ iv _ => 2 - (intOf iv).toNat)
  case atStart => exact ⟨rfl, .inl ⟨rfl, rfl⟩⟩
  case round =>
    obtain ⟨rfl, ⟨rfl, rfl⟩ | ⟨rfl, rfl⟩ | ⟨rfl, rfl⟩⟩ := hrel
    · have h0 : ¬ ((X.length : Int) < 0) := by omega
      go_wp2_with fail
      exact ⟨⟨rfl, .inr (.inl ⟨rfl, rfl⟩)⟩, by simp [intOf]⟩
    · have h0 : ¬ ((X.length : Int) + (Y.length : Int) < 0) := by omega
      go_wp2_with fail
      exact ⟨⟨rfl, .inr (.inr ⟨rfl, rfl⟩)⟩, by simp [intOf]⟩
    · have HG2 := hid (HG.out wr (X.length + Y.length) (by omega))
      simp only [Int.natCast_add] at HG2
      go_wp2_with fail
      refine HG2.out.mono ?_
      rintro e w1 ⟨v0, rfl, ho, hf⟩
      have HO := hid ho
      have HF := hid hf
      clear ho hf HG2
      go_wp2_with fail
      go_loopw [6, 8, 27] (fun v _ iv wx => CtB wr X Y v iv wx) (fun _ _ iv _ => 2 - (intOf iv).toNat)
      case atStart => exact ⟨HF.out, .inl ⟨rfl, HO.out⟩⟩
      case round =>
        obtain ⟨hf, ⟨rfl, ho⟩ | ⟨rfl, ho⟩ | ⟨rfl, ho⟩⟩ := hrel
        · have HO := hid ho
          have HF := hid hf
          have g0 := (Env.of hf).cell hq0
          have g1 := (Env.of hf).cell hq1
          clear ho hf
          go_wp2_with (at_builtin; refine wpList_append_V (by rfl) _ _ (by rfl) _ 0 _ [] X ad ca (by rfl) (by rfl) HO.out HF.out.size (by omega) (fun h => by obtain ⟨bb, bo, e1, e2⟩ := HX.out h; exact ⟨bb, bo, e1, fun q u hu => (Env.of HF.out).cell (e2 q u hu)⟩) ?_; intro v2 W2 ho2 hg2; have HO2 := hid ho2; have HF2 := hid (own_fr HF.out HO.out hg2); clear ho2 hg2)
          exact ⟨⟨HF2.out, .inr (.inl ⟨rfl, by have := HO2.out; simpa using this⟩)⟩, by simp [intOf]⟩
        · have HO := hid ho
          have HF := hid hf
          have g0 := (Env.of hf).cell hq0
          have g1 := (Env.of hf).cell hq1
          clear ho hf
          go_wp2_with (at_builtin; refine wpList_append_V (by rfl) _ _ (by rfl) _ X.length _ (flatV X) Y bd cb (by rfl) (by rfl) HO.out HF.out.size (by omega) (fun h => by obtain ⟨bb, bo, e1, e2⟩ := HY.out h; exact ⟨bb, bo, e1, fun q u hu => (Env.of HF.out).cell (e2 q u hu)⟩) ?_; intro v2 W2 ho2 hg2; have HO2 := hid ho2; have HF2 := hid (own_fr HF.out HO.out hg2); clear ho2 hg2)
          exact ⟨⟨HF2.out, .inr (.inr ⟨rfl, HO2.out⟩)⟩, by simp [intOf]⟩
        · have HO := hid ho
          have HF := hid hf
          clear ho hf
          go_wp2_with fail
          go_ret
          exact ⟨_, rfl, HO.out, HF.out⟩
end Go.Proofs.YtlepjghfcpgbcaaGreatDoor.Tr
/- The contracts of joinLists, and of Reckon over two lists. -/
namespace Go.Proofs.YtlepjghfcpgbcaaGreatDoor.Tr
open Go.RowKit

theorem vin_of_own {w : World} {B : Nat} {v : Value} {X : List Vv} {its : List Vt} (h : w.ownsRow B 26 6 v its.length (flatV X)) (hX : X.length = its.length) (hv : ∀ i (h : i < its.length) (h' : i < X.length), VIn w its[i] X[i]) (hlim : its.length ≤ 256) : ∃ ia ic, v = .slice ia its.length ic ∧ VIn w (.mk 5 0 0 [] [] its) ⟨5, 0, 0, [], none, 0, 0, ia, its.length, ic⟩ := by
  have hl : its.length ≤ lim := by unfold lim; omega
  have hk : I64 5 ∧ I64 0 := ⟨⟨by omega, by omega⟩, ⟨by omega, by omega⟩⟩
  rcases h.2 with ⟨rfl, h0⟩ | ⟨g, cap, cur, rfl, _, hg, hc, _, hs, ht⟩
  · have hn : its = [] := List.eq_nil_of_length_eq_zero h0
    subst hn
    refine ⟨none, 0, rfl, ?_⟩
    rw [VIn]
    exact ⟨⟨rfl, rfl, rfl, rfl⟩, ⟨hk.1, hk.2, by simp, by simp⟩, ⟨rfl, by simp, by simp, fun h => absurd rfl h⟩, ⟨rfl, by simp, by simp⟩, by rw [IIn]; trivial⟩
  · refine ⟨some ⟨g, 0, none⟩, cap, rfl, ?_⟩
    rw [VIn]
    refine ⟨⟨rfl, rfl, rfl, rfl⟩, ⟨hk.1, hk.2, by simp, by simp⟩, ⟨rfl, by simp, by simp, fun h => absurd rfl h⟩, ⟨rfl, hc, hl⟩, IIn_mk its X hX (fun q u hq => ?_) hv⟩
    rw [cell_of_row w g (0 + q) _ _ (0, 0) hg]
    have hq' : q < (flatV X).length := (List.getElem?_eq_some_iff.1 hq).1
    rw [flatV_len, hX] at hq'
    rw [← ht, List.getElem?_take, if_pos hq'] at hq
    simpa using hq

/-- Where the cells of a row of values lie. -/
def SrcV (w : World) (ad : Option Addr) (X : List Vv) : Prop := X ≠ [] → ∃ bb bo, ad = some ⟨bb, bo, none⟩ ∧ ∀ q u, (flatV X)[q]? = some u → w.cell? ⟨bb, bo + q, none⟩ = some u
theorem SrcV.env {w W : World} {ad : Option Addr} {X : List Vv} (h : SrcV w ad X) (e : Env w W) : SrcV W ad X := fun hx => by
  obtain ⟨bb, bo, e1, e2⟩ := h hx
  exact ⟨bb, bo, e1, fun q u hu => e.cell (e2 q u hu)⟩
def CatPost (w : World) (X Y : List Vv) (e : Ending) (w' : World) : Prop :=
  Fr (fun _ => False) w w' ∧ ((256 < X.length + Y.length ∧ e = .returned (.tuple #[vZ.v, .int .i64 20])) ∨ (X.length + Y.length ≤ 256 ∧ ∃ ia ic, e = .returned (.tuple #[(Vv.mk 5 0 0 [] none 0 0 ia (X.length + Y.length) ic).v, .int .i64 0]) ∧ w'.ownsRow w.heap.size 26 6 (.slice ia (X.length + Y.length) ic) (X.length + Y.length) (flatV (X ++ Y))))
/-- A row of the call's own stands where another block was changed. -/
theorem own_keep {w w' : World} {b B : Nat} {e : TypeId} {z : Nat} {v : Value} {n : Nat} {xs : List Value} (h : w.ownsRow B e z v n xs) (hb : b < B) (f : Fr (· = b) w w') : w'.ownsRow B e z v n xs :=
  owns_of_eq h fun k hk => by
    rcases h.2 with ⟨h0, _⟩ | ⟨g, cap, cur, h0, hB, hg, _⟩
    · rw [h0] at hk; cases hk
    · rw [h0] at hk
      simp only [Value.ownBlock, Option.some.injEq] at hk
      subst hk
      refine f.block _ ?_ (by omega)
      rcases Nat.lt_or_ge g w.heap.size with h | h
      · exact h
      · rw [Array.getElem?_eq_none h] at hg; cases hg
theorem own_down {w : World} {B B' : Nat} {e : TypeId} {z : Nat} {v : Value} {n : Nat} {xs : List Value} (h : w.ownsRow B e z v n xs) (hb : B' ≤ B) : w.ownsRow B' e z v n xs := by
  refine ⟨h.1, ?_⟩
  rcases h.2 with h0 | ⟨g, cap, cur, h0, hB, hr⟩
  · exact .inl h0
  · exact .inr ⟨g, cap, cur, h0, by omega, hr⟩

set_option maxRecDepth 100000 in
set_option maxHeartbeats 2000000 in
theorem joinLists_any (w : World) (X Y : List Vv) (ad bd : Option Addr) (ca cb : Nat) (hX : SrcV w ad X) (hY : SrcV w bd Y) (hl : X.length ≤ 256) (hm : Y.length ≤ 256) : Calls Tryz.prog 64 #[.slice ad X.length ca, .slice bd Y.length cb] w (CatPost w X Y) := by
  have HB := hid (vBlk w vZ)
  have HF := hid (vFr w vZ)
  by_cases h : 256 < X.length + Y.length
  · have h' : ((X.length : Nat) : Int) + ((Y.length : Nat) : Int) > 256 := by omega
    clear hX hY
    go_enter Tryz.func64, Tryz.ntmps64
    go_wp2_with (refine wpList_storeV vZ (by rfl) _ _ (by rfl) HB.out (by rfl) (by rfl) ?_; intro w1 b1 f1; have HB1 := hid b1; have HF1 := hid (HF.out.trans f1 (fun i hi => .inr (by omega))); clear b1 f1)
    exact bodyPost_ret (resVE rfl rfl HB1.out) rfl ⟨HF1.out, .inl ⟨h, rfl⟩⟩
  · have h' : ¬ (((X.length : Nat) : Int) + ((Y.length : Nat) : Int) > 256) := by omega
    have HX := hid hX
    have HY := hid hY
    clear hX hY
    have HC := hid (fun W q c h1 h2 h3 h4 => concat_any W q c X Y ad bd ca cb h1 h2 h3 h4 (by omega))
    go_enter Tryz.func64, Tryz.ntmps64
    go_wp2_with fail
    have hb2 := Blk.new (vBox w vZ) 24 [.slice ad X.length ca, .slice bd Y.length cb]
    rw [World.size_alloc] at hb2
    have hf2 : Fr (fun _ => False) w ((vBox w vZ).alloc (.cells #[.slice ad X.length ca, .slice bd Y.length cb] 24)) := HF.out.alloc _
    refine (HC.out _ _ _ (hb2.cell 0) (hb2.cell 1) (HX.out.env (Env.of hf2)) (HY.out.env (Env.of hf2))).mono ?_
    rintro e w3 ⟨v, rfl, ho, f3⟩
    have hf3 : Fr (fun _ => False) w w3 := hf2.trans f3 (fun _ h => h.elim)
    have hb3 : Blk w3 w.heap.size 26 vZ.cs := f3.blk (HB.out.alloc _) (fun h => h)
    have ho' := own_down (B' := w.heap.size + 1) ho (by rw [World.size_alloc, World.size_alloc]; omega)
    obtain ⟨ia, ic, rfl⟩ := own_len ho'
    have HB3 := hid hb3
    have HF3 := hid hf3
    have HO3 := hid ho'
    clear hb2 hf2 f3 hf3 hb3 ho ho' HX HY HC HB HF
    generalize hn : X.length + Y.length = n at *
    have HN := hid hn
    clear hn
    go_wp2_with (refine wpList_storeV ⟨5, 0, 0, [], none, 0, 0, ia, n, ic⟩ (by rfl) _ _ (by rfl) HB3.out (by rfl) (by rfl) ?_; intro w4 b4 f4; have HB4 := hid b4; have HF4 := hid (HF3.out.trans f4 (fun i hi => .inr (by omega))); have HF5 := hid f4; clear b4 f4)
    have ho4 := own_down (B' := w.heap.size) (own_keep HO3.out (by omega) HF5.out) (by omega)
    refine bodyPost_ret (resVE rfl rfl HB4.out) rfl ⟨HF4.out, .inr ⟨by rw [HN.out]; omega, ia, ic, by rw [HN.out]; rfl, ?_⟩⟩
    rw [HN.out, flatV_app]
    exact ho4

set_option maxRecDepth 100000 in
set_option maxHeartbeats 1000000 in
theorem isSign_cat (w : World) : Calls Tryz.prog 63 #[.string ⟨#[43, 43]⟩] w fun e w' => e = .returned (.bool true) ∧ w = w' := by
  go_enter Tryz.func63, Tryz.ntmps63
  go_wp2
  go_ret
  exact ⟨rfl, rfl⟩

set_option maxRecDepth 100000 in
set_option maxHeartbeats 4000000 in
theorem reckon_cat (w : World) (x y : Vv) (X Y : List Vv) (hx : RightOf w x true) (hy : RightOf w y true) (h5 : x.k = 5) (h5' : y.k = 5) (hxl : x.il = X.length) (hyl : y.il = Y.length) (hX : SrcV w x.ia X) (hY : SrcV w y.ia Y) (hl : X.length ≤ 256) (hm : Y.length ≤ 256) : Calls Tryz.prog 31 #[.string ⟨#[43, 43]⟩, x.v, y.v] w (CatPost w X Y) := by
  have HB := hid (three_blk w x y vZ)
  have HF := hid (three_fr w x y vZ)
  have HS := hid (fun W => isSign_cat W)
  have HRa := hid hx
  have HRb := hid hy
  have HA := hid (fun W => areBoth_any W 5 x y)
  have HJ : Hid (∀ W, Env w W → Calls Tryz.prog 64 #[.slice x.ia X.length x.ic, .slice y.ia Y.length y.ic] W (CatPost W X Y)) := fun W e => joinLists_any W X Y _ _ _ _ (hX.env e) (hY.env e) hl hm
  clear hx hy hX hY
  unfold RightOf at HRa HRb
  obtain ⟨k, n, f, t, na, nl, nc, ia, il, ic⟩ := x
  obtain ⟨k', n', f', t', na', nl', nc', ia', il', ic'⟩ := y
  simp only at h5 h5' hxl hyl
  subst h5 h5' hxl hyl
  simp only [Vv.v] at *
  go_enter Tryz.func31, Tryz.ntmps31
  go_wp2_with fail
  refine (HS.out _).mono ?_
  rintro e w1 ⟨rfl, rfl⟩
  go_wp2_with fail
  refine (HRa.out _ (Env.of HF.out)).mono ?_
  rintro e w1 ⟨rfl, f1⟩
  have HB1 := hid (And.intro (f1.blk HB.out.1 (fun h => h)) (And.intro (f1.blk HB.out.2.1 (fun h => h)) (f1.blk HB.out.2.2 (fun h => h))))
  have HF1 := hid (HF.out.trans f1 (fun _ h => h.elim))
  clear f1 HB HF HRa HS
  obtain ⟨d0, d1, d2, d3, d4, d5⟩ := HB1.out.2.1.six
  go_wp2_with fail
  refine (HRb.out _ (Env.of HF1.out)).mono ?_
  rintro e w2 ⟨rfl, f2⟩
  have HB2 := hid (And.intro (f2.blk HB1.out.1 (fun h => h)) (And.intro (f2.blk HB1.out.2.1 (fun h => h)) (f2.blk HB1.out.2.2 (fun h => h))))
  have HF2 := hid (HF1.out.trans f2 (fun _ h => h.elim))
  clear f2 HB1 HF1 HRb d0 d1 d2 d3 d4 d5
  obtain ⟨c0, c1, c2, c3, c4, c5⟩ := HB2.out.1.six
  obtain ⟨d0, d1, d2, d3, d4, d5⟩ := HB2.out.2.1.six
  go_wp2_with fail
  refine (HA.out _).mono ?_
  rintro e w3 ⟨rfl, f3⟩
  have HB3 := hid (And.intro (f3.blk HB2.out.1 (fun h => h)) (And.intro (f3.blk HB2.out.2.1 (fun h => h)) (f3.blk HB2.out.2.2 (fun h => h))))
  have HF3 := hid (HF2.out.trans f3 (fun _ h => h.elim))
  clear f3 HB2 HF2 HA c0 c1 c2 c3 c4 c5 d0 d1 d2 d3 d4 d5
  obtain ⟨c0, c1, c2, c3, c4, c5⟩ := HB3.out.1.six
  obtain ⟨d0, d1, d2, d3, d4, d5⟩ := HB3.out.2.1.six
  go_wp2_with fail
  refine (HJ.out _ (Env.of HF3.out)).mono ?_
  rintro e w4 ⟨f4, ⟨hgt, rfl⟩ | ⟨hle, ja, jc, rfl, ho⟩⟩
  · have HB4 := hid (f4.blk HB3.out.2.2 (fun h => h))
    have HF4 := hid (HF3.out.trans f4 (fun _ h => h.elim))
    clear f4 HB3 HF3 HJ c0 c1 c2 c3 c4 c5 d0 d1 d2 d3 d4 d5
    go_wp2_with (refine wpList_storeV vZ (by rfl) _ _ (by rfl) HB4.out (by rfl) (by rfl) ?_; intro w5 b5 f5)
    have HF5 := hid (HF4.out.trans f5 (fun i hi => .inr (by omega)))
    have HB5 := hid b5
    clear f5 b5 HB4 HF4
    go_wp2_with fail
    exact bodyPost_ret (resVE rfl rfl HB5.out) rfl ⟨HF5.out, .inl ⟨hgt, rfl⟩⟩
  · have HB4 := hid (f4.blk HB3.out.2.2 (fun h => h))
    have HF4 := hid (HF3.out.trans f4 (fun _ h => h.elim))
    have HO := hid (own_down (B' := w.heap.size + 1 + 1 + 1) ho (by have := HB3.out.2.2.lt; omega))
    clear f4 HB3 HF3 HJ c0 c1 c2 c3 c4 c5 d0 d1 d2 d3 d4 d5 ho
    generalize hn : X.length + Y.length = m at *
    have HN := hid hn
    clear hn
    go_wp2_with (refine wpList_storeV ⟨5, 0, 0, [], none, 0, 0, ja, m, jc⟩ (by rfl) _ _ (by rfl) HB4.out (by rfl) (by rfl) ?_; intro w5 b5 f5)
    have HF5 := hid (HF4.out.trans f5 (fun i hi => .inr (by omega)))
    have HB5 := hid b5
    have HO5 := hid (own_down (B' := w.heap.size) (own_keep HO.out (by omega) f5) (by omega))
    clear f5 b5 HB4 HF4 HO
    go_wp2_with fail
    exact bodyPost_ret (resVE rfl rfl HB5.out) rfl ⟨HF5.out, .inr ⟨by rw [HN.out]; omega, ja, jc, by rw [HN.out]; rfl, by rw [HN.out]; exact HO5.out⟩⟩
end Go.Proofs.YtlepjghfcpgbcaaGreatDoor.Tr
/- Appending whole lists of names and values; values that hang on new blocks alone; storing into a row of values. -/
namespace Go.Proofs.YtlepjghfcpgbcaaGreatDoor.Tr
open Go.RowKit

/-- The cells of names. -/
def nmC (ns : List (List UInt8)) : List Value := ns.map fun s => .string ⟨s.toArray⟩
theorem nmC_one (ns : List (List UInt8)) : ∀ v ∈ nmC ns, v.oneCell' = true := fun v hv => by
  obtain ⟨s, _, rfl⟩ := List.mem_map.1 hv
  rfl
theorem infoNm : (Tryz.prog.info? 9).map (fun i => (i.zero, i.size, i.bytes)) = some (some (.string ⟨#[]⟩), 1, 16) := by kernel_rfl
theorem wpList_app_strs {ops : Array Oper} {rest : List Oper} {o : Oper} {a : Act} {W : World} {Q : Exit → Act → World → Prop} (hgd : o.guard = none) (d s : Operand) (ho : o.op = .call { callee := .builtin .append, args := #[d, s], argTypes := #[23, 23] })
    (base : Nat) (v : Value) (X Y : List (List UInt8)) (ad : Option Addr) (cap : Nat) (hd : a.eval d = v) (hs : a.eval s = .slice ad Y.length cap) (hown : W.ownsRow base 9 1 v X.length (nmC X)) (hsrc : Strs W ad Y) (hb : base ≤ W.heap.size) (hl : (X.length + Y.length) * 16 ≤ 140737488355328)
    (h : ∀ v' W', W'.ownsRow base 9 1 v' (X ++ Y).length (nmC (X ++ Y)) → W.grownBy W' v.ownBlock → (v'.ownBlock = v.ownBlock ∨ v'.ownBlock = some W.heap.size) → wpList Tryz.prog ops Q rest (a.put o.dst v') W') : wpList Tryz.prog ops Q (o :: rest) a W := by
  obtain ⟨i0, hi0, hz0, hz1, hz2⟩ := info_parts infoNm
  by_cases hy : Y = []
  · subst hy
    have hl : ∀ (x : Addr), (loadCells x 0).run Tryz.prog W = .ok #[] W := fun x => by simpa using run_loadCells_list (P := Tryz.prog) W x [] (by simp)
    have hrun : (Builtin.append_ #[23, 23] o.type #[v, .slice ad 0 cap]).run Tryz.prog W = .ok v W := by
      rcases hown.2 with ⟨rfl, h00⟩ | ⟨g, cap', cur, rfl, _, _, hnc, _⟩
      · cases ad <;> simp [Builtin.append_, run_underlying Tryz.underlying23, sizeOf, typeInfo, hi0, Builtin.lenOf, Builtin.firstCells, hl]
      · cases ad <;> simp [Builtin.append_, run_underlying Tryz.underlying23, sizeOf, typeInfo, hi0, Builtin.lenOf, Builtin.firstCells, hnc, storeCells, hl]
    refine wpList_plain hgd fun K hK => ?_
    unfold Oper.wp
    simp only [List.length_nil] at hs
    simp [execOp, ho, resolve, invoke, builtin, hd, hs, hrun, Result.andThen]
    exact hK _ _ (h v W (by simpa using hown) ⟨rfl, rfl, rfl, Nat.le_refl _, fun _ _ _ => rfl⟩ (.inl rfl))
  · obtain ⟨bb, bo, rfl, hr⟩ := hsrc hy
    have hpos : 0 < Y.length := List.length_pos_iff.2 hy
    refine wpList_append_lies W hgd d s 23 ho base 9 i0 _ 1 16 Tryz.underlying23 hi0 hz0 hz1 hz2 rfl (by omega) v X.length (nmC X) hd hown ⟨bb, bo, none⟩ Y.length cap (nmC Y) hs (by simp [nmC]) (fun j u hu => by
      rw [Addr.add_mid]
      unfold nmC at hu
      rw [List.getElem?_map] at hu
      have hj : j < Y.length := by
        rcases Nat.lt_or_ge j Y.length with h | h
        · exact h
        · rw [List.getElem?_eq_none h] at hu; cases hu
      rw [List.getElem?_eq_getElem hj] at hu
      simp only [Option.map_some, Option.some.injEq] at hu
      rw [← hu]
      exact hr j hj) (nmC_one Y) hpos (by unfold maxLen; omega) (by omega) hb _ rfl ?_
    intro g cap' W' h1 h2 h3 _
    refine h _ _ ?_ h2 (h3.elim (fun e => .inl (by rw [e]; rfl)) (fun e => .inr (by rw [e]; rfl)))
    rw [List.length_append]
    unfold nmC
    rw [List.map_append]
    exact h1
theorem vals_one (X : List Vv) : ∀ u ∈ flatV X, u.oneCell' = true := fun u hu => by
  obtain ⟨q, hq, e⟩ := List.getElem_of_mem hu
  obtain ⟨i, j, hi, hj, _, e2⟩ := flatV_inv X q u (by rw [List.getElem?_eq_getElem hq, e])
  exact vv_one _ _ (List.mem_of_getElem? e2)
theorem wpList_app_vals {ops : Array Oper} {rest : List Oper} {o : Oper} {a : Act} {W : World} {Q : Exit → Act → World → Prop} (hgd : o.guard = none) (d s : Operand) (ho : o.op = .call { callee := .builtin .append, args := #[d, s], argTypes := #[24, 24] })
    (base : Nat) (v : Value) (X Y : List Vv) (ad : Option Addr) (cap : Nat) (hd : a.eval d = v) (hs : a.eval s = .slice ad Y.length cap) (hown : W.ownsRow base 26 6 v X.length (flatV X)) (hsrc : SrcV W ad Y) (hb : base ≤ W.heap.size) (hl : (X.length + Y.length) * 88 ≤ 140737488355328)
    (h : ∀ v' W', W'.ownsRow base 26 6 v' (X ++ Y).length (flatV (X ++ Y)) → W.grownBy W' v.ownBlock → (v'.ownBlock = v.ownBlock ∨ v'.ownBlock = some W.heap.size) → wpList Tryz.prog ops Q rest (a.put o.dst v') W') : wpList Tryz.prog ops Q (o :: rest) a W := by
  obtain ⟨i0, hi0, hz0, hz1, hz2⟩ := info_parts infoV
  by_cases hy : Y = []
  · subst hy
    have hl : ∀ (x : Addr), (loadCells x 0).run Tryz.prog W = .ok #[] W := fun x => by simpa using run_loadCells_list (P := Tryz.prog) W x [] (by simp)
    have hrun : (Builtin.append_ #[24, 24] o.type #[v, .slice ad 0 cap]).run Tryz.prog W = .ok v W := by
      rcases hown.2 with ⟨rfl, h00⟩ | ⟨g, cap', cur, rfl, _, _, hnc, _⟩
      · cases ad <;> simp [Builtin.append_, run_underlying Tryz.underlying24, sizeOf, typeInfo, hi0, Builtin.lenOf, Builtin.firstCells, hl]
      · cases ad <;> simp [Builtin.append_, run_underlying Tryz.underlying24, sizeOf, typeInfo, hi0, Builtin.lenOf, Builtin.firstCells, hnc, storeCells, hl]
    refine wpList_plain hgd fun K hK => ?_
    unfold Oper.wp
    simp only [List.length_nil] at hs
    simp [execOp, ho, resolve, invoke, builtin, hd, hs, hrun, Result.andThen]
    exact hK _ _ (h v W (by simpa using hown) ⟨rfl, rfl, rfl, Nat.le_refl _, fun _ _ _ => rfl⟩ (.inl rfl))
  · obtain ⟨bb, bo, rfl, hr⟩ := hsrc hy
    have hpos : 0 < Y.length := List.length_pos_iff.2 hy
    refine wpList_append_lies W hgd d s 24 ho base 26 i0 _ 6 88 Tryz.underlying24 hi0 hz0 hz1 hz2 rfl (by omega) v X.length (flatV X) hd hown ⟨bb, bo, none⟩ Y.length cap (flatV Y) hs (by rw [flatV_len]) (fun j u hu => by rw [Addr.add_mid]; exact hr j u hu) (vals_one Y) hpos (by unfold maxLen; omega) (by omega) hb _ rfl ?_
    intro g cap' W' h1 h2 h3 _
    refine h _ _ ?_ h2 (h3.elim (fun e => .inl (by rw [e]; rfl)) (fun e => .inr (by rw [e]; rfl)))
    rw [List.length_append, flatV_app]
    exact h1

/-- The value hangs on blocks from B on alone. -/
def VNew (B : Nat) (w : World) (v : Vt) (x : Vv) : Prop := ∀ W : World, (∀ k, B ≤ k → k < w.heap.size → W.heap[k]? = w.heap[k]?) → VIn W v x
/-- .. and not on g. -/
def VBut (B g : Nat) (w : World) (v : Vt) (x : Vv) : Prop := ∀ W : World, (∀ k, B ≤ k → k < w.heap.size → k ≠ g → W.heap[k]? = w.heap[k]?) → VIn W v x
theorem VNew.but {B B' g : Nat} {w : World} {v : Vt} {x : Vv} (h : VNew B' w v x) (hB : B ≤ B') (hg : g < B') : VBut B g w v x := fun W hW => h W (fun k h1 h2 => hW k (by omega) h2 (by omega))
theorem VBut.step {B g : Nat} {w w' : World} {v : Vt} {x : Vv} (h : VBut B g w v x) (f : Fr (· = g) w w') : VBut B g w' v x := fun W hW => h W (fun k h1 h2 h3 => by
  rw [hW k h1 (Nat.lt_of_lt_of_le h2 f.size) h3]
  exact f.block k h2 h3)
theorem VNew.now {B : Nat} {w : World} {v : Vt} {x : Vv} (h : VNew B w v x) : VIn w v x := h w (fun _ _ _ => rfl)

theorem flat_set : ∀ (X : List Vv) (i : Nat) (x : Vv), i < X.length → splice (flatV X) (i * 6) x.cs = flatV (X.set i x)
  | [], i, _, h => absurd h (by simp)
  | y :: X, 0, x, _ => by
    rw [List.set_cons_zero, flatV_cons, flatV_cons, Nat.zero_mul]
    unfold splice
    rw [List.take_zero, Nat.zero_add, csLen, List.nil_append, List.drop_append_of_le_length (by rw [csLen]; omega)]
    rw [show y.cs.drop 6 = [] from rfl, List.nil_append]
  | y :: X, i + 1, x, h => by
    have ih := flat_set X i x (by simpa using h)
    rw [List.set_cons_succ, flatV_cons, flatV_cons, ← ih]
    unfold splice
    have e1 : (y.cs ++ flatV X).take ((i + 1) * 6) = y.cs ++ (flatV X).take (i * 6) := by
      rw [show (i + 1) * 6 = y.cs.length + i * 6 by rw [csLen]; omega, List.take_length_add_append]
    have e2 : (y.cs ++ flatV X).drop ((i + 1) * 6 + x.cs.length) = (flatV X).drop (i * 6 + x.cs.length) := by
      rw [show (i + 1) * 6 + x.cs.length = y.cs.length + (i * 6 + x.cs.length) by rw [csLen, csLen]; omega, List.drop_length_add_append]
    rw [e1, e2]
    simp only [List.append_assoc]
theorem splice_take {α : Type} (L : List α) (o : Nat) (s : List α) (n : Nat) (h : o + s.length ≤ n) (hn : n ≤ L.length) : (splice L o s).take n = splice (L.take n) o s := by
  unfold splice
  have e1 : (L.take o).length = o := by rw [List.length_take]; omega
  rw [List.take_take, Nat.min_eq_left (by omega)]
  have e2 : n = (L.take o).length + (s.length + (n - o - s.length)) := by rw [e1]; omega
  have e3 : List.take n (L.take o ++ (s ++ L.drop (o + s.length))) = L.take o ++ (s ++ (L.drop (o + s.length)).take (n - o - s.length)) := by
    conv => lhs; rw [e2]
    rw [List.take_length_add_append, List.take_length_add_append]
  rw [e3, List.drop_take, show n - (o + s.length) = n - o - s.length by omega]
/-- Storing into a row of the call's own. -/
theorem own_store {w : World} {B : Nat} {v : Value} {X : List Vv} (h : w.ownsRow B 26 6 v X.length (flatV X)) (i : Nat) (hi : i < X.length) (x : Vv) :
    ∃ g cap, v = .slice (some ⟨g, 0, none⟩) X.length cap ∧ B ≤ g ∧ g < w.heap.size ∧ w.there g (i * 6) 6 ∧ (w.setCells g (i * 6) x.cs).ownsRow B 26 6 v (X.set i x).length (flatV (X.set i x)) := by
  rcases h.2 with ⟨h0, h1⟩ | ⟨g, cap, cur, hv, hB, hg, hc, hm, hs, ht⟩
  · exfalso; omega
  have hb : Blk w g 26 cur.toList := by unfold Blk; rw [hg]
  have hlen : (flatV X).length = X.length * 6 := flatV_len X
  have hcl : X.length * 6 ≤ cur.toList.length := by
    have := congrArg List.length ht
    rw [List.length_take, hlen] at this
    omega
  refine ⟨g, cap, hv, hB, hb.lt, hb.there (i * 6) 6 (by omega), ?_⟩
  have hb2 := hb.setCells x.cs (i * 6) (by rw [csLen]; omega)
  refine ⟨by rw [flatV_len], .inr ⟨g, cap, (splice cur.toList (i * 6) x.cs).toArray, by rw [List.length_set]; exact hv, hB, hb2, by rw [List.length_set]; exact hc, hm, ?_, ?_⟩⟩
  · rw [List.size_toArray, ← hs, ← Array.length_toList]
    unfold splice
    simp only [List.length_append, List.length_take, List.length_drop, csLen]
    omega
  · rw [← flat_set X i x hi, List.toList_toArray, List.length_set, ← ht]
    exact splice_take cur.toList (i * 6) x.cs (X.length * 6) (by rw [csLen]; omega) hcl
/-- The cells of a row of the call's own. -/
theorem own_cells {w : World} {B z : Nat} {e : TypeId} {v : Value} {n : Nat} {xs : List Value} (h : w.ownsRow B e z v n xs) (hn : 0 < n) :
    ∃ g cap, v = .slice (some ⟨g, 0, none⟩) n cap ∧ n ≤ cap ∧ B ≤ g ∧ g < w.heap.size ∧ ∀ W : World, W.heap[g]? = w.heap[g]? → ∀ q u, xs[q]? = some u → W.cell? ⟨g, q, none⟩ = some u := by
  rcases h.2 with ⟨_, h0⟩ | ⟨g, cap, cur, hv, hB, hg, hc, _, hs, ht⟩
  · omega
  refine ⟨g, cap, hv, hc, hB, ?_, fun W hW q u hq => ?_⟩
  · rcases Nat.lt_or_ge g w.heap.size with h | h
    · exact h
    · rw [Array.getElem?_eq_none h] at hg; cases hg
  · rw [cell_of_row W g q _ _ (0, 0) (hW.trans hg)]
    have hq' : q < xs.length := (List.getElem?_eq_some_iff.1 hq).1
    rw [← ht, List.getElem?_take] at hq
    split at hq
    · simpa using hq
    · cases hq
theorem wpList_store6 {ops : Array Oper} {rest : List Oper} {o : Oper} {a : Act} {W : World} {Q : Exit → Act → World → Prop} (hgd : o.guard = none) (x0 : Vv) (x y : Operand) (ho : o.op = .store 26 x y) {g off : Nat} (ht : W.there g off 6) (hx : a.eval x = .pointer (some ⟨g, off, none⟩)) (hy : a.eval y = x0.v) (h : wpList Tryz.prog ops Q rest (a.put o.dst undef) (W.setCells g off x0.cs)) : wpList Tryz.prog ops Q (o :: rest) a W :=
  wpList_plain hgd fun K hK => by
    have hs : (Instr.storeAt 26 (.pointer (some ⟨g, off, none⟩)) x0.v).run Tryz.prog W = .ok () (W.setCells g off x0.cs) := by
      have h := run_storeAt_mid (P := Tryz.prog) W g off 26 x0.cs.toArray ht sizeV (all_oneCell_toArray (vv_one x0))
      rw [show x0.v = .agg x0.cs.toArray from rfl]; simpa using h
    unfold Oper.wp execOp
    simp only [ho, hx, hy, hs, Sem.run_bind, Sem.run_pure, Result.andThen_ok]
    exact hK _ _ h
end Go.Proofs.YtlepjghfcpgbcaaGreatDoor.Tr
/- The contract of copied over any value. -/
namespace Go.Proofs.YtlepjghfcpgbcaaGreatDoor.Tr
open Go.RowKit

mutual
/-- No list is too long to be copied. -/
def nmV : Vt → Prop
  | .mk _ n _ _ ns its => ns.length ≤ 8796093022200 ∧ its.length ≤ 1599289640354 ∧ nmL its ∧ I64 n
def nmL : List Vt → Prop
  | [] => True
  | v :: r => nmV v ∧ nmL r
end
theorem nmL_mem {l : List Vt} (h : nmL l) : ∀ v ∈ l, nmV v := by
  induction l with
  | nil => intro v hv; cases hv
  | cons a l ih =>
    rw [nmL] at h
    intro v hv
    rcases List.mem_cons.1 hv with rfl | hv
    · exact h.1
    · exact ih h.2 v hv
theorem nmV_parts {v : Vt} (h : nmV v) : v.ns.length ≤ 8796093022200 ∧ v.its.length ≤ 1599289640354 ∧ ∀ u ∈ v.its, nmV u := by
  cases v with
  | mk k n f t ns its =>
    rw [nmV] at h
    exact ⟨h.1, h.2.1, nmL_mem h.2.2.1⟩
theorem nmV_n {v : Vt} (h : nmV v) : I64 v.n := by
  cases v with
  | mk k n f t ns its =>
    rw [nmV] at h
    exact h.2.2.2
/-- What copied makes of a value. -/
def CpOf (v : Vt) : Prop := ∀ (x : Vv) (w : World), VIn w v x → nmV v → Calls Tryz.prog 16 #[x.v] w fun e w' => ∃ x' : Vv, e = .returned x'.v ∧ VNew w.heap.size w' v x' ∧ Fr (fun _ => False) w w'

theorem nil_row (w : World) (t : TypeId) (z : Nat) : (w.alloc (.cells #[] t)).ownsRow w.heap.size t z (.slice (some ⟨w.heap.size, 0, none⟩) 0 0) 0 [] :=
  ⟨by simp, .inr ⟨w.heap.size, 0, #[], rfl, Nat.le_refl _, heap_alloc_new w _, Nat.le_refl _, by unfold maxLen; omega, by simp, by simp⟩⟩

theorem VIn_of {w : World} {v : Vt} {x : Vv} (h : (x.k = v.k ∧ x.n = v.n ∧ x.f = v.f ∧ x.t = v.t) ∧ (I64 v.k ∧ I64 v.n ∧ v.t.length ≤ lim ∧ (∀ s ∈ v.ns, s.length ≤ lim)) ∧ (x.nl = v.ns.length ∧ v.ns.length ≤ x.nc ∧ v.ns.length ≤ lim ∧ Strs w x.na v.ns) ∧ (x.il = v.its.length ∧ v.its.length ≤ x.ic ∧ v.its.length ≤ lim) ∧ IIn w v.its x.ia) : VIn w v x := by
  cases v; rw [VIn]; exact h
theorem cp_keep {w W W' : World} {bx : Nat} {x : Vv} {row : Option Nat} (hbx : w.heap.size = bx) (f : Fr (fun _ => False) w W) (b0 : Blk W bx 26 x.cs) (b1 : Blk W (bx + 1) 26 vZ.cs) (g : W.grownBy W' row) (hr : ∀ k, row = some k → bx + 2 ≤ k) : Fr (fun _ => False) w W' ∧ Blk W' bx 26 x.cs ∧ Blk W' (bx + 1) 26 vZ.cs :=
  ⟨f.grown g (fun k hk => .inr (by have := hr k hk; omega)), b0.of_eq (g.block bx b0.lt (fun e => by have := hr bx e.symm; omega)), b1.of_eq (g.block (bx + 1) b1.lt (fun e => by have := hr (bx + 1) e.symm; omega))⟩
theorem one_str (w : World) (s : List UInt8) : Strs (w.alloc (.cells #[.string ⟨s.toArray⟩] 9)) (some ⟨w.heap.size, 0, none⟩) [s] := fun _ => ⟨w.heap.size, 0, rfl, fun i hi => by
  obtain rfl : i = 0 := by simp at hi; omega
  exact (Blk.new w 9 [.string ⟨s.toArray⟩]).cell 0⟩
theorem one_val (w : World) (x : Vv) : SrcV (w.alloc (.cells x.cs.toArray 26)) (some ⟨w.heap.size, 0, none⟩) [x] := fun _ => ⟨w.heap.size, 0, rfl, fun q u hu => by
  have e : flatV [x] = x.cs := by simp [flatV]
  rw [e] at hu
  rw [Nat.zero_add, (Blk.new w 26 x.cs).cell]
  exact hu⟩

set_option maxRecDepth 100000 in
set_option maxHeartbeats 8000000 in
theorem copied_tree : ∀ (m : Nat) (v : Vt), SizeOf.sizeOf v ≤ m → CpOf v := by
  intro m
  induction m with
  | zero =>
    intro v hv
    exfalso
    cases v
    simp only [Vt.mk.sizeOf_spec] at hv
    omega
  | succ m ih =>
    intro v hv x w hV hN
    have HIh := hid (fun q (hq : q ∈ v.its) => And.intro (ih q (by have := Vt.its_lt hq; omega)) ((nmV_parts hN).2.2 q hq))
    have HP := hid hV.parts
    have b1 := (nmV_parts hN).1
    have b2 := (nmV_parts hN).2.1
    -- the rows of the value
    obtain ⟨X, hXl, hXs, hXv⟩ : ∃ X : List Vv, X.length = v.its.length ∧ SrcV w x.ia X ∧ ∀ i (h : i < v.its.length) (h' : i < X.length), VIn w v.its[i] X[i] := by
      by_cases hn : v.its = []
      · exact ⟨[], by rw [hn]; rfl, fun h => absurd rfl h, fun i h => by rw [hn] at h; simp at h⟩
      · obtain ⟨b, o, e⟩ := hV.parts.2.2.2.2.some hn
        have hI := hV.parts.2.2.2.2
        rw [e] at hI
        obtain ⟨X, g1, g2⟩ := hI.rows
        exact ⟨X, g1, fun _ => ⟨b, o, e, rows_cells g1 g2⟩, fun i h h' => (g2 i h h').2⟩
    have HSr := hid hXs
    have HXv := hid hXv
    have HNs := hid hV.parts.2.2.1.2.2.2
    have p5 := hV.parts.2.2.1.1
    have p6 := hV.parts.2.2.2.1.1
    clear ih hv hV hN hXs hXv
    have HXl := hid hXl
    obtain ⟨k, n, f, t, na, nl, nc, ia, il, ic⟩ := x
    simp only at p5 p6 HSr HNs HP
    rw [← hXl] at p6
    subst p5 p6
    have HB := hid (vBlk w ⟨k, n, f, t, na, v.ns.length, nc, ia, X.length, ic⟩)
    have HF := hid (vFr w ⟨k, n, f, t, na, v.ns.length, nc, ia, X.length, ic⟩)
    have hXL : X.length ≤ 1599289640354 := by omega
    clear hXl
    simp only [Vv.v] at *
    generalize hbx : w.heap.size = bx at *
    go_enter Tryz.func16, Tryz.ntmps16
    go_wp2_with (at_builtin; refine Hid.out ?_)
    have hz : (vBox w ⟨k, n, f, t, na, v.ns.length, nc, ia, X.length, ic⟩).heap.size = bx + 1 := by rw [World.size_alloc, hbx]
    obtain ⟨W2, hW2⟩ : ∃ W2, W2 = (vBox w ⟨k, n, f, t, na, v.ns.length, nc, ia, X.length, ic⟩).alloc (.cells #[.int .i64 0, .int .i64 0, .float .f64 0, .string ⟨#[]⟩, .slice none 0 0, .slice none 0 0] 26) := ⟨_, rfl⟩
    have hs2 : W2.heap.size = bx + 2 := by rw [hW2, World.size_alloc, hz]
    have f2 : Fr (fun _ => False) w W2 := by rw [hW2]; exact HF.out.alloc _
    have hb2 : Blk W2 bx 26 (Vv.cs ⟨k, n, f, t, na, v.ns.length, nc, ia, X.length, ic⟩) := by rw [hW2]; exact HB.out.alloc _
    have hz2 : Blk W2 (bx + 1) 26 vZ.cs := by
      rw [hW2, ← hz]; exact Blk.new _ 26 vZ.cs
    have hnr := nil_row W2 9 1
    rw [hs2] at hnr
    refine hid ?_
    refine wpList_app_strs (by rfl) _ _ (by rfl) bx (.slice (some ⟨bx + 1 + 1, 0, none⟩) 0 0) [] v.ns na nc (by rfl) (by rfl) (own_down (B := bx + 2) ?_ (by omega)) (HNs.out.env (Env.of ?_)) (by simp only [World.size_alloc]; omega) (by simp; omega) ?_
    · rw [← hW2]; exact hnr
    · rw [← hW2]; exact f2.alloc _
    rw [← hW2]
    intro v3 w3 o3 g3 r3
    obtain ⟨f3, hb3, hz3⟩ := cp_keep hbx (f2.alloc (.cells #[] 9)) (hb2.alloc _) (hz2.alloc _) g3 (fun k hk => by
      simp only [Value.ownBlock, Option.some.injEq] at hk; omega)
    have hr3 : ∀ k, v3.ownBlock = some k → bx + 2 ≤ k := fun k hk => by
      rcases r3 with r3 | r3
      · rw [r3] at hk
        simp only [Value.ownBlock, Option.some.injEq] at hk; omega
      · rw [r3] at hk
        simp only [Option.some.injEq, World.size_alloc] at hk; omega
    rw [List.nil_append] at o3
    obtain ⟨a3, c3, hv3⟩ := own_len o3
    subst hv3
    clear g3 r3 hnr
    go_wp2_with (at_builtin; refine Hid.out ?_)
    refine hid ?_
    refine wpList_app_strs (by rfl) _ _ (by rfl) bx (.slice a3 v.ns.length c3) v.ns [[33]] (some ⟨w3.heap.size, 0, none⟩) 1 (by rfl) (by rfl) (owns_alloc o3 _) (one_str w3 [33]) (by rw [World.size_alloc]; have := hb3.lt; omega) (by simp; omega) ?_
    intro v4 w4 o4 g4 r4
    obtain ⟨f4, hb4, hz4⟩ := cp_keep hbx (f3.alloc (.cells #[.string ⟨#[33]⟩] 9)) (hb3.alloc _) (hz3.alloc _) g4 (fun k hk => hr3 k hk)
    obtain ⟨gn, cn, hv4, hcn, hgn, hgn2, hcl4⟩ := own_cells o4 (by simp)
    have hgn3 : bx + 2 ≤ gn := by
      rcases r4 with r4 | r4
      · rw [hv4] at r4
        exact hr3 gn r4.symm
      · rw [hv4] at r4
        simp only [Value.ownBlock, Option.some.injEq, World.size_alloc] at r4
        have := hb3.lt
        have := hz3.lt
        omega
    subst hv4
    have HB4 := hid hb4
    have HZ4 := hid hz4
    have HF4 := hid f4
    have HO4 := hid o4
    have HC4 := hid hcl4
    have hl4 : (v.ns ++ [[33]]).length = v.ns.length + 1 := by simp
    rw [hl4] at hcn
    obtain ⟨d0, d1, d2, d3, d4, d5⟩ := (hb4.alloc (.cells #[] 26)).six
    clear hb2 hz2 f2 hW2 f3 hb3 hz3 hr3 o3 g4 r4 hb4 hz4 f4 o4 hcl4 hs2 hz
    rw [hl4]
    go_wp2_with (at_builtin; refine Hid.out ?_)
    have hnr := nil_row w4 26 6
    refine hid ?_
    refine wpList_app_vals (by rfl) _ _ (by rfl) bx (.slice (some ⟨w4.heap.size, 0, none⟩) 0 0) [] X ia ic (by rfl) (by rfl) (own_down (B := w4.heap.size) hnr (by have := HB4.out.lt; omega)) (HSr.out.env ((Env.of HF4.out).trans (Env.alloc w4 _))) (by rw [World.size_alloc]; have := HB4.out.lt; omega) (by simp; omega) ?_
    intro v5 w5 o5 g5 r5
    rw [List.nil_append] at o5
    obtain ⟨f5, hb5, hz5⟩ := cp_keep hbx (HF4.out.alloc (.cells #[] 26)) (HB4.out.alloc _) (HZ4.out.alloc _) g5 (fun k hk => by
      simp only [Value.ownBlock, Option.some.injEq] at hk
      have := HZ4.out.lt
      omega)
    have hr5 : ∀ k, v5.ownBlock = some k → w4.heap.size ≤ k := fun k hk => by
      rcases r5 with r5 | r5
      · rw [r5] at hk
        simp only [Value.ownBlock, Option.some.injEq] at hk; omega
      · rw [r5] at hk
        simp only [Option.some.injEq, World.size_alloc] at hk; omega
    have hn5 : w5.heap[gn]? = w4.heap[gn]? := by
      rw [g5.block gn (by rw [World.size_alloc]; omega) (fun e => by
        simp only [Value.ownBlock, Option.some.injEq] at e; omega)]
      exact Below.heap_alloc w4 _ gn hgn2
    have hs5 : w4.heap.size ≤ w5.heap.size := by have := g5.size; rw [World.size_alloc] at this; omega
    have HR5 := hid hr5
    have HS5 := hid hs5
    have HGn := hid hgn2
    obtain ⟨a5, c5, hv5⟩ := own_len o5
    have HI5 : Hid (∃ Y : List Vv, Y.length = X.length ∧ w5.ownsRow bx 26 6 v5 X.length (flatV Y) ∧ (∀ j (h : j < v.its.length) (h' : j < Y.length), j < 0 → ∀ g, v5.ownBlock = some g → VBut (bx + 2) g w5 v.its[j] Y[j]) ∧ (∀ j, 0 ≤ j → Y[j]? = X[j]?) ∧ Fr (fun _ => False) w w5 ∧ Blk w5 bx 26 (Vv.cs ⟨k, n, f, t, na, v.ns.length, nc, ia, X.length, ic⟩) ∧ Blk w5 (bx + 1) 26 vZ.cs ∧ w5.heap[gn]? = w4.heap[gn]? ∧ w5.heap.size ≤ w5.heap.size) :=
      ⟨X, rfl, o5, fun j _ _ h => absurd h (by omega), fun _ _ => rfl, f5, hb5, hz5, hn5, Nat.le_refl _⟩
    clear d0 d1 d2 d3 d4 d5 g5 r5 f5 hb5 hz5 hr5 hn5 hnr o5 hs5 HB4 HZ4 HF4 HO4
    subst hv5
    have hV5 : ∃ v5, v5 = Value.slice a5 X.length c5 := ⟨_, rfl⟩
    go_wp2_with fail
    go_loopw [5] (fun iv wr => ∃ i : Nat, i ≤ X.length ∧ iv = .int .i64 (i : Int) ∧ ∃ Y : List Vv, Y.length = X.length ∧ wr.ownsRow bx 26 6 (.slice a5 X.length c5) X.length (flatV Y) ∧ (∀ j (h : j < v.its.length) (h' : j < Y.length), j < i → ∀ g, (Value.slice a5 X.length c5).ownBlock = some g → VBut (bx + 2) g wr v.its[j] Y[j]) ∧ (∀ j, i ≤ j → Y[j]? = X[j]?) ∧ Fr (fun _ => False) w wr ∧ Blk wr bx 26 (Vv.cs ⟨k, n, f, t, na, v.ns.length, nc, ia, X.length, ic⟩) ∧ Blk wr (bx + 1) 26 vZ.cs ∧ wr.heap[gn]? = w4.heap[gn]? ∧ w5.heap.size ≤ wr.heap.size) (fun iv _ => X.length - (intOf iv).toNat)
    case atStart => exact ⟨0, Nat.zero_le _, rfl, HI5.out⟩
    case round =>
      obtain ⟨i, hi, rfl, Y, hY, hO, hB, hK, hF, hb, hz, hgn4, hsz⟩ := hrel
      clear HI5
      by_cases hlt : i < X.length
      · have hlti : (i : Int) < (X.length : Int) := by omega
        have hiY : i < Y.length := by omega
        have hiv : i < v.its.length := by have := HXl.out; omega
        obtain ⟨g, cap, hv, _, hgB, hgl, hcl⟩ := own_cells hO (by omega)
        simp only [Value.slice.injEq, true_and] at hv
        obtain ⟨hv1, hv2⟩ := hv
        subst hv1 hv2
        have hcc : ∀ j (hj : j < 6), wr.cell? ⟨g, i * 6 + j, none⟩ = Y[i].cs[j]? := fun j hj => by
          have h1 := flatV_at Y i j hiY hj
          have h2 : j < Y[i].cs.length := hj
          rw [List.getElem?_eq_getElem h2] at h1 ⊢
          exact hcl wr rfl _ _ h1
        have k0 := hcc 0 (by decide)
        have k1 := hcc 1 (by decide)
        have k2 := hcc 2 (by decide)
        have k3 := hcc 3 (by decide)
        have k4 := hcc 4 (by decide)
        have k5 := hcc 5 (by decide)
        simp only [List.getElem?_cons_zero, List.getElem?_cons_succ, Nat.add_zero] at k0 k1 k2 k3 k4 k5
        have hYX : Y[i] = X[i] := by
          have := hK i (Nat.le_refl _)
          rw [List.getElem?_eq_getElem hiY, List.getElem?_eq_getElem hlt] at this
          exact Option.some.inj this
        have hVi : VIn wr v.its[i] Y[i] := by rw [hYX]; exact VIn.env (Env.of hF) _ _ (HXv.out i hiv hlt)
        have hm := List.getElem_mem hiv
        have HC := hid ((HIh.out _ hm).1 Y[i] wr hVi (HIh.out _ hm).2)
        have hg4 : w4.heap.size ≤ g := HR5.out g rfl
        have HY := hid hY
        have HO := hid hO
        have HBb := hid hB
        have HK := hid hK
        have HF := hid hF
        have HBx := hid hb
        have HZx := hid hz
        have HGn4 := hid hgn4
        have HSz := hid hsz
        have hgs := HS5.out
        clear hcl hcc hYX hVi hm hY hO hB hK hF hb hz hgn4 hsz
        simp only [Vv.v] at HC
        generalize Y[i] = y at *
        go_wp2_with fail
        refine HC.out.mono ?_
        rintro e w2 ⟨x', rfl, hnew, f2⟩
        have hO2 := owns_of_eq (w' := w2) HO.out (fun q hq => f2.block q (HO.out.lt q hq).2 (fun h => h))
        rw [← HY.out] at hO2
        obtain ⟨g', cap', hv', _, hgl', hth, hst⟩ := own_store hO2 i hiY x'
        simp only [Value.slice.injEq, Option.some.injEq, Addr.mk.injEq, and_true] at hv'
        have hg' := hv'.1
        clear hv'
        obtain rfl : g = g' := hg'
        have hfs : Fr (· = g) w2 (w2.setCells g (i * 6) x'.cs) := (Fr.refl (· = g) w2).setCells (b := g) (.inl rfl) _ _
        have HTh := hid hth
        have hgz : g < wr.heap.size := hgl
        have HNx : Hid (∃ Y' : List Vv, Y'.length = X.length ∧ (w2.setCells g (i * 6) x'.cs).ownsRow bx 26 6 (.slice (some ⟨g, 0, none⟩) X.length c5) X.length (flatV Y') ∧ (∀ j (h : j < v.its.length) (h' : j < Y'.length), j < i + 1 → ∀ q, (Value.slice (some ⟨g, 0, none⟩) X.length c5).ownBlock = some q → VBut (bx + 2) q (w2.setCells g (i * 6) x'.cs) v.its[j] Y'[j]) ∧ (∀ j, i + 1 ≤ j → Y'[j]? = X[j]?) ∧ Fr (fun _ => False) w (w2.setCells g (i * 6) x'.cs) ∧ Blk (w2.setCells g (i * 6) x'.cs) bx 26 (Vv.cs ⟨k, n, f, t, na, v.ns.length, nc, ia, X.length, ic⟩) ∧ Blk (w2.setCells g (i * 6) x'.cs) (bx + 1) 26 vZ.cs ∧ (w2.setCells g (i * 6) x'.cs).heap[gn]? = w4.heap[gn]? ∧ w5.heap.size ≤ (w2.setCells g (i * 6) x'.cs).heap.size) := by
          have hbl := HBx.out.lt
          have hzl := HZx.out.lt
          refine ⟨Y.set i x', by rw [List.length_set]; exact HY.out, ?_, ?_, ?_, ?_, ?_, ?_, ?_, ?_⟩
          · have := hst
            rw [List.length_set, HY.out] at this
            exact this
          · intro j h h' hj q hq
            simp only [Value.ownBlock, Option.some.injEq] at hq
            subst hq
            by_cases hji : j = i
            · subst hji
              rw [List.getElem_set_self]
              exact (hnew.but (B := bx + 2) (by omega) hgz).step hfs
            · have hjY : j < Y.length := by rw [List.length_set] at h'; exact h'
              rw [List.getElem_set_ne (by omega)]
              have h1 := HBb.out j h hjY (by omega) g rfl
              exact (h1.step (f2.mono (fun _ h => h.elim))).step hfs
          · intro j hj
            rw [List.getElem?_set_ne (by omega)]
            exact HK.out j (by omega)
          · exact (HF.out.trans f2 (fun _ h => h.elim)).setCells (b := g) (.inr (by omega)) _ _
          · exact (f2.blk HBx.out (fun h => h)).setCells_ne (by omega) _ _
          · exact (f2.blk HZx.out (fun h => h)).setCells_ne (by omega) _ _
          · rw [hfs.block gn (by have := f2.size; have := HGn.out; have := HSz.out; omega) (by have := HGn.out; omega), f2.block gn (by have := HGn.out; have := HSz.out; omega) (fun h => h)]
            exact HGn4.out
          · have := hfs.size
            have := f2.size
            have := HSz.out
            omega
        clear hO2 hgl' hth hst hfs hnew f2 HC k0 k1 k2 k3 k4 k5
        generalize hWW : w2.setCells g (i * 6) x'.cs = WW at *
        have HWW := hid hWW
        clear hWW
        go_wp2_with (refine wpList_store6 (by rfl) x' _ _ (by rfl) HTh.out (by rfl) (by rfl) ?_; rw [HWW.out])
        go_wp2_with fail
        obtain ⟨Y', hn⟩ := HNx.out
        exact ⟨⟨i + 1, by omega, by first | rfl | (congr 1), Y', hn⟩, by simp [intOf]; omega⟩
      · obtain rfl : i = X.length := by omega
        have hlti : ¬ ((X.length : Nat) : Int) < ((X.length : Nat) : Int) := by omega
        have HY := hid hY
        have HBb := hid hB
        have HGn4 := hid hgn4
        have HSz := hid hsz
        have HO := hid hO
        have HF := hid hF
        have HBx := hid hb
        have HZx := hid hz
        clear hY hB hgn4 hsz hK hO hF hb hz
        go_wp2_with (at_builtin; refine Hid.out ?_)
        refine hid ?_
        refine wpList_app_vals (by rfl) _ _ (by rfl) bx (.slice a5 X.length c5) Y [⟨99, 0, 0, [], none, 0, 0, none, 0, 0⟩] (some ⟨wr.heap.size, 0, none⟩) 1 (by rfl) (by rfl) (by rw [HY.out]; exact owns_alloc HO.out _) (one_val wr ⟨99, 0, 0, [], none, 0, 0, none, 0, 0⟩) (by rw [World.size_alloc]; have := HBx.out.lt; omega) (by rw [HY.out]; simp; omega) ?_
        intro v6 w6 o6 g6 r6
        have hlY : (Y ++ [(⟨99, 0, 0, [], none, 0, 0, none, 0, 0⟩ : Vv)]).length = X.length + 1 := by simp [HY.out]
        obtain ⟨f6, hb6, hz6⟩ := cp_keep hbx (HF.out.alloc _) (HBx.out.alloc _) (HZx.out.alloc _) g6 (fun q hq => by
          have := HR5.out q hq
          have := HGn.out
          omega)
        obtain ⟨gi, ci, hv6, hci, hgi, hgi2, hcl6⟩ := own_cells o6 (by simp)
        have hn6 : w6.heap[gn]? = w4.heap[gn]? := by
          rw [g6.block gn (by rw [World.size_alloc]; have := HGn.out; have := HSz.out; have := HS5.out; omega) (fun e => by
            have := HR5.out gn e.symm
            have := HGn.out
            omega), Below.heap_alloc wr _ gn (by have := HGn.out; have := HSz.out; have := HS5.out; omega)]
          exact HGn4.out
        have hgi3 : bx + 2 ≤ gi ∧ ∀ q, (Value.slice a5 X.length c5).ownBlock = some q → True := by
          refine ⟨?_, fun _ _ => trivial⟩
          rcases r6 with r6 | r6
          · rw [hv6] at r6
            have := HR5.out gi r6.symm
            have := HGn.out
            omega
          · rw [hv6] at r6
            simp only [Value.ownBlock, Option.some.injEq, World.size_alloc] at r6
            have := HZx.out.lt
            omega
        have HB6 : Hid (∀ j (h : j < v.its.length) (h' : j < Y.length), VNew (bx + 2) w6 v.its[j] Y[j]) := hid (fun j h h' W hW => by
          have hjX : j < X.length := by have := HY.out; omega
          obtain ⟨g, cap, hv, _, hgB, hgl, _⟩ := own_cells HO.out (by omega)
          have hb1 := HBb.out j h h' hjX g (by rw [hv]; rfl)
          refine hb1 W (fun q q1 q2 q3 => ?_)
          rw [hW q q1 (by have := g6.size; rw [World.size_alloc] at this; omega)]
          rw [g6.block q (by rw [World.size_alloc]; omega) (fun e => by
            rw [hv] at e
            simp only [Value.ownBlock, Option.some.injEq] at e
            omega)]
          exact Below.heap_alloc wr _ q q2)
        rw [hlY] at hv6 hci
        subst hv6
        have hcl4 := HC4.out w6 hn6
        -- the copy
        obtain ⟨x', hx'⟩ : ∃ x' : Vv, x' = ⟨k, n, f, t, some ⟨gn, 0, none⟩, v.ns.length, cn, some ⟨gi, 0, none⟩, X.length, ci⟩ := ⟨_, rfl⟩
        have HVn : Hid (VNew (bx + 2) w6 v x') := hid (fun W hW => by
          have hP := HP.out
          rw [hx']
          refine VIn_of ⟨hP.1, hP.2.1, ⟨rfl, by simp only; omega, hP.2.2.1.2.2.1, fun hne => ⟨gn, 0, rfl, fun q hq => ?_⟩⟩, ⟨by simp only; exact HXl.out, by simp only; have := HXl.out; omega, hP.2.2.2.1.2.2⟩, ?_⟩
          · have h1 := HC4.out W (by rw [hW gn (by have := HGn.out; omega) (by have := HGn.out; have := HSz.out; have := HS5.out; have := g6.size; rw [World.size_alloc] at this; omega)]; exact hn6) q (.string ⟨v.ns[q].toArray⟩) (by
              unfold nmC
              rw [List.getElem?_map, List.getElem?_append_left hq, List.getElem?_eq_getElem hq]
              rfl)
            rw [Nat.zero_add]
            exact h1
          · refine IIn_mk v.its Y (by rw [HY.out]; exact HXl.out) (fun q u hq => ?_) (fun j h h' => HB6.out j h h' W hW)
            rw [Nat.zero_add]
            refine hcl6 W (hW gi (by omega) hgi2) q u ?_
            rw [flatV_app, List.getElem?_append_left (List.getElem?_eq_some_iff.1 hq).1]
            exact hq)
        obtain ⟨d0, d1, d2, d3, d4, d5⟩ := hb6.six
        have z4 := hb6.frozen 4
        have z5 := hb6.frozen 5
        have HB6b := hid hb6
        have HZ6 := hid hz6
        have HF6 := hid f6
        have HCn := hid hcn
        have HCi := hid hci
        have HX' := hid hx'
        have q1 : ¬ ((cn : Int) < (v.ns.length : Int)) := by omega
        have q2 : (v.ns.length : Int) ≤ (cn : Int) := by omega
        have q3 : ¬ ((ci : Int) < (X.length : Int)) := by omega
        have q4 : (X.length : Int) ≤ (ci : Int) := by omega
        have hne : bx + 1 ≠ bx := by omega
        have HZ7 : Hid (Blk ((w6.setCell ⟨bx, 4, none⟩ (.slice (some ⟨gn, 0, none⟩) v.ns.length cn)).setCell ⟨bx, 5, none⟩ (.slice (some ⟨gi, 0, none⟩) X.length ci)) (bx + 1) 26 vZ.cs) := hid ((hz6.setCell_ne (a := ⟨bx, 4, none⟩) hne _).setCell_ne (a := ⟨bx, 5, none⟩) hne _)
        have hf7 : Fr (fun q => q = bx) w6 ((w6.setCell ⟨bx, 4, none⟩ (.slice (some ⟨gn, 0, none⟩) v.ns.length cn)).setCell ⟨bx, 5, none⟩ (.slice (some ⟨gi, 0, none⟩) X.length ci)) := ((Fr.refl (fun q => q = bx) w6).setCell (p := ⟨bx, 4, none⟩) (.inl rfl) _).setCell (p := ⟨bx, 5, none⟩) (.inl rfl) _
        have HF7 := hid hf7
        have hbw : w.heap.size = bx := hbx
        clear hx' hci hcn hb6 hz6 f6 g6 r6 o6 hcl6 hcl4 hn6 hgi3 hlY HB6 hf7
        go_wp2_with (refine wpList_storeV ⟨k, n, f, t, some ⟨gn, 0, none⟩, v.ns.length, cn, some ⟨gi, 0, none⟩, X.length, ci⟩ (by rfl) _ _ (by rfl) HZ7.out (by rfl) (by rfl) ?_; intro W8 b8 f8)
        have HF8 : Hid (Fr (fun q => q = bx ∨ q = bx + 1) w6 W8) := (HF7.out.mono (fun _ h => .inl h)).trans f8 (fun _ h => .inl (.inr h))
        have HB8 := hid b8
        clear b8 f8
        go_wp2_with fail
        exact bodyPost_ret (resV rfl rfl HB8.out) rfl ⟨x', by rw [HX'.out], fun W hW => HVn.out W (fun q q1 q2 => by
          rw [hW q (by omega) (by have := HF8.out.size; omega)]
          exact HF8.out.block q q2 (by omega)), HF6.out.trans HF8.out (fun q hq => .inr (by omega))⟩
theorem copied_of (v : Vt) : CpOf v := copied_tree _ v (Nat.le_refl _)
end Go.Proofs.YtlepjghfcpgbcaaGreatDoor.Tr
/- How long a small value's text is. -/
namespace Go.Proofs.YtlepjghfcpgbcaaGreatDoor.Tr
open Go.RowKit

theorem flat_len {l : List UInt8} (h : ∀ b : UInt8, (escB b).length ≤ 8) : (l.flatMap escB).length ≤ 8 * l.length := by
  induction l with
  | nil => simp
  | cons a l ih =>
    have := h a
    simp only [List.flatMap_cons, List.length_append, List.length_cons]
    omega
theorem escB_le (b : UInt8) : (escB b).length ≤ 8 := by
  unfold escB
  repeat' split
  all_goals simp
theorem qoT_le8 (s : List UInt8) : (qoT s).length ≤ 8 * s.length + 2 := by
  have := flat_len (l := s) escB_le
  unfold qoT
  simp only [List.length_append, List.length_cons, List.length_nil]
  omega
theorem rn_len {s : List UInt8} {r : List (List UInt8)} (h : ∀ j, j < (s :: r).length → ((s :: r).getD j []).length ≤ 1024) : s.length ≤ 1024 ∧ ∀ j, j < r.length → (r.getD j []).length ≤ 1024 :=
  ⟨by simpa using h 0 (by simp), fun j hj => by simpa using h (j + 1) (by simp; omega)⟩
theorem rnAt_len {ns : List (List UInt8)} {j : Nat} (h : rnB ns = true) (hj : j < ns.length) : (ns.getD j []).length ≤ 1024 := by
  have := List.all_eq_true.1 h j (List.mem_range.2 hj)
  unfold rnAt at this
  simp only [Bool.and_eq_true, decide_eq_true_eq] at this
  exact this.1
mutual
theorem shT_len (T : Nat → Nat × Nat) : ∀ (v : Vt) (room : Nat), rtB v room = true → nmV v → (shT T v).length + 8300 ≤ 20000 * szV v
  | .mk k n f t ns its, room, h, hn => by
    rw [nmV] at hn
    rw [szV, shT]
    rw [rtB] at h
    by_cases h7 : k = 7
    · rw [if_pos h7]; simp; omega
    rw [if_neg h7]
    by_cases h4 : k = 4
    · subst h4
      rw [if_neg (by decide), if_neg (by decide)] at h
      have : t.length ≤ 1024 := by
        unfold rightS at h
        simp at h
        exact h.1
      have := qoT_le8 t
      rw [if_pos rfl]
      omega
    rw [if_neg h4]
    by_cases h5 : k = 5
    · subst h5
      rw [if_pos rfl] at h
      simp only [Bool.and_eq_true] at h
      have := shL_len T its (room - 1) h.1.2 hn.2.2.1
      rw [if_pos rfl]
      simp only [List.length_append, List.length_cons, List.length_nil]
      omega
    rw [if_neg h5]
    by_cases h6 : k = 6
    · subst h6
      rw [if_neg (by decide), if_pos rfl] at h
      simp only [Bool.and_eq_true] at h
      have := shS_len T ns its (room - 1) h.1.2.2 hn.2.2.1 (fun j hj => rnAt_len h.1.1.2 hj)
      rw [if_pos rfl]
      simp only [List.length_append, List.length_cons, List.length_nil]
      omega
    rw [if_neg h6]
    unfold txT
    have h1 := itoa_l n hn.2.2.2
    have h2 := flT_len T f
    by_cases h0 : k = 0
    · rw [if_pos h0]; simp; omega
    rw [if_neg h0]
    by_cases h1 : k = 1
    · rw [if_pos h1]; split <;> simp <;> omega
    rw [if_neg h1]
    by_cases h2' : k = 2
    · rw [if_pos h2']; omega
    rw [if_neg h2']
    by_cases h3 : k = 3
    · rw [if_pos h3]; omega
    exfalso
    rw [if_neg h5, if_neg h6] at h
    unfold rightS at h
    simp [h0, h1, h2', h3, h4, h7] at h
theorem shL_len (T : Nat → Nat × Nat) : ∀ (l : List Vt) (room : Nat), rtL l room = true → nmL l → (shL T l).length ≤ 20000 * szL l
  | [], _, _, _ => by rw [shL]; simp
  | v :: r, room, h, hn => by
    rw [rtL] at h
    rw [nmL] at hn
    simp only [Bool.and_eq_true] at h
    have h1 := shT_len T v room h.1 hn.1
    have h2 := shL_len T r room h.2 hn.2
    rw [shL, szL]
    simp only [List.length_append, List.length_cons, List.length_nil]
    omega
theorem shS_len (T : Nat → Nat × Nat) : ∀ (ns : List (List UInt8)) (l : List Vt) (room : Nat), rtL l room = true → nmL l → (∀ j, j < ns.length → (ns.getD j []).length ≤ 1024) → (shS T ns l).length ≤ 20000 * szL l
  | _, [], _, _, _, _ => by rw [shS]; simp
  | ns, v :: r, room, h, hn, hs => by
    rw [rtL] at h
    rw [nmL] at hn
    simp only [Bool.and_eq_true] at h
    have h1 := shT_len T v room h.1 hn.1
    have h3 : (ns.headD []).length ≤ 1024 ∧ ∀ j, j < ns.tail.length → (ns.tail.getD j []).length ≤ 1024 := by
      cases ns with
      | nil => exact ⟨by simp, fun j hj => absurd hj (by simp)⟩
      | cons s q => exact rn_len hs
    have h2 := shS_len T ns.tail r room h.2 hn.2 h3.2
    have h4 := qoT_le8 (ns.headD [])
    rw [shS, szL]
    simp only [List.length_append, List.length_cons, List.length_nil]
    omega
end
mutual
theorem smF_sz : ∀ (v : Vt) (left : Int), 0 < smF v left → smF v left + szV v = left
  | .mk _ _ _ _ _ its, left, h => by
    rw [smF] at h ⊢
    rw [szV]
    by_cases hl : left ≤ 0
    · rw [if_pos hl] at h; omega
    rw [if_neg hl] at h ⊢
    have := smL_sz its (left - 1) h
    omega
theorem smL_sz : ∀ (l : List Vt) (left : Int), 0 < smL l left → smL l left + szL l = left
  | [], left, h => by rw [smL, szL]; simp
  | v :: r, left, h => by
    rw [smL] at h ⊢
    rw [szL]
    by_cases hl : left ≤ 0
    · rw [if_pos hl] at h; omega
    rw [if_neg hl] at h ⊢
    have h1 := smL_sz r (smF v left) h
    have h2 := smL_le r (smF v left) (smF_le v left (by omega)).1
    have := smF_sz v left (by omega)
    omega
end
theorem sh_small (T : Nat → Nat × Nat) {v : Vt} (h : smF v 5000 ≠ 0) (hn : nmV v) : rtB v 32 = true → (shT T v).length ≤ 10000000000 := fun hr => by
  have h1 := shT_len T v 32 hr hn
  have h2 := smF_le v 5000 (by omega)
  have h3 := smF_sz v 5000 (by omega)
  omega
end Go.Proofs.YtlepjghfcpgbcaaGreatDoor.Tr
