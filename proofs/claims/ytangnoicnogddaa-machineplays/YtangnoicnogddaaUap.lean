/- Appending texts and units; the contracts of the clones. -/
import Derived.Test.YtangnoicnogddaaMagM
import Derived.Test.YtangnoicnogddaaSamM
import Derived.OwnWalk
import Derived.Laws.OwnMore
namespace Go.Proofs.Ytangnoicnogddaa.Tr
open Go.RowKit

/-- Four cells, one by one. -/
abbrev fourB (W : World) (b o : Nat) (x : Uv) : Prop := W.cell? ⟨b, o, none⟩ = some (.string ⟨x.n.toArray⟩) ∧ W.cell? ⟨b, o + 1, none⟩ = some (.string ⟨x.s.toArray⟩) ∧ W.cell? ⟨b, o + 2, none⟩ = some (.slice x.ra x.rl x.rc) ∧ W.cell? ⟨b, o + 3, none⟩ = some (.slice x.aa x.al x.ac)
theorem Blk.fourU {W : World} {b : Nat} {t : TypeId} {x : Uv} (h : Blk W b t x.cs) : W.cell? ⟨b, 0, none⟩ = some (.string ⟨x.n.toArray⟩) ∧ W.cell? ⟨b, 1, none⟩ = some (.string ⟨x.s.toArray⟩) ∧ W.cell? ⟨b, 2, none⟩ = some (.slice x.ra x.rl x.rc) ∧ W.cell? ⟨b, 3, none⟩ = some (.slice x.aa x.al x.ac) :=
  ⟨h.cell 0, h.cell 1, h.cell 2, h.cell 3⟩
theorem two_blk (w : World) (x y : Uv) : Blk (uBox (uBox w x) y) w.heap.size 41 x.cs ∧ Blk (uBox (uBox w x) y) (w.heap.size + 1) 41 y.cs := by
  refine ⟨(uBlk w x).alloc _, ?_⟩
  have := uBlk (uBox w x) y
  rw [World.size_alloc] at this
  exact this
theorem two_fr (w : World) (x y : Uv) : Fr (fun _ => False) w (uBox (uBox w x) y) := ((Fr.refl _ w).alloc _).alloc _
/-- An entry's three cells. -/
structure Xv where
  p : Nm
  k : Int
  da : Option Addr
  dl : Nat
  dc : Nat
deriving Inhabited
def Xv.cs (x : Xv) : List Value := [.string ⟨x.p.toArray⟩, .int .i64 x.k, .slice x.da x.dl x.dc]
def Xv.v (x : Xv) : Value := .agg x.cs.toArray
def xZ : Xv := ⟨[], 0, none, 0, 0⟩
theorem xv_one (x : Xv) : ∀ v ∈ x.cs, v.oneCell' = true := by
  intro v hv
  simp only [Xv.cs, List.mem_cons, List.not_mem_nil, or_false] at hv
  rcases hv with rfl | rfl | rfl <;> rfl
theorem xv_len (x : Xv) : x.cs.length = 3 := rfl
theorem infoE : (Try.prog.info? 39).map (fun i => (i.zero, i.size, i.bytes)) = some (some xZ.v, 3, 48) := by kernel_rfl
def flatE (xs : List Xv) : List Value := xs.flatMap Xv.cs
theorem flatE_cons (x : Xv) (xs : List Xv) : flatE (x :: xs) = x.cs ++ flatE xs := rfl
theorem flatE_app (xs ys : List Xv) : flatE (xs ++ ys) = flatE xs ++ flatE ys := List.flatMap_append
theorem flatE_len : ∀ xs : List Xv, (flatE xs).length = xs.length * 3
  | [] => rfl
  | x :: xs => by rw [flatE_cons, List.length_append, flatE_len xs, xv_len, List.length_cons]; omega
theorem flatE_at : ∀ (xs : List Xv) (i j : Nat) (h : i < xs.length), j < 3 → (flatE xs)[i * 3 + j]? = xs[i].cs[j]?
  | x :: xs, 0, j, _, hj => by
    rw [flatE_cons, Nat.zero_mul, Nat.zero_add, List.getElem?_append_left (by rw [xv_len]; exact hj)]; rfl
  | x :: xs, i + 1, j, h, hj => by
    rw [flatE_cons, List.getElem?_append_right (by rw [xv_len]; omega), xv_len, show (i + 1) * 3 + j - 3 = i * 3 + j by omega, flatE_at xs i j (by simpa using h) hj]
    rfl
theorem flatE_one (xs : List Xv) : ∀ v ∈ flatE xs, v.oneCell' = true := fun v hv => by
  unfold flatE at hv
  obtain ⟨x, _, h⟩ := List.mem_flatMap.1 hv
  exact xv_one x v h
theorem flatE_take : ∀ (xs : List Xv) (i : Nat), (flatE xs).take (i * 3) = flatE (xs.take i)
  | [], i => by simp [flatE]
  | x :: xs, 0 => by simp [flatE]
  | x :: xs, i + 1 => by rw [flatE_cons, show (i + 1) * 3 = 3 + i * 3 by omega, ← xv_len x, List.take_length_add_append, xv_len, flatE_take xs i]; rfl
theorem flatE_drop : ∀ (xs : List Xv) (i : Nat), (flatE xs).drop (i * 3) = flatE (xs.drop i)
  | [], i => by simp [flatE]
  | x :: xs, 0 => by simp [flatE]
  | x :: xs, i + 1 => by rw [flatE_cons, show (i + 1) * 3 = 3 + i * 3 by omega, ← xv_len x, List.drop_length_add_append, xv_len, flatE_drop xs i]; rfl
def strC (ns : List Nm) : List Value := ns.map fun s => .string ⟨s.toArray⟩
theorem strC_len (ns : List Nm) : (strC ns).length = ns.length := by simp [strC]
theorem strC_app (a b : List Nm) : strC (a ++ b) = strC a ++ strC b := by simp [strC]
theorem strC_one (ns : List Nm) : ∀ v ∈ strC ns, v.oneCell' = true := by
  intro v hv
  obtain ⟨s, _, rfl⟩ := List.mem_map.1 hv
  rfl
def uZ : Uv := ⟨[], [], none, 0, 0, none, 0, 0⟩
theorem infoU : (Try.prog.info? 41).map (fun i => (i.zero, i.size, i.bytes)) = some (some uZ.v, 4, 80) := by kernel_rfl
/-- The cells of a row of units. -/
def flatU (xs : List Uv) : List Value := xs.flatMap Uv.cs
theorem flatU_cons (x : Uv) (xs : List Uv) : flatU (x :: xs) = x.cs ++ flatU xs := rfl
theorem flatU_app (xs ys : List Uv) : flatU (xs ++ ys) = flatU xs ++ flatU ys := List.flatMap_append
theorem flatU_len : ∀ xs : List Uv, (flatU xs).length = xs.length * 4
  | [] => rfl
  | x :: xs => by rw [flatU_cons, List.length_append, flatU_len xs, uv_len, List.length_cons]; omega
theorem flatU_at : ∀ (xs : List Uv) (i j : Nat) (h : i < xs.length), j < 4 → (flatU xs)[i * 4 + j]? = xs[i].cs[j]?
  | x :: xs, 0, j, _, hj => by
    rw [flatU_cons, Nat.zero_mul, Nat.zero_add, List.getElem?_append_left (by rw [uv_len]; exact hj)]; rfl
  | x :: xs, i + 1, j, h, hj => by
    rw [flatU_cons, List.getElem?_append_right (by rw [uv_len]; omega), uv_len, show (i + 1) * 4 + j - 4 = i * 4 + j by omega, flatU_at xs i j (by simpa using h) hj]
    rfl
theorem flatU_inv (xs : List Uv) (q : Nat) (u : Value) (h : (flatU xs)[q]? = some u) : ∃ i j, ∃ hi : i < xs.length, j < 4 ∧ q = i * 4 + j ∧ xs[i].cs[j]? = some u := by
  have hq : q < (flatU xs).length := (List.getElem?_eq_some_iff.1 h).1
  rw [flatU_len] at hq
  have hi : q / 4 < xs.length := by omega
  refine ⟨q / 4, q % 4, hi, by omega, by omega, ?_⟩
  rw [← flatU_at xs (q / 4) (q % 4) hi (by omega), show q / 4 * 4 + q % 4 = q by omega]
  exact h
theorem flatU_one (xs : List Uv) : ∀ v ∈ flatU xs, v.oneCell' = true := fun v hv => by
  unfold flatU at hv
  obtain ⟨x, _, h⟩ := List.mem_flatMap.1 hv
  exact uv_one x v h
theorem flatU_take : ∀ (xs : List Uv) (i : Nat), (flatU xs).take (i * 4) = flatU (xs.take i)
  | [], i => by simp [flatU]
  | x :: xs, 0 => by simp [flatU]
  | x :: xs, i + 1 => by rw [flatU_cons, show (i + 1) * 4 = 4 + i * 4 by omega, ← uv_len x, List.take_length_add_append, uv_len, flatU_take xs i]; rfl
theorem flatU_drop : ∀ (xs : List Uv) (i : Nat), (flatU xs).drop (i * 4) = flatU (xs.drop i)
  | [], i => by simp [flatU]
  | x :: xs, 0 => by simp [flatU]
  | x :: xs, i + 1 => by rw [flatU_cons, show (i + 1) * 4 = 4 + i * 4 by omega, ← uv_len x, List.drop_length_add_append, uv_len, flatU_drop xs i]; rfl
/-- The rows X are the units U. -/
def RowIs (w : World) (U : List Ut) (X : List Uv) : Prop := X.length = U.length ∧ ∀ i (h : i < U.length) (h' : i < X.length), UIn w U[i] X[i]
theorem RowIs.env {w W : World} {U : List Ut} {X : List Uv} (h : RowIs w U X) (e : Env w W) : RowIs W U X := ⟨h.1, fun i h1 h2 => (h.2 i h1 h2).env e⟩
theorem RowIs.app {w : World} {U V : List Ut} {X Y : List Uv} (h : RowIs w U X) (g : RowIs w V Y) : RowIs w (U ++ V) (X ++ Y) := by
  refine ⟨by simp [h.1, g.1], fun i h1 h2 => ?_⟩
  by_cases hi : i < U.length
  · rw [List.getElem_append_left hi, List.getElem_append_left (by rw [h.1]; exact hi)]
    exact h.2 i hi (by rw [h.1]; exact hi)
  · rw [List.getElem_append_right (by omega), List.getElem_append_right (by rw [h.1]; omega)]
    have e : i - X.length = i - U.length := by rw [h.1]
    simp only [e]
    exact g.2 _ (by simp at h1; omega) (by simp at h2; have := h.1; omega)
theorem RowIs.one {w : World} {u : Ut} {x : Uv} (h : UIn w u x) : RowIs w [u] [x] := ⟨rfl, fun i h1 h2 => by
  obtain rfl : i = 0 := by simpa using h1
  exact h⟩
theorem rowIs_nil (w : World) : RowIs w [] [] := ⟨rfl, fun i h => by simp at h⟩
/-- Units that lie somewhere, as rows. -/
theorem Us.rows {w0 w : World} {U : List Ut} {ad : Option Addr} (h : Us w0 w U ad) : ∃ X : List Uv, RowIs w0 U X ∧ (X ≠ [] → ∃ b o, ad = Option.some ⟨b, o, none⟩ ∧ ∀ q u, (flatU X)[q]? = Option.some u → w.cell? ⟨b, o + q, none⟩ = Option.some u) := by
  by_cases h0 : U = []
  · subst h0; exact ⟨[], rowIs_nil w0, fun e => absurd rfl e⟩
  · obtain ⟨b, o, e, hc⟩ := h h0
    have hall : ∃ X : List Uv, X.length = U.length ∧ ∀ i (h1 : i < U.length) (h2 : i < X.length), four w b (o + i * 4) X[i] ∧ UIn w0 U[i] X[i] := by
      refine ⟨(List.range U.length).map (fun i => if h : i < U.length then Classical.choose (hc i h) else uZ), by simp, fun i h1 h2 => ?_⟩
      simp only [List.getElem_map, List.getElem_range, dif_pos h1]
      exact Classical.choose_spec (hc i h1)
    obtain ⟨X, hl, hX⟩ := hall
    refine ⟨X, ⟨hl, fun i h1 h2 => (hX i h1 h2).2⟩, fun _ => ⟨b, o, e, fun q u hq => ?_⟩⟩
    obtain ⟨i, j, hi, hj, rfl, hu⟩ := flatU_inv X q u hq
    have := (hX i (by omega) hi).1 j u hu
    rw [show o + (i * 4 + j) = o + i * 4 + j by omega]
    exact this
theorem own_cell {w : World} {B e size : Nat} {v : Value} {n : Nat} {xs : List Value} (h : w.ownsRow B e size v n xs) (hne : xs ≠ []) : ∃ g cap, v = .slice (some ⟨g, 0, none⟩) n cap ∧ B ≤ g ∧ ∀ q u, xs[q]? = some u → w.cell? ⟨g, q, none⟩ = some u := by
  rcases h.2 with ⟨rfl, hn⟩ | ⟨g, cap, cur, rfl, hb, hg, _, _, _, ht⟩
  · exfalso
    have := h.1
    rw [hn, Nat.zero_mul] at this
    exact hne (List.eq_nil_of_length_eq_zero this)
  · refine ⟨g, cap, rfl, hb, fun q u hq => ?_⟩
    rw [cell_of_row w g q cur e (0, 0) hg]
    rw [← ht, List.getElem?_take] at hq
    split at hq
    · simpa using hq
    · cases hq
theorem strs_own {w : World} {B n cap : Nat} {ad : Option Addr} {ns : List Nm} (h : w.ownsRow B 9 1 (.slice ad n cap) ns.length (strC ns)) : Strs w ad ns := fun hne => by
  obtain ⟨g, c, e, _, hc⟩ := own_cell h (fun e => hne (by simpa [strC] using e))
  cases e
  exact ⟨g, 0, rfl, fun i hi => by
    have := hc i (.string ⟨ns[i].toArray⟩) (by simp [strC, hi])
    rw [Nat.zero_add]; exact this⟩
theorem us_own {w0 w : World} {B n cap : Nat} {ad : Option Addr} {U : List Ut} {X : List Uv} (h : w.ownsRow B 41 4 (.slice ad n cap) X.length (flatU X)) (hR : RowIs w0 U X) : Us w0 w U ad := fun hne => by
  have hX : X ≠ [] := fun e => hne (by have := hR.1; rw [e] at this; exact List.eq_nil_of_length_eq_zero this.symm)
  obtain ⟨g, c, e, _, hc⟩ := own_cell h (fun e => hX (by have := flatU_len X; rw [e] at this; simp at this; exact List.eq_nil_of_length_eq_zero (by omega)))
  cases e
  refine ⟨g, 0, rfl, fun i hi => ?_⟩
  have hi' : i < X.length := by rw [hR.1]; exact hi
  refine ⟨X[i], fun j v hv => ?_, hR.2 i hi hi'⟩
  have hj : j < 4 := (List.getElem?_eq_some_iff.1 hv).1
  have := hc (i * 4 + j) v (by rw [flatU_at X i j hi' hj]; exact hv)
  rw [show 0 + i * 4 + j = i * 4 + j by omega]
  exact this

/-- 'append(l, more...)' of texts. -/
theorem wpList_app_S {ops : Array Oper} {rest : List Oper} {o : Oper} {a : Act} {W : World} {Q : Exit → Act → World → Prop} (hgd : o.guard = none) (d s : Operand) (ho : o.op = .call { callee := .builtin .append, args := #[d, s], argTypes := #[30, 30] })
    (base : Nat) (v : Value) (X Y : List Nm) (ad : Option Addr) (cap : Nat) (hd : a.eval d = v) (hs : a.eval s = .slice ad Y.length cap) (hown : W.ownsRow base 9 1 v X.length (strC X)) (hsrc : Strs W ad Y) (hb : base ≤ W.heap.size) (hl : X.length + Y.length ≤ lim16)
    (h : ∀ v' W', W'.ownsRow base 9 1 v' (X ++ Y).length (strC (X ++ Y)) → W.grownBy W' v.ownBlock → (∀ k, v'.ownBlock = some k → v.ownBlock = some k ∨ W.heap.size ≤ k) → wpList Try.prog ops Q rest (a.put o.dst v') W') : wpList Try.prog ops Q (o :: rest) a W := by
  unfold lim16 at hl
  obtain ⟨i0, hi0, hz0, hz1, hz2⟩ := info_parts info9
  by_cases hy : Y = []
  · subst hy
    have hl : ∀ (x : Addr), (loadCells x 0).run Try.prog W = .ok #[] W := fun x => by simpa using run_loadCells_list (P := Try.prog) W x [] (by simp)
    have hrun : (Builtin.append_ #[30, 30] o.type #[v, .slice ad 0 cap]).run Try.prog W = .ok v W := by
      rcases hown.2 with ⟨rfl, h00⟩ | ⟨g, cap', cur, rfl, _, _, hnc, _⟩
      · cases ad <;> simp [Builtin.append_, run_underlying Try.underlying30, sizeOf, typeInfo, hi0, Builtin.lenOf, Builtin.firstCells, hl]
      · cases ad <;> simp [Builtin.append_, run_underlying Try.underlying30, sizeOf, typeInfo, hi0, Builtin.lenOf, Builtin.firstCells, hnc, storeCells, hl]
    refine wpList_plain hgd fun K hK => ?_
    unfold Oper.wp
    simp only [List.length_nil] at hs
    simp [execOp, ho, resolve, invoke, builtin, hd, hs, hrun, Result.andThen]
    exact hK _ _ (h v W (by simpa using hown) ⟨rfl, rfl, rfl, Nat.le_refl _, fun _ _ _ => rfl⟩ (fun k hk => .inl hk))
  · obtain ⟨bb, bo, rfl, hr⟩ := hsrc hy
    have hpos : 0 < Y.length := List.length_pos_iff.2 hy
    refine wpList_append_lies W hgd d s 30 ho base 9 i0 _ 1 16 Try.underlying30 hi0 hz0 hz1 hz2 rfl (by omega) v X.length (strC X) hd hown ⟨bb, bo, none⟩ Y.length cap (strC Y) hs (by rw [strC_len]; omega) (fun j u hu => by
      rw [Addr.add_mid]
      have hj : j < Y.length := by have := (List.getElem?_eq_some_iff.1 hu).1; rwa [strC_len] at this
      rw [hr j hj]
      simp [strC, hj] at hu
      rw [← hu]) (strC_one Y) hpos (by unfold maxLen; omega) (by omega) hb _ rfl ?_
    intro g cap' W' h1 h2 h3 h4
    refine h _ _ ?_ h2 ?_
    · rw [List.length_append, strC_app]
      exact h1
    · intro k hk
      cases hk
      rcases h3 with h3 | h3
      · exact .inl h3
      · exact .inr (by rw [h3]; exact Nat.le_refl _)

/-- 'append(l, more...)' of units. -/
theorem wpList_app_U {ops : Array Oper} {rest : List Oper} {o : Oper} {a : Act} {W : World} {Q : Exit → Act → World → Prop} (hgd : o.guard = none) (d s : Operand) (ho : o.op = .call { callee := .builtin .append, args := #[d, s], argTypes := #[31, 31] })
    (base : Nat) (v : Value) (X Y : List Uv) (ad : Option Addr) (cap : Nat) (hd : a.eval d = v) (hs : a.eval s = .slice ad Y.length cap) (hown : W.ownsRow base 41 4 v X.length (flatU X)) (hsrc : Y ≠ [] → ∃ bb bo, ad = some ⟨bb, bo, none⟩ ∧ ∀ q u, (flatU Y)[q]? = some u → W.cell? ⟨bb, bo + q, none⟩ = some u) (hb : base ≤ W.heap.size) (hl : X.length + Y.length ≤ 1000000)
    (h : ∀ v' W', W'.ownsRow base 41 4 v' (X ++ Y).length (flatU (X ++ Y)) → W.grownBy W' v.ownBlock → (∀ k, v'.ownBlock = some k → v.ownBlock = some k ∨ W.heap.size ≤ k) → wpList Try.prog ops Q rest (a.put o.dst v') W') : wpList Try.prog ops Q (o :: rest) a W := by
  obtain ⟨i0, hi0, hz0, hz1, hz2⟩ := info_parts infoU
  by_cases hy : Y = []
  · subst hy
    have hl : ∀ (x : Addr), (loadCells x 0).run Try.prog W = .ok #[] W := fun x => by simpa using run_loadCells_list (P := Try.prog) W x [] (by simp)
    have hrun : (Builtin.append_ #[31, 31] o.type #[v, .slice ad 0 cap]).run Try.prog W = .ok v W := by
      rcases hown.2 with ⟨rfl, h00⟩ | ⟨g, cap', cur, rfl, _, _, hnc, _⟩
      · cases ad <;> simp [Builtin.append_, run_underlying Try.underlying31, sizeOf, typeInfo, hi0, Builtin.lenOf, Builtin.firstCells, hl]
      · cases ad <;> simp [Builtin.append_, run_underlying Try.underlying31, sizeOf, typeInfo, hi0, Builtin.lenOf, Builtin.firstCells, hnc, storeCells, hl]
    refine wpList_plain hgd fun K hK => ?_
    unfold Oper.wp
    simp only [List.length_nil] at hs
    simp [execOp, ho, resolve, invoke, builtin, hd, hs, hrun, Result.andThen]
    exact hK _ _ (h v W (by simpa using hown) ⟨rfl, rfl, rfl, Nat.le_refl _, fun _ _ _ => rfl⟩ (fun k hk => .inl hk))
  · obtain ⟨bb, bo, rfl, hr⟩ := hsrc hy
    have hpos : 0 < Y.length := List.length_pos_iff.2 hy
    refine wpList_append_lies W hgd d s 31 ho base 41 i0 _ 4 80 Try.underlying31 hi0 hz0 hz1 hz2 rfl (by omega) v X.length (flatU X) hd hown ⟨bb, bo, none⟩ Y.length cap (flatU Y) hs (by rw [flatU_len]) (fun j u hu => by rw [Addr.add_mid]; exact hr j u hu) (flatU_one Y) hpos (by unfold maxLen; omega) (by omega) hb _ rfl ?_
    intro g cap' W' h1 h2 h3 h4
    refine h _ _ ?_ h2 ?_
    · rw [List.length_append, flatU_app]
      exact h1
    · intro k hk
      cases hk
      rcases h3 with h3 | h3
      · exact .inl h3
      · exact .inr (by rw [h3]; exact Nat.le_refl _)

/-- An empty row. -/
theorem own_empty (w : World) (e size : Nat) : (w.alloc (.cells #[] e)).ownsRow w.heap.size e size (.slice (some ⟨w.heap.size, 0, none⟩) 0 0) 0 [] :=
  ⟨by simp, .inr ⟨_, 0, #[], rfl, Nat.le_refl _, heap_alloc_new w _, Nat.le_refl _, by unfold maxLen; omega, by simp, by simp⟩⟩

set_option maxRecDepth 100000 in
set_option maxHeartbeats 2000000 in
theorem cloneS_any (w : World) (ns : List Nm) (ad : Option Addr) (cap : Nat) (hs : Strs w ad ns) (hl : ns.length ≤ lim16) :
    Calls Try.prog 51 #[.slice ad ns.length cap] w fun e w' => (∃ v, e = .returned v ∧ w'.ownsRow w.heap.size 9 1 v ns.length (strC ns)) ∧ Fr (fun _ => False) w w' := by
  have HS := hid hs
  clear hs
  have hq := fun W : World => Lib.run_eql_slice_nil (P := Try.prog) W 30 9 ad ns.length cap 0 0 Try.underlying30
  cases ad with
  | none =>
    have h0 : ns = [] := by
      by_cases h : ns = []
      · exact h
      · obtain ⟨_, _, e, _⟩ := HS.out h
        cases e
    subst h0
    simp only [List.length_nil, Option.isNone_none] at hq
    go_enter Try.func51, Try.ntmps51
    go_wp2_with fail
    go_ret
    exact ⟨⟨_, rfl, World.ownsRow_nil _ _ _ _⟩, Fr.refl _ _⟩
  | some a0 =>
    have HO := hid (own_empty w 9 1)
    have HS2 := hid (HS.out.env (Env.alloc w (.cells #[] 9)))
    have HF := hid ((Fr.refl (fun _ => False) w).alloc (.cells #[] 9))
    go_enter Try.func51, Try.ntmps51
    go_wp2_with (at_builtin; refine Hid.out ?_)
    refine wpList_app_S (by rfl) _ _ (by rfl) w.heap.size _ [] ns (some a0) cap (by rfl) (by rfl) HO.out HS2.out (by simp) (by simpa using hl) ?_
    intro v' W' ho hg _
    have HO2 := hid ho
    have HF3 : Hid (Fr (fun _ => False) w W') := HF.out.grown hg (fun k hk => .inr (by cases hk; exact Nat.le_refl _))
    clear ho hg
    go_wp2_with fail
    go_ret
    exact ⟨⟨_, rfl, HO2.out⟩, HF3.out⟩

end Go.Proofs.Ytangnoicnogddaa.Tr
