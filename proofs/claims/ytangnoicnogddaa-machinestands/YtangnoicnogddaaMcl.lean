/- Cells of a row: cleared, copied; what deleting and inserting leave. -/
import Derived.Test.YtangnoicnogddaaUap
import Derived.Lib.SliceRun
import Derived.Lib.AppendZerosOnto
import Derived.Lib.Overlaps
import Derived.Laws.Externs
import Derived.Deep.RegionLaw
import Derived.Shelf.RegionOpenPlain
namespace Go.Proofs.Ytangnoicnogddaa.Tr
open Go.RowKit

/-- One element cleared. -/
theorem run_clear_one {P : Program} (w : World) (t e ty : TypeId) (z : Value) (k : Nat) (ht : P.underlying t = some (.slice e)) (hv : ∀ w, (zeroValue e).run P w = .ok z w) (hk : z.cells.size = k) (h1 : ∀ v ∈ z.cells.toList, v.oneCell' = true) (b o c : Nat)
    (hth : w.there b o k) : (Builtin.clear_ #[t] ty #[.slice (some ⟨b, o, none⟩) 1 c]).run P w = .ok (.tuple #[]) (w.setCells b o z.cells.toList) := by
  have hzc : (Builtin.zeroCells z.cells 1).toList = z.cells.toList := by
    simp only [Builtin.zeroCells, Nat.one_mul]
    apply List.ext_getElem
    · simp
    · intro i h1 h2
      have hi : i < z.cells.size := by simpa using h2
      simp [Nat.mod_eq_of_lt hi, getElem!_pos z.cells i hi]
  have hl : z.cells.toList.length = k := by simpa using hk
  have hst := run_storeCells_cells (P := P) b o z.cells.toList 0 w (fun j hj => by simpa using (hth j (by omega)).1) (fun j hj => by simpa using (hth j (by omega)).2) h1
  simp only [Nat.add_zero] at hst
  simp [Builtin.clear_, run_underlying ht, hv, hzc, hst]
theorem run_copy_rows {P : Program} (w : World) (dT sT ty elem : TypeId) (b o dLen dCap : Nat) (a : Addr) (sLen sCap sz : Nat) (cs : List Value)
    (hu : P.underlying dT = some (.slice elem)) (hs : (P.info? elem).map (·.size) = some sz) (hn : cs.length = Nat.min sLen dLen * sz)
    (hsrc : ∀ j v, cs[j]? = some v → w.cell? (a.add j) = some v) (ht : w.there b o cs.length) (h1 : ∀ v ∈ cs, v.oneCell' = true) :
    (Builtin.copy_ #[dT, sT] ty #[.slice (some ⟨b, o, none⟩) dLen dCap, .slice (some a) sLen sCap]).run P w = .ok (goInt (Nat.min sLen dLen)) (w.setCells b o cs) := by
  have hl := run_loadCells_list (P := P) w a cs hsrc
  have hst := run_storeCells_cells (P := P) b o cs 0 w (fun j hj => by simpa using (ht j hj).1) (fun j hj => by simpa using (ht j hj).2) h1
  cases hq : P.info? elem with
  | none => simp [hq] at hs
  | some i =>
    have hi : i.size = sz := by simpa [hq] using hs
    simp [Builtin.copy_, run_underlying hu, Builtin.lenOf, Builtin.firstCells, sizeOf, typeInfo, hq, hi, ← hn, hl, hst]
theorem wpList_copy_run {P : Program} (w : World) {ops : Array Oper} {rest : List Oper} {o : Oper} {a : Act} {Q : Exit → Act → World → Prop} (hgd : o.guard = none) (d s : Operand) (t t' : TypeId)
    (ho : o.op = .call { callee := .builtin .copy, args := #[d, s], argTypes := #[t, t'] }) (v u : Value) (hd : a.eval d = v) (hs : a.eval s = u) {v' : Value} {w' : World}
    (hr : (Builtin.copy_ #[t, t'] o.type #[v, u]).run P w = .ok v' w') (h : wpList P ops Q rest (a.put o.dst v') w') : wpList P ops Q (o :: rest) a w := by
  refine wpList_plain hgd fun K hK => ?_
  unfold Oper.wp execOp
  simp only [ho, resolve, invoke, builtin, Sem.run_bind, Sem.run_pure, Result.andThen_ok, List.map_toArray, List.map_cons, List.map_nil, hd, hs, hr]
  exact hK _ _ h
theorem step_copy_run {P : Program} {ops : Array Oper} {o : Oper} {a : Act} {w : World} {K : Act → World → Prop} {Q : Exit → Act → World → Prop} {E : Prop}
    (hg : o.guard = none) (d x : Operand) (dT sT : TypeId) (hop : o.op = Op.call { callee := Callee.builtin Builtin.copy, args := #[d, x], argTypes := #[dT, sT] })
    (v u : Value) (hd : a.eval d = v) (hx : a.eval x = u) {v' : Value} {w' : World} (hr : (Builtin.copy_ #[dT, sT] o.type #[v, u]).run P w = .ok v' w') (hK : K (a.put o.dst v') w') :
    if Region.wanted o (yielded ops a.tmps) = true then Oper.wp P o a w K Q else E := by
  have hw : Region.wanted o (yielded ops a.tmps) = true := by simp [Region.wanted, hg]
  rw [if_pos hw]
  unfold Oper.wp
  simp [execOp, hop, resolve, invoke, builtin, hd, hx, hr, Result.andThen]
  exact hK
theorem splice_take {α : Type} (L : List α) (o : Nat) (s : List α) (m : Nat) (h : m ≤ o) (ho : o ≤ L.length) : (splice L o s).take m = L.take m := by
  unfold splice
  rw [List.take_append_of_le_length (by simp; omega), List.take_take, Nat.min_eq_left h]
theorem splice_len {α : Type} (L : List α) (o : Nat) (s : List α) (h : o + s.length ≤ L.length) : (splice L o s).length = L.length := by
  unfold splice; simp; omega
theorem splice_to {α : Type} (L : List α) (o : Nat) (s : List α) (ho : o ≤ L.length) : (splice L o s).take (o + s.length) = L.take o ++ s := by
  unfold splice
  have hl : (L.take o ++ s).length = o + s.length := by simp; omega
  rw [← List.append_assoc, ← hl, List.take_left]
/-- What deleting one of n leaves. -/
theorem del_cells (cur zs : List Value) (k n i : Nat) (hi : i < n) (hn : n * k ≤ cur.length) (hz : zs.length = k) :
    let news := (cur.drop ((i + 1) * k)).take ((n - (i + 1)) * k)
    let c1 := splice cur (i * k) news
    let c2 := splice c1 ((n - 1) * k) zs
    news.length = (n - (i + 1)) * k ∧ i * k + news.length ≤ cur.length ∧ c1.length = cur.length ∧ (n - 1) * k + zs.length ≤ cur.length ∧ c2.length = cur.length ∧ c2.take ((n - 1) * k) = (cur.take (n * k)).take (i * k) ++ (cur.take (n * k)).drop ((i + 1) * k) := by
  intro news c1 c2
  obtain ⟨m, rfl⟩ : ∃ m, n = i + 1 + m := ⟨n - (i + 1), by omega⟩
  have e1 : (i + 1 + m - (i + 1)) = m := by omega
  have e2 : (i + 1 + m - 1) = i + m := by omega
  have x1 : (i + 1 + m) * k = i * k + k + m * k := by rw [Nat.add_mul, Nat.add_mul, Nat.one_mul]
  have x2 : (i + 1) * k = i * k + k := by rw [Nat.add_mul, Nat.one_mul]
  have x3 : (i + m) * k = i * k + m * k := Nat.add_mul _ _ _
  have hl : news.length = m * k := by
    show ((cur.drop ((i + 1) * k)).take ((i + 1 + m - (i + 1)) * k)).length = _
    rw [e1, List.length_take, List.length_drop]; omega
  have h2 : i * k + news.length ≤ cur.length := by omega
  have h3 : c1.length = cur.length := splice_len _ _ _ h2
  have h4 : (i + 1 + m - 1) * k + zs.length ≤ cur.length := by rw [e2]; omega
  refine ⟨by rw [hl, e1], h2, h3, h4, (splice_len _ _ _ (by rw [h3]; exact h4)).trans h3, ?_⟩
  show (splice c1 ((i + 1 + m - 1) * k) zs).take ((i + 1 + m - 1) * k) = _
  rw [splice_take _ _ _ _ (Nat.le_refl _) (by rw [h3]; omega), e2, x3, ← hl, splice_to _ _ _ (by omega)]
  congr 1
  · rw [List.take_take, Nat.min_eq_left (by omega)]
  · show (cur.drop ((i + 1) * k)).take ((i + 1 + m - (i + 1)) * k) = _
    rw [e1, List.drop_take, show (i + 1 + m) * k - (i + 1) * k = m * k by omega]
end Go.Proofs.Ytangnoicnogddaa.Tr
