
/- Commit. -/
import Derived.Test.YtehoiahgkbnjdaaGreatChk
import Derived.Deep.CutRange
namespace Go.Proofs.YtehoiahgkbnjdaaGreat.Wl
open Go.RowKit Go.Shelf Dk

attribute [local go_sem] Oper.semAt_some

/-- The row number j of m. -/
def part (m : SMap) (j : Nat) : SMap := (m.drop (60 * j)).take 60
def rowOf (m : SMap) (j : Nat) : List Sec := lst ((part m j).map (·.1)) :: (part m j).map (·.2)
def rows (m : SMap) (pre : List Nat) : List Sec := pre.flatMap (rowOf m)
theorem part_length (m : SMap) (j : Nat) : (part m j).length = ln m.length j := by simp [part, ln]
theorem rows_snoc (m : SMap) (pre : List Nat) (j : Nat) : rows m (pre ++ [j]) = rows m pre ++ rowOf m j := by simp [rows]
def allRows (m : SMap) : List Sec := rows m (List.range (cnt m.length))

/-- What the home that comes first leaves. -/
def comH (L : Lg) : Bool := decide (L.n - 1 < L.u + cost L.st.length)
def com0E (D : Dsk) (L : Lg) : Int := if comH L then HomE D L else 0
def com0D (D : Dsk) (L : Lg) : Dsk := if comH L then HomD D L else D
def com0L (D : Dsk) (L : Lg) : Lg := if comH L then HomL D L else L
def com1 (D : Dsk) (L : Lg) : Dsk × Nat × Nat × Int := puts (com0D D L) (com0L D L).f (com0L D L).u (com0L D L).p (allRows L.st)
def comC (D : Dsk) (L : Lg) : Sec := ctl (com0L D L).e (com1 D L).2.1 (com1 D L).2.2.1
def comE (D : Dsk) (L : Lg) : Int := if com0E D L ≠ 0 then com0E D L else if (com1 D L).2.2.2 ≠ 0 then (com1 D L).2.2.2 else setE (com1 D L).1 L.f (comC D L)
def comD (D : Dsk) (L : Lg) : Dsk := if com0E D L ≠ 0 then com0D D L else if (com1 D L).2.2.2 ≠ 0 then (com1 D L).1 else setD (com1 D L).1 L.f (comC D L)
def comL (D : Dsk) (L : Lg) : Lg := if comE D L ≠ 0 then com0L D L else { (com0L D L).ctl (com0L D L).e (com1 D L).2.1 (com1 D L).2.2.1 with lg := merge (com0L D L).lg L.st, st := [] }
def ComPost (G : Nat → Prop) (w : World) (l p : Nat) (D : Dsk) (L : Lg) (x : Ending) (w' : World) : Prop :=
  x = .returned (.int .i64 (comE D L)) ∧ (∃ bl' bt', OwnL G w' l p bl' bt' (comD D L) (comL D L)) ∧ Kp G w w'

theorem rows_len (m : SMap) : ∀ k, (rows m (List.range k)).length = k + min (60 * k) m.length
  | 0 => by simp [rows]
  | k + 1 => by
    rw [List.range_succ, rows_snoc, List.length_append, rows_len m k]
    simp only [rowOf, List.length_cons, List.length_map, part_length, ln]
    omega
theorem allRows_length (m : SMap) : (allRows m).length = cost m.length := by
  unfold allRows cost
  rw [rows_len]
  unfold cnt
  omega
theorem setD_sm {D : Dsk} {m : Nat} (f : Nat) (s : Sec) (h : Sm D (m + 3)) : Sm (setD D f s) m := by
  have h1 : Sm D.flush (m + 2) := h.flush
  have h2 : Sm (D.flush.write (f : Int) s) (m + 1) := h1.write _ _
  unfold setD
  split
  · exact h1.le (by omega)
  · split
    · exact h2.le (by omega)
    · exact h2.flush
theorem wrs_sm : ∀ (a : SMap) (D : Dsk) (m : Nat), Sm D (m + a.length) → Sm (wrs D a).1 m
  | [], _, _, h => h
  | q :: r, D, m, h => by
    have h1 : Sm (D.write (q.1 : Int) q.2) (m + r.length) := Sm.write (by simpa [Nat.add_assoc] using h) _ _
    simp only [wrs]
    split
    · exact h1.le (by omega)
    · exact wrs_sm r _ m h1
theorem HomD_sm {D : Dsk} {L : Lg} {m : Nat} (h : Sm D (m + 3 + L.lg.length)) : Sm (HomD D L) m := by
  have h1 : Sm (wrs D L.lg).1 (m + 3) := wrs_sm L.lg D (m + 3) h
  unfold HomD
  split
  · exact h1.le (by omega)
  · exact setD_sm _ _ h1
theorem HomL_same (D : Dsk) (L : Lg) : (HomL D L).f = L.f ∧ (HomL D L).n = L.n ∧ (HomL D L).z = L.z ∧ (HomL D L).st = L.st ∧ (HomL D L).lg.length ≤ L.lg.length := by
  unfold HomL
  split
  · exact ⟨rfl, rfl, rfl, rfl, Nat.zero_le _⟩
  · exact ⟨rfl, rfl, rfl, rfl, Nat.le_refl _⟩
theorem com0_facts {D : Dsk} {L : Lg} (hc : cost L.st.length ≤ L.n - 1) (hD : Sm D 3000) (hm : L.lg.length < 1024) (h0 : com0E D L = 0) : (com0L D L).f = L.f ∧ (com0L D L).n = L.n ∧ (com0L D L).st = L.st ∧ (com0L D L).u + cost L.st.length ≤ L.n - 1 ∧ Sm (com0D D L) 1900 ∧ (com0L D L).lg.length < 1024 := by
  obtain ⟨a1, a2, _, a4, a5⟩ := HomL_same D L
  unfold com0L com0D
  unfold com0E at h0
  by_cases hh : comH L = true
  · simp only [hh, if_true] at h0 ⊢
    refine ⟨a1, a2, a4, ?_, HomD_sm (hD.le (by omega)), by omega⟩
    have : (HomL D L).u = 0 := by simp [HomL, h0, Lg.homed]
    omega
  · have hh' : comH L = false := by simpa using hh
    have e1 : (if comH L = true then HomL D L else L) = L := by simp [hh']
    have e2 : (if comH L = true then HomD D L else D) = D := by simp [hh']
    rw [e1, e2]
    refine ⟨rfl, rfl, rfl, ?_, hD.le (by omega), hm⟩
    simp [comH] at hh'
    exact hh'
/-- What a commit is behind the home that comes first. -/
theorem com_tail {D D0 : Dsk} {L L0 : Lg} (h0 : com0E D L = 0) (hD : D0 = com0D D L) (hL : L0 = com0L D L) (hf : L0.f = L.f) :
    ((puts D0 L0.f L0.u L0.p (allRows L.st)).2.2.2 ≠ 0 → comE D L = (puts D0 L0.f L0.u L0.p (allRows L.st)).2.2.2 ∧ comD D L = (puts D0 L0.f L0.u L0.p (allRows L.st)).1 ∧ comL D L = L0) ∧
    ((puts D0 L0.f L0.u L0.p (allRows L.st)).2.2.2 = 0 → comE D L = setE (puts D0 L0.f L0.u L0.p (allRows L.st)).1 L0.f (ctl L0.e (puts D0 L0.f L0.u L0.p (allRows L.st)).2.1 (puts D0 L0.f L0.u L0.p (allRows L.st)).2.2.1) ∧
      comD D L = setD (puts D0 L0.f L0.u L0.p (allRows L.st)).1 L0.f (ctl L0.e (puts D0 L0.f L0.u L0.p (allRows L.st)).2.1 (puts D0 L0.f L0.u L0.p (allRows L.st)).2.2.1) ∧
      comL D L = if comE D L ≠ 0 then L0 else { L0.ctl L0.e (puts D0 L0.f L0.u L0.p (allRows L.st)).2.1 (puts D0 L0.f L0.u L0.p (allRows L.st)).2.2.1 with lg := merge L0.lg L.st, st := [] }) := by
  subst hD hL
  have e1 : com1 D L = puts (com0D D L) (com0L D L).f (com0L D L).u (com0L D L).p (allRows L.st) := rfl
  refine ⟨fun hr => ?_, fun hr => ?_⟩
  · rw [← e1] at hr ⊢
    have h2 : comE D L = (com1 D L).2.2.2 := by simp [comE, h0, hr]
    exact ⟨h2, by simp [comD, h0, hr], by simp [comL, h2, hr]⟩
  · rw [← e1] at hr ⊢
    rw [hf]
    exact ⟨by simp [comE, h0, hr, comC], by simp [comD, h0, hr, comC], rfl⟩

theorem results30 {fn : Func} {t : Tmp} (h : fn.results = #[.cell t 40]) {tmps : Array Value} {W : World} {b : Nat} {t' : TypeId} {v : Value} (ha : tmps.getD t undef = .pointer (some ⟨b, 0, none⟩)) (hb : Blk W b t' [v]) :
    (results fn tmps).run Tryz.prog W = .ok v W := by
  have ha' : tmps[t]?.getD undef = .pointer (some ⟨b, 0, none⟩) := by simpa using ha
  have hc := hb.cell 0
  simp only [List.getElem?_cons_zero] at hc
  have hu := Tryz.underlying40
  simp [results, h, ha', asAddr, loadVar, isAgg, run_underlying hu, go_sem, hc]

/-- Every block of a disk is a row of cells. -/
theorem Rep_cells {B : Nat} {w : World} {p bl bn : Nat} {lv : Value} {D : Dsk} (h : Rep B w p bl bn lv D) {k : Nat} (hk : foot p bl bn lv k) : ∃ o : Obj, w.heap[k]? = some o ∧ o.isCells = true := by
  rcases hk with rfl | rfl | rfl | hk
  · exact ⟨_, h.hp, rfl⟩
  · exact ⟨_, h.hl, rfl⟩
  · exact ⟨_, h.hn, rfl⟩
  · rcases h.hq.2 with ⟨h0, _⟩ | ⟨g, cap, cur, hv, _, hg, _⟩
    · rw [h0] at hk; cases hk
    · rw [hv] at hk
      obtain rfl : g = k := by simpa [Value.ownBlock] using hk
      exact ⟨_, hg, rfl⟩
/-- Something turns that is none of the log's. -/
theorem OwnL.turned {G : Nat → Prop} {w w' : World} {l p bl bt : Nat} {D : Dsk} {L : Lg} {row : Option Nat} (h : OwnL G w l p bl bt D L) (hg : w.grownBy w' row) (hr : ∀ r, row = some r → r ≠ bl ∧ r ≠ bt ∧ ∃ o : Obj, w.heap[r]? = some o ∧ o.isCells = false) : OwnL G w' l p bl bt D L := by
  have cells : ∀ k, (∃ o : Obj, w.heap[k]? = some o ∧ o.isCells = true) → w'.heap[k]? = w.heap[k]? := fun k ⟨o, ho, hc⟩ =>
    hg.block k (Array.getElem?_eq_some_iff.1 ho).1 (fun e => by
      obtain ⟨_, _, o', ho', hc'⟩ := hr k e.symm
      rw [ho] at ho'
      cases ho'
      rw [hc] at hc'
      cases hc')
  refine ⟨h.r.of_same (cells l ⟨_, h.r.hl, rfl⟩) (hg.block bl h.r.ml.lt (fun e => (hr bl e.symm).1 rfl)) (hg.block bt h.r.mt.lt (fun e => (hr bt e.symm).2.1 rfl)), ?_, h.g, h.n⟩
  obtain ⟨a1, a2, lv, r, f⟩ := h.d
  exact ⟨a1, a2, lv, r.of_same (fun k hk => cells k (Rep_cells r hk)), fun k hk => ⟨Nat.lt_of_lt_of_le (f k hk).1 hg.size, (f k hk).2⟩⟩
theorem Blk.turned {w w' : World} {b : Nat} {t : TypeId} {xs : List Value} {row : Option Nat} (h : Blk w b t xs) (hg : w.grownBy w' row) (hr : ∀ r, row = some r → ∃ o : Obj, w.heap[r]? = some o ∧ o.isCells = false) : Blk w' b t xs :=
  h.of_eq (hg.block b h.lt (fun e => by
    obtain ⟨o, ho, hc⟩ := hr b e.symm
    have h' : w.heap[b]? = some (.cells xs.toArray t (0, 0)) := h
    rw [h'] at ho
    cases ho
    cases hc))
/-- Blocks that are no cells, and lie at or beyond B, are kept too. -/
theorem OwnL.others {G : Nat → Prop} {w : World} {l p bl bt B : Nat} {D : Dsk} {L : Lg} (h : OwnL G w l p bl bt D L) (h1 : bl < B) (h2 : bt < B) : OwnL (fun k => G k ∨ (B ≤ k ∧ ∃ o : Obj, w.heap[k]? = some o ∧ o.isCells = false)) w l p bl bt D L := by
  refine ⟨h.r, ?_, fun k hk => ?_, h.n⟩
  · obtain ⟨a1, a2, lv, r, f⟩ := h.d
    refine ⟨a1, a2, lv, r, fun k hk => ?_⟩
    rcases hk with (hk | ⟨_, o, ho, hc⟩) | hk
    · exact f k (.inl hk)
    · refine ⟨(Array.getElem?_eq_some_iff.1 ho).1, fun hf => ?_⟩
      obtain ⟨o', ho', hc'⟩ := Rep_cells r hf
      rw [ho] at ho'
      cases ho'
      rw [hc] at hc'
      cases hc'
    · exact f k (.inr hk)
  · rcases hk with hk | ⟨hB, o, ho, hc⟩
    · exact h.g k hk
    · refine ⟨fun e => ?_, by omega, by omega⟩
      subst e
      have h' : w.heap[k]? = some (.cells (L.cells p bl bt).toArray 91 (0, 0)) := h.r.hl
      rw [h'] at ho
      cases ho
      cases hc

/-- In mid-way: the rows of pre are put. -/
structure ComMid (G : Nat → Prop) (w W : World) (l p bl bt b4 c1 c2 gs : Nat) (D0 : Dsk) (L0 : Lg) (st : SMap) (Z : List Value) (pre : List Nat) (r : Int) : Prop where
  o : OwnL (fun k => (G k ∨ k = w.heap.size ∨ k = w.heap.size + 1 ∨ k = c1 ∨ k = c2 ∨ k = gs) ∨ k = b4) W l p bl bt (puts D0 L0.f L0.u L0.p (rows st pre)).1 L0
  kp : Kp G w W
  r1 : (puts D0 L0.f L0.u L0.p (rows st pre)).2.2.2 = r
  cb : Blk W b4 86 (cC L0.e (puts D0 L0.f L0.u L0.p (rows st pre)).2.1 (puts D0 L0.f L0.u L0.p (rows st pre)).2.2.1)
  b1 : Blk W w.heap.size 26 [pv l]
  b2 : Blk W (w.heap.size + 1) 40 [.int .i64 r]
  gs : Blk W gs 3 (keyC st ++ Z)
theorem ComMid.turned {G : Nat → Prop} {w W W' : World} {l p bl bt b4 c1 c2 gs : Nat} {D0 : Dsk} {L0 : Lg} {st : SMap} {Z : List Value} {pre : List Nat} {r : Int} {B : Nat} {row : Option Nat} (h : ComMid G w W l p bl bt b4 c1 c2 gs D0 L0 st Z pre r) (h1 : bl < B) (h2 : bt < B) (h3 : w.heap.size ≤ B) (hg : W.grownBy W' row) (hr : ∀ r, row = some r → B ≤ r ∧ ∃ o : Obj, W.heap[r]? = some o ∧ o.isCells = false) : ComMid G w W' l p bl bt b4 c1 c2 gs D0 L0 st Z pre r :=
  ⟨h.o.turned hg (fun r e => ⟨by have := (hr r e).1; omega, by have := (hr r e).1; omega, (hr r e).2⟩), h.kp.grown hg (fun k e => .inr (by have := (hr k e).1; omega)), h.r1, Blk.turned h.cb hg (fun r e => (hr r e).2), Blk.turned h.b1 hg (fun r e => (hr r e).2), Blk.turned h.b2 hg (fun r e => (hr r e).2), Blk.turned h.gs hg (fun r e => (hr r e).2)⟩
theorem ComMid.abides {G : Nat → Prop} {w : World} {l p bl bt b4 c1 c2 gs : Nat} {D0 : Dsk} {L0 : Lg} {st : SMap} {Z : List Value} {r : Int} {B : Nat} (h1 : bl < B) (h2 : bt < B) (h3 : w.heap.size ≤ B) : OwnFrom B (fun pre W => ComMid G w W l p bl bt b4 c1 c2 gs D0 L0 st Z pre r) :=
  fun _ _ _ _ h hg hr => h.turned h1 h2 h3 hg hr

theorem rows_le (m : SMap) : ∀ pre : List Nat, (rows m pre).length ≤ 61 * pre.length
  | [] => by simp [rows]
  | j :: r => by
    have h := rows_le m r
    have h2 : (rows m (j :: r)).length = (rowOf m j).length + (rows m r).length := by simp [rows]
    have h3 : (rowOf m j).length ≤ 61 := by simp only [rowOf, List.length_cons, List.length_map, part_length, ln]; omega
    simp only [List.length_cons]
    omega
theorem heap_putObj_ne {W : World} {r k : Nat} {o : Obj} (h : k ≠ r) : (W.putObj r o).heap[k]? = W.heap[k]? := by
  have hg := grownBy_putObj' W r o
  rcases Nat.lt_or_ge k W.heap.size with hk | hk
  · exact hg.block k hk (fun e => h (by simpa using e))
  · have hs : (W.putObj r o).heap.size = W.heap.size := by simp [World.putObj]
    rw [Array.getElem?_eq_none hk, Array.getElem?_eq_none (by omega)]
/-- The set that a row must leave alone. -/
def Gx (G : Nat → Prop) (w W : World) (c1 c2 gs B : Nat) (k : Nat) : Prop := (G k ∨ k = w.heap.size ∨ k = w.heap.size + 1 ∨ k = c1 ∨ k = c2 ∨ k = gs) ∨ (B ≤ k ∧ ∃ o : Obj, W.heap[k]? = some o ∧ o.isCells = false)
theorem ComMid.row {G : Nat → Prop} {w W : World} {l p bl bt b4 c1 c2 gs : Nat} {D0 : Dsk} {L0 : Lg} {st : SMap} {Z : List Value} {pre : List Nat} {B : Nat} (h : ComMid G w W l p bl bt b4 c1 c2 gs D0 L0 st Z pre 0) (h1 : bl < B) (h2 : bt < B) (hb4 : w.heap.size + 1 < b4) (hn : b4 ≠ c1 ∧ b4 ≠ c2 ∧ b4 ≠ gs) (hG : ∀ k, G k → k < w.heap.size) (hst : st = L0.st) (hs2 : st.length < 1024) (hpre : pre.length < cnt st.length) (hSm : Sm D0 1900) (hu0 : L0.u ≤ 255) (x cap : Nat) :
    Calls Tryz.prog 80 #[pv l, pv b4, .slice (some ⟨gs, 60 * x, none⟩) (ln st.length x) cap] W (RowPost (Gx G w W c1 c2 gs B) W l p bl bt b4 (puts D0 L0.f L0.u L0.p (rows st pre)).1 L0 L0.e (puts D0 L0.f L0.u L0.p (rows st pre)).2.1 (puts D0 L0.f L0.u L0.p (rows st pre)).2.2.1 (rowOf st x)) := by
  have hrl := rows_le st pre
  have hcn : cnt st.length ≤ 18 := by unfold cnt; omega
  obtain ⟨hp1, hp2⟩ := puts_lt L0.f (rows st pre) D0 L0.u L0.p h.o.r.ok.p
  have hS1 : Sm (puts D0 L0.f L0.u L0.p (rows st pre)).1 61 := puts_sm L0.f (rows st pre) D0 L0.u L0.p 61 (hSm.le (by omega))
  have hpl := part_length st x
  have hpl2 : (part st x).length ≤ 60 := by rw [hpl]; unfold ln; omega
  have ho : OwnL (fun k => Gx G w W c1 c2 gs B k ∨ k = b4) W l p bl bt (puts D0 L0.f L0.u L0.p (rows st pre)).1 L0 := (h.o.others h1 h2).less (fun k hk => by
    rcases hk with (hk | hk) | hk
    · exact .inl (.inl hk)
    · exact .inr hk
    · exact .inl (.inr hk))
  have hng : ¬ Gx G w W c1 c2 gs B b4 := by
    rintro ((hg | hg | hg | hg | hg | hg) | ⟨_, o, ho, hc⟩)
    · have := hG _ hg; omega
    · omega
    · omega
    · exact hn.1 hg
    · exact hn.2.1 hg
    · exact hn.2.2 hg
    · have h' : W.heap[b4]? = some (.cells (cC L0.e (puts D0 L0.f L0.u L0.p (rows st pre)).2.1 (puts D0 L0.f L0.u L0.p (rows st pre)).2.2.1).toArray 86 (0, 0)) := h.cb
      rw [h'] at ho
      cases ho
      cases hc
  have hc := putRow_any ho hng (part st x) hpl2 (fun q hq => by
      have hq' : q ∈ st := List.mem_of_mem_drop (List.mem_of_mem_take hq)
      rw [hst] at hq'
      exact get_of_mem h.o.r.mt.2.1 hq') (hS1.le (by omega)) L0.e (puts D0 L0.f L0.u L0.p (rows st pre)).2.1 (puts D0 L0.f L0.u L0.p (rows st pre)).2.2.1 (by omega) hp1 h.cb (some ⟨gs, 60 * x, none⟩) cap ⟨gs, 60 * x, rfl, ?_, .inl (.inr (.inr (.inr (.inr (.inr rfl)))))⟩
  · rw [hpl] at hc
    exact hc
  · have e1 : intC ((part st x).map (·.1)) = ((keyC st ++ Z).drop (60 * x)).take (part st x).length := by
      by_cases hx : 60 * x < st.length
      · have hl : (part st x).length ≤ ((keyC st).drop (60 * x)).length := by rw [List.length_drop]; simp only [keyC, List.length_map]; rw [hpl]; unfold ln; omega
        rw [List.drop_append_of_le_length (by simp [keyC]; omega), List.take_append_of_le_length hl]
        simp only [intC, keyC, part, List.map_map, List.map_take, List.map_drop, List.length_take, List.length_drop]
        show List.take 60 (List.drop (60 * x) (List.map (fun q : Nat × Sec => Value.int .i64 (q.1 : Int)) st)) = _
        rw [List.take_eq_take_iff]
        simp
      · have : part st x = [] := by unfold part; rw [List.drop_eq_nil_of_le (by omega)]; rfl
        simp [this, intC]
    exact h.gs.range (60 * x) _ (by rw [e1]; simp only [List.length_take, List.length_drop]; rw [List.take_eq_take_iff]; simp)
theorem ComMid.next {G : Nat → Prop} {w W W' : World} {l p bl bt b4 c1 c2 gs : Nat} {D0 : Dsk} {L0 : Lg} {st : SMap} {Z : List Value} {pre : List Nat} {B : Nat} (h : ComMid G w W l p bl bt b4 c1 c2 gs D0 L0 st Z pre 0) (x : Nat) {y : Ending}
    (hp : RowPost (Gx G w W c1 c2 gs B) W l p bl bt b4 (puts D0 L0.f L0.u L0.p (rows st pre)).1 L0 L0.e (puts D0 L0.f L0.u L0.p (rows st pre)).2.1 (puts D0 L0.f L0.u L0.p (rows st pre)).2.2.1 (rowOf st x) y W') (hG : ∀ k, G k → k < w.heap.size) :
    ∃ r : Int, y = .returned (.int .i64 r) ∧ (r = 0 → ComMid G w W' l p bl bt b4 c1 c2 gs D0 L0 st Z (pre ++ [x]) 0) ∧ (r ≠ 0 → ComMid G w (W'.setCell ⟨w.heap.size + 1, 0, none⟩ (.int .i64 r)) l p bl bt b4 c1 c2 gs D0 L0 st Z (pre ++ [x]) r) ∧ KeepsFrom B W W' ∧ KpC c1 c2 W W' ∧ Blk W' (w.heap.size + 1) 40 [.int .i64 0] ∧ w.heap.size + 1 ≠ b4 := by
  obtain ⟨hx, o, kp, hb⟩ := hp
  have e1 : puts D0 L0.f L0.u L0.p (rows st (pre ++ [x])) = puts (puts D0 L0.f L0.u L0.p (rows st pre)).1 L0.f (puts D0 L0.f L0.u L0.p (rows st pre)).2.1 (puts D0 L0.f L0.u L0.p (rows st pre)).2.2.1 (rowOf st x) := by
    rw [rows_snoc, puts_append, if_neg (by rw [h.r1]; simp)]
  rw [← e1] at hx o hb
  have o' : OwnL (fun k => (G k ∨ k = w.heap.size ∨ k = w.heap.size + 1 ∨ k = c1 ∨ k = c2 ∨ k = gs) ∨ k = b4) W' l p bl bt (puts D0 L0.f L0.u L0.p (rows st (pre ++ [x]))).1 L0 := o.less (fun k hk => hk.imp .inl id)
  have k' : Kp G w W' := Kp.trans h.kp (Kp.less kp (fun k hk => .inl (.inl hk)))
  have hb2 : Blk W' (w.heap.size + 1) 40 [.int .i64 0] := Kp.blk kp h.b2 (.inl (.inr (.inr (.inl rfl))))
  have hb1 := Kp.blk kp h.b1 (.inl (.inr (.inl rfl)))
  have hgs := Kp.blk kp h.gs (.inl (.inr (.inr (.inr (.inr (.inr rfl))))))
  have hne : w.heap.size + 1 ≠ b4 := fun e => by
    have h1 : W'.heap[w.heap.size + 1]? = some (.cells #[.int .i64 0] 40 (0, 0)) := hb2
    have h2 : W'.heap[b4]? = _ := hb
    rw [← e, h1] at h2
    simp at h2
  refine ⟨(puts D0 L0.f L0.u L0.p (rows st (pre ++ [x]))).2.2.2, hx, fun hr => ⟨o', k', hr, hb, hb1, hb2, hgs⟩, fun hr => ?_, ?_, ?_, hb2, hne⟩
  · have hne2 : w.heap.size ≠ w.heap.size + 1 := by omega
    have hgn : gs ≠ w.heap.size + 1 := fun e => by
      have h1 : W'.heap[w.heap.size + 1]? = some (.cells #[.int .i64 0] 40 (0, 0)) := hb2
      have h2 : W'.heap[gs]? = _ := hgs
      rw [e, h1] at h2
      simp at h2
    refine ⟨?_, Kp.trans k' ((Fr.refl _ W').setCell (.inl (fun hg => by have h9 : w.heap.size + 1 < w.heap.size := hG _ hg; omega)) _), rfl, hb.setCell_ne (Ne.symm hne) _, hb1.setCell_ne hne2 _, hb2.setCell 0 _, hgs.setCell_ne hgn _⟩
    have hgg := o'.g (w.heap.size + 1) (.inl (.inr (.inr (.inl rfl))))
    refine ⟨o'.r.of_same (Below.heap_setCell W' _ _ l (Ne.symm hgg.1)) (Below.heap_setCell W' _ _ bl (Ne.symm hgg.2.1)) (Below.heap_setCell W' _ _ bt (Ne.symm hgg.2.2)), ?_, o'.g, o'.n⟩
    exact own_same o'.d (by simp [World.setCell]) (fun k hk _ => Below.heap_setCell W' _ _ k (fun e => hk (.inl (.inl (.inr (.inr (.inl e)))))))
  · exact ⟨kp.size, fun k o hB hk hc => (kp.block k (Array.getElem?_eq_some_iff.1 hk).1 (fun hn => hn (.inr ⟨hB, o, hk, hc⟩))).trans hk⟩
  · have hlt : c1 < W.heap.size ∧ c2 < W.heap.size := ⟨h.o.glt (.inl (.inr (.inr (.inr (.inl rfl))))), h.o.glt (.inl (.inr (.inr (.inr (.inr (.inl rfl))))))⟩
    exact ⟨kp.block c1 hlt.1 (fun hn => hn (.inl (.inr (.inr (.inr (.inl rfl)))))), kp.block c2 hlt.2 (fun hn => hn (.inl (.inr (.inr (.inr (.inr (.inl rfl)))))))⟩

/-- What is logged is turned. -/
theorem OwnL.turnL {G : Nat → Prop} {w w' : World} {l p bl bt : Nat} {D : Dsk} {L : Lg} {m : SMap} (h : OwnL G w l p bl bt D L) (hm : MpT w' bl m) (hh : ∀ q ∈ m, L.home q.1) (f : Fr (fun k => k = bl) w w') : OwnL G w' l p bl bt D { L with lg := m } ∧ Kp G w w' := by
  have hb : ∀ k, k < w.heap.size → k ≠ bl → w'.heap[k]? = w.heap[k]? := fun k hk hn => f.block k hk hn
  refine ⟨⟨⟨h.r.hl.of_eq (hb l h.r.hl.lt h.r.lb), hm, h.r.mt.of_eq (hb bt h.r.mt.lt (Ne.symm h.r.bb)), h.r.lb, h.r.lt, h.r.bb, ⟨h.r.ok.n1, h.r.ok.n2, h.r.ok.fz, h.r.ok.z, h.r.ok.e, h.r.ok.u, h.r.ok.p, hh, h.r.ok.th⟩⟩, ?_, h.g, h.n⟩, ?_⟩
  · exact own_same h.d f.size (fun k hk hk2 => hb k hk2 (fun e => hk (.inr (.inr (.inl e)))))
  · exact f.mono (fun k hk hG => (h.g k hG).2.1 hk)
/-- A block that is no cells, and is kept, is let go. -/
theorem OwnL.let {G : Nat → Prop} {w : World} {l p bl bt D' : Nat} {D : Dsk} {L : Lg} (h : OwnL G w l p bl bt D L) (hg : G D') (o' : Obj) : OwnL G (w.putObj D' o') l p bl bt D L := by
  have hne := h.g D' hg
  refine ⟨h.r.of_same (heap_putObj_ne (Ne.symm hne.1)) (heap_putObj_ne (Ne.symm hne.2.1)) (heap_putObj_ne (Ne.symm hne.2.2)), ?_, h.g, h.n⟩
  obtain ⟨a1, a2, lv, r, f⟩ := h.d
  have hs : (w.putObj D' o').heap.size = w.heap.size := by simp [World.putObj]
  exact ⟨a1, a2, lv, r.of_same (fun k hk => heap_putObj_ne (fun e => (f D' (.inl hg)).2 (e ▸ hk))), fun k hk => ⟨by rw [hs]; exact (f k hk).1, (f k hk).2⟩⟩
theorem OwnL.pokeG {G : Nat → Prop} {w : World} {l p bl bt b : Nat} {D : Dsk} {L : Lg} (h : OwnL G w l p bl bt D L) (hb : G b) (j : Nat) (v : Value) : OwnL G (w.setCell ⟨b, j, none⟩ v) l p bl bt D L := by
  have hgg := h.g b hb
  refine ⟨h.r.of_same (Below.heap_setCell w _ _ l (Ne.symm hgg.1)) (Below.heap_setCell w _ _ bl (Ne.symm hgg.2.1)) (Below.heap_setCell w _ _ bt (Ne.symm hgg.2.2)), ?_, h.g, h.n⟩
  exact own_same h.d (by simp [World.setCell]) (fun k hk _ => Below.heap_setCell w _ _ k (fun e => hk (.inl (by rw [e]; exact hb))))
theorem kp_putObj {G : Nat → Prop} {w W : World} {D' : Nat} {o' : Obj} (h : Kp G w W) (hD : w.heap.size ≤ D') : Kp G w (W.putObj D' o') := h.grown (grownBy_putObj' W D' o') (fun k e => .inr (by cases e; exact hD))

set_option maxRecDepth 100000 in
set_option maxHeartbeats 4000000 in
theorem commit_any {G : Nat → Prop} {w : World} {l p bl bt : Nat} {D : Dsk} {L : Lg} (h : OwnL G w l p bl bt D L) (hD : Sm D 3000) (hm : L.lg.length < 1024) (hs : L.st ≠ []) (hs2 : L.st.length < 1024) (hcost : cost L.st.length ≤ L.n - 1) :
    Calls Tryz.prog 57 #[pv l] w (ComPost G w l p D L) := by
  have B1 := Blk.new w 26 [pv l]
  have h1 := h.more (.cells #[pv l] 26)
  have h2 := h1.more (.cells #[.int .i64 0] 40)
  have B11 := B1.alloc (.cells #[.int .i64 0] 40)
  have B2 := Blk.new (w.alloc (.cells #[pv l] 26)) 40 [.int .i64 0]
  rw [World.size_alloc] at B2 h2
  have F1 : Nw w ((w.alloc (.cells #[pv l] 26)).alloc (.cells #[.int .i64 0] 40)) := ((Fr.refl _ w).alloc _).alloc _
  have HO := hid h2.drew
  have HB1 := hid B11.drew
  have HB2 := hid B2.drew
  have HF1 := hid F1.drew
  have c5 : ((w.alloc (.cells #[pv l] 26)).alloc (.cells #[.int .i64 0] 40)).drew.cell? ⟨l, 5, none⟩ = some (.int .i64 (L.u : Int)) := by simpa [Lg.cells] using HO.out.r.hl.cell 5
  have c8 : ((w.alloc (.cells #[pv l] 26)).alloc (.cells #[.int .i64 0] 40)).drew.cell? ⟨l, 8, none⟩ = some (.map (some bt)) := by simpa [Lg.cells] using HO.out.r.hl.cell 8
  have cb : ((w.alloc (.cells #[pv l] 26)).alloc (.cells #[.int .i64 0] 40)).drew.cell? ⟨w.heap.size, 0, none⟩ = some (pv l) := HB1.out.cell 0
  have hlen := len57 HO.out.r.mt
  have HC := hid (cost_any ((w.alloc (.cells #[pv l] 26)).alloc (.cells #[.int .i64 0] 40)).drew L.st.length (by omega))
  have HL := hid (len_any HO.out.r)
  have HH2 : Hid (∀ w2, Nw ((w.alloc (.cells #[pv l] 26)).alloc (.cells #[.int .i64 0] 40)).drew w2 → w2.cell? ⟨w.heap.size, 0, none⟩ = some (pv l) ∧ w2.cell? ⟨l, 5, none⟩ = some (.int .i64 (L.u : Int)) ∧ w2.cell? ⟨l, 8, none⟩ = some (.map (some bt)) ∧ (Builtin.len_ #[89] 3 #[.map (some bt)]).run Tryz.prog w2 = .ok (.int .i64 (L.st.length : Int)) w2) := fun w2 f2 => by
    rw [cell_fr f2 HO.out.r.hl.lt, cell_fr f2 HO.out.r.hl.lt, cell_fr f2 HB1.out.lt]
    exact ⟨cb, c5, c8, len57 (HO.out.nw f2).r.mt⟩
  have hcu : L.u ≤ 255 := by have := h.r.ok.u; have := h.r.ok.n2; omega
  have hcc : cost L.st.length ≤ 255 := by have := h.r.ok.n2; omega
  have HNo : Hid (¬ L.n - 1 < L.u + cost L.st.length → com0E D L = 0 ∧ com0D D L = D ∧ com0L D L = L) := fun hh => by
    have : comH L = false := by simp [comH]; omega
    simp [com0E, com0D, com0L, this]
  have HYes : Hid (L.n - 1 < L.u + cost L.st.length → com0E D L = HomE D L ∧ com0D D L = HomD D L ∧ com0L D L = HomL D L) := fun hh => by
    have : comH L = true := by simp [comH, hh]
    simp [com0E, com0D, com0L, this]
  have HErr : Hid (com0E D L ≠ 0 → comE D L = com0E D L ∧ comD D L = com0D D L ∧ comL D L = com0L D L) := fun hh => by
    have h2 : comE D L = com0E D L := by simp [comE, hh]
    exact ⟨h2, by simp [comD, hh], by simp [comL, h2, hh]⟩
  have HFacts := hid (fun h0 : com0E D L = 0 => com0_facts hcost hD hm h0)
  have H00 := hid h
  have Hs := hid hs
  have Hcost := hid hcost
  clear h h1 h2 B1 B11 B2 F1 hs hcost
  refine (callsIn_wide (n := 10)).1 ?_
  refine callsIn_of_wp_marks Tryz.func57 rfl trivial ?_ rfl
  simp only [Tryz.ntmps57, List.size_toArray, List.length_cons, List.length_nil, Nat.reduceAdd, Nat.reduceSub, Array.replicate_succ, Array.replicate_zero, List.push_toArray, List.append_toArray, List.nil_append, List.cons_append]
  refine wpIn_wide.2 ?_
  go_wp2_with fail
  generalize hCe : cost L.st.length = C at *
  have HCe := hid hCe
  clear hCe
  have hwc : IntKind.i64.wrap ((L.u : Int) + (C : Int)) = ((L.u + C : Nat) : Int) := by simp [IntKind.wrap, IntKind.bits, IntKind.signed]; omega
  go_region_held3 (fun w' => w'.cell? ⟨w.heap.size, 0, none⟩ = some (pv l) ∧ w'.cell? ⟨l, 5, none⟩ = some (.int .i64 (L.u : Int)) ∧ w'.cell? ⟨l, 8, none⟩ = some (.map (some bt)) ∧ (Builtin.len_ #[89] 3 #[.map (some bt)]).run Tryz.prog w' = .ok (.int .i64 (L.st.length : Int)) w')
    (first
      | exact ⟨cb, c5, c8, hlen⟩
      | exact HH2.out _ f2)
    (first
      | (go_at_call 55; refine HC.out.mono ?_; rintro x w1 ⟨rfl, rfl⟩)
      | (go_at_call 56; refine HL.out.mono ?_; rintro x w2 ⟨rfl, f2⟩))
  have HO2 := hid (HO.out.nw f2)
  have HB12 := hid (Fr.blk f2 HB1.out id)
  have HB22 := hid (Fr.blk f2 HB2.out id)
  have HF2 : Hid (Nw w w2) := Nw.tr HF1.out f2
  have cb2 := HB12.out.cell 0
  have Hl0 := hid H00.out.r.hl.lt
  clear HC HL HH2 c5 c8 cb hlen f2 HO HB1 HB2 HF1
  -- the home that comes first
  have HHom := hid (home_any HO2.out (hD.le (by omega)) (by omega))
  go_upto_if 22 with fail
  go_cut [3] from 22 to 27 (fun _ wx => ∃ D0 L0 bl0, OwnL (fun k => (G k ∨ k = w.heap.size) ∨ k = w.heap.size + 1) wx l p bl0 bt D0 L0 ∧ Kp G w wx ∧ Blk wx w.heap.size 26 [pv l] ∧ Blk wx (w.heap.size + 1) 40 [.int .i64 0] ∧ com0E D L = 0 ∧ D0 = com0D D L ∧ L0 = com0L D L)
  case first =>
    by_cases hh : L.n - 1 < L.u + C
    · have hg : ((L.n - 1 : Nat) : Int) < (L.u : Int) + (C : Int) := by omega
      have HY := hid (HYes.out hh)
      clear HNo HYes HFacts
      simp only [List.getElem?_cons_zero] at cb2
      go_wp2_with fail
      refine HHom.out.mono ?_
      rintro x w3 ⟨rfl, ⟨bl3, o3⟩, k3⟩
      have HB13 := hid (Kp.blk k3 HB12.out (.inl (.inr rfl)))
      have HB23 := hid (Kp.blk k3 HB22.out (.inr rfl))
      have HK3 : Hid (Kp G w w3) := Kp.trans HF2.out.kp (Kp.less k3 (fun _ hk => .inl (.inl hk)))
      have HO3 := hid o3
      clear HHom o3 k3 HO2 HB12 HB22 HF2 cb2
      rw [← HY.out.1]
      rw [← HY.out.2.1, ← HY.out.2.2] at HO3
      clear HY
      generalize hE0 : com0E D L = E0 at *
      by_cases he : E0 = 0
      · subst he
        go_wp2
        go_meet
        case rel => exact ⟨com0D D L, com0L D L, bl3, HO3.out, HK3.out, HB13.out, HB23.out, by first | exact hE0 | trivial, rfl, rfl⟩
      · have hb : (E0 != 0) = true := by simpa using he
        have q0 := HB23.out.cell 0
        have z0 := HB23.out.frozen 0
        simp only [List.getElem?_cons_zero] at q0
        have HEr := hid (HErr.out he)
        go_wp2
        refine ⟨_, results30 rfl rfl (HB23.out.setCell 0 _), ?_⟩
        refine ⟨by rw [HEr.out.1], ⟨bl3, bt, ?_⟩, Kp.trans HK3.out ((Fr.refl _ w3).setCell (.inl (fun hg => by have h9 : w.heap.size + 1 < w.heap.size := H00.out.glt hg; omega)) _)⟩
        rw [HEr.out.2.1, HEr.out.2.2]
        exact (HO3.out.poke 0 _).less (fun _ hk => .inl (.inl hk))
    · have hg : ¬ ((L.n - 1 : Nat) : Int) < (L.u : Int) + (C : Int) := by omega
      have HN := hid (HNo.out hh)
      go_wp2
      go_meet
      case rel => exact ⟨D, L, bl, HO2.out, HF2.out.kp, HB12.out, HB22.out, HN.out.1, HN.out.2.1.symm, HN.out.2.2.symm⟩
  case rest =>
    obtain ⟨D0, L0, bl0, o0, k0, b10, b20, he0, hD0, hL0⟩ := hcut
    obtain ⟨hf, hn0, hst, huc, hSm, hlg⟩ := HFacts.out he0
    rw [← hL0] at hf hn0 hst huc hlg
    rw [← hD0] at hSm
    have HT := hid (com_tail he0 hD0 hL0 hf)
    have HPost : Hid (∀ x w', x = .returned (.int .i64 (comE D L)) → (∃ bl' bt', OwnL G w' l p bl' bt' (comD D L) (comL D L)) → Kp G w w' → ComPost G w l p D L x w') := fun _ _ a b c => ⟨a, b, c⟩
    have HO := hid o0
    have HK := hid k0
    have HB1 := hid b10
    have HB2 := hid b20
    have HSm := hid hSm
    have Hst := hid hst
    have Hn0 := hid hn0
    have Huc := hid huc
    have Hlg := hid hlg
    have cb := b10.cell 0
    simp only [List.getElem?_cons_zero] at cb
    have c4 : wc.cell? ⟨l, 4, none⟩ = some (.int .u64 (L0.e : Int)) := by simpa [Lg.cells] using o0.r.hl.cell 4
    have c5 : wc.cell? ⟨l, 5, none⟩ = some (.int .i64 (L0.u : Int)) := by simpa [Lg.cells] using o0.r.hl.cell 5
    have c6 : wc.cell? ⟨l, 6, none⟩ = some (.int .u64 (L0.p : Int)) := by simpa [Lg.cells] using o0.r.hl.cell 6
    have c8 : wc.cell? ⟨l, 8, none⟩ = some (.map (some bt)) := by simpa [Lg.cells] using o0.r.hl.cell 8
    have cb' : (wc.alloc (.cells #[.int .u64 (L0.e : Int), .int .i64 (L0.u : Int), .int .u64 (L0.p : Int)] 86)).cell? ⟨w.heap.size, 0, none⟩ = some (pv l) := (b10.alloc _).cell 0
    have c8' : (wc.alloc (.cells #[.int .u64 (L0.e : Int), .int .i64 (L0.u : Int), .int .u64 (L0.p : Int)] 86)).cell? ⟨l, 8, none⟩ = some (.map (some bt)) := by simpa [Lg.cells] using (o0.alloc (.cells #[.int .u64 (L0.e : Int), .int .i64 (L0.u : Int), .int .u64 (L0.p : Int)] 86)).r.hl.cell 8
    have HRi := hid (rising_any ((o0.alloc (.cells #[.int .u64 (L0.e : Int), .int .i64 (L0.u : Int), .int .u64 (L0.p : Int)] 86)).r.mt) (by rw [hst]; omega))
    clear o0 k0 b10 b20 hSm hst hn0 huc hlg HFacts HErr HNo HYes HHom HO2 HB12 HB22 HF2 cb2 hD0 hL0 he0 hf hwc
    go_wp2_with fail
    refine HRi.out.mono ?_
    rintro x w1 ⟨ad, cap, rfl, hcap, hho, f1⟩
    have HCh := hid (callsIn_wide.1 (chunk_in Fence.wide 10 trivial rfl ad L0.st.length cap w1))
    have HHo := hid hho
    have HF1 := hid f1
    clear HRi hho f1 cb c4 c5 c6 c8 cb' c8'
    go_wp2_with fail
    refine HCh.out.mono ?_
    rintro x w2 ⟨rfl, rfl⟩
    clear HCh
    go_wp2_with fail
    obtain ⟨gs, Z, rfl, hgs, hbg⟩ : ∃ g Z, ad = some ⟨g, 0, none⟩ ∧ (wc.alloc (.cells #[.int .u64 (L0.e : Int), .int .i64 (L0.u : Int), .int .u64 (L0.p : Int)] 86)).heap.size ≤ g ∧ Blk w1 g 3 (keyC L0.st ++ Z) := by
      rcases HHo.out with ⟨h9, _⟩ | ⟨g, Z, h9, h10, h11⟩
      · rw [Hst.out] at h9; exact absurd h9 Hs.out
      · exact ⟨g, Z, h9, h10, h11⟩
    have hsz1 := HF1.out.size
    rw [World.size_alloc] at hgs hsz1
    have hgl := hbg.lt
    have hls : L0.st.length < 1024 := by rw [Hst.out]; exact hs2
    have hwz : w.heap.size + 1 < wc.heap.size := HB2.out.lt
    have hBl := HO.out.r.ml.lt
    have hBt := HO.out.r.mt.lt
    have hGlt : ∀ k, G k → k < w.heap.size := fun k hk => H00.out.glt hk
    have HC1 := hid ((Blk.new w1 47 [.slice (some ⟨gs, 0, none⟩) L0.st.length cap]).alloc (.cells #[.int .i64 60] 3))
    have HC2 := Blk.new (w1.alloc (.cells #[.slice (some ⟨gs, 0, none⟩) L0.st.length cap] 47)) 3 [.int .i64 60]
    rw [World.size_alloc] at HC2
    have hsz2 : ((w1.alloc (.cells #[.slice (some ⟨gs, 0, none⟩) L0.st.length cap] 47)).alloc (.cells #[.int .i64 60] 3)).heap.size = w1.heap.size + 1 + 1 := by simp
    have hI0 : ComMid G w ((w1.alloc (.cells #[.slice (some ⟨gs, 0, none⟩) L0.st.length cap] 47)).alloc (.cells #[.int .i64 60] 3)) l p bl0 bt wc.heap.size w1.heap.size (w1.heap.size + 1) gs D0 L0 L0.st Z [] 0 := by
      have fN : Nw wc ((w1.alloc (.cells #[.slice (some ⟨gs, 0, none⟩) L0.st.length cap] 47)).alloc (.cells #[.int .i64 60] 3)) := Nw.tr (Nw.tr ((Fr.refl _ wc).alloc _) HF1.out) (((Fr.refl _ w1).alloc _).alloc _)
      refine ⟨?_, Kp.trans HK.out fN.kp, rfl, ?_, Fr.blk fN HB1.out id, Fr.blk fN HB2.out id, (hbg.alloc _).alloc _⟩
      · exact (HO.out.new (X := fun k => k = w1.heap.size ∨ k = w1.heap.size + 1 ∨ k = gs ∨ k = wc.heap.size) fN (fun k hk => by rw [hsz2]; omega)).less (fun k hk => by
          rcases hk with (hk | hk | hk | hk | hk | hk) | hk
          · exact .inl (.inl (.inl hk))
          · exact .inl (.inl (.inr hk))
          · exact .inl (.inr hk)
          · exact .inr (.inl hk)
          · exact .inr (.inr (.inl hk))
          · exact .inr (.inr (.inr (.inl hk)))
          · exact .inr (.inr (.inr (.inr hk))))
      · exact Fr.blk (Nw.tr HF1.out (((Fr.refl _ w1).alloc _).alloc _)) (Blk.new wc 86 (cC L0.e L0.u L0.p)) id
    clear HHo HO HK HB1 HB2 HF1 hbg
    have HI0 := hid hI0
    clear hI0
    generalize hW2 : (w1.alloc (.cells #[.slice (some ⟨gs, 0, none⟩) L0.st.length cap] 47)).alloc (.cells #[.int .i64 60] 3) = W2 at *
    have hgsn : gs < w1.heap.size := hgl
    refine (wpIn_wide (n := 10)).1 ?_
    refine wpIn_rangeFunc_ownG (F := Fence.wide) (n := 10) rfl (by omega) (gf := 90) (lb := #[.pointer (some ⟨w1.heap.size, 0, none⟩), .pointer (some ⟨w1.heap.size + 1, 0, none⟩)]) rfl trivial (enters_of Tryz.func90 (by kernel_rfl) rfl)
      (chunk_stops Fence.wide 9 trivial rfl (by omega) w1.heap.size (w1.heap.size + 1) gs L0.st.length cap (by omega) hcap W2 HC1.out HC2) (fun h1 h2 => ⟨h2.1.trans h1.1, h2.2.trans h1.2⟩)
      (fun W r o o' hr ho _ _ => ⟨heap_putObj_ne (by omega), heap_putObj_ne (by omega)⟩) (Below.refl _ _) (fun _ => rfl)
      (fun pre W => ComMid G w W l p bl0 bt wc.heap.size w1.heap.size (w1.heap.size + 1) gs D0 L0 L0.st Z pre 0)
      (fun c pre W => c = Code.ret ∧ ∃ r : Int, r ≠ 0 ∧ ComMid G w W l p bl0 bt wc.heap.size w1.heap.size (w1.heap.size + 1) gs D0 L0 L0.st Z pre r)
      (ComMid.abides (by omega) (by omega) (by omega)) (fun c s A B row hs hg hr => ⟨hs.1, by obtain ⟨r, h1, h2⟩ := hs.2; exact ⟨r, h1, h2.turned (by omega) (by omega) (by omega) hg hr⟩⟩) HI0.out
      (fun x => { tmps := #[pv l, .pointer (some ⟨w.heap.size, 0, none⟩), .pointer (some ⟨w.heap.size + 1, 0, none⟩), u3, .pointer (some ⟨wc.heap.size, 0, none⟩), .slice (some ⟨gs, 60 * x, none⟩) (ln L0.st.length x) (ln L0.st.length x), undef, undef, pv l,
          .pointer (some ⟨l, 0, none⟩), .pointer (some ⟨l, 4, none⟩), .pointer (some ⟨l, 5, none⟩), .int .i64 (L.u : Int), pv l, .pointer (some ⟨l, 0, none⟩), .pointer (some ⟨l, 8, none⟩), .map (some bt), .int .i64 (L.st.length : Int), .int .i64 (C : Int), .int .i64 ((L.u : Int) + (C : Int)), pv l, .int .i64 ((L.n - 1 : Nat) : Int), u22, u23, u24, u25, u26, u27, pv l,
          .pointer (some ⟨l, 0, none⟩), .pointer (some ⟨l, 4, none⟩), .agg #[.int .u64 (L0.e : Int), .int .i64 (L0.u : Int), .int .u64 (L0.p : Int)], pv l, .pointer (some ⟨l, 0, none⟩), .pointer (some ⟨l, 8, none⟩), .map (some bt), .slice (some ⟨gs, 0, none⟩) L0.st.length cap,
          .func (.func 90) #[] #[.pointer (some ⟨w1.heap.size, 0, none⟩), .pointer (some ⟨w1.heap.size + 1, 0, none⟩)], .slice (some ⟨gs, 60 * x, none⟩) (ln L0.st.length x) (ln L0.st.length x), undef, undef, undef, undef, undef, undef, undef, undef, undef, undef, undef, undef, undef, undef, undef, undef, undef, undef, undef, undef, undef, undef, undef], defers := [] }) ?assign ?body ?done ?stop
    case assign =>
      intro l' x W K hK
      gi_wp2
      exact hK
    case body =>
      intro l' pre x W hM hlt
      have HM := hid hM
      have HRw := hid (hM.row (B := W2.heap.size) (by omega) (by omega) hwz ⟨by omega, by omega, by omega⟩ hGlt rfl hls hlt HSm.out (by have := Huc.out; have := H00.out.r.ok.n2; omega) x (ln L0.st.length x))
      have cb := hM.b1.cell 0
      simp only [List.getElem?_cons_zero] at cb
      have hf55 : (Fence.wide.inRound l').fn 80 := trivial
      clear hM
      gi_wp2_with fail
      refine ⟨trivial, ?_⟩
      refine (CallsIn.inRound l' (callsIn_wide.2 HRw.out)).mono ?_
      intro y W3 hpost
      obtain ⟨r, rfl, hr0, hr1, hkf, hkp, hb2, hne⟩ := HM.out.next x hpost hGlt
      have Hr0 := hid hr0
      have Hr1 := hid hr1
      have Hkf := hid hkf
      have Hkp := hid hkp
      have Hb2 := hid hb2
      clear hpost hr0 hr1 hkf hkp hb2 HRw cb
      by_cases hr : r = 0
      · subst hr
        have HN := hid (Hr0.out (by trivial))
        clear Hr0 Hr1
        gi_wp2
        exact ⟨Hkf.out, Hkp.out, HN.out⟩
      · have hb : (r != 0) = true := by simpa using hr
        have HN := hid (Hr1.out hr)
        have q0 := Hb2.out.cell 0
        have z0 := Hb2.out.frozen 0
        simp only [List.getElem?_cons_zero] at q0
        clear Hr0 Hr1
        gi_wp2
        exact ⟨Hkf.out.trans ((KeepsOthers.setCell _ _ _).from _), rfl, r, hr, HN.out⟩
    case stop =>
      intro D' c pre W hD' hpre hM hK
      obtain ⟨rfl, r, hr, hM⟩ := hM
      obtain ⟨suf, hsuf⟩ := hpre
      have HM := hid hM
      have Hpu : Hid (puts D0 L0.f L0.u L0.p (allRows L.st) = puts D0 L0.f L0.u L0.p (rows L0.st pre)) := by
        have e1 : allRows L.st = rows L0.st pre ++ rows L0.st suf := by
          unfold allRows
          rw [← Hst.out, ← hsuf]
          simp [rows]
        unfold Hid
        rw [e1, puts_append, if_pos (by rw [hM.r1]; exact hr)]
      have HT1 := hid (HT.out.1 (by rw [Hpu.out, hM.r1]; exact hr))
      have HTurn := hid (hM.turned (B := W2.heap.size) (by omega) (by omega) (by omega) (grownBy_putObj' W D' (.deferred none)) (fun r e => by cases e; exact ⟨hD', _, hK, rfl⟩))
      have HKd := hid hK
      clear hM hK HT
      refine wpIn_wide.2 ?_
      go_wp2
      refine ⟨by simp, .inl ⟨_, _, rfl, run_takeDeferred HKd.out, ?_⟩⟩
      refine ⟨_, results30 rfl rfl HTurn.out.b2, ?_⟩
      refine HPost.out _ _ ?_ ⟨bl0, bt, ?_⟩ HTurn.out.kp
      · rw [HT1.out.1, Hpu.out, HM.out.r1]
      · rw [HT1.out.2.1, HT1.out.2.2, Hpu.out]
        exact HTurn.out.o.less (fun _ hk => .inl (.inl hk))
    case done =>
      intro D' ys W hD' hys hM hK
      subst hys
      have e1 : rows L0.st (List.range (cnt L0.st.length)) = allRows L.st := by unfold allRows; rw [← Hst.out]
      have hr1 := hM.r1
      have ho := hM.o.others (B := W2.heap.size) (by omega) (by omega)
      have hkp := hM.kp
      have hcb := hM.cb
      have hb1 := hM.b1
      have hb2 := hM.b2
      rw [e1] at hr1 ho hcb
      have HT2 := hid (HT.out.2 hr1)
      have hus := puts_used L0.f (allRows L.st) D0 L0.u L0.p hr1
      have hpl := (puts_lt L0.f (allRows L.st) D0 L0.u L0.p ho.r.ok.p).1
      have hsm := puts_sm L0.f (allRows L.st) D0 L0.u L0.p 10 (HSm.out.le (by rw [allRows_length, HCe.out]; omega))
      have hu1 : (puts D0 L0.f L0.u L0.p (allRows L.st)).2.1 ≤ L0.n - 1 := by rw [hus.1, allRows_length, Hn0.out, HCe.out]; exact Huc.out
      clear hM HT hus hr1 e1
      generalize puts D0 L0.f L0.u L0.p (allRows L.st) = PP at *
      obtain ⟨D1, u1, p1, e9⟩ := PP
      simp only at ho hcb hpl hsm hu1 HT2
      have HSe := hid (settle_any ho (hsm.le (by omega)) L0.e u1 p1 hu1 ho.r.ok.e hpl)
      have cb := hb1.cell 0
      have q0 := hcb.cell 0
      have q1 := hcb.cell 1
      have q2 := hcb.cell 2
      unfold cC at q0 q1 q2
      simp only [List.getElem?_cons_zero, List.getElem?_cons_succ] at cb q0 q1 q2
      have HB1 := hid hb1
      have HB2 := hid hb2
      have HKp := hid hkp
      have HKd := hid hK
      unfold cV at HSe
      clear ho hcb hb1 hb2 hkp hK hu1 hpl hsm
      go_wp2_with fail
      refine HSe.out.mono ?_
      rintro x w3 ⟨rfl, o3, k3⟩
      have hGd : ∀ k, k = D' → ((((G k ∨ k = w.heap.size ∨ k = w.heap.size + 1 ∨ k = w1.heap.size ∨ k = w1.heap.size + 1 ∨ k = gs) ∨ k = wc.heap.size) ∨ (W2.heap.size ≤ k ∧ ∃ o : Obj, W.heap[k]? = some o ∧ o.isCells = false))) := fun k hk => by subst hk; exact .inr ⟨hD', _, HKd.out, rfl⟩
      have HGd := hid (hGd D' rfl)
      have HB13 := hid (Kp.blk k3 HB1.out (.inl (.inl (.inr (.inl rfl)))))
      have HB23 := hid (Kp.blk k3 HB2.out (.inl (.inl (.inr (.inr (.inl rfl))))))
      have HK3 : Hid (Kp G w w3) := Kp.trans HKp.out (Kp.less k3 (fun _ hk => .inl (.inl (.inl hk))))
      have HKd3 : Hid (w3.heap[D']? = some (.deferred (some []))) := (k3.block D' (Array.getElem?_eq_some_iff.1 HKd.out).1 (fun hn => hn HGd.out)).trans HKd.out
      have HO3 := hid o3
      have hDw : w.heap.size ≤ D' := by omega
      clear HSe o3 k3 HB1 HB2 HKp HKd cb q0 q1 q2
      rw [← HT2.out.1]
      rw [← HT2.out.1, ← HT2.out.2.1] at HO3
      have HTL := hid HT2.out.2.2
      clear HT2
      generalize hGG : (fun k => (((G k ∨ k = w.heap.size ∨ k = w.heap.size + 1 ∨ k = w1.heap.size ∨ k = w1.heap.size + 1 ∨ k = gs) ∨ k = wc.heap.size) ∨ (W2.heap.size ≤ k ∧ ∃ o : Obj, W.heap[k]? = some o ∧ o.isCells = false))) = GG at HO3
      have HGG : Hid (∀ k, (G k ∨ k = w.heap.size ∨ k = w.heap.size + 1 ∨ k = D') → GG k) := fun k hk => by
        rw [← hGG]
        rcases hk with hk | hk | hk | hk
        · exact .inl (.inl (.inl hk))
        · exact .inl (.inl (.inr (.inl hk)))
        · exact .inl (.inl (.inr (.inr (.inl hk))))
        · exact hGd k hk
      clear hGd hGG HGd
      generalize comE D L = E at *
      by_cases hE : E = 0
      · subst hE
        have HO4 : Hid (OwnL GG w3 l p bl0 bt (comD D L) (L0.ctl L0.e u1 p1)) := by have := HO3.out; rwa [if_pos (by trivial)] at this
        have HTL2 : Hid (comL D L = { L0.ctl L0.e u1 p1 with lg := merge L0.lg L.st, st := [] }) := by have := HTL.out; rwa [if_neg (by simp)] at this
        have hcp := copy_any HO4.out.drew.r.ml HO4.out.drew.r.mt HO4.out.r.bb (by have := Hlg.out; show L0.lg.length + L0.st.length < 1000000; omega) (fun q hq => by have h5 := (HO4.out.r.ok.th q hq).1; have h6 := HO4.out.r.ok.z; omega)
        have HCp := hid hcp
        have cb : w3.drew.cell? ⟨w.heap.size, 0, none⟩ = some (pv l) := HB13.out.drew.cell 0
        have c7 : w3.drew.cell? ⟨l, 7, none⟩ = some (.map (some bl0)) := by simpa [Lg.cells] using HO4.out.drew.r.hl.cell 7
        have c8 : w3.drew.cell? ⟨l, 8, none⟩ = some (.map (some bt)) := by simpa [Lg.cells] using HO4.out.drew.r.hl.cell 8
        have HHold : Hid (∀ w4, Fr (fun k => k = bl0) w3.drew w4 → w4.cell? ⟨w.heap.size, 0, none⟩ = some (pv l) ∧ w4.cell? ⟨l, 7, none⟩ = some (.map (some bl0)) ∧ w4.cell? ⟨l, 8, none⟩ = some (.map (some bt))) := fun w4 f4 => by
          have hb1 := Fr.blk f4 HB13.out.drew (fun e => by have h5 := (HO4.out.g w.heap.size (HGG.out _ (.inr (.inl rfl)))).2.1; exact h5 e)
          have hb2 := Fr.blk f4 HO4.out.drew.r.hl (fun e => HO4.out.r.lb e)
          exact ⟨hb1.cell 0, by simpa [Lg.cells] using hb2.cell 7, by simpa [Lg.cells] using hb2.cell 8⟩
        clear hcp HO3 HTL
        go_wp2_with fail
        go_region_held3 (fun w' => w'.cell? ⟨w.heap.size, 0, none⟩ = some (pv l) ∧ w'.cell? ⟨l, 7, none⟩ = some (.map (some bl0)) ∧ w'.cell? ⟨l, 8, none⟩ = some (.map (some bt)))
          (first
            | exact ⟨cb, c7, c8⟩
            | exact HHold.out _ f4)
          ((go_at_call 82; refine HCp.out.mono ?_; rintro x w4 ⟨rfl, m4, f4⟩))
        obtain ⟨o5, k5⟩ := HO4.out.drew.turnL m4 (fun q hq => by
          rcases merge_mem _ _ q hq with h5 | h5
          · exact HO4.out.r.ok.lh q h5
          · exact HO4.out.r.ok.th q h5) f4
        have HDr := hid (drop_any o5)
        have hb1 := Kp.blk k5 HB13.out.drew (HGG.out _ (.inr (.inl rfl)))
        have HB24 := hid (Kp.blk k5 HB23.out.drew (HGG.out _ (.inr (.inr (.inl rfl)))))
        have HK4 : Hid (Kp G w w4) := Kp.trans (Kp.trans HK3.out (show Kp G _ _ from (Fr.refl _ _).drew)) (Kp.less k5 (fun k hk => HGG.out k (.inl hk)))
        have HKd4 : Hid (w4.heap[D']? = some (.deferred (some []))) := (k5.block D' (Array.getElem?_eq_some_iff.1 HKd3.out).1 (fun hn => hn (HGG.out _ (.inr (.inr (.inr rfl)))))).trans HKd3.out
        have HB14 := hid hb1
        have cb4 := hb1.cell 0
        simp only [List.getElem?_cons_zero] at cb4
        clear HCp m4 f4 o5 k5 hb1 HHold cb c7 c8 HO4 HB13 HB23 HK3 HKd3
        go_wp2_with fail
        refine HDr.out.mono ?_
        rintro x w5 ⟨rfl, ⟨bt5, o5⟩, k5⟩
        have HB25 := hid (Kp.blk k5 HB24.out (HGG.out _ (.inr (.inr (.inl rfl)))))
        have q0 := HB25.out.cell 0
        have z0 := HB25.out.frozen 0
        simp only [List.getElem?_cons_zero] at q0
        have HK5 : Hid (Kp G w w5) := Kp.trans HK4.out (Kp.less k5 (fun k hk => HGG.out k (.inl hk)))
        have HKd5 : Hid (w5.heap[D']? = some (.deferred (some []))) := (k5.block D' (Array.getElem?_eq_some_iff.1 HKd4.out).1 (fun hn => hn (HGG.out _ (.inr (.inr (.inr rfl)))))).trans HKd4.out
        have HO5 := hid o5
        clear HDr o5 k5 HB24 HB14 HK4 HKd4 cb4
        go_wp2
        have hKd6 : (w5.setCell ⟨w.heap.size + 1, 0, none⟩ (.int .i64 0)).heap[D']? = some (.deferred (some [])) := (Below.heap_setCell w5 _ _ D' (fun e => by
          have h5 : w5.heap[w.heap.size + 1]? = some (.cells #[.int .i64 0] 40 (0, 0)) := HB25.out
          have h6 := HKd5.out
          rw [e] at h6
          simp only at h6
          rw [h5] at h6
          cases h6)).trans HKd5.out
        refine ⟨by simp, .inl ⟨_, _, rfl, run_takeDeferred hKd6, ?_⟩⟩
        refine ⟨_, results30 rfl rfl ((HB25.out.setCell 0 _).of_eq (heap_putObj_ne (fun e => ?_))), ?_⟩
        · have h5 : w5.heap[w.heap.size + 1]? = some (.cells #[.int .i64 0] 40 (0, 0)) := HB25.out
          have h6 := HKd5.out
          rw [← e, h5] at h6
          cases h6
        · refine HPost.out _ _ rfl ⟨bl0, bt5, ?_⟩ (kp_putObj (Kp.trans HK5.out ((Fr.refl _ w5).setCell (.inl (fun hg => by have h9 : w.heap.size + 1 < w.heap.size := hGlt _ hg; omega)) _)) hDw)
          rw [HTL2.out, ← Hst.out]
          exact ((HO5.out.pokeG (HGG.out _ (.inr (.inr (.inl rfl)))) 0 _).let (HGG.out _ (.inr (.inr (.inr rfl)))) _).less (fun k hk => HGG.out k (.inl hk))
      · have hb : (E != 0) = true := by simpa using hE
        have HO4 : Hid (OwnL GG w3 l p bl0 bt (comD D L) L0) := by have := HO3.out; rwa [if_neg hE] at this
        have HTL2 : Hid (comL D L = L0) := by have := HTL.out; rwa [if_pos hE] at this
        have q0 := HB23.out.cell 0
        have z0 := HB23.out.frozen 0
        simp only [List.getElem?_cons_zero] at q0
        clear HO3 HTL
        go_wp2
        have hKd6 : (w3.setCell ⟨w.heap.size + 1, 0, none⟩ (.int .i64 E)).heap[D']? = some (.deferred (some [])) := (Below.heap_setCell w3 _ _ D' (fun e => by
          have h5 : w3.heap[w.heap.size + 1]? = some (.cells #[.int .i64 0] 40 (0, 0)) := HB23.out
          have h6 := HKd3.out
          rw [e] at h6
          simp only at h6
          rw [h5] at h6
          cases h6)).trans HKd3.out
        refine ⟨by simp, .inl ⟨_, _, rfl, run_takeDeferred hKd6, ?_⟩⟩
        refine ⟨_, results30 rfl rfl ((HB23.out.setCell 0 _).of_eq (heap_putObj_ne (fun e => ?_))), ?_⟩
        · have h5 : w3.heap[w.heap.size + 1]? = some (.cells #[.int .i64 0] 40 (0, 0)) := HB23.out
          have h6 := HKd3.out
          rw [← e, h5] at h6
          cases h6
        · refine HPost.out _ _ rfl ⟨bl0, bt, ?_⟩ (kp_putObj (Kp.trans HK3.out ((Fr.refl _ w3).setCell (.inl (fun hg => by have h9 : w.heap.size + 1 < w.heap.size := hGlt _ hg; omega)) _)) hDw)
          rw [HTL2.out]
          exact ((HO4.out.pokeG (HGG.out _ (.inr (.inr (.inl rfl)))) 0 _).let (HGG.out _ (.inr (.inr (.inr rfl)))) _).less (fun k hk => HGG.out k (.inl hk))

end Go.Proofs.YtehoiahgkbnjdaaGreat.Wl
