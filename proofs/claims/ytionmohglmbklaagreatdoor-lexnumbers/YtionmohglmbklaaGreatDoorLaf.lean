/- The table of parseFloat64, as the rows list it. -/
import Derived.Test.YtionmohglmbklaaGreatDoorPfd
import Derived.Test.YtionmohglmbklaaGreatDoorLae
namespace Go.Proofs.YtionmohglmbklaaGreatDoor.Tr
open Go.RowKit Go.Lib

/-- A row of the table. -/
def tabQ (i : Nat) : Nat × Nat := Go.Pinned.pow10Rows.getD i (0, 0)
theorem tabQ_lt (i : Nat) : (tabQ i).1 < 18446744073709551616 ∧ (tabQ i).2 < 18446744073709551616 := by
  have h : Go.Pinned.pow10Rows.all (fun x => decide (x.1 < 18446744073709551616) && decide (x.2 < 18446744073709551616)) = true := by decide +kernel
  unfold tabQ
  rw [List.getD_eq_getElem?_getD]
  cases e : Go.Pinned.pow10Rows[i]? with
  | none => exact ⟨by decide, by decide⟩
  | some x =>
    have := List.all_eq_true.1 h x (List.mem_of_getElem? e)
    simpa using this

theorem pw_of {W : World} {l : List (String × DataW Unit)} (h : laidMet Tryz.prog l W) (m : ("internal/strconv.pow10Tab", Rows.laid_internal_strconv_pow10Tab) ∈ l) : Pw W tabQ := by
  have g3 : Tryz.prog.globalNamed "internal/strconv.pow10Tab" = some 11 := by kernel_rfl
  have y3 : (Tryz.prog.globals[11]?).map (·.type) = some 242 := by kernel_rfl
  have c2 : Tryz.prog.cellsOf 241 = 2 := by kernel_rfl
  have c1 : Tryz.prog.cellsOf 73 = 1 := by kernel_rfl
  have hlen : Go.Pinned.pow10Rows.length = 696 := by decide +kernel
  obtain ⟨g, t, cs, fuel, p, hg, ht, hv, hr⟩ := laidMet.reads h m
  obtain rfl := Option.some.inj (g3.symm.trans hg)
  obtain rfl := Option.some.inj (y3.symm.trans ht)
  intro i hi
  obtain ⟨fuel', d, q, hdi, he⟩ := array_elem (ds := Go.Pinned.pow10Rows.map fun x => .agg [.lit (.int .u64 x.1), .lit (.int .u64 x.2)]) Tryz.underlying242 hr i hi
  have hx : Go.Pinned.pow10Rows[i]? = some (tabQ i) := by
    unfold tabQ
    rw [List.getD_eq_getElem?_getD, List.getElem?_eq_getElem (by rw [hlen]; exact hi)]; rfl
  rw [List.getElem?_map, hx, Option.map_some, Option.some.injEq] at hdi
  subst hdi
  have hb := tabQ_lt i
  generalize tabQ i = x at he hb ⊢
  rw [c2] at he
  have hcs := ints_of_struct (k := .u64) (zs := [(x.1 : Int), (x.2 : Int)]) Tryz.underlying241 (fun j f hj => by
    match j, hj with
    | 0, hj => simp at hj; subst hj; exact ⟨Tryz.underlying73, rfl, c1⟩
    | 1, hj => simp at hj; subst hj; exact ⟨Tryz.underlying73, rfl, c1⟩
    | j + 2, hj => simp at hj) (by rw [c2]; rfl) he
  have e0 := congrArg (·[0]?) hcs
  have e1 := congrArg (·[1]?) hcs
  simp only [List.getElem?_take, List.getElem?_drop] at e0 e1
  refine ⟨?_, ?_, hb⟩
  · rw [World.var?_cell hg hv (i * 2), ← Array.getElem?_toList]
    simpa using e0
  · rw [World.var?_cell hg hv (i * 2 + 1), ← Array.getElem?_toList]
    simpa using e1

theorem rng_of {W : World} {l : List (String × DataW Unit)} (h : laidMet Tryz.prog l W) (m : ("strconv.ErrRange", Rows.laid_strconv_ErrRange) ∈ l) : Rng W := by
  have g3 : Tryz.prog.globalNamed "strconv.ErrRange" = some 3 := by kernel_rfl
  have y3 : (Tryz.prog.globals[3]?).map (·.type) = some 28 := by kernel_rfl
  obtain ⟨g, t, cs, fuel, p, hg, ht, hv, hr⟩ := laidMet.reads h m
  obtain rfl := Option.some.inj (g3.symm.trans hg)
  obtain rfl := Option.some.inj (y3.symm.trans ht)
  obtain ⟨f', u, v, hcs, _, _⟩ := iface_of_trod Tryz.underlying28 hr
  refine ⟨.iface u v, ?_, .inr ⟨_, _, rfl⟩⟩
  rw [World.var?_cell hg hv 0, ← Array.getElem?_toList, hcs]; rfl

theorem tbs_of {W : World} {l : List (String × DataW Unit)} (h : laidMet Tryz.prog l W) (hT : Tabs W) (m1 : ("internal/strconv.float64pow10", Rows.laid_internal_strconv_float64pow10) ∈ l) (m2 : ("internal/strconv.pow10Tab", Rows.laid_internal_strconv_pow10Tab) ∈ l) (m3 : ("strconv.ErrRange", Rows.laid_strconv_ErrRange) ∈ l) : Tbs W tabQ q10 := by
  have hp := pw_of h m2
  refine ⟨hT.opt, hp, p10_of h hT m1, ?_, rng_of h m3⟩
  rcases Nat.lt_or_ge 11 W.heap.size with hl | hl
  · exact hl
  · exfalso
    have hc := (hp 0 (by omega)).1
    unfold World.cell? at hc
    rw [Array.getElem?_eq_none hl] at hc
    simp at hc

end Go.Proofs.YtionmohglmbklaaGreatDoor.Tr
