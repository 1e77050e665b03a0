/- The tables that the rows list. -/
import Derived.Test.YtlepjghfcpgbcaaGreatDoorFmf
import Derived.Deep.Strs
import Derived.LaidMore
import Derived.Lib.LaidU8
import Derived.Lib.LaidTab
import Derived.Deep.DeepHandedRow
import Derived.Deep.DeepWitnessRowRef
namespace Go.Proofs.YtlepjghfcpgbcaaGreatDoor.Tr
open Go.RowKit Go.Lib

theorem below_of_fr {w w' : World} (f : Fr (fun _ => False) w w') : Below w.heap.size w w' := ⟨f.os, f.tape, f.output, f.size, fun k hk => f.block k hk (fun h => h)⟩
/-- A row of the table. -/
def tabQ (i : Nat) : Nat × Nat := Go.Pinned.pow10Rows.getD i (0, 0)
theorem tabQ_lt (i : Nat) : (tabQ i).1 < 18446744073709551616 ∧ (tabQ i).2 < 18446744073709551616 := by
  have h : Go.Pinned.pow10Rows.all (fun x => decide (x.1 < 18446744073709551616) && decide (x.2 < 18446744073709551616)) = true := by decide +kernel
  unfold tabQ
  rw [List.getD_eq_getElem?_getD]
  cases e : Go.Pinned.pow10Rows[i]? with
  | none => exact ⟨by decide, by decide⟩
  | some x =>
    have := List.all_eq_true.1 h x (List.mem_of_getElem? e)
    simpa using this

theorem pw_of {W : World} {l : List (String × DataW Unit)} (h : laidMet Tryz.prog l W) (m : ("internal/strconv.pow10Tab", Rows.laid_internal_strconv_pow10Tab) ∈ l) : Pw W tabQ := by
  have g3 : Tryz.prog.globalNamed "internal/strconv.pow10Tab" = some 13 := by kernel_rfl
  have y3 : (Tryz.prog.globals[13]?).map (·.type) = some 212 := by kernel_rfl
  have c2 : Tryz.prog.cellsOf 211 = 2 := by kernel_rfl
  have c1 : Tryz.prog.cellsOf 44 = 1 := by kernel_rfl
  have hlen : Go.Pinned.pow10Rows.length = 696 := by decide +kernel
  obtain ⟨g, t, cs, fuel, p, hg, ht, hv, hr⟩ := laidMet.reads h m
  obtain rfl := Option.some.inj (g3.symm.trans hg)
  obtain rfl := Option.some.inj (y3.symm.trans ht)
  intro i hi
  obtain ⟨fuel', d, q, hdi, he⟩ := array_elem (ds := Go.Pinned.pow10Rows.map fun x => .agg [.lit (.int .u64 x.1), .lit (.int .u64 x.2)]) Tryz.underlying212 hr i hi
  have hx : Go.Pinned.pow10Rows[i]? = some (tabQ i) := by
    unfold tabQ
    rw [List.getD_eq_getElem?_getD, List.getElem?_eq_getElem (by rw [hlen]; exact hi)]; rfl
  rw [List.getElem?_map, hx, Option.map_some, Option.some.injEq] at hdi
  subst hdi
  have hb := tabQ_lt i
  generalize tabQ i = x at he hb ⊢
  rw [c2] at he
  have hcs := ints_of_struct (k := .u64) (zs := [(x.1 : Int), (x.2 : Int)]) Tryz.underlying211 (fun j f hj => by
    match j, hj with
    | 0, hj => simp at hj; subst hj; exact ⟨Tryz.underlying44, rfl, c1⟩
    | 1, hj => simp at hj; subst hj; exact ⟨Tryz.underlying44, rfl, c1⟩
    | j + 2, hj => simp at hj) (by rw [c2]; rfl) he
  have e0 := congrArg (·[0]?) hcs
  have e1 := congrArg (·[1]?) hcs
  simp only [List.getElem?_take, List.getElem?_drop] at e0 e1
  refine ⟨?_, ?_, hb⟩
  · rw [World.var?_cell hg hv (i * 2), ← Array.getElem?_toList]
    simpa using e0
  · rw [World.var?_cell hg hv (i * 2 + 1), ← Array.getElem?_toList]
    simpa using e1

theorem tab_of {W : World} {l : List (String × DataW Unit)} (h : laidMet Tryz.prog l W) (m : ("internal/strconv.uint64pow10", Rows.laid_internal_strconv_uint64pow10) ∈ l) : Tab W := by
  have g3 : Tryz.prog.globalNamed "internal/strconv.uint64pow10" = some 3 := by kernel_rfl
  have y3 : (Tryz.prog.globals[3]?).map (·.type) = some 139 := by kernel_rfl
  obtain ⟨g, t, cs, fuel, p, hg, ht, hv, hr⟩ := laidMet.reads h m
  obtain rfl := Option.some.inj (g3.symm.trans hg)
  obtain rfl := Option.some.inj (y3.symm.trans ht)
  have e := cells_of_tab (k := .u64) (zs := Lib.pow10Tab) Tryz.underlying139 Tryz.underlying44 (by kernel_rfl) (by kernel_rfl) hr
  unfold Tab TabIs
  rw [hv, ← e]
theorem tw_of {W : World} {l : List (String × DataW Unit)} (h : laidMet Tryz.prog l W) (m1 : ("internal/strconv.uint64pow10", Rows.laid_internal_strconv_uint64pow10) ∈ l) (m2 : ("internal/strconv.pow10Tab", Rows.laid_internal_strconv_pow10Tab) ∈ l) : Tw W :=
  ⟨⟨tabQ, pw_of h m2, by decide +kernel⟩, tab_of h m1⟩
/-- A start that fits a row that lists great tables. -/
theorem wit_row {H : Type} {enc : TypeId × Value → H} {C : Checked} {os : Os} {f : FuncId} {fn : Func} {s : OpenSpec} {conds : List PathCond} {apart : Bool} {laid : List (String × DataW Unit)} (w0 : World) (args : Array Value) (hos : w0.os = os)
    (hsh : (w0.forCall (fun _ _ => 0) ⟨#[], args, []⟩).Shaped C.prog) (hok : Input.okWideB C.prog (w0.forCall (fun _ _ => 0) ⟨#[], args, []⟩) f ⟨#[], args, []⟩ = true)
    (hrow : s.preRow enc C.prog fn conds apart laid (w0.forCall (fun _ _ => 0) ⟨#[], args, []⟩).memory args) :
    ∃ (w : World) (tape : Tape) (i : Input), w.os = os ∧ (w.forCall tape i).Shaped C.prog ∧ i.vars = [] ∧ Input.okWide C.prog (w.forCall tape i) .any w.heap.size f i ∧
      s.preRow enc C.prog fn conds apart laid (w.forCall tape i).memory i.args ∧ ({ modest := false } : Assume).holds C.prog (lone (Frame.enter C.prog f i.args .normal) [] (w.forCall tape i)) :=
  ⟨w0, fun _ _ => 0, ⟨#[], args, []⟩, hos, hsh, (Input.okWide_of_okWideB (base := 0) hok).1, (Input.okWide_of_okWideB hok).2, hrow, by
    simp only [Assume.holds]
    exact ⟨by simp, by simp, fun _ => Modest.zero, by simp, by simp⟩⟩

end Go.Proofs.YtlepjghfcpgbcaaGreatDoor.Tr
