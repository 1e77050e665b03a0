/- What the rows' listed variables hold, as cells; a witness's shape. -/
import Derived.Test.YtionmohglmbklaaGreatDoorFlo
import Derived.Deep.Strs
import Derived.LaidMore
import Derived.Lib.LaidU8
import Derived.Deep.DeepHandedRow
import Derived.Deep.DeepWitnessRowRef
namespace Go.Proofs.YtionmohglmbklaaGreatDoor.Tr
open Go.RowKit Go.Lib

section
variable {H : Type} {enc : TypeId × Value → H} {P : Program} {w : World} {base : Nat} {sp : Nat → Bool} {held : Bool}
theorem lit_bool {fuel : Nat} {t : TypeId} {cs : List Value} {b : Bool} {p : List MemPlace} (ht : P.underlying t = some .bool) (h : DataW.trod enc P w base sp held fuel t cs = some (.lit (.bool b), p)) : cs = [.bool b] := by
  cases fuel with
  | zero => simp [DataW.trod] at h
  | succ n =>
    unfold DataW.trod at h
    rw [ht] at h
    split at h <;> simp_all
theorem lit_int {fuel : Nat} {t : TypeId} {k : IntKind} {cs : List Value} {z : Int} {p : List MemPlace} (ht : P.underlying t = some (.int k)) (h : DataW.trod enc P w base sp held fuel t cs = some (.lit (.int k z), p)) : cs = [.int k z] := by
  cases fuel with
  | zero => simp [DataW.trod] at h
  | succ n =>
    unfold DataW.trod at h
    rw [ht] at h
    split at h <;> simp_all
theorem lit_float {fuel : Nat} {t : TypeId} {k : FloatKind} {cs : List Value} {z : Nat} {p : List MemPlace} (ht : P.underlying t = some (.float k)) (h : DataW.trod enc P w base sp held fuel t cs = some (.lit (.float k z), p)) : cs = [.float k z] := by
  cases fuel with
  | zero => simp [DataW.trod] at h
  | succ n =>
    unfold DataW.trod at h
    rw [ht] at h
    split at h <;> simp_all
end

theorem tabs_of {W : World} {l : List (String × DataW Unit)} (h : laidMet Tryz.prog l W) (m1 : ("internal/strconv.optimize", Rows.laid_internal_strconv_optimize) ∈ l) (m2 : ("internal/strconv.float64info", Rows.laid_internal_strconv_float64info) ∈ l) (m3 : ("internal/strconv.float64pow10", Rows.laid_internal_strconv_float64pow10) ∈ l) : Tabs W := by
  have g1 : Tryz.prog.globalNamed "internal/strconv.optimize" = some 5 := by kernel_rfl
  have g2 : Tryz.prog.globalNamed "internal/strconv.float64info" = some 6 := by kernel_rfl
  have g3 : Tryz.prog.globalNamed "internal/strconv.float64pow10" = some 9 := by kernel_rfl
  have y1 : (Tryz.prog.globals[5]?).map (·.type) = some 4 := by kernel_rfl
  have y2 : (Tryz.prog.globals[6]?).map (·.type) = some 188 := by kernel_rfl
  have y3 : (Tryz.prog.globals[9]?).map (·.type) = some 232 := by kernel_rfl
  refine ⟨?_, ?_, ?_⟩
  · obtain ⟨g, t, cs, fuel, p, hg, ht, hv, hr⟩ := laidMet.reads h m1
    obtain rfl := Option.some.inj (g1.symm.trans hg)
    obtain rfl := Option.some.inj (y1.symm.trans ht)
    have e := lit_bool Tryz.underlying4 hr
    have c := World.var?_cell hg hv 0
    rw [c, ← Array.getElem?_toList, e]; rfl
  · obtain ⟨g, t, cs, fuel, p, hg, ht, hv, hr⟩ := laidMet.reads h m2
    obtain rfl := Option.some.inj (g2.symm.trans hg)
    obtain rfl := Option.some.inj (y2.symm.trans ht)
    obtain ⟨q0, q1, q2, n, hx, hl, r0, _, _⟩ := Go.Deep.trod_struct3 Tryz.underlying188 hr
    have e0 : q0.1 = .lit (.int .u64 52) := by
      have := congrArg Prod.fst hx
      simp only [Rows.laid_internal_strconv_float64info, DataW.agg.injEq, List.cons.injEq] at this
      exact this.1.symm
    have hc1 : Tryz.prog.cellsOf 186 = 1 := by kernel_rfl
    have e := lit_int (z := 52) (p := q0.2) (Tryz.underlying186) (by
      have r0' : DataW.trod (fun _ => ()) Tryz.prog W 0 (fun _ => true) false n 186 ((cs.toList.drop 0).take (Tryz.prog.cellsOf 186)) = some q0 := r0
      rw [r0', ← e0])
    have c := World.var?_cell hg hv 0
    rw [hc1] at e
    rw [c, ← Array.getElem?_toList]
    cases hcs : cs.toList with
    | nil => rw [hcs] at e; simp at e
    | cons a r => rw [hcs] at e; simp at e; simp [e]
  · obtain ⟨g, t, cs, fuel, p, hg, ht, hv, hr⟩ := laidMet.reads h m3
    obtain rfl := Option.some.inj (g3.symm.trans hg)
    obtain rfl := Option.some.inj (y3.symm.trans ht)
    obtain ⟨a, cap, hcs, hle, hcell⟩ := open_row Tryz.underlying232 (by kernel_rfl) hr
    have c := World.var?_cell hg hv 0
    refine ⟨a, cap, ?_, ?_⟩
    · rw [c, ← Array.getElem?_toList, hcs]; rfl
    · obtain ⟨v, n, q, hcv, hd⟩ := hcell 2 _ rfl
      have e := lit_float Tryz.underlying35 hd
      simp only [List.cons.injEq, and_true] at e
      rw [← e]
      simpa [Addr.add] using hcv

/-- A start that fits a row that lists great tables. -/
theorem wit_row {H : Type} {enc : TypeId × Value → H} {C : Checked} {os : Os} {f : FuncId} {fn : Func} {s : OpenSpec} {conds : List PathCond} {apart : Bool} {laid : List (String × DataW Unit)} (w0 : World) (args : Array Value) (hos : w0.os = os)
    (hsh : (w0.forCall (fun _ _ => 0) ⟨#[], args, []⟩).Shaped C.prog) (hok : Input.okWideB C.prog (w0.forCall (fun _ _ => 0) ⟨#[], args, []⟩) f ⟨#[], args, []⟩ = true)
    (hrow : s.preRow enc C.prog fn conds apart laid (w0.forCall (fun _ _ => 0) ⟨#[], args, []⟩).memory args) :
    ∃ (w : World) (tape : Tape) (i : Input), w.os = os ∧ (w.forCall tape i).Shaped C.prog ∧ i.vars = [] ∧ Input.okWide C.prog (w.forCall tape i) .any w.heap.size f i ∧
      s.preRow enc C.prog fn conds apart laid (w.forCall tape i).memory i.args ∧ ({ modest := false } : Assume).holds C.prog (lone (Frame.enter C.prog f i.args .normal) [] (w.forCall tape i)) :=
  ⟨w0, fun _ _ => 0, ⟨#[], args, []⟩, hos, hsh, (Input.okWide_of_okWideB (base := 0) hok).1, (Input.okWide_of_okWideB hok).2, hrow, by
    simp only [Assume.holds]
    exact ⟨by simp, by simp, fun _ => Modest.zero, by simp, by simp⟩⟩

theorem below_of_fr {w w' : World} (h : Fr (fun _ => False) w w') : Below w.heap.size w w' := h.below (Nat.le_refl _) (fun _ h => h.elim)

end Go.Proofs.YtionmohglmbklaaGreatDoor.Tr
