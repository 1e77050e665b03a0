/- The powers of ten, as the rows list them. -/
import Derived.Test.YtionmohglmbklaaGreatDoorExa
import Derived.Test.YtionmohglmbklaaGreatDoorLad
namespace Go.Proofs.YtionmohglmbklaaGreatDoor.Tr
open Go.RowKit Go.Lib

/-- A power of ten, as the table has it. -/
def q10 (i : Nat) : Nat := match (Rows.laid_internal_strconv_float64pow10 : DataW Unit) with
  | .slice l _ => match l[i]? with
    | some (.lit (.float _ b)) => b
    | _ => 0
  | _ => 0
def fin1B (y : Nat) : Bool := match Ieee.double.read y with
  | .number false n _ => n != 0
  | _ => false
theorem fin1_of {y : Nat} (h : fin1B y = true) : Fin1 y := by
  unfold fin1B at h
  split at h
  · rename_i n j e; exact ⟨n, j, e, by simpa using h⟩
  · cases h
theorem q10_fin (i : Nat) (h : i < 23) : Fin1 (q10 i) := by
  have : ∀ i : Fin 23, fin1B (q10 i.1) = true := by decide +kernel
  exact fin1_of (this ⟨i, h⟩)

theorem p10_of {W : World} {l : List (String × DataW Unit)} (h : laidMet Tryz.prog l W) (hT : Tabs W) (m3 : ("internal/strconv.float64pow10", Rows.laid_internal_strconv_float64pow10) ∈ l) : P10 W q10 := by
  have g3 : Tryz.prog.globalNamed "internal/strconv.float64pow10" = some 9 := by kernel_rfl
  have y3 : (Tryz.prog.globals[9]?).map (·.type) = some 232 := by kernel_rfl
  refine ⟨hT.mb, ?_, q10_fin⟩
  obtain ⟨g, t, cs, fuel, p, hg, ht, hv, hr⟩ := laidMet.reads h m3
  obtain rfl := Option.some.inj (g3.symm.trans hg)
  obtain rfl := Option.some.inj (y3.symm.trans ht)
  obtain ⟨a, cap, hcs, hle, hcell⟩ := open_row Tryz.underlying232 (by kernel_rfl) hr
  have c := World.var?_cell hg hv 0
  refine ⟨a, cap, ?_, ?_⟩
  · rw [c, ← Array.getElem?_toList, hcs]; rfl
  · intro i h0 hi
    obtain ⟨v, n, q, hcv, hd⟩ := hcell i (.lit (.float .f64 (q10 i))) (by
      match i, hi with
      | 0, _ => rfl
      | 1, _ => rfl
      | 2, _ => rfl
      | 3, _ => rfl
      | 4, _ => rfl
      | 5, _ => rfl
      | 6, _ => rfl
      | 7, _ => rfl
      | 8, _ => rfl
      | 9, _ => rfl
      | 10, _ => rfl
      | 11, _ => rfl
      | 12, _ => rfl
      | 13, _ => rfl
      | 14, _ => rfl
      | 15, _ => rfl
      | 16, _ => rfl
      | 17, _ => rfl
      | 18, _ => rfl
      | 19, _ => rfl
      | 20, _ => rfl
      | 21, _ => rfl
      | 22, _ => rfl
      | i + 23, hi => omega)
    have e := lit_float Tryz.underlying35 hd
    simp only [List.cons.injEq, and_true] at e
    rw [← e]
    have ea : a.add i = ⟨a.block, a.off + i, none⟩ := if_neg (by omega)
    rw [← ea]
    simpa using hcv

end Go.Proofs.YtionmohglmbklaaGreatDoor.Tr
