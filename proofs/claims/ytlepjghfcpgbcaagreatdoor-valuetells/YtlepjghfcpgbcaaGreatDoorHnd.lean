/- A drawn region by hand: which operation is taken first. Nothing here speaks of the Go text. -/
import Derived.Test.YtlepjghfcpgbcaaGreatDoorRci
namespace Go.Proofs.YtlepjghfcpgbcaaGreatDoor.Tr
open Go.RowKit

section
variable {P : Program} {ops : Array Oper} {Q : Exit → Act → World → Prop} {md : Region.Mode} {S : World → Prop}
/-- Operation number i is taken first: its value is v in every world that meets S. -/
theorem takeH {i : Nat} {d : Option Tmp} {fuel : Nat} {listed : Array Bool} {a : Act} {w : World} (v : Value) (hd : (ops[i]?).map (·.dst) = some d) (hs : Region.noSelect ops = true) (hf : Region.free md ops listed i = true)
    (hr : (Region.ready md ops listed).contains i = true) (hQ : ∀ (o : Oper) c a w, Q (.panic c) (a.put o.dst v) w → Q (.panic c) a w) (hS : S w) (hy : ∀ o, ops[i]? = some o → YieldsIf P ops S o v a)
    (h : wpAnyH P md ops Q S fuel (listed.setIfInBounds i true) (a.put d v) w) : wpAnyH P md ops Q S (fuel + 1) listed a w := by
  cases ho : ops[i]? with
  | none => simp [ho] at hd
  | some o =>
    have e : o.dst = d := by simpa [ho] using hd
    subst e
    exact wpAnyH_take ho hs hf hr (hQ o) (hy o ho) hS h
/-- Operation number i alone can come up. -/
theorem oneH {i : Nat} {fuel : Nat} {listed : Array Bool} {a : Act} {w : World} (hr : Region.ready md ops listed = [i])
    (h : ∀ o, ops[i]? = some o → ∀ K' : Act → World → Prop, Hid (∀ a w, S w → wpAnyH P md ops Q S fuel (listed.setIfInBounds i true) a w → K' a w) → if Region.wanted o (yielded ops a.tmps) = true then Oper.wp P o a w K' Q else K' (a.put o.dst undef) w)
    (hi : i < ops.size) : wpAnyH P md ops Q S (fuel + 1) listed a w := by
  have ho : ops[i]? = some ops[i] := Array.getElem?_eq_getElem hi
  exact wpAnyH_ready hr (by simp) (AllReadyH.cons ho (fun K' hK => h _ ho K' (fun a w hS hW => hK a w hS (fun _ => hW))) AllReadyH.nil)
/-- Two operations can come up. -/
theorem twoH {i j : Nat} {fuel : Nat} {listed : Array Bool} {a : Act} {w : World} (hr : Region.ready md ops listed = [i, j])
    (h1 : ∀ o, ops[i]? = some o → ∀ K' : Act → World → Prop, Hid (∀ a w, S w → wpAnyH P md ops Q S fuel (listed.setIfInBounds i true) a w → K' a w) → if Region.wanted o (yielded ops a.tmps) = true then Oper.wp P o a w K' Q else K' (a.put o.dst undef) w)
    (h2 : ∀ o, ops[j]? = some o → ∀ K' : Act → World → Prop, Hid (∀ a w, S w → wpAnyH P md ops Q S fuel (listed.setIfInBounds j true) a w → K' a w) → if Region.wanted o (yielded ops a.tmps) = true then Oper.wp P o a w K' Q else K' (a.put o.dst undef) w)
    (hi : i < ops.size) (hj : j < ops.size) : wpAnyH P md ops Q S (fuel + 1) listed a w := by
  have ho : ops[i]? = some ops[i] := Array.getElem?_eq_getElem hi
  have hp : ops[j]? = some ops[j] := Array.getElem?_eq_getElem hj
  exact wpAnyH_ready hr (by simp) (AllReadyH.cons ho (fun K' hK => h1 _ ho K' (fun a w hS hW => hK a w hS (fun _ => hW))) (AllReadyH.cons hp (fun K' hK => h2 _ hp K' (fun a w hS hW => hK a w hS (fun _ => hW))) AllReadyH.nil))
end

/-- Storing a value, at the operation. -/
theorem wp_storeV {op : Oper} {a : Act} {W : World} {K : Act → World → Prop} {Q : Exit → Act → World → Prop} (x0 : Vv) (x y : Operand) (ho : op.op = .store 26 x y) {b : Nat} {old : Vv} (hb : Blk W b 26 old.cs)
    (hx : a.eval x = .pointer (some ⟨b, 0, none⟩)) (hy : a.eval y = x0.v) (hd : op.dst = none) (h : ∀ W', Blk W' b 26 x0.cs → Fr (· = b) W W' → K a W') : op.wp Tryz.prog a W K Q := by
  have hs : (Instr.storeAt 26 (.pointer (some ⟨b, 0, none⟩)) x0.v).run Tryz.prog W = .ok () (W.setCells b 0 x0.cs) := by
    have h := run_storeAt_mid (P := Tryz.prog) W b 0 26 x0.cs.toArray (hb.there 0 6 (Nat.le_refl 6)) sizeV (all_oneCell_toArray (vv_one x0))
    rw [show x0.v = .agg x0.cs.toArray from rfl]; simpa using h
  have hb' : Blk (W.setCells b 0 x0.cs) b 26 x0.cs := hb.setCells x0.cs 0 (Nat.le_refl 6)
  have hf : Fr (· = b) W (W.setCells b 0 x0.cs) := (Fr.refl (· = b) W).setCells (b := b) (.inl rfl) _ _
  unfold Oper.wp execOp
  simp only [ho, hx, hy, hs, Sem.run_bind, Sem.run_pure, Result.andThen_ok]
  have e : a.put op.dst undef = a := by rw [hd]; rfl
  first | exact h _ hb' hf | (have := h _ hb' hf; rw [← e] at this; exact this)

end Go.Proofs.YtlepjghfcpgbcaaGreatDoor.Tr
