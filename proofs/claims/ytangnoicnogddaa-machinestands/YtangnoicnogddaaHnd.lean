/- A drawn region by hand: which operation is taken first. Nothing here speaks of the Go text. -/
import Derived.Test.YtangnoicnogddaaBase
namespace Go.Proofs.Ytangnoicnogddaa.Tr
open Go.RowKit

section
variable {P : Program} {ops : Array Oper} {Q : Exit → Act → World → Prop} {md : Region.Mode} {S : World → Prop}
/-- Operation number i is taken first: its value is v in every world that meets S. -/
theorem takeH {i : Nat} {d : Option Tmp} {fuel : Nat} {listed : Array Bool} {a : Act} {w : World} (v : Value) (hd : (ops[i]?).map (·.dst) = some d) (hs : Region.noSelect ops = true) (hf : Region.free md ops listed i = true)
    (hr : (Region.ready md ops listed).contains i = true) (hQ : ∀ (o : Oper) c a w, Q (.panic c) (a.put o.dst v) w → Q (.panic c) a w) (hS : S w) (hy : ∀ o, ops[i]? = some o → YieldsIf P ops S o v a)
    (h : wpAnyH P md ops Q S fuel (listed.setIfInBounds i true) (a.put d v) w) : wpAnyH P md ops Q S (fuel + 1) listed a w := by
  cases ho : ops[i]? with
  | none => simp [ho] at hd
  | some o =>
    have e : o.dst = d := by simpa [ho] using hd
    subst e
    exact wpAnyH_take ho hs hf hr (hQ o) (hy o ho) hS h
/-- Operation number i alone can come up. -/
theorem oneH {i : Nat} {fuel : Nat} {listed : Array Bool} {a : Act} {w : World} (hr : Region.ready md ops listed = [i])
    (h : ∀ o, ops[i]? = some o → ∀ K' : Act → World → Prop, Hid (∀ a w, S w → wpAnyH P md ops Q S fuel (listed.setIfInBounds i true) a w → K' a w) → if Region.wanted o (yielded ops a.tmps) = true then Oper.wp P o a w K' Q else K' (a.put o.dst undef) w)
    (hi : i < ops.size) : wpAnyH P md ops Q S (fuel + 1) listed a w := by
  have ho : ops[i]? = some ops[i] := Array.getElem?_eq_getElem hi
  exact wpAnyH_ready hr (by simp) (AllReadyH.cons ho (fun K' hK => h _ ho K' (fun a w hS hW => hK a w hS (fun _ => hW))) AllReadyH.nil)
end

end Go.Proofs.Ytangnoicnogddaa.Tr
