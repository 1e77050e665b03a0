/- The contract of reckonInts. -/
import Derived.Test.YtniailfcmlongaaGreatDoorRck
import Derived.BigQuiet
import Derived.Deep.QuietTactic
namespace Go.Proofs.YtniailfcmlongaaGreatDoor.Tr
open Go.RowKit

theorem vv_one (x : Vv) : ∀ v ∈ x.cs, v.oneCell' = true := by
  intro v hv
  simp only [Vv.cs, List.mem_cons, List.not_mem_nil, or_false] at hv
  rcases hv with rfl | rfl | rfl | rfl | rfl | rfl <;> rfl
/-- Storing a value. -/
theorem wpList_storeV {ops : Array Oper} {rest : List Oper} {op : Oper} {a : Act} {W : World} {Q : Exit → Act → World → Prop} (x0 : Vv) (hgd : op.guard = none) (x y : Operand) (ho : op.op = .store 26 x y) {b : Nat} {old : Vv} (hb : Blk W b 26 old.cs)
    (hx : a.eval x = .pointer (some ⟨b, 0, none⟩)) (hy : a.eval y = x0.v) (h : ∀ W', Blk W' b 26 x0.cs → Fr (· = b) W W' → wpList Tryz.prog ops Q rest (a.put op.dst undef) W') : wpList Tryz.prog ops Q (op :: rest) a W :=
  wpList_plain hgd fun K hK => by
    have hs : (Instr.storeAt 26 (.pointer (some ⟨b, 0, none⟩)) x0.v).run Tryz.prog W = .ok () (W.setCells b 0 x0.cs) := by
      have h := run_storeAt_mid (P := Tryz.prog) W b 0 26 x0.cs.toArray (hb.there 0 6 (Nat.le_refl 6)) sizeV (all_oneCell_toArray (vv_one x0))
      rw [show x0.v = .agg x0.cs.toArray from rfl]; simpa using h
    have hb' : Blk (W.setCells b 0 x0.cs) b 26 x0.cs := hb.setCells x0.cs 0 (Nat.le_refl 6)
    have hf : Fr (· = b) W (W.setCells b 0 x0.cs) := (Fr.refl (· = b) W).setCells (b := b) (.inl rfl) _ _
    unfold Oper.wp execOp
    simp only [ho, hx, hy, hs, Sem.run_bind, Sem.run_pure, Result.andThen_ok]
    exact hK _ _ (h _ hb' hf)

/-- An int that fits, or none. -/
def fitV (n : Int) (fits : Bool) : Value := .tuple #[(if fits then vI n else vZ).v, .int .i64 (if fits then 0 else 16)]

end Go.Proofs.YtniailfcmlongaaGreatDoor.Tr
