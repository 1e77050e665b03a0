/- The contract of the document's right over any value: written by gen/gendrt.py. -/
import Derived.Test.YtlepjghfcpgbcaaGreatDoorVrt
namespace Go.Proofs.YtlepjghfcpgbcaaGreatDoor.Tr
open Go.RowKit

/-- A value's own fields, as the document has it. -/
def rgS (k n : Int) (f : Nat) (t : List UInt8) (a b : Nat) : Bool :=
  if k = 5 then decide (b ≤ 256) && bareB ⟨5, n, f, t, none, a, 0, none, 0, 0⟩
  else if k = 6 then decide (a = b) && decide (b ≤ 256) && bareB ⟨6, n, f, t, none, 0, 0, none, 0, 0⟩
  else rightS ⟨k, n, f, t, none, a, 0, none, b, 0⟩
mutual
def rgB : Vt → Bool
  | .mk k n f t ns its => rgS k n f t ns.length its.length && rnB ns && rgL its
def rgL : List Vt → Bool
  | [] => true
  | v :: r => rgB v && rgL r
end
theorem rgL_cons (v : Vt) (r : List Vt) : rgL (v :: r) = (rgB v && rgL r) := by rw [rgL]
def RgOf (v : Vt) : Prop := ∀ (x : Vv) (w : World), VIn w v x → Calls Tryz.prog 49 #[x.v] w fun e w' => e = .returned (.bool (rgB v)) ∧ Fr (fun _ => False) w w'
end Go.Proofs.YtlepjghfcpgbcaaGreatDoor.Tr
