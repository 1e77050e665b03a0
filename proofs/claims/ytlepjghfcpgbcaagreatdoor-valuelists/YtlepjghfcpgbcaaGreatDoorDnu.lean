/- The contract of the document's number. -/
import Derived.Test.YtlepjghfcpgbcaaGreatDoorVtr
namespace Go.Proofs.YtlepjghfcpgbcaaGreatDoor.Tr
open Go.RowKit

/-- What 'number' tells. -/
def nuF (x : Vv) : Nat := if x.k = 2 then floatOfInt .f64 x.n else if x.k = 3 then x.f else 0
set_option maxRecDepth 100000 in
set_option maxHeartbeats 1000000 in
theorem number_any (w : World) (x : Vv) : Calls Tryz.prog 59 #[x.v] w fun e w' => e = .returned (.tuple #[.float .f64 (nuF x), .bool (numB x)]) ∧ Fr (fun _ => False) w w' := by
  have HF : Hid (Fr (fun _ => False) w (vBox w x)) := (Fr.refl _ w).alloc _
  simp only [Vv.v] at *
  unfold nuF numB
  by_cases h1 : x.k = 2
  · have h1' : (x.k == 2) = true := by simpa using h1
    rw [if_pos h1, decide_eq_true h1]
    clear h1
    go_enter Tryz.func59, Tryz.ntmps59
    go_wp2
    go_ret2
    exact ⟨rfl, HF.out⟩
  · have h1' : (x.k == 2) = false := by simpa using h1
    rw [if_neg h1, decide_eq_false h1]
    clear h1
    by_cases h2 : x.k = 3
    · have h2' : (x.k == 3) = true := by simpa using h2
      rw [if_pos h2, decide_eq_true h2]
      clear h2
      go_enter Tryz.func59, Tryz.ntmps59
      go_wp2
      go_ret2
      exact ⟨rfl, HF.out⟩
    · have h2' : (x.k == 3) = false := by simpa using h2
      rw [if_neg h2, decide_eq_false h2]
      clear h2
      go_enter Tryz.func59, Tryz.ntmps59
      go_wp2
      go_ret2
      exact ⟨rfl, HF.out⟩
end Go.Proofs.YtlepjghfcpgbcaaGreatDoor.Tr
