/- The contract of the document's Parse. -/
import Derived.Test.YtipppagkajcheaaGreatDoorSPa
import Derived.BigQuiet
namespace Go.Proofs.YtipppagkajcheaaGreatDoor.Tr
open Go.RowKit

/-- What the search for a digit holds behind j looks. -/
def fnd (o : Option Nat) (j : Nat) : Int := match o with
  | some x => if x < j then (x : Int) else -1
  | none => -1
theorem hexd_iff (c : UInt8) (k : Nat) (h : k < 16) : hexd k = c ↔ dig c = some k := by
  have hc := UInt8.toNat_lt c
  have e : hexd k = c ↔ (if k < 10 then 48 + k else 87 + k) = c.toNat := by
    unfold hexd
    rw [← UInt8.toNat_inj, UInt8.toNat_ofNat']
    have : (if k < 10 then 48 + k else 87 + k) % 2 ^ 8 = if k < 10 then 48 + k else 87 + k := Nat.mod_eq_of_lt (by split <;> omega)
    rw [this]
  rw [e]
  unfold dig
  split <;> split <;> (try split) <;> simp <;> omega
theorem fnd_zero (o : Option Nat) : fnd o 0 = -1 := by cases o <;> simp [fnd]
theorem fnd_hit (c : UInt8) (k : Nat) (h : k < 16) (e : hexd k = c) : fnd (dig c) (k + 1) = (k : Int) := by
  rw [(hexd_iff c k h).1 e]; simp [fnd]
theorem fnd_miss (c : UInt8) (k : Nat) (h : k < 16) (e : hexd k ≠ c) : fnd (dig c) (k + 1) = fnd (dig c) k := by
  have hn : dig c ≠ some k := fun h' => e ((hexd_iff c k h).2 h')
  cases hd : dig c with
  | none => rfl
  | some x =>
    rw [hd] at hn
    have : x ≠ k := fun h' => hn (by rw [h'])
    simp only [fnd]
    split <;> split <;> omega
theorem mul_add (S d : Nat) : IntKind.u64.wrap (IntKind.u64.wrap ((S : Int) * 16) + (d : Int)) = (((S * 16 + d) % 18446744073709551616 : Nat) : Int) := by
  simp [IntKind.wrap, IntKind.bits, IntKind.signed]

end Go.Proofs.YtipppagkajcheaaGreatDoor.Tr
