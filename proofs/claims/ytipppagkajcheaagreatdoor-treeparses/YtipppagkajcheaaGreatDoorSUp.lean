/- The contracts of Update and Sum, the program's and the document's. -/
import Derived.Test.YtipppagkajcheaaGreatDoorBase
import Derived.Laws.BitsAllLaws
namespace Go.Proofs.YtipppagkajcheaaGreatDoor.Tr
open Go.RowKit

theorem wrap_step (S : Nat) (x : UInt8) (hS : S < 18446744073709551616) : IntKind.u64.wrap (bits .xor .u64 (S : Int) (x.toNat : Int) * 1099511628211) = ((step1 S x : Nat) : Int) := by
  rw [u64_xor_nat S x.toNat hS (by have := UInt8.toNat_lt x; omega)]
  unfold step1
  generalize S ^^^ x.toNat = y
  simp [IntKind.wrap, IntKind.bits, IntKind.signed]

theorem wrap_mul (y : Nat) : IntKind.u64.wrap ((y : Int) * 1099511628211) = (((y * 1099511628211) % 18446744073709551616 : Nat) : Int) := by
  simp [IntKind.wrap, IntKind.bits, IntKind.signed]

/-- The sum of nothing. -/
def beg : Nat := 14695981039346656037
theorem beg_lt : beg < 18446744073709551616 := by decide

end Go.Proofs.YtipppagkajcheaaGreatDoor.Tr
