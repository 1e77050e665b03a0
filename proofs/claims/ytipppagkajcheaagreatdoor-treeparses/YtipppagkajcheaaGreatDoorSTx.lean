/- The contracts of Text, the program's and the document's. -/
import Derived.Test.YtipppagkajcheaaGreatDoorBase
import Derived.Laws.BitsAllLaws
import Derived.Laws.IdiomStrings
import Derived.Laws.Concat
import Derived.Laws.Strings2
import Derived.Laws.DeepStrings4
namespace Go.Proofs.YtipppagkajcheaaGreatDoor.Tr
open Go.RowKit

theorem bs_at (l : List UInt8) (j : Nat) (h : j < l.length) : (bs l)[j]? = some (bv l[j]) := by
  unfold bs; rw [List.getElem?_map, List.getElem?_eq_getElem h]; rfl

/-- The digit of a number below 16. -/
def hexd (d : Nat) : UInt8 := UInt8.ofNat (if d < 10 then 48 + d else 87 + d)
/-- The last k digits of s. -/
def low (s : Nat) : Nat → List UInt8
  | 0 => []
  | k + 1 => hexd (s / 16 ^ k % 16) :: low s k
theorem low_length (s : Nat) : ∀ k, (low s k).length = k
  | 0 => rfl
  | k + 1 => by simp [low, low_length s k]
/-- What the array holds when k digits are laid. -/
def part (s k : Nat) : List UInt8 := List.replicate (16 - k) 0 ++ low s k
theorem part_length (s k : Nat) (h : k ≤ 16) : (part s k).length = 16 := by simp [part, low_length]; omega
theorem part_step (s k : Nat) (h : k < 16) : (part s k).set (15 - k) (hexd (s / 16 ^ k % 16)) = part s (k + 1) := by
  unfold part
  have e : 16 - k = (15 - k) + 1 := by omega
  have e2 : 16 - (k + 1) = 15 - k := by omega
  rw [e2, e, List.replicate_succ', List.append_assoc, List.set_append, if_neg (by simp)]
  simp [low]
theorem part_all (s : Nat) : part s 16 = low s 16 := by simp [part]

theorem and15 (S : Nat) (h : S < 18446744073709551616) : bits .and .u64 (S : Int) 15 = ((S % 16 : Nat) : Int) := by
  have := u64_and_nat S 15 h (by decide)
  rw [show ((15 : Nat) : Int) = 15 from rfl] at this
  rw [this, show (15 : Nat) = 2 ^ 4 - 1 from rfl, Nat.and_two_pow_sub_one_eq_mod]
theorem dig_at : ∀ (d : Nat) (h : d < 16), ((ByteArray.mk #[48, 49, 50, 51, 52, 53, 54, 55, 56, 57, 97, 98, 99, 100, 101, 102])[d]'(by simpa [ByteArray.size] using h)) = hexd d := by
  intro d h
  match d, h with
  | 0, _ => rfl | 1, _ => rfl | 2, _ => rfl | 3, _ => rfl | 4, _ => rfl | 5, _ => rfl | 6, _ => rfl | 7, _ => rfl
  | 8, _ => rfl | 9, _ => rfl | 10, _ => rfl | 11, _ => rfl | 12, _ => rfl | 13, _ => rfl | 14, _ => rfl | 15, _ => rfl
  | n + 16, h => exact absurd h (by omega)

theorem dig_ex : ∀ (d : Nat), d < 16 → (ByteArray.mk #[48, 49, 50, 51, 52, 53, 54, 55, 56, 57, 97, 98, 99, 100, 101, 102]).extract d (d + 1) = ⟨[hexd d].toArray⟩ := by
  intro d h
  match d, h with
  | 0, _ => rfl | 1, _ => rfl | 2, _ => rfl | 3, _ => rfl | 4, _ => rfl | 5, _ => rfl | 6, _ => rfl | 7, _ => rfl
  | 8, _ => rfl | 9, _ => rfl | 10, _ => rfl | 11, _ => rfl | 12, _ => rfl | 13, _ => rfl | 14, _ => rfl | 15, _ => rfl
  | n + 16, h => exact absurd h (by omega)

end Go.Proofs.YtipppagkajcheaaGreatDoor.Tr
