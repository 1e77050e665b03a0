/- The contracts of Text, the program's and the document's. -/
import Derived.Test.YtipppagkajcheaaDoorBase
import Derived.Laws.BitsAllLaws
import Derived.Laws.IdiomStrings
import Derived.Laws.Concat
import Derived.Laws.Strings2
import Derived.Laws.DeepStrings4
namespace Go.Proofs.YtipppagkajcheaaDoor.Tr
open Go.RowKit

theorem bs_at (l : List UInt8) (j : Nat) (h : j < l.length) : (bs l)[j]? = some (bv l[j]) := by
  unfold bs; rw [List.getElem?_map, List.getElem?_eq_getElem h]; rfl

/-- The digit of a number below 16. -/
def hexd (d : Nat) : UInt8 := UInt8.ofNat (if d < 10 then 48 + d else 87 + d)
/-- The last k digits of s. -/
def low (s : Nat) : Nat → List UInt8
  | 0 => []
  | k + 1 => hexd (s / 16 ^ k % 16) :: low s k
theorem low_length (s : Nat) : ∀ k, (low s k).length = k
  | 0 => rfl
  | k + 1 => by simp [low, low_length s k]
/-- What the array holds when k digits are laid. -/
def part (s k : Nat) : List UInt8 := List.replicate (16 - k) 0 ++ low s k
theorem part_length (s k : Nat) (h : k ≤ 16) : (part s k).length = 16 := by simp [part, low_length]; omega
theorem part_step (s k : Nat) (h : k < 16) : (part s k).set (15 - k) (hexd (s / 16 ^ k % 16)) = part s (k + 1) := by
  unfold part
  have e : 16 - k = (15 - k) + 1 := by omega
  have e2 : 16 - (k + 1) = 15 - k := by omega
  rw [e2, e, List.replicate_succ', List.append_assoc, List.set_append, if_neg (by simp)]
  simp [low]
theorem part_all (s : Nat) : part s 16 = low s 16 := by simp [part]

theorem and15 (S : Nat) (h : S < 18446744073709551616) : bits .and .u64 (S : Int) 15 = ((S % 16 : Nat) : Int) := by
  have := u64_and_nat S 15 h (by decide)
  rw [show ((15 : Nat) : Int) = 15 from rfl] at this
  rw [this, show (15 : Nat) = 2 ^ 4 - 1 from rfl, Nat.and_two_pow_sub_one_eq_mod]
theorem dig_at : ∀ (d : Nat) (h : d < 16), ((ByteArray.mk #[48, 49, 50, 51, 52, 53, 54, 55, 56, 57, 97, 98, 99, 100, 101, 102])[d]'(by simpa [ByteArray.size] using h)) = hexd d := by
  intro d h
  match d, h with
  | 0, _ => rfl | 1, _ => rfl | 2, _ => rfl | 3, _ => rfl | 4, _ => rfl | 5, _ => rfl | 6, _ => rfl | 7, _ => rfl
  | 8, _ => rfl | 9, _ => rfl | 10, _ => rfl | 11, _ => rfl | 12, _ => rfl | 13, _ => rfl | 14, _ => rfl | 15, _ => rfl
  | n + 16, h => exact absurd h (by omega)

set_option maxRecDepth 100000 in
set_option maxHeartbeats 400000 in
theorem text_any (w : World) (s : Nat) (hs : s < 18446744073709551616) :
    Calls Tryd.prog 25 #[.int .u64 (s : Int)] w fun e w' => e = .returned (.string ⟨(low s 16).toArray⟩) ∧ Fr (fun _ => False) w w' := by
  go_enter Tryd.func25, Tryd.ntmps25
  go_wp2_with fail
  go_loopw [0, 4] (fun v i wr => ∃ k : Nat, k ≤ 16 ∧ i = .int .i64 (15 - (k : Int)) ∧ v = .int .u64 (s / 16 ^ k : Nat) ∧ Blk wr w.heap.size 64 (bs (part s k)) ∧ Fr (fun _ => False) w wr) (fun _ i _ => (intOf i + 1).toNat)
  case atStart => exact ⟨0, Nat.zero_le _, rfl, by simp, Blk.new w 64 _, (Fr.refl _ w).alloc _⟩
  case round =>
    obtain ⟨k, hk, rfl, rfl, hB, hF⟩ := hrel
    have hu : s / 16 ^ k < 18446744073709551616 := Nat.lt_of_le_of_lt (Nat.div_le_self _ _) hs
    have HB := hid hB
    have HF := hid hF
    by_cases hlt : k < 16
    · have hfz := hB.frozen (15 - k)
      have hp := part_length s k hk
      have hst := part_step s k hlt
      have hq : s / 16 ^ (k + 1) = s / 16 ^ k / 16 := by rw [Nat.pow_succ, Nat.div_div_eq_div_mul]
      have hcell : wr.cell? ⟨w.heap.size, 15 - k, none⟩ = some (bv ((part s k)[15 - k]'(by omega))) := by
        rw [hB.cell]; exact bs_at _ _ _
      have hand := and15 _ hu
      have hd : s / 16 ^ k % 16 < 16 := Nat.mod_lt _ (by decide)
      have HD := hid (dig_at _ hd)
      have hk15 : (k : Int) ≤ 15 := by omega
      have hm : (0 : Int) ≤ ((s / 16 ^ k : Nat) : Int) % 16 ∧ ((s / 16 ^ k : Nat) : Int) % 16 < 16 := by omega
      have HSt := hid hst
      have HQ := hid hq
      unfold bv at hcell
      generalize s / 16 ^ k = S at *
      generalize (part s k)[15 - k] = c0 at *
      clear hst hq hB hF
      go_wp2_with fail
      refine ⟨⟨k + 1, by omega, by simp; omega, ?_, ?_, ?_⟩, ?_⟩
      · rw [HQ.out]; simp
      · have := HB.out.setCell (15 - k) (bv (hexd (S % 16)))
        rw [← HSt.out]
        simp only [HD.out]
        simpa [bs, bv, List.map_set] using this
      · exact HF.out.setCell (.inr (Nat.le_refl _)) _
      · simp [intOf]; omega
    · have hk16 : k = 16 := by omega
      subst hk16
      have hcv : (convert 26 9 (.slice (some ⟨w.heap.size, 0, none⟩) 16 16)).run Tryd.prog wr = .ok (.string ⟨(low s 16).toArray⟩) wr := by
        have := run_convert_bytes_back (P := Tryd.prog) wr 26 9 5 ⟨w.heap.size, 0, none⟩ 16 (low s 16) Tryd.underlying26 Tryd.underlying5 Tryd.underlying9 (fun j hj => by
          rw [Addr.add_mid, hB.cell, part_all, Nat.zero_add]; exact bs_at _ _ _)
        rwa [low_length] at this
      clear hB hF
      go_wp2
      go_ret
      exact ⟨rfl, HF.out⟩

theorem dig_ex : ∀ (d : Nat), d < 16 → (ByteArray.mk #[48, 49, 50, 51, 52, 53, 54, 55, 56, 57, 97, 98, 99, 100, 101, 102]).extract d (d + 1) = ⟨[hexd d].toArray⟩ := by
  intro d h
  match d, h with
  | 0, _ => rfl | 1, _ => rfl | 2, _ => rfl | 3, _ => rfl | 4, _ => rfl | 5, _ => rfl | 6, _ => rfl | 7, _ => rfl
  | 8, _ => rfl | 9, _ => rfl | 10, _ => rfl | 11, _ => rfl | 12, _ => rfl | 13, _ => rfl | 14, _ => rfl | 15, _ => rfl
  | n + 16, h => exact absurd h (by omega)

set_option maxRecDepth 100000 in
set_option maxHeartbeats 400000 in
theorem rtext_any (w : World) (s : Nat) (hs : s < 18446744073709551616) :
    Calls Tryd.prog 29 #[.int .u64 (s : Int)] w fun e w' => e = .returned (.string ⟨(low s 16).toArray⟩) ∧ w' = w := by
  go_enter Tryd.func29, Tryd.ntmps29
  go_wp2_with fail
  go_loopw [0, 3, 4] (fun v t i wr => ∃ k : Nat, k ≤ 16 ∧ i = .int .i64 (k : Int) ∧ v = .int .u64 (s / 16 ^ k : Nat) ∧ t = .string ⟨(low s k).toArray⟩ ∧ wr = w) (fun _ _ i _ => 16 - (intOf i).toNat)
  case atStart => exact ⟨0, Nat.zero_le _, rfl, by simp, rfl, rfl⟩
  case round =>
    obtain ⟨k, hk, rfl, rfl, rfl, rfl⟩ := hrel
    have hu : s / 16 ^ k < 18446744073709551616 := Nat.lt_of_le_of_lt (Nat.div_le_self _ _) hs
    by_cases hlt : k < 16
    · have hq : s / 16 ^ (k + 1) = s / 16 ^ k / 16 := by rw [Nat.pow_succ, Nat.div_div_eq_div_mul]
      have hlow : low s (k + 1) = hexd (s / 16 ^ k % 16) :: low s k := rfl
      have hd : s / 16 ^ k % 16 < 16 := Nat.mod_lt _ (by decide)
      have HD := hid (dig_ex _ hd)
      have hk16 : (k : Int) < 16 := by omega
      have hll : (low s k).length ≤ 16 := by rw [low_length]; omega
      have HQ := hid hq
      have HL := hid hlow
      generalize s / 16 ^ k = S at *
      generalize low s k = l at *
      clear hq hlow
      go_wp2_with fail
      refine ⟨⟨k + 1, by omega, by simp, ?_, ?_, trivial⟩, ?_⟩
      · rw [HQ.out]; simp
      · rw [HD.out, HL.out, ByteArray.mk_append_mk]; rfl
      · simp [intOf]; omega
    · have hk16 : k = 16 := by omega
      subst hk16
      go_wp2
      go_ret
      exact ⟨rfl, rfl⟩

end Go.Proofs.YtipppagkajcheaaDoor.Tr
