/- The contracts of decimal and of the document's Bytes. -/
import Derived.Test.YtipppagkajcheaaGreatDoorLya
namespace Go.Proofs.YtipppagkajcheaaGreatDoor.Tr
open Go.RowKit

theorem dig_bv (m : Nat) : bv (UInt8.ofNat (48 + m % 10)) = .int .u8 (48 + (m : Int) % 10) := by
  unfold bv
  congr 1
  rw [UInt8.toNat_ofNat']
  omega
theorem src_new (w : World) (c : UInt8) : Src (w.alloc (.cells #[bv c] 5)) (some ⟨w.heap.size, 0, none⟩) [c] := fun _ =>
  ⟨w.heap.size, 0, rfl, (Blk.new w 5 (bs [c])).range 0 (bs [c]) (by simp [bs])⟩
theorem conv_one (w : World) (c : UInt8) : (convert 22 9 (.slice (some ⟨w.heap.size, 0, none⟩) 1 1)).run Tryz.prog (w.alloc (.cells #[bv c] 5)) = .ok (.string ⟨#[c]⟩) (w.alloc (.cells #[bv c] 5)) :=
  conv_bytes (src_new w c) 1

set_option maxRecDepth 100000 in
set_option maxHeartbeats 1000000 in
theorem decimal_any (w : World) (N : Nat) (hN : N ≤ 140737488355328) : Calls Tryz.prog 26 #[.int .i64 (N : Int)] w fun e w' => e = .returned (.string ⟨(decL N).toArray⟩) ∧ Fr (fun _ => False) w w' := by
  go_enter Tryz.func26, Tryz.ntmps26
  go_wp2_with fail
  go_loopw [0, 3] (fun nv sv wr => ∃ (m : Nat) (t : List UInt8), m ≤ 140737488355328 ∧ nv = .int .i64 (m : Int) ∧ sv = .string ⟨t.toArray⟩ ∧ decL N = decL m ++ t ∧ t.length ≤ 140737488355328 - m ∧ Fr (fun _ => False) w wr) (fun nv _ _ => (intOf nv).toNat)
  case atStart => exact ⟨N, [], hN, rfl, rfl, by simp, by simp, Fr.refl _ _⟩
  case round =>
    obtain ⟨m, t, hm, rfl, rfl, hd, htl, hF⟩ := hrel
    have HD := hid hd
    have HF := hid hF
    clear hd hF
    have HD1 : Hid (m / 10 = 0 → decL N = UInt8.ofNat (48 + m % 10) :: t) := fun h0 => by rw [HD.out, decL_last m h0]; rfl
    have HD2 : Hid (¬ m / 10 = 0 → decL N = decL (m / 10) ++ (UInt8.ofNat (48 + m % 10) :: t)) := fun h0 => by rw [HD.out, decL_step m h0]; simp
    have hcv := conv_one wr (UInt8.ofNat (48 + m % 10))
    rw [dig_bv] at hcv
    have HS : Hid ((ByteArray.mk #[UInt8.ofNat (48 + m % 10)]) ++ (ByteArray.mk t.toArray) = ⟨(UInt8.ofNat (48 + m % 10) :: t).toArray⟩) := str_cat [UInt8.ofNat (48 + m % 10)] t
    generalize UInt8.ofNat (48 + m % 10) = c at *
    have hsz : ¬ 9223372036854775807 < 1 + t.length := by omega
    have hq : (m : Int) / 10 = ((m / 10 : Nat) : Int) := by omega
    clear HD
    by_cases h0 : m / 10 = 0
    · have h0' : ((m : Int) / 10 == 0) = true := by rw [hq, h0]; rfl
      have HE := hid (HD1.out h0)
      clear hq HD1 HD2
      go_wp2
      go_ret
      refine ⟨?_, HF.out.alloc _⟩
      rw [HE.out, ← HS.out]
      rfl
    · have h0' : ((m : Int) / 10 == 0) = false := by rw [hq]; simp; omega
      have HE := hid (HD2.out h0)
      have HQ := hid hq
      clear hq HD1 HD2
      go_wp2
      exact ⟨⟨m / 10, _, by omega, by rw [HQ.out], by rw [HS.out], HE.out, by simp; omega, HF.out.alloc _⟩, by simp [intOf]; omega⟩

end Go.Proofs.YtipppagkajcheaaGreatDoor.Tr
