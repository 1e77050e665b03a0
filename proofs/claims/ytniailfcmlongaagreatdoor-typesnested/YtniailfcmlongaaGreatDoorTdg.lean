/- The contract of digits. -/
import Derived.Test.YtniailfcmlongaaGreatDoorTnmM
import Derived.Test.YtniailfcmlongaaGreatDoorTsh
import Derived.Lib.ConvBytes
namespace Go.Proofs.YtniailfcmlongaaGreatDoor.Tr
open Go.RowKit

theorem conv_bytes {w : World} {ad : Option Addr} {b : List UInt8} (h : Src w ad b) (cap : Nat) : (convert 63 9 (.slice ad b.length cap)).run Tryz.prog w = .ok (.string ⟨b.toArray⟩) w := by
  by_cases hb : b = []
  · subst hb
    cases ad with
    | none =>
      rw [run_convert_bytes_string w 63 9 5 none _ cap Tryz.underlying63 Tryz.underlying5 Tryz.underlying9]
      simp [Conv.bytesToString]
      rfl
    | some a => exact run_convert_bytes_back (P := Tryz.prog) w 63 9 5 a cap [] Tryz.underlying63 Tryz.underlying5 Tryz.underlying9 (fun j hj => by simp at hj)
  · obtain ⟨bb, bo, rfl, hr⟩ := h hb
    exact run_convert_bytes_back (P := Tryz.prog) w 63 9 5 ⟨bb, bo, none⟩ cap b Tryz.underlying63 Tryz.underlying5 Tryz.underlying9 (fun j hj => by
      rw [Addr.add_mid]; exact hr j _ (bs_at b j hj))
theorem str_cat (a b : List UInt8) : (ByteArray.mk a.toArray) ++ (ByteArray.mk b.toArray) = ⟨(a ++ b).toArray⟩ := by
  apply ByteArray.ext
  simp
theorem dig_bv (m : Nat) : bv (UInt8.ofNat (48 + m % 10)) = .int .u8 (48 + (m : Int) % 10) := by
  unfold bv
  congr 1
  rw [UInt8.toNat_ofNat']
  omega
theorem src_new (w : World) (c : UInt8) : Src (w.alloc (.cells #[bv c] 5)) (some ⟨w.heap.size, 0, none⟩) [c] := fun _ =>
  ⟨w.heap.size, 0, rfl, (Blk.new w 5 (bs [c])).range 0 (bs [c]) (by simp [bs])⟩
theorem conv_one (w : World) (c : UInt8) : (convert 63 9 (.slice (some ⟨w.heap.size, 0, none⟩) 1 1)).run Tryz.prog (w.alloc (.cells #[bv c] 5)) = .ok (.string ⟨#[c]⟩) (w.alloc (.cells #[bv c] 5)) :=
  conv_bytes (src_new w c) 1
/-- All digits but the last. -/
def decH (u : Nat) : List UInt8 := if u < 10 then [] else decD (u / 10)
theorem decD_hd (u : Nat) : decD u = decH u ++ [UInt8.ofNat (48 + u % 10)] := by
  unfold decH
  by_cases h : u < 10
  · rw [if_pos h, decD_dig u h, Nat.mod_eq_of_lt h]; rfl
  · rw [if_neg h, decD_snoc u h]

set_option maxRecDepth 100000 in
set_option maxHeartbeats 1000000 in
theorem digits_any (w : World) (N : Nat) (hN : N < 1000000) : Calls Tryz.prog 21 #[.int .i64 (N : Int)] w fun e w' => e = .returned (.string ⟨(decD N).toArray⟩) ∧ Fr (fun _ => False) w w' := by
  have hcv := conv_one w (UInt8.ofNat (48 + N % 10))
  rw [dig_bv] at hcv
  have HD := hid (decD_hd N)
  generalize UInt8.ofNat (48 + N % 10) = c at *
  go_enter Tryz.func21, Tryz.ntmps21
  go_wp2_with fail
  clear hcv
  go_loopw [0, 3] (fun nv sv wr => ∃ (m : Nat) (t : List UInt8), m < 1000000 ∧ nv = .int .i64 (m : Int) ∧ sv = .string ⟨t.toArray⟩ ∧ decD N = decH m ++ t ∧ t.length ≤ 1000001 - m ∧ Fr (fun _ => False) w wr) (fun nv _ _ => (intOf nv).toNat)
  case atStart => exact ⟨N, [c], hN, rfl, rfl, HD.out, by simp; omega, (Fr.refl _ _).alloc _⟩
  case round =>
    obtain ⟨m, t, hm, rfl, rfl, hd, htl, hF⟩ := hrel
    clear HD
    have HD := hid hd
    have HF := hid hF
    clear hd hF
    by_cases h0 : m < 10
    · have hg : decide ((m : Int) > 9) = false := by simp; omega
      have HE : Hid (decD N = t) := by unfold Hid; rw [HD.out]; unfold decH; rw [if_pos h0]; rfl
      clear HD
      go_wp2
      go_ret
      exact ⟨by rw [HE.out]; rfl, HF.out⟩
    · have hg : decide ((m : Int) > 9) = true := by simp; omega
      have HE : Hid (decD N = decH (m / 10) ++ (UInt8.ofNat (48 + m / 10 % 10) :: t)) := by
        unfold Hid; rw [HD.out]
        have e : decH m = decD (m / 10) := by unfold decH; rw [if_neg h0]
        rw [e, decD_hd (m / 10)]; simp
      have hcv := conv_one wr (UInt8.ofNat (48 + m / 10 % 10))
      rw [dig_bv] at hcv
      have hq : (m : Int) / 10 = ((m / 10 : Nat) : Int) := by omega
      have HS : Hid ((ByteArray.mk #[UInt8.ofNat (48 + m / 10 % 10)]) ++ (ByteArray.mk t.toArray) = ⟨(UInt8.ofNat (48 + m / 10 % 10) :: t).toArray⟩) := str_cat [UInt8.ofNat (48 + m / 10 % 10)] t
      generalize UInt8.ofNat (48 + m / 10 % 10) = c' at *
      have hsz : ¬ 9223372036854775807 < 1 + t.length := by omega
      have HQ := hid hq
      rw [← hq] at hcv
      clear HD hq
      go_wp2
      exact ⟨⟨m / 10, _, by omega, by rw [HQ.out], by rw [HS.out], HE.out, by simp; omega, HF.out.alloc _⟩, by simp [intOf]; omega⟩
end Go.Proofs.YtniailfcmlongaaGreatDoor.Tr
