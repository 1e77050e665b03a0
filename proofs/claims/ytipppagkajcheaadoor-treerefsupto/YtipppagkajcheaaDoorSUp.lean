/- The contracts of Update and Sum, the program's and the document's. -/
import Derived.Test.YtipppagkajcheaaDoorBase
import Derived.Laws.BitsAllLaws
namespace Go.Proofs.YtipppagkajcheaaDoor.Tr
open Go.RowKit

theorem wrap_step (S : Nat) (x : UInt8) (hS : S < 18446744073709551616) : IntKind.u64.wrap (bits .xor .u64 (S : Int) (x.toNat : Int) * 1099511628211) = ((step1 S x : Nat) : Int) := by
  rw [u64_xor_nat S x.toNat hS (by have := UInt8.toNat_lt x; omega)]
  unfold step1
  generalize S ^^^ x.toNat = y
  simp [IntKind.wrap, IntKind.bits, IntKind.signed]

set_option maxRecDepth 100000 in
set_option maxHeartbeats 400000 in
theorem update_any (w : World) (s : Nat) (hs : s < 18446744073709551616) (ad : Option Addr) (b : List UInt8) (cap : Nat) (hl : b.length ≤ 140737488355328) (hsrc : Src w ad b) :
    Calls Tryd.prog 44 #[.int .u64 (s : Int), .slice ad b.length cap] w fun e w' => e = .returned (.int .u64 (upd s b : Nat)) ∧ w' = w := by
  have HS := hid hsrc
  clear hsrc
  go_enter Tryd.func44, Tryd.ntmps44
  go_wp2_with fail
  go_loopw [0, 9] (fun v i wr => ∃ k : Nat, k ≤ b.length ∧ i = .int .i64 (k : Int) ∧ v = .int .u64 (upd s (b.take k) : Nat) ∧ wr = w) (fun _ i _ => b.length - (intOf i).toNat)
  case atStart => exact ⟨0, Nat.zero_le _, rfl, rfl, rfl⟩
  case round =>
    obtain ⟨k, hk, rfl, rfl, rfl⟩ := hrel
    have hu := upd_lt s (b.take k) hs
    by_cases hlt : k < b.length
    · obtain ⟨bb, bo, rfl, hr⟩ := HS.out (by intro h; subst h; simp at hlt)
      have hc : wr.cell? ⟨bb, bo + k, none⟩ = some (.int .u8 ((b[k]).toNat : Int)) := hr k _ (by simp [bs, bv, hlt])
      have hn : upd s (b.take (k + 1)) = step1 (upd s (b.take k)) b[k] := upd_take s b k hlt
      have HN := hid hn
      have hcl : (b[k]).toNat < 256 := UInt8.toNat_lt _
      have hk1 : (k : Int) < (b.length : Int) := by omega
      have hk0 : (0 : Int) ≤ (k : Int) := Int.natCast_nonneg _
      generalize upd s (b.take k) = S at *
      generalize b[k] = x at *
      have hw := wrap_step S x hu
      have HW := hid hw
      clear hr hn hw
      go_wp2_with fail
      refine ⟨⟨k + 1, by omega, by simp, by rw [HW.out, HN.out], trivial⟩, ?_⟩
      simp [intOf]; omega
    · have hk1 : ¬ (k : Int) < (b.length : Int) := by omega
      have hkl : k = b.length := by omega
      go_wp2
      go_ret
      exact ⟨by simp, rfl⟩

theorem wrap_mul (y : Nat) : IntKind.u64.wrap ((y : Int) * 1099511628211) = (((y * 1099511628211) % 18446744073709551616 : Nat) : Int) := by
  simp [IntKind.wrap, IntKind.bits, IntKind.signed]

set_option maxRecDepth 100000 in
set_option maxHeartbeats 400000 in
theorem rupdate_any (w : World) (s : Nat) (hs : s < 18446744073709551616) (ad : Option Addr) (b : List UInt8) (cap : Nat) (hl : b.length ≤ 140737488355328) (hsrc : Src w ad b) :
    Calls Tryd.prog 46 #[.int .u64 (s : Int), .slice ad b.length cap] w fun e w' => e = .returned (.int .u64 (upd s b : Nat)) ∧ w' = w := by
  have HS := hid hsrc
  clear hsrc
  go_enter Tryd.func46, Tryd.ntmps46
  go_wp2_with fail
  go_loopw [0, 5] (fun v i wr => ∃ k : Nat, k ≤ b.length ∧ i = .int .i64 (k : Int) ∧ v = .int .u64 (upd s (b.take k) : Nat) ∧ wr = w) (fun _ i _ => b.length - (intOf i).toNat)
  case atStart => exact ⟨0, Nat.zero_le _, rfl, rfl, rfl⟩
  case round =>
    obtain ⟨k, hk, rfl, rfl, rfl⟩ := hrel
    have hu := upd_lt s (b.take k) hs
    by_cases hlt : k < b.length
    · obtain ⟨bb, bo, rfl, hr⟩ := HS.out (by intro h; subst h; simp at hlt)
      have hc : wr.cell? ⟨bb, bo + k, none⟩ = some (.int .u8 ((b[k]).toNat : Int)) := hr k _ (by simp [bs, bv, hlt])
      have hn : upd s (b.take (k + 1)) = step1 (upd s (b.take k)) b[k] := upd_take s b k hlt
      have HN := hid hn
      have hcl : (b[k]).toNat < 256 := UInt8.toNat_lt _
      have hk1 : (k : Int) < (b.length : Int) := by omega
      have hk0 : (0 : Int) ≤ (k : Int) := Int.natCast_nonneg _
      generalize upd s (b.take k) = S at *
      generalize b[k] = x at *
      have hw := wrap_step S x hu
      have HW := hid hw
      clear hr hn hw
      go_wp2_with fail
      refine ⟨⟨k + 1, by omega, by simp, by rw [HW.out, HN.out], trivial⟩, ?_⟩
      simp [intOf]; omega
    · have hk1 : ¬ (k : Int) < (b.length : Int) := by omega
      have hkl : k = b.length := by omega
      go_wp2
      go_ret
      exact ⟨by simp, rfl⟩

/-- The sum of nothing. -/
def beg : Nat := 14695981039346656037
theorem beg_lt : beg < 18446744073709551616 := by decide

set_option maxRecDepth 100000 in
set_option maxHeartbeats 400000 in
theorem sum_any (w : World) (ad : Option Addr) (b : List UInt8) (cap : Nat) (hl : b.length ≤ 140737488355328) (hsrc : Src w ad b) :
    Calls Tryd.prog 26 #[.slice ad b.length cap] w fun e w' => e = .returned (.int .u64 (upd beg b : Nat)) ∧ w' = w := by
  have HU := hid (update_any w beg beg_lt ad b cap hl hsrc)
  generalize upd beg b = u at *
  clear hsrc
  go_enter Tryd.func26, Tryd.ntmps26
  go_wp2_with fail
  refine HU.out.mono ?_
  rintro e w1 ⟨rfl, rfl⟩
  go_wp2
  go_ret
  exact ⟨rfl, rfl⟩

set_option maxRecDepth 100000 in
set_option maxHeartbeats 400000 in
theorem rsum_any (w : World) (ad : Option Addr) (b : List UInt8) (cap : Nat) (hl : b.length ≤ 140737488355328) (hsrc : Src w ad b) :
    Calls Tryd.prog 30 #[.slice ad b.length cap] w fun e w' => e = .returned (.int .u64 (upd beg b : Nat)) ∧ w' = w := by
  have HU := hid (rupdate_any w beg beg_lt ad b cap hl hsrc)
  generalize upd beg b = u at *
  clear hsrc
  go_enter Tryd.func30, Tryd.ntmps30
  go_wp2_with fail
  refine HU.out.mono ?_
  rintro e w1 ⟨rfl, rfl⟩
  go_wp2
  go_ret
  exact ⟨rfl, rfl⟩

end Go.Proofs.YtipppagkajcheaaDoor.Tr
