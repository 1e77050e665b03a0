
/- The sum of bytes: Update and Sum. -/
import Derived.Test.YtehoiahgkbnjdaaGreatNum
namespace Go.Proofs.YtehoiahgkbnjdaaGreat.Wl
open Go.RowKit Dk

/-- The slice ad has the bytes b. -/
def Src (w : World) (ad : Option Addr) (b : Sec) : Prop := b ≠ [] → ∃ bb bo, ad = some ⟨bb, bo, none⟩ ∧ w.rangeAt bb bo (bs b)
theorem Src.nil (w : World) (ad : Option Addr) : Src w ad [] := fun h => absurd rfl h
theorem Src.of {w : World} {bb bo : Nat} {b : Sec} (h : w.rangeAt bb bo (bs b)) : Src w (some ⟨bb, bo, none⟩) b := fun _ => ⟨bb, bo, rfl, h⟩
def step1 (s : Nat) (c : UInt8) : Nat := ((s ^^^ c.toNat) * 1099511628211) % 18446744073709551616
def upd (s : Nat) (b : Sec) : Nat := b.foldl step1 s
theorem step1_lt (s : Nat) (c : UInt8) : step1 s c < 18446744073709551616 := by
  unfold step1; exact Nat.mod_lt _ (by decide)
theorem upd_lt (s : Nat) (b : Sec) (hs : s < 18446744073709551616) : upd s b < 18446744073709551616 := by
  induction b generalizing s with
  | nil => exact hs
  | cons x r ih => exact ih _ (step1_lt s x)
theorem foldl_take_succ {α β : Type} (f : β → α → β) (s : β) (b : List α) (k : Nat) (h : k < b.length) : (b.take (k + 1)).foldl f s = f ((b.take k).foldl f s) b[k] := by
  rw [List.take_succ_eq_append_getElem h, List.foldl_append]; rfl
theorem upd_append (s : Nat) (a b : Sec) : upd s (a ++ b) = upd (upd s a) b := List.foldl_append
theorem upd_take (s : Nat) (b : Sec) (k : Nat) (h : k < b.length) : upd s (b.take (k + 1)) = step1 (upd s (b.take k)) b[k] := foldl_take_succ step1 s b k h
theorem wrap_step (S : Nat) (x : UInt8) (hS : S < 18446744073709551616) : IntKind.u64.wrap (bits .xor .u64 (S : Int) (x.toNat : Int) * 1099511628211) = ((step1 S x : Nat) : Int) := by
  rw [u64_xor_nat S x.toNat hS (by have := UInt8.toNat_lt x; omega)]
  unfold step1
  generalize S ^^^ x.toNat = y
  simp [IntKind.wrap, IntKind.bits, IntKind.signed]

set_option maxRecDepth 100000 in
set_option maxHeartbeats 400000 in
theorem update_any (w : World) (s : Nat) (hs : s < 18446744073709551616) (ad : Option Addr) (b : Sec) (cap : Nat) (hl : b.length ≤ 140737488355328) (hsrc : Src w ad b) :
    Calls Tryz.prog 70 #[.int .u64 (s : Int), .slice ad b.length cap] w fun e w' => e = .returned (.int .u64 (upd s b : Nat)) ∧ w' = w := by
  have HS := hid hsrc
  clear hsrc
  go_enter Tryz.func70, Tryz.ntmps70
  go_wp2_with fail
  go_loopw [0, 9] (fun v i wr => ∃ k : Nat, k ≤ b.length ∧ i = .int .i64 (k : Int) ∧ v = .int .u64 (upd s (b.take k) : Nat) ∧ wr = w) (fun _ i _ => b.length - (intOf i).toNat)
  case atStart => exact ⟨0, Nat.zero_le _, rfl, rfl, rfl⟩
  case round =>
    obtain ⟨k, hk, rfl, rfl, rfl⟩ := hrel
    have hu := upd_lt s (b.take k) hs
    by_cases hlt : k < b.length
    · obtain ⟨bb, bo, rfl, hr⟩ := HS.out (by intro h; subst h; simp at hlt)
      have hc : wr.cell? ⟨bb, bo + k, none⟩ = some (.int .u8 ((b[k]).toNat : Int)) := hr k _ (by simp [bs, bv, hlt])
      have hn : upd s (b.take (k + 1)) = step1 (upd s (b.take k)) b[k] := upd_take s b k hlt
      have HN := hid hn
      have hcl : (b[k]).toNat < 256 := UInt8.toNat_lt _
      have hk1 : (k : Int) < (b.length : Int) := by omega
      have hk0 : (0 : Int) ≤ (k : Int) := Int.natCast_nonneg _
      generalize upd s (b.take k) = S at *
      generalize b[k] = x at *
      have hw := wrap_step S x hu
      have HW := hid hw
      clear hr hn hw
      go_wp2_with fail
      refine ⟨⟨k + 1, by omega, by simp, by rw [HW.out, HN.out], trivial⟩, ?_⟩
      simp [intOf]; omega
    · have hk1 : ¬ (k : Int) < (b.length : Int) := by omega
      have hkl : k = b.length := by omega
      go_wp2
      go_ret
      exact ⟨by simp, rfl⟩

def beg : Nat := 14695981039346656037
theorem beg_lt : beg < 18446744073709551616 := by decide

set_option maxRecDepth 100000 in
set_option maxHeartbeats 400000 in
theorem sum_any (w : World) (ad : Option Addr) (b : Sec) (cap : Nat) (hl : b.length ≤ 140737488355328) (hsrc : Src w ad b) :
    Calls Tryz.prog 68 #[.slice ad b.length cap] w fun e w' => e = .returned (.int .u64 (upd beg b : Nat)) ∧ w' = w := by
  have H := hid (update_any w beg beg_lt ad b cap hl hsrc)
  clear hsrc
  go_enter Tryz.func68, Tryz.ntmps68
  go_wp2_with fail
  refine H.out.mono ?_
  rintro e w' ⟨rfl, rfl⟩
  go_wp2
  go_ret
  exact ⟨rfl, rfl⟩

end Go.Proofs.YtehoiahgkbnjdaaGreat.Wl
