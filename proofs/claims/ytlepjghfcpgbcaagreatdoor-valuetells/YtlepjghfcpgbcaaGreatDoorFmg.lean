/- Float at 100. -/
import Derived.Test.YtlepjghfcpgbcaaGreatDoorFmf
namespace Go.Proofs.YtlepjghfcpgbcaaGreatDoor.Tr
open Go.RowKit

theorem ffb_any (w : World) (n : Int) : (callFunc 34 #[.int .u64 n]).run Tryz.prog w = .ok (.value (.float .f64 n.toNat)) w := by
  rw [run_callFunc_extern Tryz.func34 (by kernel_rfl) (by kernel_rfl) (by kernel_rfl) (e := Extern.MathFloatBits.float64frombits) (by kernel_rfl)]
  rfl

set_option maxRecDepth 100000 in
theorem isNaN_any (w : World) (f : Nat) : Calls Tryz.prog 70 #[.float .f64 f] w fun e w' => e = .returned (.bool (FloatKind.f64.format.order f f != some Ordering.eq)) ∧ w = w' := by
  go_enter Tryz.func70, Tryz.ntmps70
  go_wp2
  go_ret
  exact ⟨rfl, rfl⟩
set_option maxRecDepth 100000 in
theorem isInf_100 (w : World) : Calls Tryz.prog 71 #[.float .f64 4636737291354636288, .int .i64 1] w fun e w' => e = .returned (.bool false) ∧ w = w' := by
  have h : (FloatKind.f64.format.order 4636737291354636288 9218868437227405311 == some Ordering.gt) = false := by decide +kernel
  have h' : ¬ FloatKind.f64.format.order 4636737291354636288 9218868437227405311 = some Ordering.gt := by decide +kernel
  go_enter Tryz.func71, Tryz.ntmps71
  go_wp2
  go_ret
  exact ⟨by first | rfl | simp [h], rfl⟩
theorem neg_100 (w : World) : (Op.unary UnOp.neg (.float .f64 4636737291354636288)).run Tryz.prog w = .ok (.float .f64 13860109328209412096) w := by kernel_rfl
set_option maxRecDepth 100000 in
theorem isInf_100n (w : World) : Calls Tryz.prog 71 #[.float .f64 4636737291354636288, .int .i64 (-1)] w fun e w' => e = .returned (.bool false) ∧ w = w' := by
  have h : (FloatKind.f64.format.order 13860109328209412096 9218868437227405311 == some Ordering.gt) = false := by decide +kernel
  have h' : ¬ FloatKind.f64.format.order 13860109328209412096 9218868437227405311 = some Ordering.gt := by decide +kernel
  have hn := neg_100 w
  go_enter Tryz.func71, Tryz.ntmps71
  go_wp2
  go_ret
  exact ⟨by first | rfl | simp [h], rfl⟩
set_option maxRecDepth 100000 in
theorem abs_100 (w : World) : Calls Tryz.prog 73 #[.float .f64 4636737291354636288] w fun e w' => e = .returned (.float .f64 4636737291354636288) ∧ w = w' := by
  have h1 := fun W => fbits_any W 4636737291354636288
  have h2 := fun W => ffb_any W 4636737291354636288
  have h3 : bits BinOp.andNot .u64 4636737291354636288 9223372036854775808 = 4636737291354636288 := by decide +kernel
  go_enter Tryz.func73, Tryz.ntmps73
  go_wp2
  go_ret
  exact ⟨rfl, rfl⟩
set_option maxRecDepth 100000 in
theorem plain_100 (w : World) : Calls Tryz.prog 72 #[.float .f64 4636737291354636288] w fun e w' => e = .returned (.bool true) ∧ w = w' := by
  have h1 : (FloatKind.f64.format.order 4636737291354636288 0 == some Ordering.eq) = false := by decide +kernel
  have h1' : ¬ FloatKind.f64.format.order 4636737291354636288 0 = some Ordering.eq := by decide +kernel
  have h2 : (FloatKind.f64.format.order 4636737291354636288 4517329193108106637 == some Ordering.gt) = true := by decide +kernel
  have h2' : FloatKind.f64.format.order 4636737291354636288 4517329193108106637 = some Ordering.gt := by decide +kernel
  have h3 : (FloatKind.f64.format.order 4636737291354636288 4921056587992461136 == some Ordering.lt) = true := by decide +kernel
  have h3' : FloatKind.f64.format.order 4636737291354636288 4921056587992461136 = some Ordering.lt := by decide +kernel
  go_enter Tryz.func72, Tryz.ntmps72
  go_wp2
  go_ret
  exact ⟨rfl, rfl⟩
set_option maxRecDepth 100000 in
theorem point_100 (w : World) : Calls Tryz.prog 74 #[.string ⟨#[49, 48, 48]⟩] w fun e w' => e = .returned (.string ⟨#[49, 48, 48, 46, 48]⟩) ∧ w = w' := by
  have HC := hid (Tryz.strings_Contains_one ⟨#[49, 48, 48]⟩ 46 w)
  have e : decide (0 ≤ Lib.indexByte (ByteArray.mk #[49, 48, 48]).data.toList 46) = false := by decide +kernel
  rw [e] at HC
  go_enter Tryz.func74, Tryz.ntmps74
  go_wp2_with fail
  refine HC.out.mono ?_
  rintro e w2 ⟨rfl, rfl⟩
  go_wp2_with fail
  go_ret
  exact ⟨rfl, rfl⟩

set_option maxRecDepth 100000 in
set_option maxHeartbeats 1000000 in
theorem float_100 (w : World) (hT : Tw w) : Calls Tryz.prog 35 #[.float .f64 4636737291354636288] w fun e w' => e = .returned (.string ⟨#[49, 48, 48, 46, 48]⟩) ∧ Fr (fun _ => False) w w' := by
  have HC := hid (pfmtf_100 w hT)
  clear hT
  have hN : (FloatKind.f64.format.order 4636737291354636288 4636737291354636288 != some Ordering.eq) = false := by decide +kernel
  have HN := hid (isNaN_any w 4636737291354636288)
  rw [hN] at HN
  clear hN
  go_enter Tryz.func35, Tryz.ntmps35
  go_wp2_with fail
  refine HN.out.mono ?_
  rintro e w2 ⟨rfl, rfl⟩
  go_wp2_with fail
  refine (isInf_100 w).mono ?_
  rintro e w2 ⟨rfl, rfl⟩
  go_wp2_with fail
  refine (isInf_100n w).mono ?_
  rintro e w2 ⟨rfl, rfl⟩
  go_wp2_with fail
  refine (abs_100 w).mono ?_
  rintro e w2 ⟨rfl, rfl⟩
  go_wp2_with fail
  refine (plain_100 w).mono ?_
  rintro e w2 ⟨rfl, rfl⟩
  go_wp2_with fail
  refine HC.out.mono ?_
  rintro e w2 ⟨rfl, f2⟩
  have HF2 := hid f2
  clear f2
  go_wp2_with fail
  refine (point_100 w2).mono ?_
  rintro e w3 ⟨rfl, rfl⟩
  go_wp2_with fail
  go_ret
  exact ⟨rfl, HF2.out⟩
end Go.Proofs.YtlepjghfcpgbcaaGreatDoor.Tr
