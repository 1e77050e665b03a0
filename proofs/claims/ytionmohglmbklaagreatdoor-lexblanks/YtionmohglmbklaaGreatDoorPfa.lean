/- The small functions under parseFloat64. -/
import Derived.Test.YtionmohglmbklaaGreatDoorPno
namespace Go.Proofs.YtionmohglmbklaaGreatDoor.Tr
open Go.RowKit

/-- A word of 64 bits. -/
def U64 (x : Int) : Prop := 0 ≤ x ∧ x < 18446744073709551616
theorem U64.wrap (x : Int) : U64 (IntKind.u64.wrap x) := by
  unfold U64 IntKind.wrap
  simp [IntKind.signed, IntKind.bits]
  omega
theorem frombits_any (w : World) (n : Int) : (callFunc 150 #[.int .u64 n]).run Tryz.prog w = .ok (.value (.float .f64 n.toNat)) w := by
  rw [run_callFunc_extern Tryz.func150 (by kernel_rfl) (by kernel_rfl) (by kernel_rfl) (e := Extern.MathFloatBits.float64frombits) (by kernel_rfl)]
  rfl

set_option maxRecDepth 100000 in
theorem bool2u_any (w : World) (b : Bool) : Calls Tryz.prog 149 #[.bool b] w fun e w' => e = .returned (.int .u64 (if b then 1 else 0)) ∧ w = w' := by
  cases b
  all_goals
    go_enter Tryz.func149, Tryz.ntmps149
    go_wp2
    go_ret
    exact ⟨rfl, rfl⟩
set_option maxRecDepth 100000 in
theorem bool2i_any (w : World) (b : Bool) : Calls Tryz.prog 174 #[.bool b] w fun e w' => e = .returned (.int .i64 (if b then 1 else 0)) ∧ w = w' := by
  cases b
  all_goals
    go_enter Tryz.func174, Tryz.ntmps174
    go_wp2
    go_ret
    exact ⟨rfl, rfl⟩
set_option maxRecDepth 100000 in
theorem unmin_any (w : World) : Calls Tryz.prog 175 #[.int .u64 9007199254740992] w fun e w' => e = .returned (.int .u64 36028797018963966) ∧ w = w' := by
  go_enter Tryz.func175, Tryz.ntmps175
  go_wp2
  go_ret
  exact ⟨rfl, rfl⟩
set_option maxRecDepth 100000 in
theorem log2_any (w : World) (p : Int) (h0 : -400 ≤ p) (h1 : p ≤ 400) : Calls Tryz.prog 171 #[.int .i64 p] w fun e w' => e = .returned (.int .i64 (p * 108853 / 32768)) ∧ w = w' := by
  go_enter Tryz.func171, Tryz.ntmps171
  go_wp2
  go_ret
  exact ⟨rfl, rfl⟩
def rndF (u : Int) : Int := IntKind.u64.wrap (IntKind.u64.wrap (u + 1) + bits BinOp.and .u64 (u / 4) 1) / 4
theorem rndF_u (u : Int) : U64 (rndF u) := by
  have h := U64.wrap (IntKind.u64.wrap (u + 1) + bits BinOp.and .u64 (u / 4) 1)
  unfold rndF
  unfold U64 at h ⊢
  omega
set_option maxRecDepth 100000 in
theorem round_any (w : World) (u : Int) (h : U64 u) : Calls Tryz.prog 177 #[.int .u64 u] w fun e w' => e = .returned (.int .u64 (rndF u)) ∧ w = w' := by
  have h1 := h.1
  have h2 := h.2
  go_enter Tryz.func177, Tryz.ntmps177
  go_wp2
  go_ret
  exact ⟨rfl, rfl⟩

/-- What pack64 gives: the float's bits, and whether it is too large. -/
def packF (m e : Int) : Nat × Bool :=
  if (bits BinOp.and .u64 m 4503599627370496 == 0) = true then (m.toNat, false)
  else if 972 ≤ e then ((bits BinOp.or .u64 (bits BinOp.and .u64 m 9223372036854775808) 9218868437227405312).toNat, true)
  else ((bits BinOp.or .u64 (bits BinOp.andNot .u64 m 4503599627370496) ((1075 + e) * 4503599627370496)).toNat, false)
def errV (b : Bool) : Value := if b then .iface 145 (.int .i64 1) else .nilIface

set_option maxRecDepth 100000 in
set_option maxHeartbeats 1000000 in
theorem pack_any (w : World) (m e : Int) (h : U64 m) (h0 : -1075 ≤ e) (h1 : e ≤ 2000) : Calls Tryz.prog 180 #[.int .u64 m, .int .i64 e] w fun r w' => r = .returned (.tuple #[.float .f64 (packF m e).1, errV (packF m e).2]) ∧ w = w' := by
  have hm1 := h.1
  have hm2 := h.2
  have hfb := fun n => frombits_any w n
  unfold packF
  cases q1 : (bits BinOp.and .u64 m 4503599627370496 == 0) with
  | true =>
    rw [if_pos rfl]
    go_enter Tryz.func180, Tryz.ntmps180
    go_wp2
    go_ret2
    exact ⟨rfl, rfl⟩
  | false =>
    rw [if_neg (by decide)]
    by_cases q2 : 972 ≤ e
    · rw [if_pos q2]
      go_enter Tryz.func180, Tryz.ntmps180
      go_wp2
      go_ret2
      exact ⟨rfl, rfl⟩
    · rw [if_neg q2]
      go_enter Tryz.func180, Tryz.ntmps180
      go_wp2
      go_ret2
      exact ⟨rfl, rfl⟩

theorem and63 (s : Nat) (h : s < 64) : bits BinOp.and .i64 (s : Int) 63 = (s : Int) := by
  have : ∀ k : Fin 64, bits BinOp.and .i64 ((k.val : Nat) : Int) 63 = ((k.val : Nat) : Int) := by decide +kernel
  exact this ⟨s, h⟩
theorem shr_run (w : World) (x : Int) (s : Nat) (h : s < 64) (yk : IntKind) : (Op.shift BinOp.shr .u64 x yk (s : Int)).run Tryz.prog w = .ok (.int .u64 (x / 2 ^ s)) w := by
  unfold Op.shift
  rw [if_neg (by omega)]
  have e : min (s : Int).toNat (IntKind.u64).bits = s := by simp [IntKind.bits]; omega
  simp only [e]
  rw [Int.fdiv_eq_ediv_of_nonneg x (Int.le_of_lt (Int.pow_pos (by decide)))]
  rfl
theorem shl_run (w : World) (x : Int) (s : Nat) (h : s ≤ 64) (yk : IntKind) : (Op.shift BinOp.shl .u64 x yk (s : Int)).run Tryz.prog w = .ok (.int .u64 (IntKind.u64.wrap (x * 2 ^ s))) w := by
  unfold Op.shift
  rw [if_neg (by omega)]
  have e : min (s : Int).toNat (IntKind.u64).bits = s := by simp [IntKind.bits]; omega
  simp only [e]
  rfl

/-- What uscale gives. -/
def usF (x hi lo s : Nat) : Int :=
  let H : Nat := x * hi / 18446744073709551616
  let M : Nat := x * hi % 18446744073709551616
  let M2 : Nat := x * lo / 18446744073709551616
  if (IntKind.u64.wrap ((H : Int) / 2 ^ s * 2 ^ s) != (H : Int)) = true then bits BinOp.or .u64 ((H : Int) / 2 ^ s) 1
  else bits BinOp.or .u64 (IntKind.u64.wrap ((H : Int) - (if decide (M < M2) then 1 else 0)) / 2 ^ s) (if decide (1 < IntKind.u64.wrap ((M : Int) - (M2 : Int))) then 1 else 0)

set_option maxRecDepth 100000 in
set_option maxHeartbeats 2000000 in
theorem uscale_any (w : World) (pb x hi lo s : Nat) (hb : Blk w pb 221 [.int .u64 (hi : Int), .int .u64 (lo : Int), .int .i64 (s : Int)]) (hx : x < 18446744073709551616) (hh : hi < 18446744073709551616) (hl : lo < 18446744073709551616) (hs : s < 64) : Calls Tryz.prog 173 #[.int .u64 (x : Int), pv pb] w fun r w' => r = .returned (.int .u64 (usF x hi lo s)) ∧ ∃ m, w' = w.drewN m := by
  have c0 := hb.cell 0
  have c1 := hb.cell 1
  have c2 := hb.cell 2
  simp only [List.getElem?_cons_zero, List.getElem?_cons_succ] at c0 c1 c2
  have HM := hid (Tryz.bits_Mul64 x hi hx hh w)
  have HM2 := hid (Tryz.bits_Mul64 x lo hx hl w)
  have hand := and63 s hs
  have hshr := fun y => shr_run w y s hs .i64
  have hshr2 := fun n y => shr_run (w.drewN n) y s hs .i64
  have hshl := fun y => shl_run w y s (Nat.le_of_lt hs) .i64
  have hH : x * hi / 18446744073709551616 < 18446744073709551616 := by
    apply Nat.div_lt_of_lt_mul
    exact Nat.mul_lt_mul'' hx hh
  have hMid : x * hi % 18446744073709551616 < 18446744073709551616 := Nat.mod_lt _ (by decide)
  have hH2 : x * lo / 18446744073709551616 < 18446744073709551616 := by
    apply Nat.div_lt_of_lt_mul
    exact Nat.mul_lt_mul'' hx hl
  unfold usF
  generalize x * hi / 18446744073709551616 = H at *
  generalize x * hi % 18446744073709551616 = M at *
  generalize x * lo / 18446744073709551616 = M2 at *
  generalize x * lo % 18446744073709551616 = Z at *
  clear hb
  simp only
  cases q1 : (IntKind.u64.wrap ((H : Int) / 2 ^ s * 2 ^ s) != (H : Int)) with
  | true =>
    rw [if_pos rfl]
    go_enter Tryz.func173, Tryz.ntmps173
    go_wp2_with fail
    refine HM.out.mono ?_
    rintro e w2 ⟨rfl, hw⟩
    rw [hw]
    clear hw HM HM2
    go_wp2_with fail
    go_ret
    exact ⟨rfl, 0, rfl⟩
  | false =>
    rw [if_neg (by decide)]
    have HB1 := hid (bool2u_any w (decide (M < M2)))
    have HB2 : Hid (∀ n, Calls Tryz.prog 149 #[.bool (decide (1 < IntKind.u64.wrap ((M : Int) - (M2 : Int))))] (w.drewN n) fun e w' => e = .returned (.int .u64 (if decide (1 < IntKind.u64.wrap ((M : Int) - (M2 : Int))) then 1 else 0)) ∧ w' = w.drewN n) := fun n => (bool2u_any (w.drewN n) _).mono (fun e w' h => ⟨h.1, h.2.symm⟩)
    generalize hd1 : decide (M < M2) = d1 at *
    generalize hd2 : decide (1 < IntKind.u64.wrap ((M : Int) - (M2 : Int))) = d2 at *
    generalize (if d1 = true then (1 : Int) else 0) = q at *
    generalize (if d2 = true then (1 : Int) else 0) = q2 at *
    go_enter Tryz.func173, Tryz.ntmps173
    go_wp2_with fail
    refine HM.out.mono ?_
    rintro e w2 ⟨rfl, hw⟩
    rw [hw]
    clear hw HM
    go_wp2_with fail
    refine HM2.out.mono ?_
    rintro e w2 ⟨rfl, hw⟩
    rw [hw]
    clear hw HM2
    go_wp2_with fail
    refine HB1.out.mono ?_
    rintro e w2 ⟨rfl, rfl⟩
    clear HB1
    go_wp2_with fail
    go_quiet (first | (go_at_call 149; exact Calls.quiet_of_same (HB2.out _)))
    go_wp2
    go_ret
    exact ⟨rfl, _, rfl⟩

end Go.Proofs.YtionmohglmbklaaGreatDoor.Tr
