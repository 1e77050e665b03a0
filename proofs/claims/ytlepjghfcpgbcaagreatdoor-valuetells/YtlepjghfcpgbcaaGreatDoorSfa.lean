/- The small functions under shortFloat, at any number; what shortFloat gives, in plain words. -/
import Derived.Test.YtlepjghfcpgbcaaGreatDoorFla
namespace Go.Proofs.YtlepjghfcpgbcaaGreatDoor.Tr
open Go.RowKit

def l10 (x : Int) : Int := x * 78913 / 262144
def l2p (p : Int) : Int := p * 108853 / 32768
def skw (e : Int) : Int := (e * 631305 - 261663) / 2097152
set_option maxRecDepth 100000 in
theorem l10_any (w : World) (x : Int) (h0 : -2000 ≤ x) (h1 : x ≤ 2000) : Calls Tryz.prog 129 #[.int .i64 x] w fun e w' => e = .returned (.int .i64 (l10 x)) ∧ w = w' := by
  go_enter Tryz.func129, Tryz.ntmps129
  go_wp2
  go_ret
  exact ⟨rfl, rfl⟩
set_option maxRecDepth 100000 in
theorem skw_any (w : World) (x : Int) (h0 : -2000 ≤ x) (h1 : x ≤ 2000) : Calls Tryz.prog 169 #[.int .i64 x] w fun e w' => e = .returned (.int .i64 (skw x)) ∧ w = w' := by
  go_enter Tryz.func169, Tryz.ntmps169
  go_wp2
  go_ret
  exact ⟨rfl, rfl⟩
def nudF (u d : Int) : Int := IntKind.u64.wrap (u + IntKind.u64.wrap d)
def ceilF (u : Int) : Int := IntKind.u64.wrap (u + 3) / 4
def floorF (u : Int) : Int := u / 4
def rndF (u : Int) : Int := IntKind.u64.wrap (IntKind.u64.wrap (u + 1) + bits .and .u64 (u / 4) 1) / 4
set_option maxRecDepth 100000 in
theorem nudge_any (w : World) (u d : Int) : Calls Tryz.prog 173 #[.int .u64 u, .int .i64 d] w fun e w' => e = .returned (.int .u64 (nudF u d)) ∧ w = w' := by
  go_enter Tryz.func173, Tryz.ntmps173
  go_wp2
  go_ret
  exact ⟨rfl, rfl⟩
set_option maxRecDepth 100000 in
theorem ceil_any (w : World) (u : Int) : Calls Tryz.prog 174 #[.int .u64 u] w fun e w' => e = .returned (.int .u64 (ceilF u)) ∧ w = w' := by
  go_enter Tryz.func174, Tryz.ntmps174
  go_wp2
  go_ret
  exact ⟨rfl, rfl⟩
set_option maxRecDepth 100000 in
theorem floor_any (w : World) (u : Int) (h : U64 u) : Calls Tryz.prog 175 #[.int .u64 u] w fun e w' => e = .returned (.int .u64 (floorF u)) ∧ w = w' := by
  have h0 := h.1
  have h1 := h.2
  have hw : IntKind.u64.wrap u = u := by rw [IntKind.wrap_u64]; omega
  go_enter Tryz.func175, Tryz.ntmps175
  go_wp2
  go_ret
  exact ⟨rfl, rfl⟩
set_option maxRecDepth 100000 in
theorem round_any (w : World) (u : Int) : Calls Tryz.prog 176 #[.int .u64 u] w fun e w' => e = .returned (.int .u64 (rndF u)) ∧ w = w' := by
  go_enter Tryz.func176, Tryz.ntmps176
  go_wp2
  go_ret
  exact ⟨rfl, rfl⟩
theorem nudF_u (u d : Int) : U64 (nudF u d) := U64.wrap _
theorem ceilF_u (u : Int) : U64 (ceilF u) := by have h := U64.wrap (u + 3); unfold ceilF U64 at *; omega
theorem floorF_u (u : Int) (h : U64 u) : U64 (floorF u) := by unfold floorF U64 at *; omega
theorem rndF_u (u : Int) : U64 (rndF u) := by have h := U64.wrap (IntKind.u64.wrap (u + 1) + bits .and .u64 (u / 4) 1); unfold rndF U64 at *; omega

/-! ### What shortFloat gives -/
def sfSk (m : Nat) (E : Int) : Bool := m == 9223372036854775808 && decide (-1085 < E)
def sfZ (E : Int) : Nat := if -1085 ≤ E then 11 else (-1074 - E).toNat
def sfP (m : Nat) (E : Int) : Int := if sfSk m E then -skw (E + 11) else -l10 (E + (sfZ E : Int))
def sfMin (m : Nat) (E : Int) : Nat := m - 2 ^ (sfZ E - (if sfSk m E then 2 else 1))
def sfMax (m : Nat) (E : Int) : Nat := m + 2 ^ (sfZ E - 1)
def sfOdd (m : Nat) (E : Int) : Int := bits .and .i64 ((m : Int) / 2 ^ sfZ E) 1
def sfU (T : Nat → Nat × Nat) (m : Nat) (E : Int) (x : Nat) : Int := usF x (T (sfP m E + 348).toNat).1 (T (sfP m E + 348).toNat).2 (-(E + l2p (sfP m E) + 3)).toNat
def sfDmin (T : Nat → Nat × Nat) (m : Nat) (E : Int) : Int := ceilF (nudF (sfU T m E (sfMin m E)) (sfOdd m E))
def sfDmax (T : Nat → Nat × Nat) (m : Nat) (E : Int) : Int := floorF (nudF (sfU T m E (sfMax m E)) (-sfOdd m E))
/-- What follows the scaling. -/
def sfT (dmin dmax dm p : Int) : Int × Int :=
  if dmin ≤ dmax / 10 * 10 then (dmax / 10, -(p - 1)) else if dmin < dmax then (dm, -p) else (dmin, -p)
def shF (T : Nat → Nat × Nat) (m : Nat) (E : Int) : Int × Int := sfT (sfDmin T m E) (sfDmax T m E) (rndF (sfU T m E m)) (sfP m E)

theorem pA (E : Int) (h0 : -1085 < E) (h1 : E ≤ 960) : -348 ≤ -skw (E + 11) ∧ -skw (E + 11) < 348 ∧ 0 ≤ -(E + l2p (-skw (E + 11)) + 3) ∧ -(E + l2p (-skw (E + 11)) + 3) < 64 := by
  unfold skw l2p; omega
theorem pB (E : Int) (h0 : -1085 ≤ E) (h1 : E ≤ 960) : -348 ≤ -l10 (E + 11) ∧ -l10 (E + 11) < 348 ∧ 0 ≤ -(E + l2p (-l10 (E + 11)) + 3) ∧ -(E + l2p (-l10 (E + 11)) + 3) < 64 := by
  unfold l10 l2p; omega
theorem p_ok (m : Nat) (E : Int) (h0 : -1137 ≤ E) (h1 : E ≤ 960) : -348 ≤ sfP m E ∧ sfP m E < 348 ∧ 0 ≤ -(E + l2p (sfP m E) + 3) ∧ -(E + l2p (sfP m E) + 3) < 64 := by
  unfold sfP
  split
  · rename_i h
    simp only [sfSk, Bool.and_eq_true, decide_eq_true_eq] at h
    exact pA E h.2 h1
  · unfold sfZ
    split
    · rename_i _ h
      exact pB E h h1
    · have e : E + (((-1074 - E).toNat : Nat) : Int) = -1074 := by omega
      rw [e, show -l10 (-1074) = 324 by decide, show l2p 324 = 1076 by decide]
      omega
theorem sfT_u (dmin dmax dm p : Int) (h1 : U64 dmin) (h2 : U64 dmax) (h3 : U64 dm) : U64 (sfT dmin dmax dm p).1 := by
  unfold sfT
  split
  · unfold U64 at *; simp only; omega
  · split
    · exact h3
    · exact h1
theorem shF_u (T : Nat → Nat × Nat) (m : Nat) (E : Int) : U64 (shF T m E).1 := sfT_u _ _ _ _ (ceilF_u _) (floorF_u _ (nudF_u _ _)) (rndF_u _)
theorem shF_p (T : Nat → Nat × Nat) (m : Nat) (E : Int) (h0 : -1137 ≤ E) (h1 : E ≤ 960) : -349 ≤ (shF T m E).2 ∧ (shF T m E).2 ≤ 349 := by
  have h := p_ok m E h0 h1
  unfold shF sfT
  split
  · simp only; omega
  · split <;> (simp only; omega)
end Go.Proofs.YtlepjghfcpgbcaaGreatDoor.Tr
