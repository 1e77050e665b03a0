/- The contract of small. -/
import Derived.Test.YtlepjghfcpgbcaaGreatDoorVtr
namespace Go.Proofs.YtlepjghfcpgbcaaGreatDoor.Tr
open Go.RowKit

theorem drop_cons {α : Type} (l : List α) (i : Nat) (h : i < l.length) : l.drop i = l[i] :: l.drop (i + 1) := List.drop_eq_getElem_cons h

set_option maxRecDepth 100000 in
set_option maxHeartbeats 4000000 in
theorem small_any : ∀ (m : Nat) (v : Vt), SizeOf.sizeOf v ≤ m → ∀ (x : Vv) (w : World) (left : Int), VIn w v x → 0 ≤ left → left ≤ 100000 → Calls Tryz.prog 15 #[x.v, .int .i64 left] w fun e w' => e = .returned (.int .i64 (smF v left)) ∧ Fr (fun _ => False) w w' := by
  intro m
  induction m with
  | zero =>
    intro v hv
    exfalso
    cases v
    simp only [Vt.mk.sizeOf_spec] at hv
    omega
  | succ m ih =>
    intro v hv x w left hx h0 h1
    have HB := hid (vBlk w x)
    have HF := hid (vFr w x)
    have HX := hid hx
    have HIH : Hid (∀ i (h : i < v.its.length) (y : Vv) (W : World) (l : Int), VIn W v.its[i] y → 0 ≤ l → l ≤ 100000 → Calls Tryz.prog 15 #[y.v, .int .i64 l] W fun e w' => e = .returned (.int .i64 (smF v.its[i] l)) ∧ Fr (fun _ => False) W w') := fun i h y W l => ih v.its[i] (by have := Vt.its_lt (List.getElem_mem h); omega) y W l
    have HQ := hid (smF_eq v left)
    have hil : x.il = v.its.length := hx.parts.2.2.2.1.1
    have hlim : v.its.length ≤ 140737488351232 := hx.parts.2.2.2.1.2.2
    clear ih hv hx
    obtain ⟨k, n, f, t, na, nl, nc, ia, il, ic⟩ := x
    simp only [Vv.v] at *
    subst hil
    by_cases hl : left ≤ 0
    · obtain rfl : left = 0 := by omega
      go_enter Tryz.func15, Tryz.ntmps15
      go_wp2_with fail
      go_ret
      exact ⟨by rw [HQ.out]; rfl, HF.out⟩
    · rw [if_neg hl] at HQ
      go_enter Tryz.func15, Tryz.ntmps15
      go_wp2_with fail
      go_loopw [1, 5] (fun lv iv wr => ∃ (i : Nat) (l : Int), i ≤ v.its.length ∧ iv = .int .i64 (i : Int) ∧ lv = .int .i64 l ∧ 0 ≤ l ∧ l ≤ 100000 ∧ smL (v.its.drop i) l = smL v.its (left - 1) ∧ Fr (fun _ => False) w wr ∧ Blk wr w.heap.size 26 (Vv.cs ⟨k, n, f, t, na, nl, nc, ia, v.its.length, ic⟩)) (fun _ iv _ => v.its.length - (intOf iv).toNat)
      case atStart => exact ⟨0, left - 1, by omega, rfl, rfl, by omega, by omega, by simp, HF.out, HB.out⟩
      case round =>
        obtain ⟨i, l, hi, rfl, rfl, hl0, hl1, hS, hF, hB⟩ := hrel
        clear HB HF
        have HB := hid hB
        have HF := hid hF
        have HS := hid hS
        clear hB hF hS
        obtain ⟨c0, c1, c2, c3, c4, c5⟩ := HB.out.six
        by_cases hlt : i < v.its.length
        · have hlt' : (i : Int) < ((v.its.length : Nat) : Int) := by omega
          by_cases hp : 0 < l
          · have HN : Hid (smL (v.its.drop (i + 1)) (smF v.its[i] l) = smL v.its (left - 1)) := by
              have h := HS.out
              rw [drop_cons _ _ hlt, smL_cons _ _ _ hp] at h
              exact h
            have hle := smF_le v.its[i] l hl0
            obtain ⟨b, o, y, e1, e2, e3⟩ := (HX.out).item i hlt
            simp only at e1
            subst e1
            obtain ⟨k0, k1, k2, k3, k4, k5⟩ := (e2.env (Env.of HF.out)).six
            have HC := hid (HIH.out i hlt y wr l (VIn.env (Env.of HF.out) _ _ e3) hl0 hl1)
            generalize smF v.its[i] l = l2 at *
            clear e2 e3 HS
            go_wp2_with fail
            refine HC.out.mono ?_
            rintro e w2 ⟨rfl, f2⟩
            have HB2 := hid (f2.blk HB.out (fun h => h))
            have HF2 := hid (HF.out.trans f2 (fun _ h => h.elim))
            clear f2
            go_wp2_with fail
            exact ⟨⟨i + 1, l2, by omega, by first | rfl | (congr 1), rfl, hle.1, by omega, HN.out, HF2.out, HB2.out⟩, by simp [intOf]; omega⟩
          · obtain rfl : l = 0 := by omega
            have HE : Hid (smL v.its (left - 1) = 0) := by unfold Hid; rw [← HS.out, smL_zero]
            go_wp2_with fail
            go_ret
            exact ⟨by rw [HQ.out, HE.out]; rfl, HF.out⟩
        · have hlt' : ¬ (i : Int) < ((v.its.length : Nat) : Int) := by omega
          have HE : Hid (smL v.its (left - 1) = l) := by
            unfold Hid
            rw [← HS.out, List.drop_eq_nil_of_le (by omega), smL]
          go_wp2_with fail
          go_ret
          exact ⟨by rw [HQ.out, HE.out]; rfl, HF.out⟩
end Go.Proofs.YtlepjghfcpgbcaaGreatDoor.Tr
