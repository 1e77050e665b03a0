/- The contract of odd. -/
import Derived.Test.YtlepjghfcpgbcaaGreatDoorLsp
import Derived.Test.YtlepjghfcpgbcaaGreatDoorVsm
namespace Go.Proofs.YtlepjghfcpgbcaaGreatDoor.Tr
open Go.RowKit

set_option maxRecDepth 100000 in
set_option maxHeartbeats 4000000 in
theorem odd_tree : ∀ (m : Nat) (v : Vt), SizeOf.sizeOf v ≤ m → ∀ (x : Vv) (w : World), VIn w v x → Calls Tryz.prog 41 #[x.v] w fun e w' => e = .returned (.bool (oddB v)) ∧ Fr (fun _ => False) w w' := by
  intro m
  induction m with
  | zero =>
    intro v hv
    exfalso
    cases v
    simp only [Vt.mk.sizeOf_spec] at hv
    omega
  | succ m ih =>
    intro v hv x w hx
    have HB := hid (vBlk w x)
    have HF := hid (vFr w x)
    have HX := hid hx
    have HIH : Hid (∀ i (h : i < v.its.length) (y : Vv) (W : World), VIn W v.its[i] y → Calls Tryz.prog 41 #[y.v] W fun e w' => e = .returned (.bool (oddB v.its[i])) ∧ Fr (fun _ => False) W w') := fun i h y W => ih v.its[i] (by have := Vt.its_lt (List.getElem_mem h); omega) y W
    have HQ := hid (oddB_eq v)
    have hil : x.il = v.its.length := hx.parts.2.2.2.1.1
    have hlim : v.its.length ≤ 140737488351232 := hx.parts.2.2.2.1.2.2
    have hk : x.k = v.k := hx.parts.1.1
    have hf : x.f = v.f := hx.parts.1.2.2.1
    clear ih hv hx
    obtain ⟨k, n, f, t, na, nl, nc, ia, il, ic⟩ := x
    simp only at hk hf hil
    rw [← hk, ← hf] at HQ
    clear hk hf
    simp only [Vv.v] at *
    subst hil
    by_cases h7 : k = 7
    · subst h7
      go_enter Tryz.func41, Tryz.ntmps41
      go_wp2_with fail
      go_ret
      exact ⟨by rw [HQ.out]; rfl, HF.out⟩
    · have h7' : (k == 7) = false := by simpa using h7
      rw [decide_eq_false h7, Bool.false_or] at HQ
      unfold nanF at HQ
      generalize hnq : (FloatKind.f64.format.order f f != some Ordering.eq) = nq at *
      clear h7
      cases nq with
      | true =>
        go_enter Tryz.func41, Tryz.ntmps41
        go_wp2_with fail
        go_ret
        exact ⟨by rw [HQ.out]; rfl, HF.out⟩
      | false =>
        rw [Bool.false_or] at HQ
        go_enter Tryz.func41, Tryz.ntmps41
        go_wp2_with fail
        clear hnq
        go_loopw [3, 4] (fun iv _ wr => ∃ (i : Nat), i ≤ v.its.length ∧ iv = .int .i64 (i : Int) ∧ oddL (v.its.drop i) = oddL v.its ∧ Fr (fun _ => False) w wr ∧ Blk wr w.heap.size 26 (Vv.cs ⟨k, n, f, t, na, nl, nc, ia, v.its.length, ic⟩)) (fun iv _ _ => v.its.length - (intOf iv).toNat)
        case atStart => exact ⟨0, by omega, rfl, by simp, HF.out, HB.out⟩
        case round =>
          obtain ⟨i, hi, rfl, hS, hF, hB⟩ := hrel
          clear HB HF
          have HB := hid hB
          have HF := hid hF
          have HS := hid hS
          clear hB hF hS
          obtain ⟨c0, c1, c2, c3, c4, c5⟩ := HB.out.six
          by_cases hlt : i < v.its.length
          · have hlt' : (i : Int) < ((v.its.length : Nat) : Int) := by omega
            have HN : Hid (oddL v.its = (oddB v.its[i] || oddL (v.its.drop (i + 1)))) := by
              unfold Hid; rw [← HS.out, oddL_step v.its i hlt]
            obtain ⟨b, o, y, e1, e2, e3⟩ := (HX.out).item i hlt
            simp only at e1
            subst e1
            obtain ⟨k0, k1, k2, k3, k4, k5⟩ := (e2.env (Env.of HF.out)).six
            have HC := hid (HIH.out i hlt y wr (VIn.env (Env.of HF.out) _ _ e3))
            generalize oddB v.its[i] = q at *
            clear e2 e3 HS
            go_wp2_with fail
            refine HC.out.mono ?_
            rintro e w2 ⟨rfl, f2⟩
            have HB2 := hid (f2.blk HB.out (fun h => h))
            have HF2 := hid (HF.out.trans f2 (fun _ h => h.elim))
            clear f2
            cases q with
            | true =>
              go_wp2_with fail
              go_ret
              exact ⟨by rw [HQ.out, HN.out]; rfl, HF2.out⟩
            | false =>
              go_wp2_with fail
              exact ⟨⟨i + 1, by omega, by first | rfl | (congr 1), by rw [HN.out]; rfl, HF2.out, HB2.out⟩, by simp [intOf]; omega⟩
          · have hlt' : ¬ (i : Int) < ((v.its.length : Nat) : Int) := by omega
            have HE : Hid (oddL v.its = false) := by
              unfold Hid
              rw [← HS.out, List.drop_eq_nil_of_le (by omega), oddL]
            go_wp2_with fail
            go_ret
            exact ⟨by rw [HQ.out, HE.out]; rfl, HF.out⟩
theorem odd_any {w : World} {v : Vt} {x : Vv} (h : VIn w v x) : Calls Tryz.prog 41 #[x.v] w fun e w' => e = .returned (.bool (oddB v)) ∧ Fr (fun _ => False) w w' := odd_tree _ v (Nat.le_refl _) x w h
end Go.Proofs.YtlepjghfcpgbcaaGreatDoor.Tr
