/- The document's right at kind 7: written by gen/gendrt.py. -/
import Derived.Test.YtlepjghfcpgbcaaGreatDoorDrt
namespace Go.Proofs.YtlepjghfcpgbcaaGreatDoor.Tr
open Go.RowKit

set_option maxRecDepth 100000 in
set_option maxHeartbeats 8000000 in
set_option linter.unusedSimpArgs false in
theorem right_k7 (n : Int) (f : Nat) (t : List UInt8) (ns : List (List UInt8)) (its : List Vt) (hIH : ∀ u ∈ its, RgOf u) : RgOf (.mk 7 n f t ns its) := by
  intro x w hx
  have HIH := hid hIH
  have HN := hid hx.parts.2.2.1.2.2.2
  have HL := hid hx.parts.2.1.2.2.2
  have HI := hid hx.parts.2.2.2.2
  obtain ⟨⟨p1, p2, p3, p4⟩, _, ⟨p5, _, hnl, _⟩, ⟨p6, _, hil⟩, _⟩ := hx.parts
  have htl2 : t.length ≤ 140737488351232 := hx.parts.2.1.2.2.1
  have hnl2 : x.nl ≤ 140737488351232 := by rw [p5]; exact hnl
  have hil2 : x.il ≤ 140737488351232 := by rw [p6]; exact hil
  clear hnl hil hx hIH
  obtain ⟨k, n', f', t', na, nl, nc, ia, il, ic⟩ := x
  simp only [Vt.k, Vt.n, Vt.f, Vt.t, Vt.ns, Vt.its] at *
  replace p2 := p2.symm
  replace p3 := p3.symm
  replace p4 := p4.symm
  subst p1 p2 p3 p4
  by_cases c_n : n = 0
  · subst c_n
    by_cases c_f : f = 0
    · subst c_f
      by_cases c_t : t = []
      · subst c_t
        by_cases c_ns : ns.length = 0
        · have c_nl : nl = 0 := by omega
          subst c_nl
          by_cases c_its : its.length = 0
          · have c_il : il = 0 := by omega
            subst c_il
            have HR : Hid (rgB (.mk 7 0 0 [] ns its) = (rnB ns && rgL its)) := by unfold Hid; rw [rgB]; simp [rgS, rightS, bareB, c_ns, c_its]
            have HNL : Hid (ns.length = 0) := by unfold Hid; omega
            have HIL : Hid (its.length = 0) := by unfold Hid; omega
            clear c_ns c_its
            clear p5 p6
            have HB := hid (vBlk w ⟨7, 0, 0, [], na, 0, nc, ia, 0, ic⟩)
            have HF := hid (vFr w ⟨7, 0, 0, [], na, 0, nc, ia, 0, ic⟩)
            have hfb := fun W => fbits_any W 0
            simp only [Vv.v] at *
            go_enter Tryz.func49, Tryz.ntmps49
            go_wp2_with fail
            go_loopw [3] (fun iv wr => ∃ i : Nat, i ≤ 0 ∧ iv = .int .i64 (i : Int) ∧ (∀ j, j < i → rnAt ns j = true) ∧ Fr (fun _ => False) w wr ∧ Blk wr w.heap.size 26 (Vv.cs ⟨7, 0, 0, [], na, 0, nc, ia, 0, ic⟩)) (fun iv _ => 0 - (intOf iv).toNat)
            case atStart => exact ⟨0, Nat.zero_le _, rfl, fun j hj => absurd hj (by omega), HF.out, HB.out⟩
            case round =>
              obtain ⟨i, hi, rfl, hA, hF, hB⟩ := hrel
              clear HB HF
              have HA := hid hA
              have HB := hid hB
              have HF := hid hF
              clear hA hB hF
              obtain ⟨c0, c1, c2, c3, c4, c5⟩ := HB.out.six
              by_cases hlt : i < 0
              · exfalso; omega
              · have hlt' : ¬ (i : Int) < ((0 : Nat) : Int) := by omega
                have HRn : Hid (rnB ns = true) := rnB_true (fun j hj => HA.out j (by have := HNL.out; omega))
                clear HA HN HL
                go_wp2_with fail
                rename World => wq
                clear c0 c1 c2 c3 c4 c5 hlt hlt' hi
                go_loopw [4, 5] (fun iv _ wr => ∃ i : Nat, i ≤ 0 ∧ iv = .int .i64 (i : Int) ∧ rgL (its.drop i) = rgL its ∧ Fr (fun _ => False) w wr ∧ Blk wr w.heap.size 26 (Vv.cs ⟨7, 0, 0, [], na, 0, nc, ia, 0, ic⟩)) (fun iv _ _ => 0 - (intOf iv).toNat)
                case atStart => exact ⟨0, Nat.zero_le _, rfl, by simp, HF.out, HB.out⟩
                case round =>
                  obtain ⟨i, hi, rfl, hS, hF, hB⟩ := hrel
                  clear HB HF
                  have HS := hid hS
                  have HB := hid hB
                  have HF := hid hF
                  clear hS hB hF
                  obtain ⟨c0, c1, c2, c3, c4, c5⟩ := HB.out.six
                  by_cases hlt : i < 0
                  · exfalso; omega
                  · have hlt' : ¬ (i : Int) < ((0 : Nat) : Int) := by omega
                    have HE : Hid (rgL its = true) := by
                      unfold Hid
                      rw [← HS.out, List.drop_eq_nil_of_le (by have := HIL.out; omega), rgL]
                    go_wp2_with fail
                    go_ret
                    exact ⟨by rw [HR.out, HE.out, HRn.out]; rfl, HF.out⟩
          · have HR : Hid (rgB (.mk 7 0 0 [] ns its) = false) := by unfold Hid; rw [rgB]; simp [rgS, rightS, bareB, c_ns, c_its]
            have g0 : (((il : Nat) : Int) != 0) = true := by simp; omega
            clear p5 p6 HN HL HI HIH c_ns c_its
            have HB := hid (vBlk w ⟨7, 0, 0, [], na, 0, nc, ia, il, ic⟩)
            have HF := hid (vFr w ⟨7, 0, 0, [], na, 0, nc, ia, il, ic⟩)
            have hfb := fun W => fbits_any W 0
            simp only [Vv.v] at *
            go_enter Tryz.func49, Tryz.ntmps49
            go_wp2_with fail
            go_ret
            exact ⟨by rw [HR.out]; rfl, HF.out⟩
        · have HR : Hid (rgB (.mk 7 0 0 [] ns its) = false) := by unfold Hid; rw [rgB]; simp [rgS, rightS, bareB, c_ns]
          have g0 : (((nl : Nat) : Int) != 0) = true := by simp; omega
          clear p5 p6 HN HL HI HIH c_ns
          have HB := hid (vBlk w ⟨7, 0, 0, [], na, nl, nc, ia, il, ic⟩)
          have HF := hid (vFr w ⟨7, 0, 0, [], na, nl, nc, ia, il, ic⟩)
          have hfb := fun W => fbits_any W 0
          simp only [Vv.v] at *
          go_enter Tryz.func49, Tryz.ntmps49
          go_wp2_with fail
          go_ret
          exact ⟨by rw [HR.out]; rfl, HF.out⟩
      · have HR : Hid (rgB (.mk 7 0 0 t ns its) = false) := by unfold Hid; rw [rgB]; simp [rgS, rightS, bareB, c_t]
        have g0 : (t == []) = false := by simp; exact c_t
        clear p5 p6 HN HL HI HIH c_t
        have HB := hid (vBlk w ⟨7, 0, 0, t, na, nl, nc, ia, il, ic⟩)
        have HF := hid (vFr w ⟨7, 0, 0, t, na, nl, nc, ia, il, ic⟩)
        have hfb := fun W => fbits_any W 0
        simp only [Vv.v] at *
        go_enter Tryz.func49, Tryz.ntmps49
        go_wp2_with fail
        go_ret
        exact ⟨by rw [HR.out]; rfl, HF.out⟩
    · have HR : Hid (rgB (.mk 7 0 f t ns its) = false) := by unfold Hid; rw [rgB]; simp [rgS, rightS, bareB, c_f]
      have g0 : (((f : Nat) : Int) != 0) = true := by simp [c_f]
      clear p5 p6 HN HL HI HIH c_f
      have HB := hid (vBlk w ⟨7, 0, f, t, na, nl, nc, ia, il, ic⟩)
      have HF := hid (vFr w ⟨7, 0, f, t, na, nl, nc, ia, il, ic⟩)
      have hfb := fun W => fbits_any W f
      simp only [Vv.v] at *
      go_enter Tryz.func49, Tryz.ntmps49
      go_wp2_with fail
      go_ret
      exact ⟨by rw [HR.out]; rfl, HF.out⟩
  · have HR : Hid (rgB (.mk 7 n f t ns its) = false) := by unfold Hid; rw [rgB]; simp [rgS, rightS, bareB, c_n]
    have g0 : (n != 0) = true := by simp [c_n]
    clear p5 p6 HN HL HI HIH c_n
    have HB := hid (vBlk w ⟨7, n, f, t, na, nl, nc, ia, il, ic⟩)
    have HF := hid (vFr w ⟨7, n, f, t, na, nl, nc, ia, il, ic⟩)
    have hfb := fun W => fbits_any W f
    simp only [Vv.v] at *
    go_enter Tryz.func49, Tryz.ntmps49
    go_wp2_with fail
    go_ret
    exact ⟨by rw [HR.out]; rfl, HF.out⟩
end Go.Proofs.YtlepjghfcpgbcaaGreatDoor.Tr
