/- shortFloat at any float: the walk. -/
import Derived.Test.YtlepjghfcpgbcaaGreatDoorSfa
import Derived.Deep.DeepCutAuto
namespace Go.Proofs.YtlepjghfcpgbcaaGreatDoor.Tr
open Go.RowKit

theorem and1 (n : Int) : bits BinOp.and .i64 n 1 = 0 ∨ bits BinOp.and .i64 n 1 = 1 := by
  have hx : (BitVec.ofInt 64 n).toNat &&& 1 < 2 ^ 1 := Nat.and_lt_two_pow _ (by decide)
  have e : bits BinOp.and .i64 n 1 = (((BitVec.ofInt 64 n).toNat &&& 1 : Nat) : Int) := by
    show IntKind.i64.wrap ((BitVec.ofInt 64 n &&& BitVec.ofInt 64 1).toNat : Int) = _
    have h2 : (BitVec.ofInt 64 1).toNat = 1 := by decide
    rw [BitVec.toNat_and, h2, IntKind.wrap_i64]
    omega
  omega
theorem sfOdd_ok (m : Nat) (E : Int) : sfOdd m E = 0 ∨ sfOdd m E = 1 := and1 _

theorem sfT_1 (a b c p : Int) (h : a ≤ b / 10 * 10) : sfT a b c p = (b / 10, -(p - 1)) := if_pos h
theorem sfT_2 (a b c p : Int) (h : ¬ a ≤ b / 10 * 10) (h2 : a < b) : sfT a b c p = (c, -p) := by unfold sfT; rw [if_neg h, if_pos h2]
theorem sfT_3 (a b c p : Int) (h : ¬ a ≤ b / 10 * 10) (h2 : ¬ a < b) : sfT a b c p = (a, -p) := by unfold sfT; rw [if_neg h, if_neg h2]

set_option maxRecDepth 100000 in
set_option maxHeartbeats 4000000 in
theorem short_any {w : World} {T : Nat → Nat × Nat} (hT : Pw w T) (m : Nat) (E : Int) (hm : 9223372036854775808 ≤ m) (hz : m + 2 ^ sfZ E ≤ 18446744073709551616) (h0 : -1137 ≤ E) (h1 : E ≤ 960) :
    Calls Tryz.prog 146 #[.int .u64 (m : Int), .int .i64 E] w fun r w' => r = .returned (.tuple #[.int .u64 (shF T m E).1, .int .i64 (shF T m E).2]) ∧ Fr (fun _ => False) w w' := by
  have hlt : m < 18446744073709551616 := by have : 0 < 2 ^ sfZ E := Nat.two_pow_pos _; omega
  have hp := p_ok m E h0 h1
  obtain ⟨Q, hQ⟩ : ∃ Q, Q = sfP m E := ⟨_, rfl⟩
  rw [← hQ] at hp
  obtain ⟨p0, p1, p2, p3⟩ := hp
  obtain ⟨s, hs⟩ : ∃ s : Nat, -(E + l2p Q + 3) = (s : Int) := ⟨(-(E + l2p Q + 3)).toNat, by omega⟩
  have hs64 : s < 64 := by omega
  obtain ⟨i, hi⟩ : ∃ i : Nat, Q = (i : Int) - 348 := ⟨(Q + 348).toNat, by omega⟩
  have hi6 : i < 696 := by omega
  obtain ⟨-, -, hA, hB⟩ := hT i hi6
  have HLg := hid (fun W => log2_any W Q (by omega) (by omega))
  have eL : Q * 108853 / 32768 = l2p Q := rfl
  rw [eL] at HLg
  have HNew := hid (Blk.new w 189 [.int .u64 0, .int .u64 0, .int .i64 0])
  have HFr := hid ((Fr.refl (fun _ => False) w).alloc (.cells #[.int .u64 0, .int .u64 0, .int .i64 0] 189))
  have HPw := hid (hT.env ((Env.refl w).fr HFr.out (fun _ h => h.elim)))
  have HPs := hid (prescale_any HPw.out w.heap.size i _ _ _ HNew.out E Q (l2p Q) hi hi6 (by omega) (by omega))
  rw [hs] at HPs
  have eU : ∀ x, usF x (T i).1 (T i).2 s = sfU T m E x := fun x => by
    have e1 : (sfP m E + 348).toNat = i := by rw [← hQ]; omega
    have e2 : (-(E + l2p (sfP m E) + 3)).toNat = s := by rw [← hQ]; omega
    unfold sfU
    rw [e1, e2]
  have hUN := hid (eU (sfMin m E))
  have hUX := hid (eU (sfMax m E))
  have hUM := hid (eU m)
  obtain ⟨O, hO⟩ : ∃ O, O = sfOdd m E := ⟨_, rfl⟩
  have hO1 := sfOdd_ok m E
  rw [← hO] at hO1
  have hDN : Hid (ceilF (nudF (sfU T m E (sfMin m E)) O) = sfDmin T m E) := by rw [hO]; exact hid rfl
  have hDX : Hid (floorF (nudF (sfU T m E (sfMax m E)) (-O)) = sfDmax T m E) := by rw [hO]; exact hid rfl
  obtain ⟨RM0, hRM0⟩ : ∃ R, R = rndF (sfU T m E m) := ⟨_, rfl⟩
  have hRM : Hid (rndF (sfU T m E m) = RM0) := hid hRM0.symm
  have hDNu : U64 (sfDmin T m E) := ceilF_u _
  have hDXu : U64 (sfDmax T m E) := floorF_u _ (nudF_u _ _)
  have hS : shF T m E = sfT (sfDmin T m E) (sfDmax T m E) RM0 Q := by rw [hQ, hRM0]; rfl
  rw [hS]
  clear hRM0
  obtain ⟨dn0, dn1⟩ := hDNu
  obtain ⟨dx0, dx1⟩ := hDXu
  have hZ : 2 ^ (sfZ E - 1) < 2 ^ sfZ E ∧ 2 ^ (sfZ E - 1) ≤ 4611686018427387904 := by
    have hz1 : 11 ≤ sfZ E := by unfold sfZ; split <;> omega
    have hz2 : sfZ E ≤ 63 := by unfold sfZ; split <;> omega
    exact ⟨Nat.pow_lt_pow_right (by decide) (by omega), by
      have : 2 ^ (sfZ E - 1) ≤ 2 ^ 62 := Nat.pow_le_pow_right (by decide) (by omega)
      omega⟩
  have hMN : sfMin m E < 18446744073709551616 := Nat.lt_of_le_of_lt (Nat.sub_le _ _) hlt
  have hMX : sfMax m E < 18446744073709551616 := by unfold sfMax; omega
  have hXi : (m : Int) + 2 ^ (sfZ E - 1) = (sfMax m E : Int) := by unfold sfMax; push_cast; rfl
  generalize sfDmin T m E = DN at *
  generalize sfDmax T m E = DX at *
  generalize RM0 = RM at *
  generalize sfU T m E (sfMin m E) = UN at *
  generalize sfU T m E (sfMax m E) = UX at *
  generalize hUMg : sfU T m E m = UM at *
  generalize (T i).1 = A at *
  generalize (T i).2 = B at *
  generalize hMXg : sfMax m E = MX at *
  generalize hMNg : sfMin m E = MN at *
  generalize hLg : l2p Q = L at *
  have hO2 : bits BinOp.and .i64 ((m : Int) / 2 ^ sfZ E) 1 = O := by rw [hO]; rfl
  have hMN2 : m - 2 ^ (sfZ E - (if sfSk m E then 2 else 1)) = MN := hMNg
  clear hUMg hLg eL eU hT HNew hS hi hs hO hMNg hMXg
  generalize hn : w.heap.size = n at *
  by_cases hE : -1085 ≤ E
  · have eZ : sfZ E = 11 := by unfold sfZ; rw [if_pos hE]
    rw [eZ] at hXi hO2 hMN2
    have hxi : (m : Int) + 1024 = (MX : Int) := hXi
    have hoi : bits BinOp.and .i64 ((m : Int) / 2048) 1 = O := hO2
    have hge : decide (E ≥ -1085) = true := decide_eq_true hE
    by_cases hsk : sfSk m E = true
    · have hs2 := hsk
      simp only [sfSk, Bool.and_eq_true, decide_eq_true_eq, beq_iff_eq] at hs2
      obtain ⟨hm3, hE3⟩ := hs2
      have eP : skw (E + 11) = -Q := by rw [hQ]; unfold sfP; rw [if_pos hsk]; omega
      have HK := hid (skw_any w (E + 11) (by omega) (by omega))
      rw [eP] at HK
      rw [if_pos hsk] at hMN2
      have hni : (m : Int) - 512 = (MN : Int) := by
        have : MN = m - 512 := hMN2.symm
        omega
      have hw1 : IntKind.i64.wrap ((m : Int) / 2048) = (m : Int) / 2048 := by rw [IntKind.wrap_i64]; omega
      have hqm : ((m : Int) == 9223372036854775808) = true := by rw [hm3]; rfl
      have hgt : decide (E > -1085) = true := decide_eq_true hE3
      clear eP eZ hsk hQ hZ hO2 hXi hz hMN2 hm3
      go_enter Tryz.func146, Tryz.ntmps146
      go_wp2_with fail
      refine (HK.out).mono ?_
      rintro e w2 ⟨rfl, rfl⟩
      go_wp2_with fail
      refine (HLg.out _).mono ?_
      rintro e w2 ⟨rfl, rfl⟩
      go_wp2_with fail
      refine HPs.out.mono ?_
      rintro e w3 ⟨rfl, b3, f3⟩
      have HF3 := hid (HFr.out.trans f3 (fun i hi => .inr (by omega)))
      have HUs := hid (fun k x hx => uscale_any (w3.drewN k) n x A B s (show Blk (w3.drewN k) n _ _ from b3) hx hA hB hs64)
      clear b3 f3 HPs HFr HPw HLg
      go_wp2_with fail
      refine (HUs.out 0 MN hMN).mono ?_
      rintro e w4 ⟨rfl, m4, rfl⟩
      rw [hUN.out]
      go_wp2_with fail
      refine (nudge_any _ _ _).mono ?_
      rintro e w5 ⟨rfl, rfl⟩
      go_wp2_with fail
      refine (ceil_any _ _).mono ?_
      rintro e w5 ⟨rfl, rfl⟩
      rw [hDN.out]
      go_wp2_with fail
      refine (HUs.out _ MX hMX).mono ?_
      rintro e w6 ⟨rfl, m6, rfl⟩
      rw [hUX.out]
      have HF6 := hid (HF3.out.drewN (m4 + m6))
      go_wp2_with fail
      refine (nudge_any _ _ _).mono ?_
      rintro e w5 ⟨rfl, rfl⟩
      go_wp2_with fail
      refine (floor_any _ _ (nudF_u _ _)).mono ?_
      rintro e w5 ⟨rfl, rfl⟩
      rw [hDX.out]
      by_cases c1 : DN ≤ DX / 10 * 10
      · have HE := hid (sfT_1 DN DX RM Q c1)
        go_wp2_with fail
        go_ret2
        exact ⟨by rw [HE.out]; rfl, HF6.out⟩
      · have c1d : decide (DN ≤ DX / 10 * 10) = false := decide_eq_false c1
        by_cases c2 : DN < DX
        · have HE := hid (sfT_2 DN DX RM Q c1 c2)
          go_wp2_with fail
          refine (HUs.out _ m hlt).mono ?_
          rintro e w7 ⟨rfl, m7, rfl⟩
          rw [hUM.out]
          have HF7 := hid (HF3.out.drewN (m4 + m6 + m7))
          go_wp2_with fail
          refine (round_any _ _).mono ?_
          rintro e w5 ⟨rfl, rfl⟩
          rw [hRM.out]
          go_wp2_with fail
          go_ret2
          exact ⟨by rw [HE.out]; rfl, HF7.out⟩
        · have HE := hid (sfT_3 DN DX RM Q c1 c2)
          have c2d : decide (DN < DX) = false := decide_eq_false c2
          go_wp2_with fail
          go_ret2
          exact ⟨by rw [HE.out]; rfl, HF6.out⟩
    · have eP : l10 (E + 11) = -Q := by rw [hQ]; unfold sfP; rw [if_neg hsk, eZ]; show l10 (E + 11) = -(-l10 (E + 11)); omega
      have HK := hid (l10_any w (E + 11) (by omega) (by omega))
      rw [eP] at HK
      rw [if_neg hsk] at hMN2
      have hni : (m : Int) - 1024 = (MN : Int) := by
        have : MN = m - 1024 := hMN2.symm
        omega
      have hw1 : IntKind.i64.wrap ((m : Int) / 2048) = (m : Int) / 2048 := by rw [IntKind.wrap_i64]; omega
      have hsk2 : (((m : Int) == 9223372036854775808) = false) ∨ decide (E > -1085) = false := by
        rcases Nat.lt_or_ge 9223372036854775808 m with hh | hh
        · left; rw [beq_eq_false_iff_ne]; omega
        · right
          apply decide_eq_false
          intro h
          apply hsk
          simp only [sfSk, Bool.and_eq_true, decide_eq_true_eq, beq_iff_eq]
          omega
      clear eP eZ hsk hQ hZ hO2 hXi hz hMN2
      rcases hsk2 with hsk2 | hsk2
      · go_enter Tryz.func146, Tryz.ntmps146
        go_wp2_with fail
        refine (HK.out).mono ?_
        rintro e w2 ⟨rfl, rfl⟩
        go_wp2_with fail
        refine (HLg.out _).mono ?_
        rintro e w2 ⟨rfl, rfl⟩
        go_wp2_with fail
        refine HPs.out.mono ?_
        rintro e w3 ⟨rfl, b3, f3⟩
        have HF3 := hid (HFr.out.trans f3 (fun i hi => .inr (by omega)))
        have HUs := hid (fun k x hx => uscale_any (w3.drewN k) n x A B s (show Blk (w3.drewN k) n _ _ from b3) hx hA hB hs64)
        clear b3 f3 HPs HFr HPw HLg
        go_wp2_with fail
        refine (HUs.out 0 MN hMN).mono ?_
        rintro e w4 ⟨rfl, m4, rfl⟩
        rw [hUN.out]
        go_wp2_with fail
        refine (nudge_any _ _ _).mono ?_
        rintro e w5 ⟨rfl, rfl⟩
        go_wp2_with fail
        refine (ceil_any _ _).mono ?_
        rintro e w5 ⟨rfl, rfl⟩
        rw [hDN.out]
        go_wp2_with fail
        refine (HUs.out _ MX hMX).mono ?_
        rintro e w6 ⟨rfl, m6, rfl⟩
        rw [hUX.out]
        have HF6 := hid (HF3.out.drewN (m4 + m6))
        go_wp2_with fail
        refine (nudge_any _ _ _).mono ?_
        rintro e w5 ⟨rfl, rfl⟩
        go_wp2_with fail
        refine (floor_any _ _ (nudF_u _ _)).mono ?_
        rintro e w5 ⟨rfl, rfl⟩
        rw [hDX.out]
        by_cases c1 : DN ≤ DX / 10 * 10
        · have HE := hid (sfT_1 DN DX RM Q c1)
          go_wp2_with fail
          go_ret2
          exact ⟨by rw [HE.out]; rfl, HF6.out⟩
        · have c1d : decide (DN ≤ DX / 10 * 10) = false := decide_eq_false c1
          by_cases c2 : DN < DX
          · have HE := hid (sfT_2 DN DX RM Q c1 c2)
            go_wp2_with fail
            refine (HUs.out _ m hlt).mono ?_
            rintro e w7 ⟨rfl, m7, rfl⟩
            rw [hUM.out]
            have HF7 := hid (HF3.out.drewN (m4 + m6 + m7))
            go_wp2_with fail
            refine (round_any _ _).mono ?_
            rintro e w5 ⟨rfl, rfl⟩
            rw [hRM.out]
            go_wp2_with fail
            go_ret2
            exact ⟨by rw [HE.out]; rfl, HF7.out⟩
          · have HE := hid (sfT_3 DN DX RM Q c1 c2)
            have c2d : decide (DN < DX) = false := decide_eq_false c2
            go_wp2_with fail
            go_ret2
            exact ⟨by rw [HE.out]; rfl, HF6.out⟩
      · have hsk3 : ¬ E > -1085 := by simpa using hsk2
        cases hqm : ((m : Int) == 9223372036854775808) with
        | false =>
          go_enter Tryz.func146, Tryz.ntmps146
          go_wp2_with fail
          refine (HK.out).mono ?_
          rintro e w2 ⟨rfl, rfl⟩
          go_wp2_with fail
          refine (HLg.out _).mono ?_
          rintro e w2 ⟨rfl, rfl⟩
          go_wp2_with fail
          refine HPs.out.mono ?_
          rintro e w3 ⟨rfl, b3, f3⟩
          have HF3 := hid (HFr.out.trans f3 (fun i hi => .inr (by omega)))
          have HUs := hid (fun k x hx => uscale_any (w3.drewN k) n x A B s (show Blk (w3.drewN k) n _ _ from b3) hx hA hB hs64)
          clear b3 f3 HPs HFr HPw HLg
          go_wp2_with fail
          refine (HUs.out 0 MN hMN).mono ?_
          rintro e w4 ⟨rfl, m4, rfl⟩
          rw [hUN.out]
          go_wp2_with fail
          refine (nudge_any _ _ _).mono ?_
          rintro e w5 ⟨rfl, rfl⟩
          go_wp2_with fail
          refine (ceil_any _ _).mono ?_
          rintro e w5 ⟨rfl, rfl⟩
          rw [hDN.out]
          go_wp2_with fail
          refine (HUs.out _ MX hMX).mono ?_
          rintro e w6 ⟨rfl, m6, rfl⟩
          rw [hUX.out]
          have HF6 := hid (HF3.out.drewN (m4 + m6))
          go_wp2_with fail
          refine (nudge_any _ _ _).mono ?_
          rintro e w5 ⟨rfl, rfl⟩
          go_wp2_with fail
          refine (floor_any _ _ (nudF_u _ _)).mono ?_
          rintro e w5 ⟨rfl, rfl⟩
          rw [hDX.out]
          by_cases c1 : DN ≤ DX / 10 * 10
          · have HE := hid (sfT_1 DN DX RM Q c1)
            go_wp2_with fail
            go_ret2
            exact ⟨by rw [HE.out]; rfl, HF6.out⟩
          · have c1d : decide (DN ≤ DX / 10 * 10) = false := decide_eq_false c1
            by_cases c2 : DN < DX
            · have HE := hid (sfT_2 DN DX RM Q c1 c2)
              go_wp2_with fail
              refine (HUs.out _ m hlt).mono ?_
              rintro e w7 ⟨rfl, m7, rfl⟩
              rw [hUM.out]
              have HF7 := hid (HF3.out.drewN (m4 + m6 + m7))
              go_wp2_with fail
              refine (round_any _ _).mono ?_
              rintro e w5 ⟨rfl, rfl⟩
              rw [hRM.out]
              go_wp2_with fail
              go_ret2
              exact ⟨by rw [HE.out]; rfl, HF7.out⟩
            · have HE := hid (sfT_3 DN DX RM Q c1 c2)
              have c2d : decide (DN < DX) = false := decide_eq_false c2
              go_wp2_with fail
              go_ret2
              exact ⟨by rw [HE.out]; rfl, HF6.out⟩
        | true =>
          go_enter Tryz.func146, Tryz.ntmps146
          go_wp2_with fail
          refine (HK.out).mono ?_
          rintro e w2 ⟨rfl, rfl⟩
          go_wp2_with fail
          refine (HLg.out _).mono ?_
          rintro e w2 ⟨rfl, rfl⟩
          go_wp2_with fail
          refine HPs.out.mono ?_
          rintro e w3 ⟨rfl, b3, f3⟩
          have HF3 := hid (HFr.out.trans f3 (fun i hi => .inr (by omega)))
          have HUs := hid (fun k x hx => uscale_any (w3.drewN k) n x A B s (show Blk (w3.drewN k) n _ _ from b3) hx hA hB hs64)
          clear b3 f3 HPs HFr HPw HLg
          go_wp2_with fail
          refine (HUs.out 0 MN hMN).mono ?_
          rintro e w4 ⟨rfl, m4, rfl⟩
          rw [hUN.out]
          go_wp2_with fail
          refine (nudge_any _ _ _).mono ?_
          rintro e w5 ⟨rfl, rfl⟩
          go_wp2_with fail
          refine (ceil_any _ _).mono ?_
          rintro e w5 ⟨rfl, rfl⟩
          rw [hDN.out]
          go_wp2_with fail
          refine (HUs.out _ MX hMX).mono ?_
          rintro e w6 ⟨rfl, m6, rfl⟩
          rw [hUX.out]
          have HF6 := hid (HF3.out.drewN (m4 + m6))
          go_wp2_with fail
          refine (nudge_any _ _ _).mono ?_
          rintro e w5 ⟨rfl, rfl⟩
          go_wp2_with fail
          refine (floor_any _ _ (nudF_u _ _)).mono ?_
          rintro e w5 ⟨rfl, rfl⟩
          rw [hDX.out]
          by_cases c1 : DN ≤ DX / 10 * 10
          · have HE := hid (sfT_1 DN DX RM Q c1)
            go_wp2_with fail
            go_ret2
            exact ⟨by rw [HE.out]; rfl, HF6.out⟩
          · have c1d : decide (DN ≤ DX / 10 * 10) = false := decide_eq_false c1
            by_cases c2 : DN < DX
            · have HE := hid (sfT_2 DN DX RM Q c1 c2)
              go_wp2_with fail
              refine (HUs.out _ m hlt).mono ?_
              rintro e w7 ⟨rfl, m7, rfl⟩
              rw [hUM.out]
              have HF7 := hid (HF3.out.drewN (m4 + m6 + m7))
              go_wp2_with fail
              refine (round_any _ _).mono ?_
              rintro e w5 ⟨rfl, rfl⟩
              rw [hRM.out]
              go_wp2_with fail
              go_ret2
              exact ⟨by rw [HE.out]; rfl, HF7.out⟩
            · have HE := hid (sfT_3 DN DX RM Q c1 c2)
              have c2d : decide (DN < DX) = false := decide_eq_false c2
              go_wp2_with fail
              go_ret2
              exact ⟨by rw [HE.out]; rfl, HF6.out⟩
  · have hsk : ¬ sfSk m E = true := by
      simp only [sfSk, Bool.and_eq_true, decide_eq_true_eq, beq_iff_eq]
      omega
    obtain ⟨z, hzz⟩ : ∃ z : Nat, z = sfZ E := ⟨_, rfl⟩
    have hz1 : (z : Int) = -1074 - E := by rw [hzz]; unfold sfZ; rw [if_neg hE]; omega
    have hzi : 11 + (-1085 - E) = (z : Int) := by omega
    have hEz : E + (z : Int) = -1074 := by omega
    have hl : l10 (-1074) = -324 := by decide
    have eP : l10 (-1074) = -Q := by rw [hQ]; unfold sfP; rw [if_neg hsk, ← hzz, hEz]; omega
    have HK := hid (l10_any w (-1074) (by omega) (by omega))
    rw [eP] at HK
    rw [if_neg hsk, ← hzz] at hMN2
    rw [← hzz] at hXi hO2 hZ
    obtain ⟨y, hy⟩ : ∃ y : Nat, z = y + 1 := ⟨z - 1, by omega⟩
    have hy1 : (z : Int) - 1 = (y : Int) := by omega
    have hy2 : z - 1 = y := by omega
    rw [hy2] at hXi hMN2 hZ
    have hy64 : y ≤ 64 := by omega
    have hz64 : z < 64 := by omega
    obtain ⟨Y, hY⟩ : ∃ Y : Nat, Y = 2 ^ y := ⟨_, rfl⟩
    have hYi : (2 : Int) ^ y = (Y : Int) := by rw [hY]; push_cast; rfl
    rw [← hY] at hMN2 hZ
    obtain ⟨-, hY2⟩ := hZ
    rw [hYi] at hXi
    have hw2 : IntKind.u64.wrap (2 ^ y) = (Y : Int) := by
      rw [hYi, IntKind.wrap_u64]; omega
    have hxi2 : IntKind.u64.wrap ((m : Int) + (Y : Int)) = (MX : Int) := by rw [hXi, IntKind.wrap_u64]; omega
    have hni2 : IntKind.u64.wrap ((m : Int) - (Y : Int)) = (MN : Int) := by
      have : MN = m - Y := hMN2.symm
      rw [IntKind.wrap_u64]; omega
    have hmz : 0 ≤ (m : Int) / 2 ^ z ∧ (m : Int) / 2 ^ z < 9223372036854775808 := by
      have e : (m : Int) / 2 ^ z = ((m / 2 ^ z : Nat) : Int) := by push_cast; rfl
      have h2 : m / 2 ^ z ≤ m / 2 ^ 1 := Nat.div_le_div_left (Nat.pow_le_pow_right (by decide) (by omega)) (by decide)
      rw [e]
      generalize m / 2 ^ z = d at *
      omega
    have hw1 : wrap64 ((m : Int) / 2 ^ z) = (m : Int) / 2 ^ z := by
      unfold wrap64; omega
    clear hY hYi hmz
    have hge : decide (E ≥ -1085) = false := decide_eq_false hE
    have hge2 : decide (E > -1085) = false := decide_eq_false (by omega)
    have hge3 : ¬ E > -1085 := by omega
    have hoi : bits BinOp.and .i64 ((m : Int) / 2 ^ z) 1 = O := hO2
    clear eP hsk hQ hO2 hXi hz hMN2 hzz hy hy2 hz1 hl
    cases hqm : ((m : Int) == 9223372036854775808) with
    | false =>
      go_enter Tryz.func146, Tryz.ntmps146
      go_wp2_with fail
      refine (HK.out).mono ?_
      rintro e w2 ⟨rfl, rfl⟩
      go_wp2_with fail
      refine (HLg.out _).mono ?_
      rintro e w2 ⟨rfl, rfl⟩
      go_wp2_with fail
      refine HPs.out.mono ?_
      rintro e w3 ⟨rfl, b3, f3⟩
      have HF3 := hid (HFr.out.trans f3 (fun i hi => .inr (by omega)))
      have HUs := hid (fun k x hx => uscale_any (w3.drewN k) n x A B s (show Blk (w3.drewN k) n _ _ from b3) hx hA hB hs64)
      clear b3 f3 HPs HFr HPw HLg
      go_wp2_with fail
      refine (HUs.out 0 MN hMN).mono ?_
      rintro e w4 ⟨rfl, m4, rfl⟩
      rw [hUN.out]
      go_wp2_with fail
      refine (nudge_any _ _ _).mono ?_
      rintro e w5 ⟨rfl, rfl⟩
      go_wp2_with fail
      refine (ceil_any _ _).mono ?_
      rintro e w5 ⟨rfl, rfl⟩
      rw [hDN.out]
      go_wp2_with fail
      refine (HUs.out _ MX hMX).mono ?_
      rintro e w6 ⟨rfl, m6, rfl⟩
      rw [hUX.out]
      have HF6 := hid (HF3.out.drewN (m4 + m6))
      go_wp2_with fail
      refine (nudge_any _ _ _).mono ?_
      rintro e w5 ⟨rfl, rfl⟩
      go_wp2_with fail
      refine (floor_any _ _ (nudF_u _ _)).mono ?_
      rintro e w5 ⟨rfl, rfl⟩
      rw [hDX.out]
      by_cases c1 : DN ≤ DX / 10 * 10
      · have HE := hid (sfT_1 DN DX RM Q c1)
        go_wp2_with fail
        go_ret2
        exact ⟨by rw [HE.out]; rfl, HF6.out⟩
      · have c1d : decide (DN ≤ DX / 10 * 10) = false := decide_eq_false c1
        by_cases c2 : DN < DX
        · have HE := hid (sfT_2 DN DX RM Q c1 c2)
          go_wp2_with fail
          refine (HUs.out _ m hlt).mono ?_
          rintro e w7 ⟨rfl, m7, rfl⟩
          rw [hUM.out]
          have HF7 := hid (HF3.out.drewN (m4 + m6 + m7))
          go_wp2_with fail
          refine (round_any _ _).mono ?_
          rintro e w5 ⟨rfl, rfl⟩
          rw [hRM.out]
          go_wp2_with fail
          go_ret2
          exact ⟨by rw [HE.out]; rfl, HF7.out⟩
        · have HE := hid (sfT_3 DN DX RM Q c1 c2)
          have c2d : decide (DN < DX) = false := decide_eq_false c2
          go_wp2_with fail
          go_ret2
          exact ⟨by rw [HE.out]; rfl, HF6.out⟩
    | true =>
      go_enter Tryz.func146, Tryz.ntmps146
      go_wp2_with fail
      refine (HK.out).mono ?_
      rintro e w2 ⟨rfl, rfl⟩
      go_wp2_with fail
      refine (HLg.out _).mono ?_
      rintro e w2 ⟨rfl, rfl⟩
      go_wp2_with fail
      refine HPs.out.mono ?_
      rintro e w3 ⟨rfl, b3, f3⟩
      have HF3 := hid (HFr.out.trans f3 (fun i hi => .inr (by omega)))
      have HUs := hid (fun k x hx => uscale_any (w3.drewN k) n x A B s (show Blk (w3.drewN k) n _ _ from b3) hx hA hB hs64)
      clear b3 f3 HPs HFr HPw HLg
      go_wp2_with fail
      refine (HUs.out 0 MN hMN).mono ?_
      rintro e w4 ⟨rfl, m4, rfl⟩
      rw [hUN.out]
      go_wp2_with fail
      refine (nudge_any _ _ _).mono ?_
      rintro e w5 ⟨rfl, rfl⟩
      go_wp2_with fail
      refine (ceil_any _ _).mono ?_
      rintro e w5 ⟨rfl, rfl⟩
      rw [hDN.out]
      go_wp2_with fail
      refine (HUs.out _ MX hMX).mono ?_
      rintro e w6 ⟨rfl, m6, rfl⟩
      rw [hUX.out]
      have HF6 := hid (HF3.out.drewN (m4 + m6))
      go_wp2_with fail
      refine (nudge_any _ _ _).mono ?_
      rintro e w5 ⟨rfl, rfl⟩
      go_wp2_with fail
      refine (floor_any _ _ (nudF_u _ _)).mono ?_
      rintro e w5 ⟨rfl, rfl⟩
      rw [hDX.out]
      by_cases c1 : DN ≤ DX / 10 * 10
      · have HE := hid (sfT_1 DN DX RM Q c1)
        go_wp2_with fail
        go_ret2
        exact ⟨by rw [HE.out]; rfl, HF6.out⟩
      · have c1d : decide (DN ≤ DX / 10 * 10) = false := decide_eq_false c1
        by_cases c2 : DN < DX
        · have HE := hid (sfT_2 DN DX RM Q c1 c2)
          go_wp2_with fail
          refine (HUs.out _ m hlt).mono ?_
          rintro e w7 ⟨rfl, m7, rfl⟩
          rw [hUM.out]
          have HF7 := hid (HF3.out.drewN (m4 + m6 + m7))
          go_wp2_with fail
          refine (round_any _ _).mono ?_
          rintro e w5 ⟨rfl, rfl⟩
          rw [hRM.out]
          go_wp2_with fail
          go_ret2
          exact ⟨by rw [HE.out]; rfl, HF7.out⟩
        · have HE := hid (sfT_3 DN DX RM Q c1 c2)
          have c2d : decide (DN < DX) = false := decide_eq_false c2
          go_wp2_with fail
          go_ret2
          exact ⟨by rw [HE.out]; rfl, HF6.out⟩
end Go.Proofs.YtlepjghfcpgbcaaGreatDoor.Tr
