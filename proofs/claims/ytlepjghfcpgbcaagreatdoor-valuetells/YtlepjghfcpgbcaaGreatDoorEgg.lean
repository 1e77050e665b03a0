/- fmtEFG with an exponent, of several digits. (gen/genege.py) -/
import Derived.Test.YtlepjghfcpgbcaaGreatDoorEge
namespace Go.Proofs.YtlepjghfcpgbcaaGreatDoor.Tr
open Go.RowKit

set_option maxRecDepth 100000 in
set_option maxHeartbeats 8000000 in
theorem efg_e2 (w : World) (B b : Nat) (t : TypeId) (L : List UInt8) (v : Value) (S : List UInt8) (hD : Dst B b t (bs L) w w v S) (hL : L.length = 32) (hS : S.length ≤ 100) (neg : Bool) (dp : Int) (h0 : -400 ≤ dp) (h1 : dp ≤ 400) (nd : Nat) (h2 : nd ≤ 20) (prec : Int) (hp : prec = ((nd - 1 : Nat) : Int)) (hnd : 1 < nd) :
    Calls Tryz.prog 139 #[v, .bool neg, .slice (some ⟨b, 0, none⟩) 32 32, .int .i64 dp, .int .i64 (nd : Int), .int .i64 prec, .int .u8 101, .bool true] w fun e w' => ∃ v', e = .returned v' ∧ Dst B b t (bs L) w w' v' (S ++ eF neg L dp nd) := by
  have HD := hid hD
  have HL := hid hL
  obtain ⟨H, hH⟩ : ∃ H, H = eH L nd := ⟨_, rfl⟩
  have HH := hid hH
  have HL0 : Hid (H = L[0]'(by rw [HL.out]; decide)) := by
    unfold Hid; rw [hH]; unfold eH; rw [if_neg (by omega), List.getD_eq_getElem?_getD, List.getElem?_eq_getElem (by rw [HL.out]; decide)]; rfl
  clear hH
  have hn1 : ((nd : Int) != 0) = true := by rw [bne_iff_ne]; omega
  have hnz : ((nd : Int) == 0) = false := by rw [beq_eq_false_iff_ne]; omega
  obtain ⟨x, hx⟩ : ∃ x, x = exX dp nd := ⟨_, rfl⟩
  have HX5 := hid hx
  have ex : dp - 1 = x := by rw [hx]; unfold exX; rw [if_neg (by omega)]
  have hxa : -401 ≤ x := by omega
  have hxb : x ≤ 401 := by omega
  clear hx

  have hp1 : prec ≤ 20 := by omega
  have hpp : prec > 0 := by omega
  have hmi : min (nd : Int) (prec + 1) = (nd : Int) := by omega
  have hmi2 : (if (nd : Int) ≤ prec + 1 then (nd : Int) else prec + 1) = (nd : Int) := by split <;> omega
  have hn3 : ¬ (32 : Int) < (nd : Int) := by omega
  have hn4 : (nd : Int) ≤ 32 := by omega
  have hn5 : (1 : Int) < (nd : Int) := by omega
  have hn6 : (1 : Int) ≤ (nd : Int) := by omega
  have hn7 : (nd : Int) - 1 = ((nd - 1 : Nat) : Int) := by omega
  have hz0 : prec + 1 - (nd : Int) = 0 := by omega
  have HM : Hid (eM L nd = [46] ++ (L.drop 1).take (nd - 1)) := by unfold Hid eM; rw [if_pos hnd]
  clear hD hL hp
  obtain ⟨a0, c0, hv0⟩ := own_len HD.out.own
  subst hv0
  go_enter Tryz.func139, Tryz.ntmps139
  go_upto_if 78 with fail
  go_cut [0] (fun v0 wx => ∃ X, X = S ++ efSign neg ∧ Dst B b t (bs L) w wx v0 X)
  case first =>
    cases neg with
    | false =>
      go_wp2_with fail
      all_goals go_meet
      exact ⟨S, by simp [efSign], HD.out⟩
    | true =>
      go_wp2_with (at_builtin; refine Hid.out ?_)
      refine hid ?_
      refine wpList_append_src (by rfl) _ _ 66 (by rfl) B S.length 1 _ _ (bs S) (bs [45]) (by rfl) (by rfl) (owns_alloc HD.out.own _) (srcOne _ 45) (by omega) (by rw [World.size_alloc]; have := HD.out.le; omega) ?_
      intro v2 w2 h2
      have hd2 := HD.out.app h2
      obtain ⟨X3, hX3⟩ : ∃ Zq, Zq = S ++ [45] := ⟨_, rfl⟩
      rw [← hX3] at hd2
      have HX3 := hid hX3
      have hlX3 : X3.length ≤ 300 := by rw [hX3]; simp; omega
      obtain ⟨a2, c2, hv2⟩ := own_len hd2.own
      subst hv2
      clear h2 HD hX3
      have HD := hid hd2
      clear hd2
      go_wp2_with fail
      all_goals go_meet
      exact ⟨X3, by rw [HX3.out]; rfl, HD.out⟩
  case rest =>
    obtain ⟨X, hX, hd⟩ := hcut
    clear HD
    have HD := hid hd
    clear hd
    have hXl : X.length ≤ 110 := by rw [hX]; unfold efSign; cases neg <;> simp <;> omega
    have HX := hid hX
    clear hX
    obtain ⟨a1, c1, hv1⟩ := own_len HD.out.own
    subst hv1
    have hc0 := HD.out.blk.cell 0
    rw [bs_at L 0 (by rw [HL.out]; decide), ← HL0.out] at hc0
    unfold bv at hc0
    go_wp2_with (at_builtin; refine Hid.out ?_)
    refine hid ?_
    refine wpList_append_src (by rfl) _ _ 66 (by rfl) B X.length 1 _ _ (bs X) (bs [H]) (by rfl) (by rfl) (owns_alloc HD.out.own _) (srcOne _ H) (by omega) (by rw [World.size_alloc]; have := HD.out.le; omega) ?_
    intro v2 w2 h2
    have hd2 := HD.out.app h2
    obtain ⟨X3, hX3⟩ : ∃ Zq, Zq = X ++ [H] := ⟨_, rfl⟩
    rw [← hX3] at hd2
    have HX3 := hid hX3
    have hlX3 : X3.length ≤ 300 := by rw [hX3]; simp; omega
    obtain ⟨a2, c2, hv2⟩ := own_len hd2.own
    subst hv2
    clear h2 HD hX3
    have HD := hid hd2
    clear hd2
    clear hc0
    obtain ⟨R, hR⟩ : ∃ R, R = (L.drop 1).take (nd - 1) := ⟨_, rfl⟩
    have HRl : Hid (R.length = nd - 1) := by unfold Hid; rw [hR, List.length_take, List.length_drop, HL.out]; omega
    have HSr : Hid (∀ W', Blk W' b t (bs L) → Go.Src Tryz.prog 1 66 (.slice (some ⟨b, 1, none⟩) (nd - 1) 31) (nd - 1) (bs R) W') := hid (fun W' hB => by
      have h := srcBytes (w := W') (ad := some ⟨b, 1, none⟩) (b := R) (fun _ => ⟨b, 1, rfl, hB.range 1 (bs R) (by rw [bs_length, HRl.out, bs_part, ← hR])⟩) 31
      rw [HRl.out] at h
      exact h)
    have HR := hid hR
    clear hR
    go_wp2_with (at_builtin; refine Hid.out ?_)
    refine hid ?_
    refine wpList_append_src (by rfl) _ _ 66 (by rfl) B X3.length 1 _ _ (bs X3) (bs [46]) (by rfl) (by rfl) (owns_alloc HD.out.own _) (srcOne _ 46) (by omega) (by rw [World.size_alloc]; have := HD.out.le; omega) ?_
    intro v2 w2 h2
    have hd2 := HD.out.app h2
    obtain ⟨Y1, hY1⟩ : ∃ Zq, Zq = X3 ++ [46] := ⟨_, rfl⟩
    rw [← hY1] at hd2
    have HY1 := hid hY1
    have hlY1 : Y1.length ≤ 310 := by rw [hY1]; simp; omega
    obtain ⟨a2, c2, hv2⟩ := own_len hd2.own
    subst hv2
    clear h2 HD hY1
    have HD := hid hd2
    clear hd2
    go_wp2_with (at_builtin; refine Hid.out ?_)
    refine hid ?_
    refine wpList_append_src (by rfl) _ _ 66 (by rfl) B Y1.length (nd - 1) _ _ (bs Y1) (bs R) (by rfl) (by rfl) HD.out.own (HSr.out _ HD.out.blk) (by omega) HD.out.le ?_
    intro v2 w2 h2
    have hd2 := HD.out.appb (c := R) (by rw [HRl.out]; exact h2)
    obtain ⟨Z, hZ⟩ : ∃ Zq, Zq = Y1 ++ R := ⟨_, rfl⟩
    rw [← hZ] at hd2
    have HZ0 := hid hZ
    have hlZ : Z.length ≤ 350 := by rw [hZ, List.length_append, HRl.out]; omega
    obtain ⟨a2, c2, hv2⟩ := own_len hd2.own
    subst hv2
    clear h2 HD hZ
    have HD := hid hd2
    clear hd2
    go_wp2_with fail
    go_loopw [0, 114] (fun v0 iv wr2 => iv = .int .i64 0 ∧ Dst B b t (bs L) w wr2 v0 Z) (fun _ _ _ => 0)
    case atStart => exact ⟨rfl, HD.out⟩
    case round =>
      obtain ⟨rfl, hd⟩ := hrel
      clear HD
      have HD := hid hd
      clear hd
      have HZ : Hid (Z = S ++ efSign neg ++ [eH L nd] ++ eM L nd) := by
        unfold Hid; rw [HZ0.out, HY1.out, HM.out, HR.out, HX3.out, HX.out, HH.out]; simp only [List.append_assoc]
      have hZl : Z.length ≤ 400 := by omega
      obtain ⟨a6, c6, hv6⟩ := own_len HD.out.own
      subst hv6
      go_wp2_with (at_builtin; refine Hid.out ?_)
      refine hid ?_
      refine wpList_append_src (by rfl) _ _ 66 (by rfl) B Z.length 1 _ _ (bs Z) (bs [101]) (by rfl) (by rfl) (owns_alloc HD.out.own _) (srcOne _ 101) (by omega) (by rw [World.size_alloc]; have := HD.out.le; omega) ?_
      intro v2 w2 h2
      have hd2 := HD.out.app h2
      obtain ⟨Z1, hZ1⟩ : ∃ Zq, Zq = Z ++ [101] := ⟨_, rfl⟩
      rw [← hZ1] at hd2
      have HZ1 := hid hZ1
      have hlZ1 : Z1.length ≤ 410 := by rw [hZ1]; simp; omega
      obtain ⟨a2, c2, hv2⟩ := own_len hd2.own
      subst hv2
      clear h2 HD hZ1
      have HD := hid hd2
      clear hd2
      obtain ⟨y, hy⟩ : ∃ y : Nat, y = x.natAbs := ⟨_, rfl⟩
      obtain ⟨G, hG⟩ : ∃ G, G = exS x := ⟨_, rfl⟩
      have HG := hid hG
      have HYy := hid hy
      have hy4 : y ≤ 401 := by omega
      go_upto_if 129 with fail
      go_cut [19, 22] (fun v0 v1 wx => v0 = .int .u8 (G.toNat : Int) ∧ v1 = .int .i64 (y : Int) ∧ wx = w2)
      case first =>
        by_cases hn : x < 0
        · have eg : G = 45 := by rw [hG]; unfold exS; rw [if_pos hn]
          have ey : -x = (y : Int) := by omega
          clear hG hy
          go_wp2_with fail
          all_goals go_meet
          exact ⟨by rw [eg]; rfl, by rfl, by rfl⟩
        · have hn2 : decide (x < 0) = false := decide_eq_false hn
          have eg : G = 43 := by rw [hG]; unfold exS; rw [if_neg hn]
          have ey : x = (y : Int) := by omega
          clear hG hy
          go_wp2_with fail
          all_goals go_meet
          exact ⟨by rw [eg]; rfl, by rfl, by rfl⟩
      case rest =>
        obtain ⟨rfl, rfl, rfl⟩ := hcut
        clear hG hy hxa hxb
        go_wp2_with (at_builtin; refine Hid.out ?_)
        refine hid ?_
        refine wpList_append_src (by rfl) _ _ 66 (by rfl) B Z1.length 1 _ _ (bs Z1) (bs [G]) (by rfl) (by rfl) (owns_alloc HD.out.own _) (srcOne _ G) (by omega) (by rw [World.size_alloc]; have := HD.out.le; omega) ?_
        intro v2 w2 h2
        have hd2 := HD.out.app h2
        obtain ⟨Z2, hZ2⟩ : ∃ Zq, Zq = Z1 ++ [G] := ⟨_, rfl⟩
        rw [← hZ2] at hd2
        have HZ2 := hid hZ2
        have hlZ2 : Z2.length ≤ 420 := by rw [hZ2]; simp; omega
        obtain ⟨a2, c2, hv2⟩ := own_len hd2.own
        subst hv2
        clear h2 HD hZ2
        have HD := hid hd2
        clear hd2
        have HE : Hid (S ++ eF neg L dp nd = Z2 ++ exD y) := by
          unfold Hid eF
          rw [HZ2.out, HZ1.out, HZ.out, HG.out, HYy.out, HX5.out]
          simp only [List.append_assoc]
        by_cases c1 : y < 10
        · have hD : Hid (exD y = [48, dgB y]) := by unfold Hid exD; rw [if_pos c1]
          have d1 : (y : Int) + 48 = ((dgB y).toNat : Int) := (dgB_nat y c1).symm
          have c1i : (y : Int) < 10 := by omega
          generalize dgB y = g1 at *
          go_wp2_with (at_builtin; refine Hid.out ?_)
          refine hid ?_
          refine wpList_append_src (by rfl) _ _ 66 (by rfl) B Z2.length 2 _ _ (bs Z2) (bs [48, g1]) (by rfl) (by rfl) (owns_alloc HD.out.own _) (srcMany _ [48, g1]) (by omega) (by rw [World.size_alloc]; have := HD.out.le; omega) ?_
          intro v2 w2 h2
          have hd2 := HD.out.apps (c := [48, g1]) h2
          obtain ⟨Z3, hZ3⟩ : ∃ Zq, Zq = Z2 ++ [48, g1] := ⟨_, rfl⟩
          rw [← hZ3] at hd2
          have HZ3 := hid hZ3
          have hlZ3 : Z3.length ≤ 430 := by rw [hZ3]; simp; omega
          obtain ⟨a2, c2, hv2⟩ := own_len hd2.own
          subst hv2
          clear h2 HD hZ3
          have HD := hid hd2
          clear hd2
          go_wp2_with fail
          go_ret
          exact ⟨_, rfl, by rw [HE.out, hD.out, ← HZ3.out]; exact HD.out⟩
        · have c1i : decide ((y : Int) < 10) = false := decide_eq_false (by omega)
          by_cases c2 : y < 100
          · have hD : Hid (exD y = [dgB (y / 10), dgB (y % 10)]) := by unfold Hid exD; rw [if_neg c1, if_pos c2]
            have c2i : (y : Int) < 100 := by omega
            obtain ⟨y1, hy1⟩ : ∃ k, k = y / 10 := ⟨_, rfl⟩
            obtain ⟨y0, hy0⟩ : ∃ k, k = y % 10 := ⟨_, rfl⟩
            rw [← hy1, ← hy0] at hD
            have q1 : (y : Int) / 10 = (y1 : Int) := by omega
            have q0 : (y : Int) % 10 = (y0 : Int) := by omega
            have d1 : (y1 : Int) + 48 = ((dgB y1).toNat : Int) := (dgB_nat y1 (by omega)).symm
            have d0 : (y0 : Int) + 48 = ((dgB y0).toNat : Int) := (dgB_nat y0 (by omega)).symm
            have b1 : y1 < 10 := by omega
            have b0 : y0 < 10 := by omega
            clear hy1 hy0
            generalize dgB y1 = g1 at *
            generalize dgB y0 = g0 at *
            go_wp2_with (at_builtin; refine Hid.out ?_)
            refine hid ?_
            refine wpList_append_src (by rfl) _ _ 66 (by rfl) B Z2.length 2 _ _ (bs Z2) (bs [g1, g0]) (by rfl) (by rfl) (owns_alloc HD.out.own _) (srcMany _ [g1, g0]) (by omega) (by rw [World.size_alloc]; have := HD.out.le; omega) ?_
            intro v2 w2 h2
            have hd2 := HD.out.apps (c := [g1, g0]) h2
            obtain ⟨Z3, hZ3⟩ : ∃ Zq, Zq = Z2 ++ [g1, g0] := ⟨_, rfl⟩
            rw [← hZ3] at hd2
            have HZ3 := hid hZ3
            have hlZ3 : Z3.length ≤ 430 := by rw [hZ3]; simp; omega
            obtain ⟨a2, c2, hv2⟩ := own_len hd2.own
            subst hv2
            clear h2 HD hZ3
            have HD := hid hd2
            clear hd2
            go_wp2_with fail
            go_ret
            exact ⟨_, rfl, by rw [HE.out, hD.out, ← HZ3.out]; exact HD.out⟩
          · have hD : Hid (exD y = [dgB (y / 100), dgB (y / 10 % 10), dgB (y % 10)]) := by unfold Hid exD; rw [if_neg c1, if_neg c2]
            have c2i : decide ((y : Int) < 100) = false := decide_eq_false (by omega)
            obtain ⟨y2, hy2⟩ : ∃ k, k = y / 100 := ⟨_, rfl⟩
            obtain ⟨y3, hy3⟩ : ∃ k, k = y / 10 := ⟨_, rfl⟩
            obtain ⟨y1, hy1⟩ : ∃ k, k = y3 % 10 := ⟨_, rfl⟩
            obtain ⟨y0, hy0⟩ : ∃ k, k = y % 10 := ⟨_, rfl⟩
            rw [← hy2, ← hy3, ← hy1, ← hy0] at hD
            have q2 : (y : Int) / 100 = (y2 : Int) := by omega
            have q3 : (y : Int) / 10 = (y3 : Int) := by omega
            have q1 : (y3 : Int) % 10 = (y1 : Int) := by omega
            have q0 : (y : Int) % 10 = (y0 : Int) := by omega
            have d2 : (y2 : Int) + 48 = ((dgB y2).toNat : Int) := (dgB_nat y2 (by omega)).symm
            have d1 : (y1 : Int) + 48 = ((dgB y1).toNat : Int) := (dgB_nat y1 (by omega)).symm
            have d0 : (y0 : Int) + 48 = ((dgB y0).toNat : Int) := (dgB_nat y0 (by omega)).symm
            have b2 : y2 < 10 := by omega
            have b3 : y3 < 41 := by omega
            have b1 : y1 < 10 := by omega
            have b0 : y0 < 10 := by omega
            clear hy1 hy0 hy2 hy3
            generalize dgB y2 = g2 at *
            generalize dgB y1 = g1 at *
            generalize dgB y0 = g0 at *
            go_wp2_with (at_builtin; refine Hid.out ?_)
            refine hid ?_
            refine wpList_append_src (by rfl) _ _ 66 (by rfl) B Z2.length 3 _ _ (bs Z2) (bs [g2, g1, g0]) (by rfl) (by rfl) (owns_alloc HD.out.own _) (srcMany _ [g2, g1, g0]) (by omega) (by rw [World.size_alloc]; have := HD.out.le; omega) ?_
            intro v2 w2 h2
            have hd2 := HD.out.apps (c := [g2, g1, g0]) h2
            obtain ⟨Z3, hZ3⟩ : ∃ Zq, Zq = Z2 ++ [g2, g1, g0] := ⟨_, rfl⟩
            rw [← hZ3] at hd2
            have HZ3 := hid hZ3
            have hlZ3 : Z3.length ≤ 430 := by rw [hZ3]; simp; omega
            obtain ⟨a2, c2, hv2⟩ := own_len hd2.own
            subst hv2
            clear h2 HD hZ3
            have HD := hid hd2
            clear hd2
            go_wp2_with fail
            go_ret
            exact ⟨_, rfl, by rw [HE.out, hD.out, ← HZ3.out]; exact HD.out⟩

end Go.Proofs.YtlepjghfcpgbcaaGreatDoor.Tr
