/- The contract of fmtEFG at the shortest digits, any float. (gen/genefg.py) -/
import Derived.Test.YtlepjghfcpgbcaaGreatDoorFme
import Derived.Deep.DeepCutAuto
namespace Go.Proofs.YtlepjghfcpgbcaaGreatDoor.Tr
open Go.RowKit

def efSign (neg : Bool) : List UInt8 := if neg then [45] else []
/-- What stands ahead of the point. -/
def ffI (L : List UInt8) (dp : Int) (nd : Nat) : List UInt8 := if 0 < dp then L.take (min nd dp.toNat) ++ List.replicate (dp.toNat - min nd dp.toNat) 48 else [48]
/-- The point, and what stands behind it. -/
def ffF (L : List UInt8) (dp : Int) (nd : Nat) : List UInt8 := if dp < (nd : Int) then [46] ++ List.replicate (-dp).toNat 48 ++ (L.drop dp.toNat).take (nd - dp.toNat) else []
def fF (neg : Bool) (L : List UInt8) (dp : Int) (nd : Nat) : List UInt8 := efSign neg ++ ffI L dp nd ++ ffF L dp nd

set_option maxRecDepth 100000 in
set_option maxHeartbeats 8000000 in
theorem efg_f (w : World) (B b : Nat) (t : TypeId) (L : List UInt8) (v : Value) (S : List UInt8) (hD : Dst B b t (bs L) w w v S) (hL : L.length = 32) (hS : S.length ≤ 100) (neg : Bool) (dp : Int) (h0 : -400 ≤ dp) (h1 : dp ≤ 400) (nd : Nat) (h2 : nd ≤ 20) (prec : Int) (hp : (prec = (nd : Int) - dp ∧ dp < (nd : Int)) ∨ (-1 ≤ prec ∧ prec ≤ 0 ∧ (nd : Int) ≤ dp)) :
    Calls Tryz.prog 139 #[v, .bool neg, .slice (some ⟨b, 0, none⟩) 32 32, .int .i64 dp, .int .i64 (nd : Int), .int .i64 prec, .int .u8 102, .bool true] w fun e w' => ∃ v', e = .returned v' ∧ Dst B b t (bs L) w w' v' (S ++ fF neg L dp nd) := by
  have HD := hid hD
  have HL := hid hL
  clear hD hL
  obtain ⟨a0, c0, hv0⟩ := own_len HD.out.own
  subst hv0
  go_enter Tryz.func139, Tryz.ntmps139
  go_upto_if 178 with fail
  go_cut [0] (fun v0 wx => ∃ X, X = S ++ efSign neg ∧ Dst B b t (bs L) w wx v0 X)
  case first =>
    cases neg with
    | false =>
      go_wp2_with fail
      all_goals go_meet
      exact ⟨S, by simp [efSign], HD.out⟩
    | true =>
      go_wp2_with (at_builtin; refine Hid.out ?_)
      refine hid ?_
      refine wpList_append_src (by rfl) _ _ 66 (by rfl) B S.length 1 _ _ (bs S) (bs [45]) (by rfl) (by rfl) (owns_alloc HD.out.own _) (srcOne _ 45) (by omega) (by rw [World.size_alloc]; have := HD.out.le; omega) ?_
      intro v2 w2 h2
      have hd2 := HD.out.app h2
      obtain ⟨X3, hX3⟩ : ∃ Z, Z = S ++ [45] := ⟨_, rfl⟩
      rw [← hX3] at hd2
      have HX3 := hid hX3
      have hlX3 : X3.length ≤ 300 := by rw [hX3]; simp; omega
      obtain ⟨a2, c2, hv2⟩ := own_len hd2.own
      subst hv2
      clear h2 HD hX3
      have HD := hid hd2
      clear hd2
      go_wp2_with fail
      all_goals go_meet
      exact ⟨X3, by rw [HX3.out]; rfl, HD.out⟩
  case rest =>
    obtain ⟨X, hX, hd⟩ := hcut
    clear HD
    have HD := hid hd
    clear hd
    have hXl : X.length ≤ 110 := by rw [hX]; unfold efSign; cases neg <;> simp <;> omega
    have HX := hid hX
    clear hX
    obtain ⟨a1, c1, hv1⟩ := own_len HD.out.own
    subst hv1
    go_upto_if 183 with fail
    go_cut [0] (fun v0 wx => ∃ X1, X1 = X ++ ffI L dp nd ∧ Dst B b t (bs L) w wx v0 X1)
    case first =>
      by_cases hdp : 0 < dp
      · have hdp1 : dp > 0 := hdp
        obtain ⟨q, hq⟩ : ∃ q : Nat, dp = (q : Int) := ⟨dp.toNat, by omega⟩
        subst hq
        obtain ⟨m, hm⟩ : ∃ m, m = min nd q := ⟨_, rfl⟩
        have hm0 : m ≤ 20 := by omega
        have hm1 : m ≤ q := by omega
        have hmi : min (nd : Int) (q : Int) = (m : Int) := by omega
        have hmi2 : (if (nd : Int) ≤ (q : Int) then (nd : Int) else (q : Int)) = (m : Int) := by split <;> omega
        have HI : Hid (ffI L (q : Int) nd = L.take m ++ List.replicate (q - m) 48) := by
          unfold Hid ffI
          rw [if_pos hdp, Int.toNat_natCast, ← hm]
        clear hm
        have hm32 : ¬ (32 : Int) < (m : Int) := by omega
        have hm32' : (m : Int) ≤ 32 := by omega
        go_wp2_with fail
        go_loopw [0, 25, 191] (fun v0 _ iv wr => ∃ i : Nat, i ≤ m ∧ iv = .int .i64 (i : Int) ∧ Dst B b t (bs L) w wr v0 (X ++ L.take i)) (fun _ _ iv _ => m - (intOf iv).toNat)
        case atStart => exact ⟨0, Nat.zero_le _, rfl, by simpa using HD.out⟩
        case round =>
          obtain ⟨i, hi, rfl, hd⟩ := hrel
          clear HD
          have HD := hid hd
          clear hd
          obtain ⟨a1, c1, hv1⟩ := own_len HD.out.own
          subst hv1
          by_cases him : i < m
          · have hlt : (i : Int) < (m : Int) := by omega
            have hiL : i < L.length := by rw [HL.out]; omega
            have hc := HD.out.blk.cell i
            rw [bs_at L i hiL] at hc
            have HN : Hid (L.take (i + 1) = L.take i ++ [L[i]]) := take_next L i hiL
            have hSl : (X ++ L.take i).length ≤ 200 := by simp; omega
            unfold bv at hc
            generalize L[i] = c at *
            generalize hX2 : X ++ L.take i = X2 at *
            have HX2 := hid hX2
            clear hX2
            go_wp2_with (at_builtin; refine Hid.out ?_)
            refine hid ?_
            refine wpList_append_src (by rfl) _ _ 66 (by rfl) B X2.length 1 _ _ (bs X2) (bs [c]) (by rfl) (by rfl) (owns_alloc HD.out.own _) (srcOne _ c) (by omega) (by rw [World.size_alloc]; have := HD.out.le; omega) ?_
            intro v2 w2 h2
            have hd2 := HD.out.app h2
            obtain ⟨X3, hX3⟩ : ∃ Z, Z = X2 ++ [c] := ⟨_, rfl⟩
            rw [← hX3] at hd2
            have HX3 := hid hX3
            have hlX3 : X3.length ≤ 300 := by rw [hX3]; simp; omega
            obtain ⟨a2, c2, hv2⟩ := own_len hd2.own
            subst hv2
            clear h2 HD hX3
            have HD := hid hd2
            clear hd2
            have HD2 : Hid (Dst B b t (bs L) w w2 (.slice a2 X3.length c2) (X ++ L.take (i + 1))) := by
              unfold Hid; rw [HN.out, ← List.append_assoc, HX2.out, ← HX3.out]; exact HD.out
            clear HD
            go_wp2_with fail
            exact ⟨⟨i + 1, by omega, by first | rfl | (congr 1), HD2.out⟩, by simp [intOf]; omega⟩
          · obtain rfl : i = m := by omega
            have hlt : ¬ (i : Int) < (i : Int) := by omega
            generalize hX2 : X ++ L.take i = X2 at *
            have hXl2 : X2.length ≤ 140 := by rw [← hX2]; simp; omega
            have HX2 := hid hX2
            clear hX2
            obtain ⟨N, hN⟩ : ∃ N, N = q - i := ⟨_, rfl⟩
            have hNi : (q : Int) - (i : Int) = (N : Int) := by omega
            have HN2 := hid hN
            have hNd : N ≤ 400 := by omega
            clear hN
            go_wp2_with fail
            go_loopw [0, 203] (fun v0 iv wr2 => ∃ j : Nat, j ≤ N ∧ iv = .int .i64 (j : Int) ∧ Dst B b t (bs L) w wr2 v0 (X2 ++ List.replicate j 48)) (fun _ iv _ => N - (intOf iv).toNat)
            case atStart => exact ⟨0, Nat.zero_le _, rfl, by simpa using HD.out⟩
            case round =>
              obtain ⟨j, hj, rfl, hd⟩ := hrel
              clear HD
              have HD := hid hd
              clear hd
              obtain ⟨a3, c3, hv3⟩ := own_len HD.out.own
              subst hv3
              by_cases hjn : j < N
              · have hlt2 : (j : Int) < (N : Int) := by omega
                have HN : Hid (List.replicate (j + 1) (48 : UInt8) = List.replicate j 48 ++ [48]) := List.replicate_succ'
                have hSl : (X2 ++ List.replicate j (48 : UInt8)).length ≤ 600 := by simp; omega
                generalize hY : X2 ++ List.replicate j (48 : UInt8) = Y at *
                have HY := hid hY
                clear hY
                go_wp2_with (at_builtin; refine Hid.out ?_)
                refine hid ?_
                refine wpList_append_src (by rfl) _ _ 66 (by rfl) B Y.length 1 _ _ (bs Y) (bs [48]) (by rfl) (by rfl) (owns_alloc HD.out.own _) (srcOne _ 48) (by omega) (by rw [World.size_alloc]; have := HD.out.le; omega) ?_
                intro v2 w2 h2
                have hd2 := HD.out.app h2
                obtain ⟨Y3, hY3⟩ : ∃ Z, Z = Y ++ [48] := ⟨_, rfl⟩
                rw [← hY3] at hd2
                have HY3 := hid hY3
                have hlY3 : Y3.length ≤ 700 := by rw [hY3]; simp; omega
                obtain ⟨a2, c2, hv2⟩ := own_len hd2.own
                subst hv2
                clear h2 HD hY3
                have HD := hid hd2
                clear hd2
                have HD2 : Hid (Dst B b t (bs L) w w2 (.slice a2 Y3.length c2) (X2 ++ List.replicate (j + 1) 48)) := by
                  unfold Hid; rw [HN.out, ← List.append_assoc, HY.out, ← HY3.out]; exact HD.out
                clear HD
                go_wp2_with fail
                exact ⟨⟨j + 1, by omega, by first | rfl | (congr 1), HD2.out⟩, by simp [intOf]; omega⟩
              · obtain rfl : j = N := by omega
                have hlt2 : ¬ (j : Int) < (j : Int) := by omega
                generalize hY : X2 ++ List.replicate j (48 : UInt8) = Y at *
                have HY := hid hY
                clear hY
                go_wp2_with fail
                all_goals go_meet
                exact ⟨_, rfl, by rw [HI.out, ← List.append_assoc, HX2.out, ← HN2.out, HY.out]; exact HD.out⟩
      · skip
        have hdp2 : ¬ dp > 0 := hdp
        have HI : Hid (ffI L dp nd = [48]) := by unfold Hid ffI; rw [if_neg hdp]
        go_wp2_with (at_builtin; refine Hid.out ?_)
        refine hid ?_
        refine wpList_append_src (by rfl) _ _ 66 (by rfl) B X.length 1 _ _ (bs X) (bs [48]) (by rfl) (by rfl) (owns_alloc HD.out.own _) (srcOne _ 48) (by omega) (by rw [World.size_alloc]; have := HD.out.le; omega) ?_
        intro v2 w2 h2
        have hd2 := HD.out.app h2
        obtain ⟨X3, hX3⟩ : ∃ Z, Z = X ++ [48] := ⟨_, rfl⟩
        rw [← hX3] at hd2
        have HX3 := hid hX3
        have hlX3 : X3.length ≤ 300 := by rw [hX3]; simp; omega
        obtain ⟨a2, c2, hv2⟩ := own_len hd2.own
        subst hv2
        clear h2 HD hX3
        have HD := hid hd2
        clear hd2
        go_wp2_with fail
        all_goals go_meet
        exact ⟨X3, by rw [HX3.out, HI.out], HD.out⟩
    case rest =>
      obtain ⟨X1, hX1, hd⟩ := hcut
      clear HD
      have HD := hid hd
      clear hd
      have hXl1 : X1.length ≤ 600 := by
        rw [hX1]; unfold ffI
        split
        · simp; omega
        · simp; omega
      have HX1 := hid hX1
      clear hX1
      obtain ⟨a2, c2, hv2⟩ := own_len HD.out.own
      subst hv2
      have HE : Hid (∀ R, S ++ fF neg L dp nd = X1 ++ R ↔ ffF L dp nd = R) := by
        intro R
        unfold fF
        rw [← List.append_assoc, ← List.append_assoc, ← HX.out, ← HX1.out]
        exact List.append_right_inj X1
      have HG : Hid (S ++ fF neg L dp nd = X1 ++ ffF L dp nd) := (HE.out _).2 rfl
      clear HE
      by_cases hpr : prec ≤ 0
      · have hpr2 : ¬ prec > 0 := by omega
        have HF : Hid (ffF L dp nd = []) := by unfold Hid ffF; rw [if_neg (by omega)]
        go_wp2_with fail
        go_ret
        exact ⟨_, rfl, by rw [HG.out, HF.out, List.append_nil]; exact HD.out⟩
      · skip
        have hpd : prec = (nd : Int) - dp ∧ dp < (nd : Int) := by omega
        obtain ⟨hpe, hlt⟩ := hpd
        have hpos : prec > 0 := by omega
        obtain ⟨z, hz⟩ : ∃ z : Nat, z = (-dp).toNat := ⟨_, rfl⟩
        obtain ⟨o, ho⟩ : ∃ o : Nat, o = dp.toNat := ⟨_, rfl⟩
        obtain ⟨k, hk⟩ : ∃ k : Nat, k = nd - o := ⟨_, rfl⟩
        have hok : o + k ≤ 20 := by omega
        have hz4 : z ≤ 400 := by omega
        have HF : Hid (ffF L dp nd = [46] ++ List.replicate z 48 ++ (L.drop o).take k) := by
          unfold Hid ffF; rw [if_pos hlt, ← hz, ← ho, ← hk]
        have x1 : max 0 (-dp) = (z : Int) := by omega
        have x1b : (if (0 : Int) ≤ -dp then -dp else 0) = (z : Int) := by split <;> omega
        have x2 : min prec (z : Int) = (z : Int) := by omega
        have x2b : (if prec ≤ (z : Int) then prec else (z : Int)) = (z : Int) := by split <;> omega
        have x3 : dp + (z : Int) = (o : Int) := by omega
        have x4 : max 0 ((nd : Int) - (o : Int)) = (k : Int) := by omega
        have x4b : (if (0 : Int) ≤ (nd : Int) - (o : Int) then (nd : Int) - (o : Int) else 0) = (k : Int) := by split <;> omega
        have x5 : prec - (z : Int) = (k : Int) := by omega
        have x6 : min (k : Int) (k : Int) = (k : Int) := by omega
        clear hpe hz ho hk
        go_wp2_with (at_builtin; refine Hid.out ?_)
        refine hid ?_
        refine wpList_append_src (by rfl) _ _ 66 (by rfl) B X1.length 1 _ _ (bs X1) (bs [46]) (by rfl) (by rfl) (owns_alloc HD.out.own _) (srcOne _ 46) (by omega) (by rw [World.size_alloc]; have := HD.out.le; omega) ?_
        intro v2 w2 h2
        have hd2 := HD.out.app h2
        obtain ⟨Y1, hY1⟩ : ∃ Z, Z = X1 ++ [46] := ⟨_, rfl⟩
        rw [← hY1] at hd2
        have HY1 := hid hY1
        have hlY1 : Y1.length ≤ 800 := by rw [hY1]; simp; omega
        obtain ⟨a2, c2, hv2⟩ := own_len hd2.own
        subst hv2
        clear h2 HD hY1
        have HD := hid hd2
        clear hd2

        go_wp2_with fail
        go_loopw [0, 240] (fun v0 iv wr2 => ∃ j : Nat, j ≤ z ∧ iv = .int .i64 (j : Int) ∧ Dst B b t (bs L) w wr2 v0 (Y1 ++ List.replicate j 48)) (fun _ iv _ => z - (intOf iv).toNat)
        case atStart => exact ⟨0, Nat.zero_le _, rfl, by simpa using HD.out⟩
        case round =>
          obtain ⟨j, hj, rfl, hd⟩ := hrel
          clear HD
          have HD := hid hd
          clear hd
          obtain ⟨a3, c3, hv3⟩ := own_len HD.out.own
          subst hv3
          by_cases hjn : j < z
          · have hlt2 : (j : Int) < (z : Int) := by omega
            have HN : Hid (List.replicate (j + 1) (48 : UInt8) = List.replicate j 48 ++ [48]) := List.replicate_succ'
            have hSl : (Y1 ++ List.replicate j (48 : UInt8)).length ≤ 1400 := by simp; omega
            generalize hY2 : Y1 ++ List.replicate j (48 : UInt8) = Y2 at *
            have HY2 := hid hY2
            clear hY2
            go_wp2_with (at_builtin; refine Hid.out ?_)
            refine hid ?_
            refine wpList_append_src (by rfl) _ _ 66 (by rfl) B Y2.length 1 _ _ (bs Y2) (bs [48]) (by rfl) (by rfl) (owns_alloc HD.out.own _) (srcOne _ 48) (by omega) (by rw [World.size_alloc]; have := HD.out.le; omega) ?_
            intro v2 w2 h2
            have hd2 := HD.out.app h2
            obtain ⟨Y3, hY3⟩ : ∃ Z, Z = Y2 ++ [48] := ⟨_, rfl⟩
            rw [← hY3] at hd2
            have HY3 := hid hY3
            have hlY3 : Y3.length ≤ 1700 := by rw [hY3]; simp; omega
            obtain ⟨a2, c2, hv2⟩ := own_len hd2.own
            subst hv2
            clear h2 HD hY3
            have HD := hid hd2
            clear hd2
            have HD2 : Hid (Dst B b t (bs L) w w2 (.slice a2 Y3.length c2) (Y1 ++ List.replicate (j + 1) 48)) := by
              unfold Hid; rw [HN.out, ← List.append_assoc, HY2.out, ← HY3.out]; exact HD.out
            clear HD
            go_wp2_with fail
            exact ⟨⟨j + 1, by omega, by first | rfl | (congr 1), HD2.out⟩, by simp [intOf]; omega⟩
          · obtain rfl : j = z := by omega
            have hlt2 : ¬ (j : Int) < (j : Int) := by omega
            generalize hY2 : Y1 ++ List.replicate j (48 : UInt8) = Y2 at *
            have hYl2 : Y2.length ≤ 1500 := by rw [← hY2]; simp; omega
            have HY2 := hid hY2
            clear hY2
            go_wp2_with fail
            go_loopw [0, 247] (fun v0 iv wr2 => ∃ i : Nat, i ≤ k ∧ iv = .int .i64 (i : Int) ∧ Dst B b t (bs L) w wr2 v0 (Y2 ++ (L.drop o).take i)) (fun _ iv _ => k - (intOf iv).toNat)
            case atStart => exact ⟨0, Nat.zero_le _, rfl, by simpa using HD.out⟩
            case round =>
              obtain ⟨i, hi, rfl, hd⟩ := hrel
              clear HD
              have HD := hid hd
              clear hd
              obtain ⟨a3, c3, hv3⟩ := own_len HD.out.own
              subst hv3
              by_cases him : i < k
              · have hlt2 : (i : Int) < (k : Int) := by omega
                have hiL : o + i < L.length := by rw [HL.out]; omega
                have hiD : i < (L.drop o).length := by rw [List.length_drop]; omega
                have hc := HD.out.blk.cell (o + i)
                rw [bs_at L (o + i) hiL] at hc
                have HN : Hid ((L.drop o).take (i + 1) = (L.drop o).take i ++ [L[o + i]]) := by
                  unfold Hid; rw [take_next (L.drop o) i hiD, List.getElem_drop]
                have hSl : (Y2 ++ (L.drop o).take i).length ≤ 1600 := by simp; omega
                have hoi : (o : Int) + (i : Int) = ((o + i : Nat) : Int) := by omega
                unfold bv at hc
                generalize L[o + i] = c at *
                have hoi32 : o + i < 32 := by omega
                generalize o + i = oi at *
                generalize hY4 : Y2 ++ (L.drop o).take i = Y4 at *
                have HY4 := hid hY4
                clear hY4
                go_wp2_with (at_builtin; refine Hid.out ?_)
                refine hid ?_
                refine wpList_append_src (by rfl) _ _ 66 (by rfl) B Y4.length 1 _ _ (bs Y4) (bs [c]) (by rfl) (by rfl) (owns_alloc HD.out.own _) (srcOne _ c) (by omega) (by rw [World.size_alloc]; have := HD.out.le; omega) ?_
                intro v2 w2 h2
                have hd2 := HD.out.app h2
                obtain ⟨Y3, hY3⟩ : ∃ Z, Z = Y4 ++ [c] := ⟨_, rfl⟩
                rw [← hY3] at hd2
                have HY3 := hid hY3
                have hlY3 : Y3.length ≤ 1700 := by rw [hY3]; simp; omega
                obtain ⟨a2, c2, hv2⟩ := own_len hd2.own
                subst hv2
                clear h2 HD hY3
                have HD := hid hd2
                clear hd2
                have HD2 : Hid (Dst B b t (bs L) w w2 (.slice a2 Y3.length c2) (Y2 ++ (L.drop o).take (i + 1))) := by
                  unfold Hid; rw [HN.out, ← List.append_assoc, HY4.out, ← HY3.out]; exact HD.out
                clear HD hoi
                go_wp2_with fail
                exact ⟨⟨i + 1, by omega, by first | rfl | (congr 1), HD2.out⟩, by simp [intOf]; omega⟩
              · obtain rfl : i = k := by omega
                have hlt2 : ¬ (i : Int) < (i : Int) := by omega
                generalize hY4 : Y2 ++ (L.drop o).take i = Y4 at *
                have hYl4 : Y4.length ≤ 1600 := by rw [← hY4]; simp; omega
                have HY4 := hid hY4
                clear hY4
                go_wp2_with fail
                go_loopw [0, 261] (fun v0 iv wr2 => iv = .int .i64 0 ∧ Dst B b t (bs L) w wr2 v0 Y4) (fun _ _ _ => 0)
                case atStart => exact ⟨rfl, HD.out⟩
                case round =>
                  obtain ⟨rfl, hd⟩ := hrel
                  clear HD
                  have HD := hid hd
                  clear hd
                  obtain ⟨a5, c5, hv5⟩ := own_len HD.out.own
                  subst hv5
                  go_wp2_with fail
                  go_ret
                  exact ⟨_, rfl, by rw [HG.out, HF.out, ← List.append_assoc, ← List.append_assoc, ← HY1.out, HY2.out, HY4.out]; exact HD.out⟩
end Go.Proofs.YtlepjghfcpgbcaaGreatDoor.Tr
