/- fmtEFG with an exponent, of no digit. (gen/genege.py) -/
import Derived.Test.YtlepjghfcpgbcaaGreatDoorEge
namespace Go.Proofs.YtlepjghfcpgbcaaGreatDoor.Tr
open Go.RowKit

set_option maxRecDepth 100000 in
set_option maxHeartbeats 8000000 in
theorem efg_e0 (w : World) (B b : Nat) (t : TypeId) (L : List UInt8) (v : Value) (S : List UInt8) (hD : Dst B b t (bs L) w w v S) (hL : L.length = 32) (hS : S.length ≤ 100) (neg : Bool) (dp : Int) (_h0 : -400 ≤ dp) (_h1 : dp ≤ 400) (nd : Nat) (_h2 : nd ≤ 20) (prec : Int) (hp : prec = ((nd - 1 : Nat) : Int)) (hnd : nd = 0) :
    Calls Tryz.prog 139 #[v, .bool neg, .slice (some ⟨b, 0, none⟩) 32 32, .int .i64 dp, .int .i64 (nd : Int), .int .i64 prec, .int .u8 101, .bool true] w fun e w' => ∃ v', e = .returned v' ∧ Dst B b t (bs L) w w' v' (S ++ eF neg L dp nd) := by
  have HD := hid hD
  have HL := hid hL
  subst hnd
  obtain rfl : prec = 0 := by omega
  have HH : Hid ((48 : UInt8) = eH L 0) := hid rfl
  have HM : Hid (eM L 0 = []) := hid rfl
  have HX5 : Hid ((0 : Int) = exX dp 0) := hid rfl
  clear hD hL hp
  obtain ⟨a0, c0, hv0⟩ := own_len HD.out.own
  subst hv0
  go_enter Tryz.func139, Tryz.ntmps139
  go_upto_if 78 with fail
  go_cut [0] (fun v0 wx => ∃ X, X = S ++ efSign neg ∧ Dst B b t (bs L) w wx v0 X)
  case first =>
    cases neg with
    | false =>
      go_wp2_with fail
      all_goals go_meet
      exact ⟨S, by simp [efSign], HD.out⟩
    | true =>
      go_wp2_with (at_builtin; refine Hid.out ?_)
      refine hid ?_
      refine wpList_append_src (by rfl) _ _ 66 (by rfl) B S.length 1 _ _ (bs S) (bs [45]) (by rfl) (by rfl) (owns_alloc HD.out.own _) (srcOne _ 45) (by omega) (by rw [World.size_alloc]; have := HD.out.le; omega) ?_
      intro v2 w2 h2
      have hd2 := HD.out.app h2
      obtain ⟨X3, hX3⟩ : ∃ Zq, Zq = S ++ [45] := ⟨_, rfl⟩
      rw [← hX3] at hd2
      have HX3 := hid hX3
      have hlX3 : X3.length ≤ 300 := by rw [hX3]; simp; omega
      obtain ⟨a2, c2, hv2⟩ := own_len hd2.own
      subst hv2
      clear h2 HD hX3
      have HD := hid hd2
      clear hd2
      go_wp2_with fail
      all_goals go_meet
      exact ⟨X3, by rw [HX3.out]; rfl, HD.out⟩
  case rest =>
    obtain ⟨X, hX, hd⟩ := hcut
    clear HD
    have HD := hid hd
    clear hd
    have hXl : X.length ≤ 110 := by rw [hX]; unfold efSign; cases neg <;> simp <;> omega
    have HX := hid hX
    clear hX
    obtain ⟨a1, c1, hv1⟩ := own_len HD.out.own
    subst hv1
    go_wp2_with (at_builtin; refine Hid.out ?_)
    refine hid ?_
    refine wpList_append_src (by rfl) _ _ 66 (by rfl) B X.length 1 _ _ (bs X) (bs [48]) (by rfl) (by rfl) (owns_alloc HD.out.own _) (srcOne _ 48) (by omega) (by rw [World.size_alloc]; have := HD.out.le; omega) ?_
    intro v2 w2 h2
    have hd2 := HD.out.app h2
    obtain ⟨X3, hX3⟩ : ∃ Zq, Zq = X ++ [48] := ⟨_, rfl⟩
    rw [← hX3] at hd2
    have HX3 := hid hX3
    have hlX3 : X3.length ≤ 300 := by rw [hX3]; simp; omega
    obtain ⟨a2, c2, hv2⟩ := own_len hd2.own
    subst hv2
    clear h2 HD hX3
    have HD := hid hd2
    clear hd2
    obtain ⟨Z, hZ⟩ : ∃ Z, Z = X3 := ⟨_, rfl⟩
    have HZ : Hid (Z = S ++ efSign neg ++ [eH L 0] ++ eM L 0) := by
      unfold Hid; rw [hZ, HM.out, HX3.out, HX.out, HH.out]; simp only [List.append_assoc, List.append_nil]
    rw [← hZ] at HD
    rw [← hZ]
    rw [← hZ] at hlX3
    clear hZ

    have hZl : Z.length ≤ 400 := by omega
    go_wp2_with (at_builtin; refine Hid.out ?_)
    refine hid ?_
    refine wpList_append_src (by rfl) _ _ 66 (by rfl) B Z.length 1 _ _ (bs Z) (bs [101]) (by rfl) (by rfl) (owns_alloc HD.out.own _) (srcOne _ 101) (by omega) (by rw [World.size_alloc]; have := HD.out.le; omega) ?_
    intro v2 w2 h2
    have hd2 := HD.out.app h2
    obtain ⟨Z1, hZ1⟩ : ∃ Zq, Zq = Z ++ [101] := ⟨_, rfl⟩
    rw [← hZ1] at hd2
    have HZ1 := hid hZ1
    have hlZ1 : Z1.length ≤ 410 := by rw [hZ1]; simp; omega
    obtain ⟨a2, c2, hv2⟩ := own_len hd2.own
    subst hv2
    clear h2 HD hZ1
    have HD := hid hd2
    clear hd2
    have HG : Hid ((43 : UInt8) = exS 0) := hid rfl
    go_wp2_with (at_builtin; refine Hid.out ?_)
    refine hid ?_
    refine wpList_append_src (by rfl) _ _ 66 (by rfl) B Z1.length 1 _ _ (bs Z1) (bs [43]) (by rfl) (by rfl) (owns_alloc HD.out.own _) (srcOne _ 43) (by omega) (by rw [World.size_alloc]; have := HD.out.le; omega) ?_
    intro v2 w2 h2
    have hd2 := HD.out.app h2
    obtain ⟨Z2, hZ2⟩ : ∃ Zq, Zq = Z1 ++ [43] := ⟨_, rfl⟩
    rw [← hZ2] at hd2
    have HZ2 := hid hZ2
    have hlZ2 : Z2.length ≤ 420 := by rw [hZ2]; simp; omega
    obtain ⟨a2, c2, hv2⟩ := own_len hd2.own
    subst hv2
    clear h2 HD hZ2
    have HD := hid hd2
    clear hd2
    have HE : Hid (S ++ eF neg L dp 0 = Z2 ++ exD 0) := by
      unfold Hid eF
      rw [HZ2.out, HZ1.out, HZ.out, HG.out, ← HX5.out]
      simp only [List.append_assoc]
      rfl
    have hD : Hid (exD 0 = [48, 48]) := hid rfl
    go_wp2_with (at_builtin; refine Hid.out ?_)
    refine hid ?_
    refine wpList_append_src (by rfl) _ _ 66 (by rfl) B Z2.length 2 _ _ (bs Z2) (bs [48, 48]) (by rfl) (by rfl) (owns_alloc HD.out.own _) (srcMany _ [48, 48]) (by omega) (by rw [World.size_alloc]; have := HD.out.le; omega) ?_
    intro v2 w2 h2
    have hd2 := HD.out.apps (c := [48, 48]) h2
    obtain ⟨Z3, hZ3⟩ : ∃ Zq, Zq = Z2 ++ [48, 48] := ⟨_, rfl⟩
    rw [← hZ3] at hd2
    have HZ3 := hid hZ3
    have hlZ3 : Z3.length ≤ 430 := by rw [hZ3]; simp; omega
    obtain ⟨a2, c2, hv2⟩ := own_len hd2.own
    subst hv2
    clear h2 HD hZ3
    have HD := hid hd2
    clear hd2
    go_wp2_with fail
    go_ret
    exact ⟨_, rfl, by rw [HE.out, hD.out, ← HZ3.out]; exact HD.out⟩

end Go.Proofs.YtlepjghfcpgbcaaGreatDoor.Tr
