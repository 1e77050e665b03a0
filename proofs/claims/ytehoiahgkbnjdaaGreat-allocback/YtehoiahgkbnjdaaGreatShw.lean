
/- 'shown' answers true. -/
import Derived.Test.YtehoiahgkbnjdaaGreatSai
namespace Go.Proofs.YtehoiahgkbnjdaaGreat.Al
open Go.RowKit Go.Shelf Dk Wl

def mB (x : UInt8) : Sec := x :: List.replicate 127 0
theorem mB_length (x : UInt8) : (mB x).length = 128 := by simp [mB]
def S1 : SMap := [(17, mB 1), (23, zeros)]
def S2 : SMap := [(17, mB 3), (23, zeros), (24, zeros)]
def S3 : SMap := [(17, mB 2), (23, zeros), (24, zeros)]
theorem r1 : runB stepC 64 zeros 0 = (zeros, 41, false) := by decide +kernel
theorem r2 : runI stepC 64 node1 0 = (node1, 15, false) := by decide +kernel
theorem r3 : runB stepG 64 zeros 0 = (mB 1, ((23 : Nat) : Int), true) := by decide +kernel
theorem r4 : runB stepG 64 (mB 1) 0 = (mB 3, ((24 : Nat) : Int), true) := by decide +kernel
theorem r5 : brun stepT (lay 64).da 1 ((23 : Nat) : Int) (mB 3) false false = (mB 2, true, true) := by decide +kernel
theorem r6 : runB stepG 64 (mB 2) 0 = (mB 3, ((23 : Nat) : Int), true) := by decide +kernel
theorem r7 : runI stepG 64 node1 0 = (mB 3, ((1 : Nat) : Int), true) := by decide +kernel
theorem q1 : over [] (T0 64) (lay 64).mp = zeros ∧ over [] (T0 64) (lay 64).nd = node1 := by decide +kernel
theorem q3 : over S1 (T0 64) (lay 64).mp = mB 1 ∧ ins 23 zeros (ins (lay 64).mp (mB 1) []) = S1 ∧ cost (([] : SMap).length + 2) ≤ (lay 64).ll - 1 := by decide +kernel
theorem q4 : over S2 (T0 64) (lay 64).mp = mB 3 ∧ ins 24 zeros (ins (lay 64).mp (mB 3) S1) = S2 ∧ cost (S1.length + 2) ≤ (lay 64).ll - 1 := by decide +kernel
theorem q5 : over S3 (T0 64) (lay 64).mp = mB 2 ∧ ins (lay 64).mp (mB 2) S2 = S3 ∧ cost (S2.length + 1) ≤ (lay 64).ll - 1 := by decide +kernel
theorem q6 : over S2 (T0 64) (lay 64).nd = node1 ∧ ins 23 zeros (ins (lay 64).mp (mB 3) S3) = S2 ∧ cost (S3.length + 2) ≤ (lay 64).ll - 1 := by decide +kernel
theorem q7 : over (ins (lay 64).nd (mB 3) S2) (T0 64) ((lay 64).tb + 1 / 4) = zeros ∧ cost (S2.length + 2) ≤ (lay 64).ll - 1 := by decide +kernel
theorem lay64 : (lay 64).da = 23 ∧ (lay 64).no = 16 := by decide +kernel

set_option maxRecDepth 100000 in
set_option maxHeartbeats 4000000 in
theorem shown_al (G : Nat → Prop) (w : World) (hG : ∀ k, G k → k < w.heap.size) : Calls Tryz.prog 6 #[] w fun x w' => x = .returned (.bool true) ∧ Kp G w w' := by
  have HM := hid (made_al G w hG 64 (by omega) (by omega))
  have hl := hid lay64
  go_enter Tryz.func6, Tryz.ntmps6
  go_wp2_with fail
  refine HM.out.mono ?_
  rintro x w1 ⟨p, l, sp, bl, bt, D, L, rfl, o1, b1, hsp, k1, a1, t1⟩
  have HS : Hid (Spc (fun k => G k ∨ k = sp) w1 sp l (lay 64)) := ⟨b1, .inr rfl⟩
  have HO := hid o1
  have HA := hid a1
  have HT := hid t1
  have HK := hid k1
  have HC := hid (Blocks_ai o1 HS.out a1 (by omega) (by omega) zeros (by rw [t1]; exact q1.1) 41 zeros r1)
  clear HM o1 b1 hsp k1 a1 t1
  go_wp2_with fail
  refine HC.out.mono ?_
  rintro x w2 ⟨rfl, o2, k2⟩
  have HS2 := hid (HS.out.kp k2)
  have HK2 := hid (Kp.trans HK.out (Kp.less k2 (fun _ hk => .inl hk)))
  have HC2 := hid (Inodes_ai o2 HS2.out HA.out (by omega) (by omega) node1 (by rw [HT.out]; exact q1.2) 15 node1 r2)
  clear HC o2 k2 HS HK HO
  go_wp2_with fail
  refine HC2.out.mono ?_
  rintro x w3 ⟨rfl, o3, k3⟩
  have HS3 := hid (HS2.out.kp k3)
  have HK3 := hid (Kp.trans HK2.out (Kp.less k3 (fun _ hk => .inl hk)))
  obtain ⟨L3, c3, a3, t3⟩ := Block_ai o3 HS3.out HA.out (by omega) (by omega) zeros (by rw [HT.out]; exact q1.1) (mB 1) (mB_length 1) 23 (by rw [hl.out.1]; omega) (by omega) r3 (by rw [HT.out]; exact q3.2.2)
  rw [HT.out, q3.2.1] at t3
  have HC3 := hid c3
  have HA3 := hid a3
  have HT3 := hid t3
  clear HC2 o3 k3 HS2 HK2 HA HT c3 a3 t3
  go_wp2_with fail
  refine HC3.out.mono ?_
  rintro x w4 ⟨rfl, o4, k4⟩
  have HS4 := hid (HS3.out.kp k4)
  have HK4 := hid (Kp.trans HK3.out (Kp.less k4 (fun _ hk => .inl hk)))
  obtain ⟨L4, c4, a4, t4⟩ := Block_ai o4 HS4.out HA3.out (by omega) (by omega) (mB 1) (by rw [HT3.out]; exact q3.1) (mB 3) (mB_length 3) 24 (by rw [hl.out.1]; omega) (by omega) r4 (by rw [HT3.out]; exact q4.2.2)
  rw [HT3.out, q4.2.1] at t4
  have HC4 := hid c4
  have HA4 := hid a4
  have HT4 := hid t4
  clear HC3 o4 k4 HS3 HK3 HA3 HT3 c4 a4 t4
  go_wp2_with fail
  refine HC4.out.mono ?_
  rintro x w5 ⟨rfl, o5, k5⟩
  have HS5 := hid (HS4.out.kp k5)
  have HK5 := hid (Kp.trans HK4.out (Kp.less k5 (fun _ hk => .inl hk)))
  obtain ⟨L5, c5, a5, t5⟩ := Free_ai o5 HS5.out HA4.out (by omega) (by omega) 23 (by rw [hl.out.1]; omega) (by omega) (mB 3) (by rw [HT4.out]; exact q4.1) (mB 2) (mB_length 2) r5 (by rw [HT4.out]; exact q5.2.2)
  rw [HT4.out, q5.2.1] at t5
  have HC5 := hid c5
  have HA5 := hid a5
  have HT5 := hid t5
  clear HC4 o5 k5 HS4 HK4 HA4 HT4 c5 a5 t5
  go_wp2_with fail
  refine HC5.out.mono ?_
  rintro x w6 ⟨rfl, o6, k6⟩
  have HS6 := hid (HS5.out.kp k6)
  have HK6 := hid (Kp.trans HK5.out (Kp.less k6 (fun _ hk => .inl hk)))
  obtain ⟨L6, c6, a6, t6⟩ := Block_ai o6 HS6.out HA5.out (by omega) (by omega) (mB 2) (by rw [HT5.out]; exact q5.1) (mB 3) (mB_length 3) 23 (by rw [hl.out.1]; omega) (by omega) r6 (by rw [HT5.out]; exact q6.2.2)
  rw [HT5.out, q6.2.1] at t6
  have HC6 := hid c6
  have HA6 := hid a6
  have HT6 := hid t6
  clear HC5 o6 k6 HS5 HK5 HA5 HT5 c6 a6 t6
  go_wp2_with fail
  refine HC6.out.mono ?_
  rintro x w7 ⟨rfl, o7, k7⟩
  have HS7 := hid (HS6.out.kp k7)
  have HK7 := hid (Kp.trans HK6.out (Kp.less k7 (fun _ hk => .inl hk)))
  obtain ⟨L7, c7, a7, t7⟩ := Inode_ai o7 HS7.out HA6.out (by omega) (by omega) node1 (by rw [HT6.out]; exact q6.1) (mB 3) (mB_length 3) 1 (by omega) (by rw [hl.out.2]; omega) r7 (by rw [HT6.out]; exact q7.2) zeros zeros_length (by rw [HT6.out]; exact q7.1)
  have HC7 := hid c7
  clear HC6 o7 k7 HS6 HK6 HA6 HT6 c7 a7 t7
  go_wp2_with fail
  refine HC7.out.mono ?_
  rintro x w8 ⟨rfl, o8, k8⟩
  have HS8 := hid (HS7.out.kp k8)
  have HK8 := hid (Kp.trans HK7.out (Kp.less k8 (fun _ hk => .inl hk)))
  have HC8 := hid (FreeInode_none HS8.out (by omega) (by omega) 0 (.inl (by omega)))
  clear HC7 o8 k8 HS7 HK7
  go_wp2_with fail
  refine HC8.out.mono ?_
  rintro x w9 ⟨rfl, f9⟩
  have HK9 := hid (Kp.trans HK8.out f9.kp)
  clear HC8 f9 HS8 HK8
  go_wp2
  go_ret
  exact ⟨rfl, HK9.out⟩

end Go.Proofs.YtehoiahgkbnjdaaGreat.Al
