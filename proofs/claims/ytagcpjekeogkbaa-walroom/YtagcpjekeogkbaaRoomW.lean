/- WalRoom: the walk. -/
import Derived.Test.YtagcpjekeogkbaaRoom
namespace Go.Proofs.Ytagcpjekeogkbaa.Wl
open Go.RowKit Dk

set_option maxRecDepth 100000 in
set_option maxHeartbeats 4000000 in
theorem room_walk (G : Nat → Prop) (w : World) (hG : ∀ k, G k → k < w.heap.size) (a c : Int) (h0 : -9223372036854775808 ≤ a) (h1 : a ≤ 9223372036854775807) (c0 : 0 ≤ c) (c1 : c ≤ 255) :
    Calls Try.prog 7 #[.int .i64 a, .int .u8 c] w fun x w' => x = .returned (.bool true) ∧ Kp G w w' := by
  have HSh := hid (shown_any G w hG)
  have HMd := hid (fun W (hW : ∀ k, G k → k < W.heap.size) => made_any G W hW a h0 h1)
  have hlt : smallN a 12 < 12 := Nat.mod_lt _ (by omega)
  have Hfull := fun (W : World) (x : Int) (hx0 : 0 ≤ x) (hx1 : x ≤ 255) => hid (full_any W x hx0 hx1)
  obtain ⟨n, hn⟩ : ∃ n, 4 + smallN a 12 = n := ⟨_, rfl⟩
  have hn4 : 4 ≤ n := by omega
  have hn15 : n ≤ 15 := by omega
  rw [hn] at HMd
  have HFm := hid (made_facts n)
  obtain ⟨c2, hc2⟩ : ∃ c2 : Int, IntKind.u8.wrap (c + 1) = c2 := ⟨_, rfl⟩
  have hc20 : 0 ≤ c2 ∧ c2 ≤ 255 := by rw [← hc2]; simp [IntKind.wrap, IntKind.bits, IntKind.signed]; omega
  have HHG := hid hG
  clear hn hlt hG
  go_enter Try.func7, Try.ntmps7
  go_wp2_with fail
  refine HSh.out.mono ?_
  rintro x w1 ⟨rfl, k1⟩
  have HMd2 := hid (HMd.out w1 (fun k hk => Nat.lt_of_lt_of_le (HHG.out k hk) k1.size))
  have HK1 := hid k1
  clear HSh HMd k1
  go_wp2_with fail
  refine HMd2.out.mono ?_
  rintro x w2 ⟨p, l, bl, bt, rfl, o2, k2⟩
  have HK2 := hid (Kp.trans HK1.out k2)
  have HO2 : Hid (OwnL G w2 l p bl bt (fmtD (Dsk.new (n + 24)) 0) (rmL n 0 (fullB c))) := o2
  have HLn := hid (len_any o2.r)
  clear HMd2 o2 k2 HK1
  generalize fmtD (Dsk.new (n + 24)) 0 = D at *
  have HLn' : Hid (Calls Try.prog 29 #[pv l] w2 fun e w' => e = .returned (.int .i64 ((n - 1 : Nat) : Int)) ∧ Nw w2 w') := HLn
  clear HLn
  go_wp2_with fail
  refine HLn'.out.mono ?_
  rintro x w3 ⟨rfl, f3⟩
  have HO3 := hid (HO2.out.nw f3)
  have HK3 : Hid (Kp G w w3) := Kp.trans HK2.out f3.kp
  clear HLn' HO2 HK2 f3
  have hm1 : IntKind.i64.wrap (((n - 1 : Nat) : Int) - 1) = ((n - 2 : Nat) : Int) := by simp [IntKind.wrap, IntKind.bits, IntKind.signed]; omega
  go_wp2_with fail
  clear hm1
  go_loopw [9] (fun i wr => ∃ k, k ≤ n - 2 ∧ i = .int .i64 (k : Int) ∧ OwnL G wr l p bl bt D (rmL n k (fullB c)) ∧ Kp G w wr) (fun i _ => n - 2 - (intOf i).toNat)
  case atStart => exact ⟨0, Nat.zero_le _, rfl, HO3.out, HK3.out⟩
  case round =>
    obtain ⟨k, hk, rfl, ho, hkp⟩ := hrel
    have HO := hid ho
    have HK := hid hkp
    clear ho hkp HO3 HK3
    by_cases hlt : k < n - 2
    · have hk1 : (k : Int) < ((n - 2 : Nat) : Int) := by omega
      have hs := rm_stage n k (fullB c) (full_len c) hn4 hn15 hlt
      have HSt := hid (stage_any (HO.out.alloc (.cells (bs (fullB c)).toArray 5)) ((n + k : Nat) : Int) (fullB c) (some ⟨wr.heap.size, 0, none⟩) 128 (fun _ => ⟨wr.heap.size, 0, rfl, (Blk.new wr 5 (bs (fullB c))).range 0 _ (by simp), by simp⟩) (by show (stK n k (fullB c)).length < 90000; rw [stK_length]; omega))
      rw [full_len, hs.1, hs.2, show ((n + k : Nat) : Int) = (n : Int) + (k : Int) by omega] at HSt
      have HK2 : Hid (Kp G w (wr.alloc (.cells (bs (fullB c)).toArray 5))) := Kp.trans HK.out (show Kp G _ _ from (Fr.refl _ _).alloc _)
      clear hs HO HK
      go_wp2_with fail
      refine (Hfull wr c c0 c1).out.mono ?_
      rintro x w4 ⟨rfl, rfl⟩
      go_wp2_with fail
      refine HSt.out.mono ?_
      rintro x w5 ⟨rfl, o5, k5⟩
      have HO5 := hid o5
      have HK5 := hid (Kp.trans HK2.out k5)
      clear HSt o5 k5 HK2
      go_wp2
      exact ⟨⟨k + 1, by omega, by simp, HO5.out, HK5.out⟩, by simp [intOf]; omega⟩
    · obtain rfl : k = n - 2 := by omega
      have hk1 : ¬ ((n - 2 : Nat) : Int) < ((n - 2 : Nat) : Int) := by omega
      have hs := rm_more n (fullB c) (full_len c) hn4 hn15
      have HSt := hid (stage_any (HO.out.alloc (.cells (bs (fullB c)).toArray 5)) ((n + (n - 2) : Nat) : Int) (fullB c) (some ⟨wr.heap.size, 0, none⟩) 128 (fun _ => ⟨wr.heap.size, 0, rfl, (Blk.new wr 5 (bs (fullB c))).range 0 _ (by simp), by simp⟩) (by show (stK n (n - 2) (fullB c)).length < 90000; rw [stK_length]; omega))
      rw [full_len, hs.1, hs.2, show ((n + (n - 2) : Nat) : Int) = (n : Int) + ((n - 2 : Nat) : Int) by omega] at HSt
      have HK2 : Hid (Kp G w (wr.alloc (.cells (bs (fullB c)).toArray 5))) := Kp.trans HK.out (show Kp G _ _ from (Fr.refl _ _).alloc _)
      clear hs HO HK
      go_wp2_with fail
      refine (Hfull wr c c0 c1).out.mono ?_
      rintro x w4 ⟨rfl, rfl⟩
      go_wp2_with fail
      refine HSt.out.mono ?_
      rintro x w5 ⟨rfl, o5, k5⟩
      have hs2 := rm_same n (fullB c) (fullB c2) (full_len c2) hn4 hn15
      have HSt2 := hid (stage_any (o5.alloc (.cells (bs (fullB c2)).toArray 5)) (n : Int) (fullB c2) (some ⟨w5.heap.size, 0, none⟩) 128 (fun _ => ⟨w5.heap.size, 0, rfl, (Blk.new w5 5 (bs (fullB c2))).range 0 _ (by simp), by simp⟩) (by show (stK n (n - 2) (fullB c)).length < 90000; rw [stK_length]; omega))
      rw [full_len, hs2.1, hs2.2] at HSt2
      have HK5 : Hid (Kp G w (w5.alloc (.cells (bs (fullB c2)).toArray 5))) := Kp.trans (Kp.trans HK2.out k5) (show Kp G _ _ from (Fr.refl _ _).alloc _)
      clear HSt o5 k5 HK2 hs2
      go_wp2_with fail
      refine (Hfull w5 c2 hc20.1 hc20.2).out.mono ?_
      rintro x w6 ⟨rfl, rfl⟩
      go_wp2_with fail
      refine HSt2.out.mono ?_
      rintro x w7 ⟨rfl, o7, k7⟩
      have hcm := rm_com (fullB c) (fullB c2) (full_len c) (full_len c2) hn4 hn15 HFm.out o7.r.ok
      have HCo := hid (Commit_any o7 (HFm.out.sm.le (by omega)) (by simp [rmL2, Lg.new]) (by show (rmS n (fullB c) (fullB c2)).length < 1024; rw [rmS_len _ _ _ hn4]; omega) (by show cost (rmS n (fullB c) (fullB c2)).length ≤ n - 1; rw [rmS_len _ _ _ hn4]; unfold cost; omega))
      rw [hcm.1] at HCo
      have HRm := hid hcm.2
      have HK7 := hid (Kp.trans HK5.out k7)
      clear HSt2 o7 k7 HK5 hcm
      generalize CommitD D (rmL2 n (fullB c) (fullB c2)) = D2 at *
      generalize CommitL D (rmL2 n (fullB c) (fullB c2)) = L2 at *
      go_wp2_with fail
      refine HCo.out.mono ?_
      rintro x w8 ⟨rfl, ⟨bl8, bt8, o8⟩, k8⟩
      have HRd := hid (Read_ok o8 n (by have := HRm.out.rc 0 (by omega); simpa using this) HRm.out.calm.up)
      rw [HRm.out.t0] at HRd
      have HO8 := hid o8
      have HK8 := hid (Kp.trans HK7.out k8)
      clear HCo o8 k8 HK7
      go_wp2_with fail
      refine HRd.out.mono ?_
      rintro x w9 ⟨gx, tx, rfl, bx, hgx, f9⟩
      have HBx := hid bx
      have HO9 := hid (HO8.out.nw f9)
      have HK9 : Hid (Kp G w w9) := Kp.trans HK8.out f9.kp
      have HRd2 := hid (Read_ok HO9.out (n + (n - 2)) (HRm.out.rc (n - 2) (by omega)) HRm.out.calm.up)
      rw [HRm.out.t1, show ((n + (n - 2) : Nat) : Int) = (n : Int) + ((n - 2 : Nat) : Int) by omega] at HRd2
      clear HRd bx f9 HO8 HK8
      go_wp2_with fail
      refine HRd2.out.mono ?_
      rintro x w10 ⟨gy, ty, rfl, by10, hgy, f10⟩
      have HBy := hid by10.drew
      have HBx2 := hid (Fr.blk f10 HBx.out id).drew
      have HO10 := hid (HO9.out.nw f10).drew
      have HK10 : Hid (Kp G w w10.drew) := Kp.trans HK9.out (show Kp G _ _ from f10.kp.drew)
      clear HRd2 by10 f10 HO9 HK9 HBx
      go_wp2_with fail
      have HUs := hid (used_any HO10.out.r)
      rw [HRm.out.u] at HUs
      have HLn := hid (len_any HO10.out.r)
      rw [HRm.out.ln] at HLn
      have cX := conv_blk (fullB c2) HBx2.out 128 128 (full_len c2)
      have cY := conv_blk zeros HBy.out 128 128 zeros_length
      have HHold : Hid (∀ w', Nw w10.drew w' → (convert 38 9 (.slice (some ⟨gx, 0, none⟩) 128 128)).run Try.prog w' = .ok (.string (strB (fullB c2))) w' ∧ (convert 38 9 (.slice (some ⟨gy, 0, none⟩) 128 128)).run Try.prog w' = .ok (.string (strB zeros)) w') := fun w' f => ⟨conv_blk (fullB c2) (Fr.blk f HBx2.out id) 128 128 (full_len c2), conv_blk zeros (Fr.blk f HBy.out id) 128 128 zeros_length⟩
      have HF0 := fun W => Hfull W 0 (by omega) (by omega)
      have HF1 := fun W => Hfull W c2 hc20.1 hc20.2
      rw [full0] at HF0
      have hcn0 : ∀ W : World, (convert 38 9 (.slice (some ⟨W.heap.size, 0, none⟩) 128 128)).run Try.prog (W.alloc (.cells (bs zeros).toArray 5)) = .ok (.string (strB zeros)) (W.alloc (.cells (bs zeros).toArray 5)) := fun W => conv_blk zeros (Blk.new W 5 (bs zeros)) 128 128 zeros_length
      have hcn1 : ∀ W : World, (convert 38 9 (.slice (some ⟨W.heap.size, 0, none⟩) 128 128)).run Try.prog (W.alloc (.cells (bs (fullB c2)).toArray 5)) = .ok (.string (strB (fullB c2))) (W.alloc (.cells (bs (fullB c2)).toArray 5)) := fun W => conv_blk (fullB c2) (Blk.new W 5 (bs (fullB c2))) 128 128 (full_len c2)
      clear HBx2 HBy HO10 HRm Hfull HFm
      generalize strB zeros = S0 at *
      generalize strB (fullB c2) = S1 at *
      generalize bs zeros = Z0 at *
      generalize bs (fullB c2) = Z1 at *
      have hcn2 : ∀ W : World, (convert 38 9 (.slice (some ⟨W.heap.size + 1, 0, none⟩) 128 128)).run Try.prog ((W.alloc (.cells Z1.toArray 5)).alloc (.cells Z0.toArray 5)) = .ok (.string S0) ((W.alloc (.cells Z1.toArray 5)).alloc (.cells Z0.toArray 5)) := fun W => by
        have := hcn0 (W.alloc (.cells Z1.toArray 5))
        rwa [World.size_alloc] at this
      refine wp_region_noPanic ?_
      refine wp_region_held_drew (S := fun w' => (convert 38 9 (.slice (some ⟨gx, 0, none⟩) 128 128)).run Try.prog w' = .ok (.string S1) w' ∧ (convert 38 9 (.slice (some ⟨gy, 0, none⟩) 128 128)).run Try.prog w' = .ok (.string S0) w') (by kernel_rfl) ⟨cX, cY⟩ (fun hHeld => ?_)
      refine takeH (i := 0) (d := some 75) (.int .i64 45) rfl (by kernel_rfl) (by kernel_rfl) (by kernel_rfl) (fun _ _ _ _ h => h) ⟨cX, cY⟩ (fun o ho => by cases ho; exact .inl ⟨by rfl, fun w hSw => by (obtain ⟨hs1, hs2⟩ := hSw; go_simp)⟩) ?_
      simp only [Act.put, List.setIfInBounds_toArray, List.set_cons_zero, List.set_cons_succ]
      refine takeH (i := 1) (d := some 76) (.bool true) rfl (by kernel_rfl) (by kernel_rfl) (by kernel_rfl) (fun _ _ _ _ h => h) ⟨cX, cY⟩ (fun o ho => by cases ho; exact .inl ⟨by rfl, fun w hSw => by (obtain ⟨hs1, hs2⟩ := hSw; go_simp)⟩) ?_
      simp only [Act.put, List.setIfInBounds_toArray, List.set_cons_zero, List.set_cons_succ]
      refine takeH (i := 2) (d := some 77) (.bool true) rfl (by kernel_rfl) (by kernel_rfl) (by kernel_rfl) (fun _ _ _ _ h => h) ⟨cX, cY⟩ (fun o ho => by cases ho; exact .inl ⟨by rfl, fun w hSw => by (obtain ⟨hs1, hs2⟩ := hSw; go_simp)⟩) ?_
      simp only [Act.put, List.setIfInBounds_toArray, List.set_cons_zero, List.set_cons_succ]
      refine takeH (i := 3) (d := some 78) (.int .i64 0) rfl (by kernel_rfl) (by kernel_rfl) (by kernel_rfl) (fun _ _ _ _ h => h) ⟨cX, cY⟩ (fun o ho => by cases ho; exact .inl ⟨by rfl, fun w hSw => by (obtain ⟨hs1, hs2⟩ := hSw; go_simp)⟩) ?_
      simp only [Act.put, List.setIfInBounds_toArray, List.set_cons_zero, List.set_cons_succ]
      refine takeH (i := 4) (d := some 79) (.bool true) rfl (by kernel_rfl) (by kernel_rfl) (by kernel_rfl) (fun _ _ _ _ h => h) ⟨cX, cY⟩ (fun o ho => by cases ho; exact .inl ⟨by rfl, fun w hSw => by (obtain ⟨hs1, hs2⟩ := hSw; go_simp)⟩) ?_
      simp only [Act.put, List.setIfInBounds_toArray, List.set_cons_zero, List.set_cons_succ]
      refine takeH (i := 5) (d := some 80) (.bool true) rfl (by kernel_rfl) (by kernel_rfl) (by kernel_rfl) (fun _ _ _ _ h => h) ⟨cX, cY⟩ (fun o ho => by cases ho; exact .inl ⟨by rfl, fun w hSw => by (obtain ⟨hs1, hs2⟩ := hSw; go_simp)⟩) ?_
      simp only [Act.put, List.setIfInBounds_toArray, List.set_cons_zero, List.set_cons_succ]
      refine takeH (i := 6) (d := some 81) (.bool true) rfl (by kernel_rfl) (by kernel_rfl) (by kernel_rfl) (fun _ _ _ _ h => h) ⟨cX, cY⟩ (fun o ho => by cases ho; exact .inl ⟨by rfl, fun w hSw => by (obtain ⟨hs1, hs2⟩ := hSw; go_simp)⟩) ?_
      simp only [Act.put, List.setIfInBounds_toArray, List.set_cons_zero, List.set_cons_succ]
      refine takeH (i := 7) (d := some 82) (.int .i64 0) rfl (by kernel_rfl) (by kernel_rfl) (by kernel_rfl) (fun _ _ _ _ h => h) ⟨cX, cY⟩ (fun o ho => by cases ho; exact .inl ⟨by rfl, fun w hSw => by (obtain ⟨hs1, hs2⟩ := hSw; go_simp)⟩) ?_
      simp only [Act.put, List.setIfInBounds_toArray, List.set_cons_zero, List.set_cons_succ]
      refine takeH (i := 8) (d := some 83) (.bool true) rfl (by kernel_rfl) (by kernel_rfl) (by kernel_rfl) (fun _ _ _ _ h => h) ⟨cX, cY⟩ (fun o ho => by cases ho; exact .inl ⟨by rfl, fun w hSw => by (obtain ⟨hs1, hs2⟩ := hSw; go_simp)⟩) ?_
      simp only [Act.put, List.setIfInBounds_toArray, List.set_cons_zero, List.set_cons_succ]
      refine takeH (i := 9) (d := some 84) (.bool true) rfl (by kernel_rfl) (by kernel_rfl) (by kernel_rfl) (fun _ _ _ _ h => h) ⟨cX, cY⟩ (fun o ho => by cases ho; exact .inl ⟨by rfl, fun w hSw => by (obtain ⟨hs1, hs2⟩ := hSw; go_simp)⟩) ?_
      simp only [Act.put, List.setIfInBounds_toArray, List.set_cons_zero, List.set_cons_succ]
      refine takeH (i := 10) (d := some 85) (.bool true) rfl (by kernel_rfl) (by kernel_rfl) (by kernel_rfl) (fun _ _ _ _ h => h) ⟨cX, cY⟩ (fun o ho => by cases ho; exact .inl ⟨by rfl, fun w hSw => by (obtain ⟨hs1, hs2⟩ := hSw; go_simp)⟩) ?_
      simp only [Act.put, List.setIfInBounds_toArray, List.set_cons_zero, List.set_cons_succ]
      refine takeH (i := 11) (d := some 86) (pv l) rfl (by kernel_rfl) (by kernel_rfl) (by kernel_rfl) (fun _ _ _ _ h => h) ⟨cX, cY⟩ (fun o ho => by cases ho; exact .inl ⟨by rfl, fun w hSw => by (obtain ⟨hs1, hs2⟩ := hSw; go_simp)⟩) ?_
      simp only [Act.put, List.setIfInBounds_toArray, List.set_cons_zero, List.set_cons_succ]
      refine takeH (i := 13) (d := some 88) (pv l) rfl (by kernel_rfl) (by kernel_rfl) (by kernel_rfl) (fun _ _ _ _ h => h) ⟨cX, cY⟩ (fun o ho => by cases ho; exact .inl ⟨by rfl, fun w hSw => by (obtain ⟨hs1, hs2⟩ := hSw; go_simp)⟩) ?_
      simp only [Act.put, List.setIfInBounds_toArray, List.set_cons_zero, List.set_cons_succ]
      refine oneH (i := 12) (by kernel_rfl) (fun o ho K' hK => ?_) (by decide)
      cases ho
      rw [if_pos (by rfl)]
      go_simp
      refine HUs.out.mono ?_
      rintro x w12 ⟨rfl, rfl⟩
      refine hK.out _ _ ⟨cX, cY⟩ ?_
      clear hK K'
      try simp only [Act.put, List.setIfInBounds_toArray, List.set_cons_zero, List.set_cons_succ]
      refine oneH (i := 14) (by kernel_rfl) (fun o ho K' hK => ?_) (by decide)
      cases ho
      rw [if_pos (by rfl)]
      go_simp
      refine HLn.out.mono ?_
      rintro x w13 ⟨rfl, f13⟩
      have h13a := (HHold.out w13 f13).1
      have h13b := (HHold.out w13 f13).2
      have h14a := (HHold.out _ (Fr.alloc f13 (.cells Z1.toArray 5))).1
      have h14b := (HHold.out _ (Fr.alloc f13 (.cells Z1.toArray 5))).2
      have h15a := (HHold.out _ (Fr.alloc (Fr.alloc f13 (.cells Z1.toArray 5)) (.cells Z0.toArray 5))).1
      have h15b := (HHold.out _ (Fr.alloc (Fr.alloc f13 (.cells Z1.toArray 5)) (.cells Z0.toArray 5))).2
      have hn0 := hcn1 w13
      have hn2 := hcn2 w13
      have HF13 := hid f13
      have HFa := HF1 w13
      have HFb := HF0 (w13.alloc (.cells Z1.toArray 5))
      clear f13 hcn0 hcn1 hcn2 HF0 HF1 HHold HLn
      refine hK.out _ _ ⟨h13a, h13b⟩ ?_
      clear hK K'
      try simp only [Act.put, List.setIfInBounds_toArray, List.set_cons_zero, List.set_cons_succ]
      refine takeH (i := 15) (d := some 90) (.bool true) rfl (by kernel_rfl) (by kernel_rfl) (by kernel_rfl) (fun _ _ _ _ h => h) ⟨h13a, h13b⟩ (fun o ho => by cases ho; exact .inl ⟨by rfl, fun w hSw => by (obtain ⟨hs1, hs2⟩ := hSw; go_simp)⟩) ?_
      simp only [Act.put, List.setIfInBounds_toArray, List.set_cons_zero, List.set_cons_succ]
      refine takeH (i := 16) (d := some 91) (.bool true) rfl (by kernel_rfl) (by kernel_rfl) (by kernel_rfl) (fun _ _ _ _ h => h) ⟨h13a, h13b⟩ (fun o ho => by cases ho; exact .inl ⟨by rfl, fun w hSw => by (obtain ⟨hs1, hs2⟩ := hSw; go_simp)⟩) ?_
      simp only [Act.put, List.setIfInBounds_toArray, List.set_cons_zero, List.set_cons_succ]
      refine takeH (i := 17) (d := some 92) (.bool true) rfl (by kernel_rfl) (by kernel_rfl) (by kernel_rfl) (fun _ _ _ _ h => h) ⟨h13a, h13b⟩ (fun o ho => by cases ho; exact .inl ⟨by rfl, fun w hSw => by (obtain ⟨hs1, hs2⟩ := hSw; go_simp)⟩) ?_
      simp only [Act.put, List.setIfInBounds_toArray, List.set_cons_zero, List.set_cons_succ]
      refine takeH (i := 18) (d := some 93) (.int .i64 0) rfl (by kernel_rfl) (by kernel_rfl) (by kernel_rfl) (fun _ _ _ _ h => h) ⟨h13a, h13b⟩ (fun o ho => by cases ho; exact .inl ⟨by rfl, fun w hSw => by (obtain ⟨hs1, hs2⟩ := hSw; go_simp)⟩) ?_
      simp only [Act.put, List.setIfInBounds_toArray, List.set_cons_zero, List.set_cons_succ]
      refine takeH (i := 19) (d := some 94) (.bool true) rfl (by kernel_rfl) (by kernel_rfl) (by kernel_rfl) (fun _ _ _ _ h => h) ⟨h13a, h13b⟩ (fun o ho => by cases ho; exact .inl ⟨by rfl, fun w hSw => by (obtain ⟨hs1, hs2⟩ := hSw; go_simp)⟩) ?_
      simp only [Act.put, List.setIfInBounds_toArray, List.set_cons_zero, List.set_cons_succ]
      refine takeH (i := 20) (d := some 95) (.bool true) rfl (by kernel_rfl) (by kernel_rfl) (by kernel_rfl) (fun _ _ _ _ h => h) ⟨h13a, h13b⟩ (fun o ho => by cases ho; exact .inl ⟨by rfl, fun w hSw => by (obtain ⟨hs1, hs2⟩ := hSw; go_simp)⟩) ?_
      simp only [Act.put, List.setIfInBounds_toArray, List.set_cons_zero, List.set_cons_succ]
      refine takeH (i := 21) (d := some 96) (.bool true) rfl (by kernel_rfl) (by kernel_rfl) (by kernel_rfl) (fun _ _ _ _ h => h) ⟨h13a, h13b⟩ (fun o ho => by cases ho; exact .inl ⟨by rfl, fun w hSw => by (obtain ⟨hs1, hs2⟩ := hSw; go_simp)⟩) ?_
      simp only [Act.put, List.setIfInBounds_toArray, List.set_cons_zero, List.set_cons_succ]
      refine takeH (i := 22) (d := some 97) (.int .i64 0) rfl (by kernel_rfl) (by kernel_rfl) (by kernel_rfl) (fun _ _ _ _ h => h) ⟨h13a, h13b⟩ (fun o ho => by cases ho; exact .inl ⟨by rfl, fun w hSw => by (obtain ⟨hs1, hs2⟩ := hSw; go_simp)⟩) ?_
      simp only [Act.put, List.setIfInBounds_toArray, List.set_cons_zero, List.set_cons_succ]
      refine takeH (i := 23) (d := some 98) (.bool true) rfl (by kernel_rfl) (by kernel_rfl) (by kernel_rfl) (fun _ _ _ _ h => h) ⟨h13a, h13b⟩ (fun o ho => by cases ho; exact .inl ⟨by rfl, fun w hSw => by (obtain ⟨hs1, hs2⟩ := hSw; go_simp)⟩) ?_
      simp only [Act.put, List.setIfInBounds_toArray, List.set_cons_zero, List.set_cons_succ]
      refine takeH (i := 24) (d := some 99) (.bool true) rfl (by kernel_rfl) (by kernel_rfl) (by kernel_rfl) (fun _ _ _ _ h => h) ⟨h13a, h13b⟩ (fun o ho => by cases ho; exact .inl ⟨by rfl, fun w hSw => by (obtain ⟨hs1, hs2⟩ := hSw; go_simp)⟩) ?_
      simp only [Act.put, List.setIfInBounds_toArray, List.set_cons_zero, List.set_cons_succ]
      refine takeH (i := 25) (d := some 100) (.bool true) rfl (by kernel_rfl) (by kernel_rfl) (by kernel_rfl) (fun _ _ _ _ h => h) ⟨h13a, h13b⟩ (fun o ho => by cases ho; exact .inl ⟨by rfl, fun w hSw => by (obtain ⟨hs1, hs2⟩ := hSw; go_simp)⟩) ?_
      simp only [Act.put, List.setIfInBounds_toArray, List.set_cons_zero, List.set_cons_succ]
      refine takeH (i := 26) (d := some 101) (.slice (some ⟨gx, 0, none⟩) 128 128) rfl (by kernel_rfl) (by kernel_rfl) (by kernel_rfl) (fun _ _ _ _ h => h) ⟨h13a, h13b⟩ (fun o ho => by cases ho; exact .inl ⟨by rfl, fun w hSw => by (obtain ⟨hs1, hs2⟩ := hSw; go_simp)⟩) ?_
      simp only [Act.put, List.setIfInBounds_toArray, List.set_cons_zero, List.set_cons_succ]
      refine takeH (i := 27) (d := some 102) (.string S1) rfl (by kernel_rfl) (by kernel_rfl) (by kernel_rfl) (fun _ _ _ _ h => h) ⟨h13a, h13b⟩ (fun o ho => by cases ho; exact .inl ⟨by rfl, fun w hSw => by (obtain ⟨hs1, hs2⟩ := hSw; go_simp)⟩) ?_
      simp only [Act.put, List.setIfInBounds_toArray, List.set_cons_zero, List.set_cons_succ]
      refine takeH (i := 28) (d := some 103) (.int .u8 c) rfl (by kernel_rfl) (by kernel_rfl) (by kernel_rfl) (fun _ _ _ _ h => h) ⟨h13a, h13b⟩ (fun o ho => by cases ho; exact .inl ⟨by rfl, fun w hSw => by (obtain ⟨hs1, hs2⟩ := hSw; go_simp)⟩) ?_
      simp only [Act.put, List.setIfInBounds_toArray, List.set_cons_zero, List.set_cons_succ]
      refine takeH (i := 29) (d := some 104) (.int .u8 c2) rfl (by kernel_rfl) (by kernel_rfl) (by kernel_rfl) (fun _ _ _ _ h => h) ⟨h13a, h13b⟩ (fun o ho => by cases ho; exact .inl ⟨by rfl, fun w hSw => by (obtain ⟨hs1, hs2⟩ := hSw; go_simp)⟩) ?_
      simp only [Act.put, List.setIfInBounds_toArray, List.set_cons_zero, List.set_cons_succ]
      refine oneH (i := 30) (by kernel_rfl) (fun o ho K' hK => ?_) (by decide)
      cases ho
      rw [if_pos (by rfl)]
      go_simp
      refine HFa.out.mono ?_
      rintro x w14 ⟨rfl, rfl⟩
      refine hK.out _ _ ⟨h14a, h14b⟩ ?_
      clear hK K'
      try simp only [Act.put, List.setIfInBounds_toArray, List.set_cons_zero, List.set_cons_succ]
      refine oneH (i := 31) (by kernel_rfl) (fun o ho K' hK => ?_) (by decide)
      cases ho
      rw [if_pos (by rfl)]
      go_simp
      refine hK.out _ _ ⟨h14a, h14b⟩ ?_
      clear hK K'
      try simp only [Act.put, List.setIfInBounds_toArray, List.set_cons_zero, List.set_cons_succ]
      refine takeH (i := 32) (d := some 107) (.bool true) rfl (by kernel_rfl) (by kernel_rfl) (by kernel_rfl) (fun _ _ _ _ h => h) ⟨h14a, h14b⟩ (fun o ho => by cases ho; exact .inl ⟨by rfl, fun w hSw => by (obtain ⟨hs1, hs2⟩ := hSw; go_simp)⟩) ?_
      simp only [Act.put, List.setIfInBounds_toArray, List.set_cons_zero, List.set_cons_succ]
      refine takeH (i := 33) (d := some 108) (.bool true) rfl (by kernel_rfl) (by kernel_rfl) (by kernel_rfl) (fun _ _ _ _ h => h) ⟨h14a, h14b⟩ (fun o ho => by cases ho; exact .inl ⟨by rfl, fun w hSw => by (obtain ⟨hs1, hs2⟩ := hSw; go_simp)⟩) ?_
      simp only [Act.put, List.setIfInBounds_toArray, List.set_cons_zero, List.set_cons_succ]
      refine takeH (i := 34) (d := some 109) (.bool true) rfl (by kernel_rfl) (by kernel_rfl) (by kernel_rfl) (fun _ _ _ _ h => h) ⟨h14a, h14b⟩ (fun o ho => by cases ho; exact .inl ⟨by rfl, fun w hSw => by (obtain ⟨hs1, hs2⟩ := hSw; go_simp)⟩) ?_
      simp only [Act.put, List.setIfInBounds_toArray, List.set_cons_zero, List.set_cons_succ]
      refine takeH (i := 35) (d := some 110) (.slice (some ⟨gy, 0, none⟩) 128 128) rfl (by kernel_rfl) (by kernel_rfl) (by kernel_rfl) (fun _ _ _ _ h => h) ⟨h14a, h14b⟩ (fun o ho => by cases ho; exact .inl ⟨by rfl, fun w hSw => by (obtain ⟨hs1, hs2⟩ := hSw; go_simp)⟩) ?_
      simp only [Act.put, List.setIfInBounds_toArray, List.set_cons_zero, List.set_cons_succ]
      refine takeH (i := 36) (d := some 111) (.string S0) rfl (by kernel_rfl) (by kernel_rfl) (by kernel_rfl) (fun _ _ _ _ h => h) ⟨h14a, h14b⟩ (fun o ho => by cases ho; exact .inl ⟨by rfl, fun w hSw => by (obtain ⟨hs1, hs2⟩ := hSw; go_simp)⟩) ?_
      simp only [Act.put, List.setIfInBounds_toArray, List.set_cons_zero, List.set_cons_succ]
      refine oneH (i := 37) (by kernel_rfl) (fun o ho K' hK => ?_) (by decide)
      cases ho
      rw [if_pos (by rfl)]
      go_simp
      refine HFb.out.mono ?_
      rintro x w15 ⟨rfl, rfl⟩
      refine hK.out _ _ ⟨h15a, h15b⟩ ?_
      clear hK K'
      try simp only [Act.put, List.setIfInBounds_toArray, List.set_cons_zero, List.set_cons_succ]
      refine oneH (i := 38) (by kernel_rfl) (fun o ho K' hK => ?_) (by decide)
      cases ho
      rw [if_pos (by rfl)]
      go_simp
      refine hK.out _ _ ⟨h15a, h15b⟩ ?_
      clear hK K'
      try simp only [Act.put, List.setIfInBounds_toArray, List.set_cons_zero, List.set_cons_succ]
      refine takeH (i := 39) (d := some 114) (.bool true) rfl (by kernel_rfl) (by kernel_rfl) (by kernel_rfl) (fun _ _ _ _ h => h) ⟨h15a, h15b⟩ (fun o ho => by cases ho; exact .inl ⟨by rfl, fun w hSw => by (obtain ⟨hs1, hs2⟩ := hSw; go_simp)⟩) ?_
      simp only [Act.put, List.setIfInBounds_toArray, List.set_cons_zero, List.set_cons_succ]
      refine takeH (i := 40) (d := some 115) (.bool true) rfl (by kernel_rfl) (by kernel_rfl) (by kernel_rfl) (fun _ _ _ _ h => h) ⟨h15a, h15b⟩ (fun o ho => by cases ho; exact .inl ⟨by rfl, fun w hSw => by (obtain ⟨hs1, hs2⟩ := hSw; go_simp)⟩) ?_
      simp only [Act.put, List.setIfInBounds_toArray, List.set_cons_zero, List.set_cons_succ]
      refine takeH (i := 41) (d := some 4) (.bool true) rfl (by kernel_rfl) (by kernel_rfl) (by kernel_rfl) (fun _ _ _ _ h => h) ⟨h15a, h15b⟩ (fun o ho => by cases ho; exact .inl ⟨by rfl, fun w hSw => by (obtain ⟨hs1, hs2⟩ := hSw; go_simp)⟩) ?_
      simp only [Act.put, List.setIfInBounds_toArray, List.set_cons_zero, List.set_cons_succ]
      refine wpAnyH_done (by kernel_rfl) (NoPanic.normal ?_) _
      go_wp2
      go_ret
      exact ⟨rfl, Kp.trans HK10.out (show Kp G _ _ from Nw.kp (Fr.alloc (Fr.alloc HF13.out _) _))⟩

end Go.Proofs.Ytagcpjekeogkbaa.Wl
