/- The contract of number over a float that is refused. -/
import Derived.Test.YtionmohglmbklaaGreatDoorNu3
namespace Go.Proofs.YtionmohglmbklaaGreatDoor.Tr
open Go.RowKit

set_option maxRecDepth 100000 in
set_option maxHeartbeats 2000000 in
theorem number_floatno {w0 w : World} {b : Nat} {t : List UInt8} {k : Nat} (h : Rd w b t k) (hk : k < t.length) (hd : isDig t[k] = true) (hz : 1 < upto isDig t k - k → (at0 t k == 48) = false) (hp : (at0 t (upto isDig t k) == 46) = true) (hp1 : isDig (at0 t (upto isDig t k + 1)) = true)
    (hP : PFno w0 (sub t k (fracEnd t (upto isDig t k)))) (hE : Env w0 w) (hb : w0.heap.size ≤ b) : Calls Tryz.prog 55 #[pv b] w (BadPost w b k 4) := by
  have HA := hid (new_tok w)
  have HF := hid ((Fr.refl (· = b) w).alloc (.cells #[.int .i64 0, .string ⟨#[]⟩, .int .i64 0, .float .f64 0, .int .i64 0] 37))
  have hR : Rd (w.alloc (.cells #[.int .i64 0, .string ⟨#[]⟩, .int .i64 0, .float .f64 0, .int .i64 0] 37)) b t k := ⟨h.blk.alloc _, h.le, h.len⟩
  have HR := hid hR
  have c1 := hR.c1
  have HB := hid h.blk.lt
  have htl := h.len
  have HEnv := hid hE
  have Hb := hid hb
  have HP := hid hP
  have HG := hid (upto_gt hk hd)
  have HLe := hid (upto_le (p := isDig) h.le)
  have HSl := hid (sub_length t k (upto isDig t k) HLe.out)
  have HPt := hid (at0_pos (by decide) hp)
  have HFl := hid (frac_le HPt.out)
  have HFg := hid (frac_ge t (upto isDig t k))
  have hn46 : (((at0 t (upto isDig t k)).toNat : Int) == 46) = true := by rw [u8n] at hp; simp at hp; simp [hp]
  have HD := hid (fun w => digit_any w (at0 t (upto isDig t k + 1)))
  rw [hp1] at HD
  have HS0 : Hid (∀ h0 : 0 < (sub t k (upto isDig t k)).length, (sub t k (upto isDig t k))[0] = at0 t k) := fun h0 => by
    rw [at0_lt hk]; simp [sub]
  have HZ : Hid (1 < (sub t k (upto isDig t k)).length → (((at0 t k).toNat : Int) == 48) = false) := fun h => by
    rw [HSl.out] at h
    have := hz h
    rw [Bool.eq_false_iff] at this ⊢
    intro h; apply this; rw [u8n]; simp at h; simp; omega
  clear h hR hk hd hz hp hp1 hP hE hb
  generalize hn : w.heap.size = n at *
  go_enter Tryz.func55, Tryz.ntmps55
  go_wp2_with fail
  refine (run_digit HR.out).mono ?_
  rintro e w2 ⟨rfl, f2, r2⟩
  have HB2 := hid (f2.blk HA.out (by have := HB.out; omega))
  have HF2 := hid (HF.out.same f2)
  have HR2 := hid r2
  clear f2 r2 HR HA HF c1
  generalize upto isDig t k = i at *
  have HSt := hid (fun h0 => str_at (sub t k i) 0 h0)
  generalize sub t k i = S at *
  have HP0 := hid (peek_any HR2.out 0 0 rfl (by omega))
  have HP1 := hid (fun m => peek_any (HR2.out.drewN m) 1 1 rfl (by omega))
  rw [Nat.add_zero] at HP0
  generalize at0 t i = ci at *
  generalize at0 t (i + 1) = cj at *
  have hSl : S.length ≤ 4096 := by have := HSl.out; have := HLe.out; omega
  by_cases hlong : 1 < S.length
  · have hl1 : decide ((S.length : Int) > 1) = true := by simp; omega
    have hl0 : (0 : Int) < (S.length : Int) := by omega
    have HZ2 := hid (HZ.out hlong)
    have e0 := (HSt.out (by omega)).trans (HS0.out (by omega))
    have hz2 : ((((ByteArray.mk S.toArray)[0]'(by simp [ByteArray.size]; omega)).toNat : Int) == 48) = false := by rw [e0]; exact HZ2.out
    clear e0 HZ
    go_wp2_with fail
    refine HP0.out.mono ?_
    rintro e w3 ⟨rfl, m, rfl⟩
    clear HP0
    go_wp2_with fail
    refine (HP1.out m).mono ?_
    rintro e w3 ⟨rfl, m3, rfl⟩
    clear HP1
    go_wp2_with fail
    refine (HD.out _).mono ?_
    rintro e w3 ⟨rfl, rfl⟩
    clear HD
    have HR3 := hid (HR2.out.drewN (m + m3))
    have HF3 := hid (HF2.out.drewN (m + m3))
    have HB3 : Hid (Blk (w2.drewN (m + m3)) n 37 (tokC zeroT)) := HB2.out
    try rw [World.drewN_drewN]
    generalize w2.drewN (m + m3) = w3 at *
    clear HR2 HF2 HB2
    go_wp2_with fail
    refine (fraction_any HR3.out HPt.out).mono ?_
    rintro e w4 ⟨rfl, f4, r4⟩
    have HF4 := hid (HF3.out.same f4)
    have HB4 := hid (f4.blk HB3.out (by have := HB.out; omega))
    have HR4 := hid r4
    have d0 := r4.c0
    have d1 := r4.c1
    clear f4 r4 HF3 HB3 HR3
    generalize fracEnd t i = fe at *
    have hfe1 : (fe : Int) ≤ (t.length : Int) := by have := HFl.out; omega
    have hfe2 : (k : Int) ≤ (fe : Int) := by have := HFg.out; have := HG.out; omega
    have hfe0 : (0 : Int) ≤ (k : Int) := by omega
    have hfe3 : (0 : Int) ≤ (fe : Int) := by omega
    have HXx := hid (ext_sub t k fe)
    have HEn4 := hid (HEnv.out.fr HF4.out (fun j hj => by rw [hj]; exact Hb.out))
    go_wp2_with fail
    have HD0 : Hid (Fr (· = n) w4 w4.drew) := (Fr.refl _ _).drew
    have HRd := hid (fun (W : World) (f : Fr (· = n) w4 W) => HR4.out.fr f (by have := HB.out; omega))
    refine wp_region_noPanic ?_
    refine wp_region_held_drew (S := (fun w' => Fr (· = n) w4 w')) (by kernel_rfl) HD0.out (fun _ => ?_)
    refine takeH (i := 0) (d := some 33) (pv b) rfl (by kernel_rfl) (by kernel_rfl) (by kernel_rfl) (fun _ _ _ _ h => h) HD0.out (fun o ho => by cases ho; exact .inl ⟨by rfl, fun w hSw => by (go_simp)⟩) ?_
    simp only [Act.put, List.setIfInBounds_toArray, List.set_cons_zero, List.set_cons_succ]
    refine takeH (i := 1) (d := some 34) (.pointer (some ⟨b, 0, none⟩)) rfl (by kernel_rfl) (by kernel_rfl) (by kernel_rfl) (fun _ _ _ _ h => h) HD0.out (fun o ho => by cases ho; exact .inl ⟨by rfl, fun w hSw => by (go_simp)⟩) ?_
    simp only [Act.put, List.setIfInBounds_toArray, List.set_cons_zero, List.set_cons_succ]
    refine takeH (i := 2) (d := some 35) (.pointer (some ⟨b, 0, none⟩)) rfl (by kernel_rfl) (by kernel_rfl) (by kernel_rfl) (fun _ _ _ _ h => h) HD0.out (fun o ho => by cases ho; exact .inl ⟨by rfl, fun w hSw => by (go_simp)⟩) ?_
    simp only [Act.put, List.setIfInBounds_toArray, List.set_cons_zero, List.set_cons_succ]
    refine takeH (i := 3) (d := some 36) (.string ⟨t.toArray⟩) rfl (by kernel_rfl) (by kernel_rfl) (by kernel_rfl) (fun _ _ _ _ h => h) HD0.out (fun o ho => by cases ho; exact .inl ⟨by rfl, fun w hSw => by (have d0 := (HRd.out _ hSw).c0; have d1 := (HRd.out _ hSw).c1; go_simp)⟩) ?_
    simp only [Act.put, List.setIfInBounds_toArray, List.set_cons_zero, List.set_cons_succ]
    refine takeH (i := 4) (d := some 37) (.int .i64 (k : Int)) rfl (by kernel_rfl) (by kernel_rfl) (by kernel_rfl) (fun _ _ _ _ h => h) HD0.out (fun o ho => by cases ho; exact .inl ⟨by rfl, fun w hSw => by (go_simp)⟩) ?_
    simp only [Act.put, List.setIfInBounds_toArray, List.set_cons_zero, List.set_cons_succ]
    refine takeH (i := 5) (d := some 38) (pv b) rfl (by kernel_rfl) (by kernel_rfl) (by kernel_rfl) (fun _ _ _ _ h => h) HD0.out (fun o ho => by cases ho; exact .inl ⟨by rfl, fun w hSw => by (go_simp)⟩) ?_
    simp only [Act.put, List.setIfInBounds_toArray, List.set_cons_zero, List.set_cons_succ]
    refine takeH (i := 6) (d := some 39) (.pointer (some ⟨b, 0, none⟩)) rfl (by kernel_rfl) (by kernel_rfl) (by kernel_rfl) (fun _ _ _ _ h => h) HD0.out (fun o ho => by cases ho; exact .inl ⟨by rfl, fun w hSw => by (go_simp)⟩) ?_
    simp only [Act.put, List.setIfInBounds_toArray, List.set_cons_zero, List.set_cons_succ]
    refine takeH (i := 7) (d := some 40) (.pointer (some ⟨b, 1, none⟩)) rfl (by kernel_rfl) (by kernel_rfl) (by kernel_rfl) (fun _ _ _ _ h => h) HD0.out (fun o ho => by cases ho; exact .inl ⟨by rfl, fun w hSw => by (go_simp)⟩) ?_
    simp only [Act.put, List.setIfInBounds_toArray, List.set_cons_zero, List.set_cons_succ]
    refine takeH (i := 8) (d := some 41) (.int .i64 (fe : Int)) rfl (by kernel_rfl) (by kernel_rfl) (by kernel_rfl) (fun _ _ _ _ h => h) HD0.out (fun o ho => by cases ho; exact .inl ⟨by rfl, fun w hSw => by (have d0 := (HRd.out _ hSw).c0; have d1 := (HRd.out _ hSw).c1; go_simp)⟩) ?_
    simp only [Act.put, List.setIfInBounds_toArray, List.set_cons_zero, List.set_cons_succ]
    refine takeH (i := 9) (d := some 42) (.string ((ByteArray.mk t.toArray).extract k fe)) rfl (by kernel_rfl) (by kernel_rfl) (by kernel_rfl) (fun _ _ _ _ h => h) HD0.out (fun o ho => by cases ho; exact .inl ⟨by rfl, fun w hSw => by (go_simp)⟩) ?_
    simp only [Act.put, List.setIfInBounds_toArray, List.set_cons_zero, List.set_cons_succ]
    refine takeH (i := 10) (d := some 43) (.int .i64 (k : Int)) rfl (by kernel_rfl) (by kernel_rfl) (by kernel_rfl) (fun _ _ _ _ h => h) HD0.out (fun o ho => by cases ho; exact .inl ⟨by rfl, fun w hSw => by (go_simp)⟩) ?_
    simp only [Act.put, List.setIfInBounds_toArray, List.set_cons_zero, List.set_cons_succ]
    rw [HXx.out]
    refine oneH (i := 11) (by kernel_rfl) (fun o ho K' hK => ?_) (by decide)
    cases ho
    rw [if_pos (by rfl)]
    go_simp
    refine (float_no k HP.out (HEn4.out.fr HD0.out (fun j hj => by have := HB.out; have := Hb.out; omega))).mono ?_
    rintro e w5 ⟨fb, rfl, g5, q5, f5⟩
    have HF5 : Hid (Fr (· = n) w4 w5) := HD0.out.trans f5 (fun _ h => h.elim)
    have HB5 : Hid (Blk w5 n 37 (tokC zeroT)) := f5.blk (HB4.out.drew) (fun h => h)
    have HQ5 := hid q5
    have HG5 : Hid (n + 1 ≤ fb) := by have h4 := HB4.out.lt; have g6 : w4.heap.size < fb := g5; unfold Hid; omega
    clear f5 q5 g5
    refine hK.out _ _ HF5.out ?_
    clear hK K'
    try simp only [Act.put, List.setIfInBounds_toArray, List.set_cons_zero, List.set_cons_succ]
    refine takeH (i := 12) (d := some 45) (tokV zeroT) rfl (by kernel_rfl) (by kernel_rfl) (by kernel_rfl) (fun _ _ _ _ h => h) HF5.out (fun o ho => by cases ho; exact .inl ⟨by rfl, fun w hSw => by (go_simp)⟩) ?_
    simp only [Act.put, List.setIfInBounds_toArray, List.set_cons_zero, List.set_cons_succ]
    refine takeH (i := 13) (d := some 46) (fltV fb) rfl (by kernel_rfl) (by kernel_rfl) (by kernel_rfl) (fun _ _ _ _ h => h) HF5.out (fun o ho => by cases ho; exact .inl ⟨by rfl, fun w hSw => by (go_simp)⟩) ?_
    simp only [Act.put, List.setIfInBounds_toArray, List.set_cons_zero, List.set_cons_succ]
    refine oneH (i := 14) (by kernel_rfl) (fun o ho K' hK => ?_) (by decide)
    cases ho
    rw [if_pos (by rfl)]
    refine wp_storeT zeroT _ _ (by rfl) HB5.out (by rfl) (by rfl) ?_
    intro w6 b6 f6
    have HB6 := hid b6
    have HF6 := hid (HF5.out.same f6)
    have HQ6 : Hid (Flt w6 fb k 4) := f6.blk HQ5.out (by have := HG5.out; omega)
    clear b6 f6
    refine hK.out _ _ HF6.out ?_
    clear hK K'
    try simp only [Act.put, List.setIfInBounds_toArray]
    refine takeH (i := 15) (d := some 3) (fltV fb) rfl (by kernel_rfl) (by kernel_rfl) (by kernel_rfl) (fun _ _ _ _ h => h) HF6.out (fun o ho => by cases ho; exact .inl ⟨by rfl, fun w hSw => by (go_simp)⟩) ?_
    simp only [Act.put]
    refine wpAnyH_done (by kernel_rfl) (NoPanic.normal ?_) _
    have HE : Hid (Flt w6 fb k 4 ∧ Fr (· = b) w w6) := ⟨HQ6.out, HF4.out.trans HF6.out (fun i hi => .inr (by omega))⟩
    go_wp2_with fail
    exact bodyPost_ret (resultsT rfl rfl rfl HB6.out) rfl ⟨zeroT, fb, rfl, by have := HG5.out; omega, HE.out⟩
  · have hl1 : decide ((S.length : Int) > 1) = false := by simp; omega
    clear HZ HS0 HSt
    go_wp2_with fail
    refine HP0.out.mono ?_
    rintro e w3 ⟨rfl, m, rfl⟩
    clear HP0
    go_wp2_with fail
    refine (HP1.out m).mono ?_
    rintro e w3 ⟨rfl, m3, rfl⟩
    clear HP1
    go_wp2_with fail
    refine (HD.out _).mono ?_
    rintro e w3 ⟨rfl, rfl⟩
    clear HD
    have HR3 := hid (HR2.out.drewN (m + m3))
    have HF3 := hid (HF2.out.drewN (m + m3))
    have HB3 : Hid (Blk (w2.drewN (m + m3)) n 37 (tokC zeroT)) := HB2.out
    try rw [World.drewN_drewN]
    generalize w2.drewN (m + m3) = w3 at *
    clear HR2 HF2 HB2
    go_wp2_with fail
    refine (fraction_any HR3.out HPt.out).mono ?_
    rintro e w4 ⟨rfl, f4, r4⟩
    have HF4 := hid (HF3.out.same f4)
    have HB4 := hid (f4.blk HB3.out (by have := HB.out; omega))
    have HR4 := hid r4
    have d0 := r4.c0
    have d1 := r4.c1
    clear f4 r4 HF3 HB3 HR3
    generalize fracEnd t i = fe at *
    have hfe1 : (fe : Int) ≤ (t.length : Int) := by have := HFl.out; omega
    have hfe2 : (k : Int) ≤ (fe : Int) := by have := HFg.out; have := HG.out; omega
    have hfe0 : (0 : Int) ≤ (k : Int) := by omega
    have hfe3 : (0 : Int) ≤ (fe : Int) := by omega
    have HXx := hid (ext_sub t k fe)
    have HEn4 := hid (HEnv.out.fr HF4.out (fun j hj => by rw [hj]; exact Hb.out))
    go_wp2_with fail
    have HD0 : Hid (Fr (· = n) w4 w4.drew) := (Fr.refl _ _).drew
    have HRd := hid (fun (W : World) (f : Fr (· = n) w4 W) => HR4.out.fr f (by have := HB.out; omega))
    refine wp_region_noPanic ?_
    refine wp_region_held_drew (S := (fun w' => Fr (· = n) w4 w')) (by kernel_rfl) HD0.out (fun _ => ?_)
    refine takeH (i := 0) (d := some 33) (pv b) rfl (by kernel_rfl) (by kernel_rfl) (by kernel_rfl) (fun _ _ _ _ h => h) HD0.out (fun o ho => by cases ho; exact .inl ⟨by rfl, fun w hSw => by (go_simp)⟩) ?_
    simp only [Act.put, List.setIfInBounds_toArray, List.set_cons_zero, List.set_cons_succ]
    refine takeH (i := 1) (d := some 34) (.pointer (some ⟨b, 0, none⟩)) rfl (by kernel_rfl) (by kernel_rfl) (by kernel_rfl) (fun _ _ _ _ h => h) HD0.out (fun o ho => by cases ho; exact .inl ⟨by rfl, fun w hSw => by (go_simp)⟩) ?_
    simp only [Act.put, List.setIfInBounds_toArray, List.set_cons_zero, List.set_cons_succ]
    refine takeH (i := 2) (d := some 35) (.pointer (some ⟨b, 0, none⟩)) rfl (by kernel_rfl) (by kernel_rfl) (by kernel_rfl) (fun _ _ _ _ h => h) HD0.out (fun o ho => by cases ho; exact .inl ⟨by rfl, fun w hSw => by (go_simp)⟩) ?_
    simp only [Act.put, List.setIfInBounds_toArray, List.set_cons_zero, List.set_cons_succ]
    refine takeH (i := 3) (d := some 36) (.string ⟨t.toArray⟩) rfl (by kernel_rfl) (by kernel_rfl) (by kernel_rfl) (fun _ _ _ _ h => h) HD0.out (fun o ho => by cases ho; exact .inl ⟨by rfl, fun w hSw => by (have d0 := (HRd.out _ hSw).c0; have d1 := (HRd.out _ hSw).c1; go_simp)⟩) ?_
    simp only [Act.put, List.setIfInBounds_toArray, List.set_cons_zero, List.set_cons_succ]
    refine takeH (i := 4) (d := some 37) (.int .i64 (k : Int)) rfl (by kernel_rfl) (by kernel_rfl) (by kernel_rfl) (fun _ _ _ _ h => h) HD0.out (fun o ho => by cases ho; exact .inl ⟨by rfl, fun w hSw => by (go_simp)⟩) ?_
    simp only [Act.put, List.setIfInBounds_toArray, List.set_cons_zero, List.set_cons_succ]
    refine takeH (i := 5) (d := some 38) (pv b) rfl (by kernel_rfl) (by kernel_rfl) (by kernel_rfl) (fun _ _ _ _ h => h) HD0.out (fun o ho => by cases ho; exact .inl ⟨by rfl, fun w hSw => by (go_simp)⟩) ?_
    simp only [Act.put, List.setIfInBounds_toArray, List.set_cons_zero, List.set_cons_succ]
    refine takeH (i := 6) (d := some 39) (.pointer (some ⟨b, 0, none⟩)) rfl (by kernel_rfl) (by kernel_rfl) (by kernel_rfl) (fun _ _ _ _ h => h) HD0.out (fun o ho => by cases ho; exact .inl ⟨by rfl, fun w hSw => by (go_simp)⟩) ?_
    simp only [Act.put, List.setIfInBounds_toArray, List.set_cons_zero, List.set_cons_succ]
    refine takeH (i := 7) (d := some 40) (.pointer (some ⟨b, 1, none⟩)) rfl (by kernel_rfl) (by kernel_rfl) (by kernel_rfl) (fun _ _ _ _ h => h) HD0.out (fun o ho => by cases ho; exact .inl ⟨by rfl, fun w hSw => by (go_simp)⟩) ?_
    simp only [Act.put, List.setIfInBounds_toArray, List.set_cons_zero, List.set_cons_succ]
    refine takeH (i := 8) (d := some 41) (.int .i64 (fe : Int)) rfl (by kernel_rfl) (by kernel_rfl) (by kernel_rfl) (fun _ _ _ _ h => h) HD0.out (fun o ho => by cases ho; exact .inl ⟨by rfl, fun w hSw => by (have d0 := (HRd.out _ hSw).c0; have d1 := (HRd.out _ hSw).c1; go_simp)⟩) ?_
    simp only [Act.put, List.setIfInBounds_toArray, List.set_cons_zero, List.set_cons_succ]
    refine takeH (i := 9) (d := some 42) (.string ((ByteArray.mk t.toArray).extract k fe)) rfl (by kernel_rfl) (by kernel_rfl) (by kernel_rfl) (fun _ _ _ _ h => h) HD0.out (fun o ho => by cases ho; exact .inl ⟨by rfl, fun w hSw => by (go_simp)⟩) ?_
    simp only [Act.put, List.setIfInBounds_toArray, List.set_cons_zero, List.set_cons_succ]
    refine takeH (i := 10) (d := some 43) (.int .i64 (k : Int)) rfl (by kernel_rfl) (by kernel_rfl) (by kernel_rfl) (fun _ _ _ _ h => h) HD0.out (fun o ho => by cases ho; exact .inl ⟨by rfl, fun w hSw => by (go_simp)⟩) ?_
    simp only [Act.put, List.setIfInBounds_toArray, List.set_cons_zero, List.set_cons_succ]
    rw [HXx.out]
    refine oneH (i := 11) (by kernel_rfl) (fun o ho K' hK => ?_) (by decide)
    cases ho
    rw [if_pos (by rfl)]
    go_simp
    refine (float_no k HP.out (HEn4.out.fr HD0.out (fun j hj => by have := HB.out; have := Hb.out; omega))).mono ?_
    rintro e w5 ⟨fb, rfl, g5, q5, f5⟩
    have HF5 : Hid (Fr (· = n) w4 w5) := HD0.out.trans f5 (fun _ h => h.elim)
    have HB5 : Hid (Blk w5 n 37 (tokC zeroT)) := f5.blk (HB4.out.drew) (fun h => h)
    have HQ5 := hid q5
    have HG5 : Hid (n + 1 ≤ fb) := by have h4 := HB4.out.lt; have g6 : w4.heap.size < fb := g5; unfold Hid; omega
    clear f5 q5 g5
    refine hK.out _ _ HF5.out ?_
    clear hK K'
    try simp only [Act.put, List.setIfInBounds_toArray, List.set_cons_zero, List.set_cons_succ]
    refine takeH (i := 12) (d := some 45) (tokV zeroT) rfl (by kernel_rfl) (by kernel_rfl) (by kernel_rfl) (fun _ _ _ _ h => h) HF5.out (fun o ho => by cases ho; exact .inl ⟨by rfl, fun w hSw => by (go_simp)⟩) ?_
    simp only [Act.put, List.setIfInBounds_toArray, List.set_cons_zero, List.set_cons_succ]
    refine takeH (i := 13) (d := some 46) (fltV fb) rfl (by kernel_rfl) (by kernel_rfl) (by kernel_rfl) (fun _ _ _ _ h => h) HF5.out (fun o ho => by cases ho; exact .inl ⟨by rfl, fun w hSw => by (go_simp)⟩) ?_
    simp only [Act.put, List.setIfInBounds_toArray, List.set_cons_zero, List.set_cons_succ]
    refine oneH (i := 14) (by kernel_rfl) (fun o ho K' hK => ?_) (by decide)
    cases ho
    rw [if_pos (by rfl)]
    refine wp_storeT zeroT _ _ (by rfl) HB5.out (by rfl) (by rfl) ?_
    intro w6 b6 f6
    have HB6 := hid b6
    have HF6 := hid (HF5.out.same f6)
    have HQ6 : Hid (Flt w6 fb k 4) := f6.blk HQ5.out (by have := HG5.out; omega)
    clear b6 f6
    refine hK.out _ _ HF6.out ?_
    clear hK K'
    try simp only [Act.put, List.setIfInBounds_toArray]
    refine takeH (i := 15) (d := some 3) (fltV fb) rfl (by kernel_rfl) (by kernel_rfl) (by kernel_rfl) (fun _ _ _ _ h => h) HF6.out (fun o ho => by cases ho; exact .inl ⟨by rfl, fun w hSw => by (go_simp)⟩) ?_
    simp only [Act.put]
    refine wpAnyH_done (by kernel_rfl) (NoPanic.normal ?_) _
    have HE : Hid (Flt w6 fb k 4 ∧ Fr (· = b) w w6) := ⟨HQ6.out, HF4.out.trans HF6.out (fun i hi => .inr (by omega))⟩
    go_wp2_with fail
    exact bodyPost_ret (resultsT rfl rfl rfl HB6.out) rfl ⟨zeroT, fb, rfl, by have := HG5.out; omega, HE.out⟩

end Go.Proofs.YtionmohglmbklaaGreatDoor.Tr
