/- The contract of number over a whole number, and over one with a nought ahead. -/
import Derived.Test.YtionmohglmbklaaGreatDoorNu2
namespace Go.Proofs.YtionmohglmbklaaGreatDoor.Tr
open Go.RowKit

def tokI (t : List UInt8) (k : Nat) (n : Int) : Tok := ⟨2, sub t k (upto isDig t k), n, 0, k⟩

set_option maxRecDepth 100000 in
set_option maxHeartbeats 2000000 in
theorem number_zero {w : World} {b : Nat} {t : List UInt8} {k : Nat} (h : Rd w b t k) (hk : k < t.length) (hd : isDig t[k] = true) (hz : 1 < upto isDig t k - k) (hz0 : (at0 t k == 48) = true) : Calls Tryz.prog 55 #[pv b] w (BadPost w b k 4) := by
  have HA := hid (new_tok w)
  have HF := hid ((Fr.refl (· = b) w).alloc (.cells #[.int .i64 0, .string ⟨#[]⟩, .int .i64 0, .float .f64 0, .int .i64 0] 37))
  have hR : Rd (w.alloc (.cells #[.int .i64 0, .string ⟨#[]⟩, .int .i64 0, .float .f64 0, .int .i64 0] 37)) b t k := ⟨h.blk.alloc _, h.le, h.len⟩
  have HR := hid hR
  have c1 := hR.c1
  have HB := hid h.blk.lt
  have HSz : Hid ((w.alloc (.cells #[.int .i64 0, .string ⟨#[]⟩, .int .i64 0, .float .f64 0, .int .i64 0] 37)).heap.size = w.heap.size + 1) := World.size_alloc _ _
  have htl := h.len
  have HG := hid (upto_gt hk hd)
  have HLe := hid (upto_le (p := isDig) h.le)
  have HSl := hid (sub_length t k (upto isDig t k) HLe.out)
  have HS0 : Hid (∀ h0 : 0 < (sub t k (upto isDig t k)).length, (sub t k (upto isDig t k))[0] = at0 t k) := fun h0 => by
    rw [at0_lt hk]; simp [sub]
  have hlong : 1 < (sub t k (upto isDig t k)).length := by rw [HSl.out]; exact hz
  have hk48 : (at0 t k).toNat = 48 := by rw [u8n] at hz0; simpa using hz0
  clear hz hz0
  clear h hR hk hd
  generalize hn : w.heap.size = n at *
  go_enter Tryz.func55, Tryz.ntmps55
  go_wp2_with fail
  refine (run_digit HR.out).mono ?_
  rintro e w2 ⟨rfl, f2, r2⟩
  have HB2 := hid (f2.blk HA.out (by have := HB.out; omega))
  have HF2 := hid (HF.out.same f2)
  have HR2 := hid r2
  have HN2 : Hid (n + 1 ≤ w2.heap.size) := by have := f2.size; rw [HSz.out] at this; exact this
  clear f2 r2 HR HA HF c1 HSz
  generalize upto isDig t k = i at *
  have HSt := hid (fun h0 => str_at (sub t k i) 0 h0)
  generalize sub t k i = S at *
  have hSl : S.length ≤ 4096 := by have := HSl.out; have := HLe.out; omega
  have hl1 : decide ((S.length : Int) > 1) = true := by simp; omega
  have hl0 : (0 : Int) < (S.length : Int) := by omega
  have e0 := (HSt.out (by omega)).trans (HS0.out (by omega))
  have hz2 : ((((ByteArray.mk S.toArray)[0]'(by simp [ByteArray.size]; omega)).toNat : Int) == 48) = true := by rw [e0, hk48]; decide
  clear e0
  go_wp2_with fail
  refine (fault_any w2 k 4).mono ?_
  rintro e w3 ⟨rfl, q3, f3⟩
  have HB3 := hid (f3.blk HB2.out (fun h => h))
  have HF3 := hid (HF2.out.trans f3 (fun _ h => h.elim))
  have HQ3 := hid q3
  clear q3 f3
  go_wp2_with (refine wpList_storeT zeroT (by rfl) _ _ (by rfl) HB3.out (by rfl) (by rfl) ?_; intro w4 b4 f4)
  have HE : Hid (Flt w4 w2.heap.size k 4 ∧ Fr (· = b) w w4) := ⟨f4.blk HQ3.out (by have := HN2.out; omega), HF3.out.trans f4 (fun i hi => .inr (by omega))⟩
  have HB4 := hid b4
  clear f4 b4
  go_wp2_with fail
  exact bodyPost_ret (resultsT rfl rfl rfl HB4.out) rfl ⟨zeroT, w2.heap.size, rfl, by have := HN2.out; omega, HE.out⟩

set_option maxRecDepth 100000 in
set_option maxHeartbeats 4000000 in
theorem number_int {w0 w : World} {b : Nat} {t : List UInt8} {k : Nat} {n0 : Int} (h : Rd w b t k) (hk : k < t.length) (hd : isDig t[k] = true) (hz : 1 < upto isDig t k - k → (at0 t k == 48) = false) (hp : (at0 t (upto isDig t k) == 46) = true → isDig (at0 t (upto isDig t k + 1)) = false)
    (hP : PIok w0 (sub t k (upto isDig t k)) n0) (hE : Env w0 w) (hb : w0.heap.size ≤ b) : Calls Tryz.prog 55 #[pv b] w (GoodPost w b t (tokI t k n0) (upto isDig t k)) := by
  have HA := hid (new_tok w)
  have HF := hid ((Fr.refl (· = b) w).alloc (.cells #[.int .i64 0, .string ⟨#[]⟩, .int .i64 0, .float .f64 0, .int .i64 0] 37))
  have hR : Rd (w.alloc (.cells #[.int .i64 0, .string ⟨#[]⟩, .int .i64 0, .float .f64 0, .int .i64 0] 37)) b t k := ⟨h.blk.alloc _, h.le, h.len⟩
  have HR := hid hR
  have c1 := hR.c1
  have HB := hid h.blk.lt
  have HSz : Hid ((w.alloc (.cells #[.int .i64 0, .string ⟨#[]⟩, .int .i64 0, .float .f64 0, .int .i64 0] 37)).heap.size = w.heap.size + 1) := World.size_alloc _ _
  have htl := h.len
  have HG := hid (upto_gt hk hd)
  have HLe := hid (upto_le (p := isDig) h.le)
  have HSl := hid (sub_length t k (upto isDig t k) HLe.out)
  have HS0 : Hid (∀ h0 : 0 < (sub t k (upto isDig t k)).length, (sub t k (upto isDig t k))[0] = at0 t k) := fun h0 => by
    rw [at0_lt hk]; simp [sub]
  have HEnv := hid hE
  have Hb := hid hb
  have HP := hid hP
  have HZ : Hid (1 < (sub t k (upto isDig t k)).length → (((at0 t k).toNat : Int) == 48) = false) := fun h => by
    rw [HSl.out] at h
    have := hz h
    rw [Bool.eq_false_iff] at this ⊢
    intro h; apply this; rw [u8n]; simp at h; simp; omega
  have HPp := hid hp
  have HX : Hid (tokI t k n0 = ⟨2, sub t k (upto isDig t k), n0, 0, k⟩) := rfl
  generalize tokI t k n0 = tk at *
  have HD0 := hid (fun w => digit_any w (at0 t (upto isDig t k + 1)))
  clear hz hp hP hE hb
  clear h hR hk hd
  generalize n0 = z at *
  generalize hn : w.heap.size = n at *
  go_enter Tryz.func55, Tryz.ntmps55
  go_wp2_with fail
  refine (run_digit HR.out).mono ?_
  rintro e w2 ⟨rfl, f2, r2⟩
  have HB2 := hid (f2.blk HA.out (by have := HB.out; omega))
  have HF2 := hid (HF.out.same f2)
  have HR2 := hid r2
  have HN2 : Hid (n + 1 ≤ w2.heap.size) := by have := f2.size; rw [HSz.out] at this; exact this
  clear f2 r2 HR HA HF c1 HSz
  generalize upto isDig t k = i at *
  have HSt := hid (fun h0 => str_at (sub t k i) 0 h0)
  generalize sub t k i = S at *
  have HP0 := hid (peek_any HR2.out 0 0 rfl (by omega))
  have HP1 := hid (fun m => peek_any (HR2.out.drewN m) 1 1 rfl (by omega))
  rw [Nat.add_zero] at HP0
  have hSl : S.length ≤ 4096 := by have := HSl.out; have := HLe.out; omega
  have hpt : (((at0 t i).toNat : Int) == 46) = false ∨ ((((at0 t i).toNat : Int) == 46) = true ∧ isDig (at0 t (i + 1)) = false) := by
    cases hq : (at0 t i == 46) with
    | true =>
      refine .inr ⟨?_, HPp.out hq⟩
      rw [u8n] at hq; simp at hq; simp [hq]
    | false =>
      refine .inl ?_
      rw [Bool.eq_false_iff] at hq ⊢
      intro h; apply hq; rw [u8n]; simp at h; simp; omega
  clear HPp
  generalize at0 t i = ci at *
  generalize at0 t (i + 1) = cj at *
  by_cases hlong : 1 < S.length
  · have hl1 : decide ((S.length : Int) > 1) = true := by simp; omega
    have hl0 : (0 : Int) < (S.length : Int) := by omega
    have HZ2 := hid (HZ.out hlong)
    have e0 := (HSt.out (by omega)).trans (HS0.out (by omega))
    have hz2 : ((((ByteArray.mk S.toArray)[0]'(by simp [ByteArray.size]; omega)).toNat : Int) == 48) = false := by rw [e0]; exact HZ2.out
    clear e0 HZ
    rcases hpt with hq | ⟨hq, hj⟩
    · clear HD0 HP1
      go_wp2_with fail
      refine HP0.out.mono ?_
      rintro e w3 ⟨rfl, m, rfl⟩
      clear HP0
      have HW3 : Hid (Rd (w2.drewN m) b t i ∧ Fr (· = b) w (w2.drewN m) ∧ Blk (w2.drewN m) n 37 (tokC zeroT) ∧ n + 1 ≤ (w2.drewN m).heap.size) := ⟨HR2.out.drewN m, HF2.out.drewN m, HB2.out, HN2.out⟩
      generalize w2.drewN m = w3 at *
      clear HR2 HF2 HB2 HN2
      have HEn3 := hid (HEnv.out.fr HW3.out.2.1 (fun j hj => by rw [hj]; exact Hb.out))
      go_wp2_with fail
      refine (integer_ok k HP.out HEn3.out).mono ?_
      rintro e w4 ⟨rfl, f4⟩
      have HB4 := hid (f4.blk HW3.out.2.2.1 (fun h => h))
      have HF4 := hid (HW3.out.2.1.trans f4 (fun _ h => h.elim))
      have HR4 := hid (HW3.out.1.fr f4 (fun h => h))
      clear f4 HW3
      go_wp2_with (refine wpList_storeT ⟨2, S, z, 0, k⟩ (by rfl) _ _ (by rfl) HB4.out (by rfl) (by rfl) ?_; intro w5 b5 f5)
      have HE : Hid (Fr (· = b) w w5 ∧ Rd w5 b t i) := ⟨HF4.out.trans f5 (fun i hi => .inr (by omega)), HR4.out.fr f5 (by have := HB.out; omega)⟩
      have HB5 := hid b5
      clear f5 b5
      go_wp2_with fail
      rw [HX.out]
      exact bodyPost_ret (resultsT rfl rfl rfl HB5.out) rfl ⟨rfl, HE.out⟩
    · have HD := HD0
      rw [hj] at HD
      clear HD0
      go_wp2_with fail
      refine HP0.out.mono ?_
      rintro e w3 ⟨rfl, m, rfl⟩
      clear HP0
      go_wp2_with fail
      refine (HP1.out m).mono ?_
      rintro e w3 ⟨rfl, m3, rfl⟩
      clear HP1
      go_wp2_with fail
      refine (HD.out _).mono ?_
      rintro e w3 ⟨rfl, rfl⟩
      clear HD
      have HW3 : Hid (Rd (w2.drewN (m + m3)) b t i ∧ Fr (· = b) w (w2.drewN (m + m3)) ∧ Blk (w2.drewN (m + m3)) n 37 (tokC zeroT) ∧ n + 1 ≤ (w2.drewN (m + m3)).heap.size) := ⟨HR2.out.drewN (m + m3), HF2.out.drewN (m + m3), HB2.out, HN2.out⟩
      try rw [World.drewN_drewN]
      generalize w2.drewN (m + m3) = w3 at *
      clear HR2 HF2 HB2 HN2
      have HEn3 := hid (HEnv.out.fr HW3.out.2.1 (fun j hj => by rw [hj]; exact Hb.out))
      go_wp2_with fail
      refine (integer_ok k HP.out HEn3.out).mono ?_
      rintro e w4 ⟨rfl, f4⟩
      have HB4 := hid (f4.blk HW3.out.2.2.1 (fun h => h))
      have HF4 := hid (HW3.out.2.1.trans f4 (fun _ h => h.elim))
      have HR4 := hid (HW3.out.1.fr f4 (fun h => h))
      clear f4 HW3
      go_wp2_with (refine wpList_storeT ⟨2, S, z, 0, k⟩ (by rfl) _ _ (by rfl) HB4.out (by rfl) (by rfl) ?_; intro w5 b5 f5)
      have HE : Hid (Fr (· = b) w w5 ∧ Rd w5 b t i) := ⟨HF4.out.trans f5 (fun i hi => .inr (by omega)), HR4.out.fr f5 (by have := HB.out; omega)⟩
      have HB5 := hid b5
      clear f5 b5
      go_wp2_with fail
      rw [HX.out]
      exact bodyPost_ret (resultsT rfl rfl rfl HB5.out) rfl ⟨rfl, HE.out⟩
  · have hl1 : decide ((S.length : Int) > 1) = false := by simp; omega
    clear HZ HS0 HSt
    rcases hpt with hq | ⟨hq, hj⟩
    · clear HD0 HP1
      go_wp2_with fail
      refine HP0.out.mono ?_
      rintro e w3 ⟨rfl, m, rfl⟩
      clear HP0
      have HW3 : Hid (Rd (w2.drewN m) b t i ∧ Fr (· = b) w (w2.drewN m) ∧ Blk (w2.drewN m) n 37 (tokC zeroT) ∧ n + 1 ≤ (w2.drewN m).heap.size) := ⟨HR2.out.drewN m, HF2.out.drewN m, HB2.out, HN2.out⟩
      generalize w2.drewN m = w3 at *
      clear HR2 HF2 HB2 HN2
      have HEn3 := hid (HEnv.out.fr HW3.out.2.1 (fun j hj => by rw [hj]; exact Hb.out))
      go_wp2_with fail
      refine (integer_ok k HP.out HEn3.out).mono ?_
      rintro e w4 ⟨rfl, f4⟩
      have HB4 := hid (f4.blk HW3.out.2.2.1 (fun h => h))
      have HF4 := hid (HW3.out.2.1.trans f4 (fun _ h => h.elim))
      have HR4 := hid (HW3.out.1.fr f4 (fun h => h))
      clear f4 HW3
      go_wp2_with (refine wpList_storeT ⟨2, S, z, 0, k⟩ (by rfl) _ _ (by rfl) HB4.out (by rfl) (by rfl) ?_; intro w5 b5 f5)
      have HE : Hid (Fr (· = b) w w5 ∧ Rd w5 b t i) := ⟨HF4.out.trans f5 (fun i hi => .inr (by omega)), HR4.out.fr f5 (by have := HB.out; omega)⟩
      have HB5 := hid b5
      clear f5 b5
      go_wp2_with fail
      rw [HX.out]
      exact bodyPost_ret (resultsT rfl rfl rfl HB5.out) rfl ⟨rfl, HE.out⟩
    · have HD := HD0
      rw [hj] at HD
      clear HD0
      go_wp2_with fail
      refine HP0.out.mono ?_
      rintro e w3 ⟨rfl, m, rfl⟩
      clear HP0
      go_wp2_with fail
      refine (HP1.out m).mono ?_
      rintro e w3 ⟨rfl, m3, rfl⟩
      clear HP1
      go_wp2_with fail
      refine (HD.out _).mono ?_
      rintro e w3 ⟨rfl, rfl⟩
      clear HD
      have HW3 : Hid (Rd (w2.drewN (m + m3)) b t i ∧ Fr (· = b) w (w2.drewN (m + m3)) ∧ Blk (w2.drewN (m + m3)) n 37 (tokC zeroT) ∧ n + 1 ≤ (w2.drewN (m + m3)).heap.size) := ⟨HR2.out.drewN (m + m3), HF2.out.drewN (m + m3), HB2.out, HN2.out⟩
      try rw [World.drewN_drewN]
      generalize w2.drewN (m + m3) = w3 at *
      clear HR2 HF2 HB2 HN2
      have HEn3 := hid (HEnv.out.fr HW3.out.2.1 (fun j hj => by rw [hj]; exact Hb.out))
      go_wp2_with fail
      refine (integer_ok k HP.out HEn3.out).mono ?_
      rintro e w4 ⟨rfl, f4⟩
      have HB4 := hid (f4.blk HW3.out.2.2.1 (fun h => h))
      have HF4 := hid (HW3.out.2.1.trans f4 (fun _ h => h.elim))
      have HR4 := hid (HW3.out.1.fr f4 (fun h => h))
      clear f4 HW3
      go_wp2_with (refine wpList_storeT ⟨2, S, z, 0, k⟩ (by rfl) _ _ (by rfl) HB4.out (by rfl) (by rfl) ?_; intro w5 b5 f5)
      have HE : Hid (Fr (· = b) w w5 ∧ Rd w5 b t i) := ⟨HF4.out.trans f5 (fun i hi => .inr (by omega)), HR4.out.fr f5 (by have := HB.out; omega)⟩
      have HB5 := hid b5
      clear f5 b5
      go_wp2_with fail
      rw [HX.out]
      exact bodyPost_ret (resultsT rfl rfl rfl HB5.out) rfl ⟨rfl, HE.out⟩

set_option maxRecDepth 100000 in
set_option maxHeartbeats 4000000 in
theorem number_intno {w0 w : World} {b : Nat} {t : List UInt8} {k : Nat} (h : Rd w b t k) (hk : k < t.length) (hd : isDig t[k] = true) (hz : 1 < upto isDig t k - k → (at0 t k == 48) = false) (hp : (at0 t (upto isDig t k) == 46) = true → isDig (at0 t (upto isDig t k + 1)) = false)
    (hP : PIno w0 (sub t k (upto isDig t k))) (hE : Env w0 w) (hb : w0.heap.size ≤ b) : Calls Tryz.prog 55 #[pv b] w (BadPost w b k 4) := by
  have HA := hid (new_tok w)
  have HF := hid ((Fr.refl (· = b) w).alloc (.cells #[.int .i64 0, .string ⟨#[]⟩, .int .i64 0, .float .f64 0, .int .i64 0] 37))
  have hR : Rd (w.alloc (.cells #[.int .i64 0, .string ⟨#[]⟩, .int .i64 0, .float .f64 0, .int .i64 0] 37)) b t k := ⟨h.blk.alloc _, h.le, h.len⟩
  have HR := hid hR
  have c1 := hR.c1
  have HB := hid h.blk.lt
  have HSz : Hid ((w.alloc (.cells #[.int .i64 0, .string ⟨#[]⟩, .int .i64 0, .float .f64 0, .int .i64 0] 37)).heap.size = w.heap.size + 1) := World.size_alloc _ _
  have htl := h.len
  have HG := hid (upto_gt hk hd)
  have HLe := hid (upto_le (p := isDig) h.le)
  have HSl := hid (sub_length t k (upto isDig t k) HLe.out)
  have HS0 : Hid (∀ h0 : 0 < (sub t k (upto isDig t k)).length, (sub t k (upto isDig t k))[0] = at0 t k) := fun h0 => by
    rw [at0_lt hk]; simp [sub]
  have HEnv := hid hE
  have Hb := hid hb
  have HP := hid hP
  have HZ : Hid (1 < (sub t k (upto isDig t k)).length → (((at0 t k).toNat : Int) == 48) = false) := fun h => by
    rw [HSl.out] at h
    have := hz h
    rw [Bool.eq_false_iff] at this ⊢
    intro h; apply this; rw [u8n]; simp at h; simp; omega
  have HPp := hid hp
  have HD0 := hid (fun w => digit_any w (at0 t (upto isDig t k + 1)))
  clear hz hp hP hE hb
  clear h hR hk hd
  generalize hn : w.heap.size = n at *
  go_enter Tryz.func55, Tryz.ntmps55
  go_wp2_with fail
  refine (run_digit HR.out).mono ?_
  rintro e w2 ⟨rfl, f2, r2⟩
  have HB2 := hid (f2.blk HA.out (by have := HB.out; omega))
  have HF2 := hid (HF.out.same f2)
  have HR2 := hid r2
  have HN2 : Hid (n + 1 ≤ w2.heap.size) := by have := f2.size; rw [HSz.out] at this; exact this
  clear f2 r2 HR HA HF c1 HSz
  generalize upto isDig t k = i at *
  have HSt := hid (fun h0 => str_at (sub t k i) 0 h0)
  generalize sub t k i = S at *
  have HP0 := hid (peek_any HR2.out 0 0 rfl (by omega))
  have HP1 := hid (fun m => peek_any (HR2.out.drewN m) 1 1 rfl (by omega))
  rw [Nat.add_zero] at HP0
  have hSl : S.length ≤ 4096 := by have := HSl.out; have := HLe.out; omega
  have hpt : (((at0 t i).toNat : Int) == 46) = false ∨ ((((at0 t i).toNat : Int) == 46) = true ∧ isDig (at0 t (i + 1)) = false) := by
    cases hq : (at0 t i == 46) with
    | true =>
      refine .inr ⟨?_, HPp.out hq⟩
      rw [u8n] at hq; simp at hq; simp [hq]
    | false =>
      refine .inl ?_
      rw [Bool.eq_false_iff] at hq ⊢
      intro h; apply hq; rw [u8n]; simp at h; simp; omega
  clear HPp
  generalize at0 t i = ci at *
  generalize at0 t (i + 1) = cj at *
  by_cases hlong : 1 < S.length
  · have hl1 : decide ((S.length : Int) > 1) = true := by simp; omega
    have hl0 : (0 : Int) < (S.length : Int) := by omega
    have HZ2 := hid (HZ.out hlong)
    have e0 := (HSt.out (by omega)).trans (HS0.out (by omega))
    have hz2 : ((((ByteArray.mk S.toArray)[0]'(by simp [ByteArray.size]; omega)).toNat : Int) == 48) = false := by rw [e0]; exact HZ2.out
    clear e0 HZ
    rcases hpt with hq | ⟨hq, hj⟩
    · clear HD0 HP1
      go_wp2_with fail
      refine HP0.out.mono ?_
      rintro e w3 ⟨rfl, m, rfl⟩
      clear HP0
      have HW3 : Hid (Rd (w2.drewN m) b t i ∧ Fr (· = b) w (w2.drewN m) ∧ Blk (w2.drewN m) n 37 (tokC zeroT) ∧ n + 1 ≤ (w2.drewN m).heap.size) := ⟨HR2.out.drewN m, HF2.out.drewN m, HB2.out, HN2.out⟩
      generalize w2.drewN m = w3 at *
      clear HR2 HF2 HB2 HN2
      have HEn3 := hid (HEnv.out.fr HW3.out.2.1 (fun j hj => by rw [hj]; exact Hb.out))
      go_wp2_with fail
      refine (integer_no k HP.out HEn3.out).mono ?_
      rintro e w4 ⟨fb, rfl, g4, q4, f4⟩
      have HB4 := hid (f4.blk HW3.out.2.2.1 (fun h => h))
      have HF4 := hid (HW3.out.2.1.trans f4 (fun _ h => h.elim))
      have HQ4 := hid q4
      have HG4 : Hid (n + 1 ≤ fb) := by have := HW3.out.2.2.2; unfold Hid; omega
      clear f4 q4 g4 HW3
      go_wp2_with (refine wpList_storeT zeroT (by rfl) _ _ (by rfl) HB4.out (by rfl) (by rfl) ?_; intro w5 b5 f5)
      have HE : Hid (Flt w5 fb k 4 ∧ Fr (· = b) w w5) := ⟨f5.blk HQ4.out (by have := HG4.out; omega), HF4.out.trans f5 (fun i hi => .inr (by omega))⟩
      have HB5 := hid b5
      clear f5 b5
      go_wp2_with fail
      exact bodyPost_ret (resultsT rfl rfl rfl HB5.out) rfl ⟨zeroT, fb, rfl, by have := HG4.out; omega, HE.out⟩
    · have HD := HD0
      rw [hj] at HD
      clear HD0
      go_wp2_with fail
      refine HP0.out.mono ?_
      rintro e w3 ⟨rfl, m, rfl⟩
      clear HP0
      go_wp2_with fail
      refine (HP1.out m).mono ?_
      rintro e w3 ⟨rfl, m3, rfl⟩
      clear HP1
      go_wp2_with fail
      refine (HD.out _).mono ?_
      rintro e w3 ⟨rfl, rfl⟩
      clear HD
      have HW3 : Hid (Rd (w2.drewN (m + m3)) b t i ∧ Fr (· = b) w (w2.drewN (m + m3)) ∧ Blk (w2.drewN (m + m3)) n 37 (tokC zeroT) ∧ n + 1 ≤ (w2.drewN (m + m3)).heap.size) := ⟨HR2.out.drewN (m + m3), HF2.out.drewN (m + m3), HB2.out, HN2.out⟩
      try rw [World.drewN_drewN]
      generalize w2.drewN (m + m3) = w3 at *
      clear HR2 HF2 HB2 HN2
      have HEn3 := hid (HEnv.out.fr HW3.out.2.1 (fun j hj => by rw [hj]; exact Hb.out))
      go_wp2_with fail
      refine (integer_no k HP.out HEn3.out).mono ?_
      rintro e w4 ⟨fb, rfl, g4, q4, f4⟩
      have HB4 := hid (f4.blk HW3.out.2.2.1 (fun h => h))
      have HF4 := hid (HW3.out.2.1.trans f4 (fun _ h => h.elim))
      have HQ4 := hid q4
      have HG4 : Hid (n + 1 ≤ fb) := by have := HW3.out.2.2.2; unfold Hid; omega
      clear f4 q4 g4 HW3
      go_wp2_with (refine wpList_storeT zeroT (by rfl) _ _ (by rfl) HB4.out (by rfl) (by rfl) ?_; intro w5 b5 f5)
      have HE : Hid (Flt w5 fb k 4 ∧ Fr (· = b) w w5) := ⟨f5.blk HQ4.out (by have := HG4.out; omega), HF4.out.trans f5 (fun i hi => .inr (by omega))⟩
      have HB5 := hid b5
      clear f5 b5
      go_wp2_with fail
      exact bodyPost_ret (resultsT rfl rfl rfl HB5.out) rfl ⟨zeroT, fb, rfl, by have := HG4.out; omega, HE.out⟩
  · have hl1 : decide ((S.length : Int) > 1) = false := by simp; omega
    clear HZ HS0 HSt
    rcases hpt with hq | ⟨hq, hj⟩
    · clear HD0 HP1
      go_wp2_with fail
      refine HP0.out.mono ?_
      rintro e w3 ⟨rfl, m, rfl⟩
      clear HP0
      have HW3 : Hid (Rd (w2.drewN m) b t i ∧ Fr (· = b) w (w2.drewN m) ∧ Blk (w2.drewN m) n 37 (tokC zeroT) ∧ n + 1 ≤ (w2.drewN m).heap.size) := ⟨HR2.out.drewN m, HF2.out.drewN m, HB2.out, HN2.out⟩
      generalize w2.drewN m = w3 at *
      clear HR2 HF2 HB2 HN2
      have HEn3 := hid (HEnv.out.fr HW3.out.2.1 (fun j hj => by rw [hj]; exact Hb.out))
      go_wp2_with fail
      refine (integer_no k HP.out HEn3.out).mono ?_
      rintro e w4 ⟨fb, rfl, g4, q4, f4⟩
      have HB4 := hid (f4.blk HW3.out.2.2.1 (fun h => h))
      have HF4 := hid (HW3.out.2.1.trans f4 (fun _ h => h.elim))
      have HQ4 := hid q4
      have HG4 : Hid (n + 1 ≤ fb) := by have := HW3.out.2.2.2; unfold Hid; omega
      clear f4 q4 g4 HW3
      go_wp2_with (refine wpList_storeT zeroT (by rfl) _ _ (by rfl) HB4.out (by rfl) (by rfl) ?_; intro w5 b5 f5)
      have HE : Hid (Flt w5 fb k 4 ∧ Fr (· = b) w w5) := ⟨f5.blk HQ4.out (by have := HG4.out; omega), HF4.out.trans f5 (fun i hi => .inr (by omega))⟩
      have HB5 := hid b5
      clear f5 b5
      go_wp2_with fail
      exact bodyPost_ret (resultsT rfl rfl rfl HB5.out) rfl ⟨zeroT, fb, rfl, by have := HG4.out; omega, HE.out⟩
    · have HD := HD0
      rw [hj] at HD
      clear HD0
      go_wp2_with fail
      refine HP0.out.mono ?_
      rintro e w3 ⟨rfl, m, rfl⟩
      clear HP0
      go_wp2_with fail
      refine (HP1.out m).mono ?_
      rintro e w3 ⟨rfl, m3, rfl⟩
      clear HP1
      go_wp2_with fail
      refine (HD.out _).mono ?_
      rintro e w3 ⟨rfl, rfl⟩
      clear HD
      have HW3 : Hid (Rd (w2.drewN (m + m3)) b t i ∧ Fr (· = b) w (w2.drewN (m + m3)) ∧ Blk (w2.drewN (m + m3)) n 37 (tokC zeroT) ∧ n + 1 ≤ (w2.drewN (m + m3)).heap.size) := ⟨HR2.out.drewN (m + m3), HF2.out.drewN (m + m3), HB2.out, HN2.out⟩
      try rw [World.drewN_drewN]
      generalize w2.drewN (m + m3) = w3 at *
      clear HR2 HF2 HB2 HN2
      have HEn3 := hid (HEnv.out.fr HW3.out.2.1 (fun j hj => by rw [hj]; exact Hb.out))
      go_wp2_with fail
      refine (integer_no k HP.out HEn3.out).mono ?_
      rintro e w4 ⟨fb, rfl, g4, q4, f4⟩
      have HB4 := hid (f4.blk HW3.out.2.2.1 (fun h => h))
      have HF4 := hid (HW3.out.2.1.trans f4 (fun _ h => h.elim))
      have HQ4 := hid q4
      have HG4 : Hid (n + 1 ≤ fb) := by have := HW3.out.2.2.2; unfold Hid; omega
      clear f4 q4 g4 HW3
      go_wp2_with (refine wpList_storeT zeroT (by rfl) _ _ (by rfl) HB4.out (by rfl) (by rfl) ?_; intro w5 b5 f5)
      have HE : Hid (Flt w5 fb k 4 ∧ Fr (· = b) w w5) := ⟨f5.blk HQ4.out (by have := HG4.out; omega), HF4.out.trans f5 (fun i hi => .inr (by omega))⟩
      have HB5 := hid b5
      clear f5 b5
      go_wp2_with fail
      exact bodyPost_ret (resultsT rfl rfl rfl HB5.out) rfl ⟨zeroT, fb, rfl, by have := HG4.out; omega, HE.out⟩

end Go.Proofs.YtionmohglmbklaaGreatDoor.Tr
