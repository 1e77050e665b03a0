/- The contracts of exponent, fraction, float, integer, number. -/
import Derived.Test.YtionmohglmbklaaGreatDoorQtd
import Derived.Test.YtionmohglmbklaaGreatDoorHnd
namespace Go.Proofs.YtionmohglmbklaaGreatDoor.Tr
open Go.RowKit

/-- What lay in memory at the beginning is there as it was. -/
def Env (w0 W : World) : Prop := w0.heap.size ≤ W.heap.size ∧ ∀ j, j < w0.heap.size → W.heap[j]? = w0.heap[j]?
theorem Env.refl (w : World) : Env w w := ⟨Nat.le_refl _, fun _ _ => rfl⟩
theorem Env.fr {w0 W W' : World} (h : Env w0 W) {F : Nat → Prop} (f : Fr F W W') (hF : ∀ j, F j → w0.heap.size ≤ j) : Env w0 W' :=
  ⟨Nat.le_trans h.1 f.size, fun j hj => (f.block j (Nat.lt_of_lt_of_le hj h.1) (fun hf => absurd (hF j hf) (by omega))).trans (h.2 j hj)⟩

/-- Storing a token, at the operation. -/
theorem wp_storeT {op : Oper} {a : Act} {W : World} {K : Act → World → Prop} {Q : Exit → Act → World → Prop} (x0 : Tok) (x y : Operand) (ho : op.op = .store 37 x y) {b : Nat} {old : Tok} (hb : Blk W b 37 (tokC old))
    (hx : a.eval x = .pointer (some ⟨b, 0, none⟩)) (hy : a.eval y = tokV x0) (h : ∀ W', Blk W' b 37 (tokC x0) → Fr (· = b) W W' → K (a.put op.dst undef) W') : op.wp Tryz.prog a W K Q := by
  have hs : (Instr.storeAt 37 (.pointer (some ⟨b, 0, none⟩)) (tokV x0)).run Tryz.prog W = .ok () (W.setCells b 0 (tokC x0)) := by
    have h := run_storeAt_mid (P := Tryz.prog) W b 0 37 (tokC x0).toArray (hb.there 0 5 (Nat.le_refl 5)) sizeT (all_oneCell_toArray (tokC_one x0))
    rw [show tokV x0 = .agg (tokC x0).toArray from rfl]; simpa using h
  have hb' : Blk (W.setCells b 0 (tokC x0)) b 37 (tokC x0) := hb.setCells (tokC x0) 0 (Nat.le_refl 5)
  have hf : Fr (· = b) W (W.setCells b 0 (tokC x0)) := (Fr.refl (· = b) W).setCells (b := b) (.inl rfl) _ _
  unfold Oper.wp execOp
  simp only [ho, hx, hy, hs, Sem.run_bind, Sem.run_pure, Result.andThen_ok]
  exact h _ hb' hf

/-- ParseFloat takes a text as a float. -/
def PFok (w0 : World) (s : List UInt8) (f : Nat) : Prop := ∀ w, Env w0 w → Calls Tryz.prog 47 #[.string ⟨s.toArray⟩, .int .i64 64] w fun e w' => e = .returned (.tuple #[.float .f64 f, .nilIface]) ∧ Fr (fun _ => False) w w'
/-- ParseFloat refuses a text. -/
def PFno (w0 : World) (s : List UInt8) : Prop := ∀ w, Env w0 w → Calls Tryz.prog 47 #[.string ⟨s.toArray⟩, .int .i64 64] w fun e w' => ∃ f T u, e = .returned (.tuple #[.float .f64 f, .iface T u]) ∧ Fr (fun _ => False) w w'
def PIok (w0 : World) (s : List UInt8) (n : Int) : Prop := ∀ w, Env w0 w → Calls Tryz.prog 101 #[.string ⟨s.toArray⟩, .int .i64 10, .int .i64 64] w fun e w' => e = .returned (.tuple #[.int .i64 n, .nilIface]) ∧ Fr (fun _ => False) w w'
def PIno (w0 : World) (s : List UInt8) : Prop := ∀ w, Env w0 w → Calls Tryz.prog 101 #[.string ⟨s.toArray⟩, .int .i64 10, .int .i64 64] w fun e w' => ∃ n T u, e = .returned (.tuple #[.int .i64 n, .iface T u]) ∧ Fr (fun _ => False) w w'

set_option maxRecDepth 100000 in
set_option maxHeartbeats 1000000 in
theorem float_ok {w0 w : World} {s : List UInt8} {f : Nat} (k : Nat) (hP : PFok w0 s f) (hE : Env w0 w) : Calls Tryz.prog 77 #[.string ⟨s.toArray⟩, .int .i64 (k : Int)] w fun e w' => e = .returned (.tuple #[tokV ⟨3, s, 0, f, k⟩, .nilIface]) ∧ Fr (fun _ => False) w w' := by
  have HA := hid (new_tok w)
  have HF := hid ((Fr.refl (fun _ => False) w).alloc (.cells #[.int .i64 0, .string ⟨#[]⟩, .int .i64 0, .float .f64 0, .int .i64 0] 37))
  have HC := hid (hP _ (hE.fr HF.out (fun _ h => h.elim)))
  clear hP hE
  generalize hn : w.heap.size = n at *
  go_enter Tryz.func77, Tryz.ntmps77
  go_wp2_with fail
  refine HC.out.mono ?_
  rintro e w2 ⟨rfl, f2⟩
  have HB2 := hid (f2.blk HA.out (fun h => h))
  have HF2 := hid (HF.out.same f2)
  clear f2 HA HF HC
  go_wp2_with (refine wpList_storeT ⟨3, s, 0, f, k⟩ (by rfl) _ _ (by rfl) HB2.out (by rfl) (by rfl) ?_; intro w3 b3 f3)
  have HE : Hid (Fr (fun _ => False) w w3) := HF2.out.trans f3 (fun i hi => .inr (by omega))
  have HB3 := hid b3
  clear f3 b3
  go_wp2_with fail
  exact bodyPost_ret (resultsT rfl rfl rfl HB3.out) rfl ⟨rfl, HE.out⟩

set_option maxRecDepth 100000 in
set_option maxHeartbeats 1000000 in
theorem exponent_any {w : World} {b : Nat} {t : List UInt8} {k : Nat} (h : Rd w b t k) : Calls Tryz.prog 100 #[pv b] w fun e w' => e = .returned (.int .i64 (expLen t k : Int)) ∧ ∃ m, w' = w.drewN m := by
  have HR := hid h
  clear h
  have HP := hid (peek_any HR.out 0 0 rfl (by omega))
  rw [Nat.add_zero] at HP
  have HP1 := hid (fun m => peek_any (HR.out.drewN m) 1 1 rfl (by omega))
  have HP2 := hid (fun m => peek_any (HR.out.drewN m) 2 2 rfl (by omega))
  have HE : expLen t k = if (at0 t k).toNat ≠ 101 ∧ (at0 t k).toNat ≠ 69 then 0 else if (at0 t (k + 1)).toNat = 43 ∨ (at0 t (k + 1)).toNat = 45 then (if isDig (at0 t (k + 2)) then 2 else 0) else (if isDig (at0 t (k + 1)) then 1 else 0) := by
    unfold expLen
    have e1 : ∀ c d : UInt8, ((c == d) = true) = (c.toNat = d.toNat) := fun c d => propext (u8n c d)
    have e2 : ∀ c d : UInt8, ((c != d) = true) = (c.toNat ≠ d.toNat) := fun c d => by rw [bne_iff_ne]; exact propext ⟨fun h e => h (UInt8.toNat_inj.1 e), fun h e => h (by rw [e])⟩
    simp only [Bool.and_eq_true, Bool.or_eq_true, e1, e2]
    rfl
  rw [HE]
  clear HE
  have HD1 := hid (fun w => digit_any w (at0 t (k + 1)))
  have HD2 := hid (fun w => digit_any w (at0 t (k + 2)))
  have l0 := UInt8.toNat_lt (at0 t k)
  have l1 := UInt8.toNat_lt (at0 t (k + 1))
  generalize (at0 t k).toNat = c0 at *
  generalize isDig (at0 t (k + 1)) = d1 at *
  generalize isDig (at0 t (k + 2)) = d2 at *
  generalize (at0 t (k + 1)).toNat = c1 at *
  generalize (at0 t (k + 2)).toNat = c2 at *
  by_cases h1 : c0 ≠ 101 ∧ c0 ≠ 69
  · rw [if_pos h1]
    obtain ⟨a1, a2⟩ := h1
    have e1 : ((c0 : Int) != 101) = true := by simp; omega
    have e2 : ((c0 : Int) != 69) = true := by simp; omega
    clear HP1 HP2 HD1 HD2 a1 a2
    go_enter Tryz.func100, Tryz.ntmps100
    go_wp2_with fail
    refine HP.out.mono ?_
    rintro e w2 ⟨rfl, m, rfl⟩
    go_wp2
    go_ret
    exact ⟨rfl, _, rfl⟩
  rw [if_neg h1]
  have three : (c0 = 101 ∨ c0 = 69) := by omega
  by_cases h2 : c1 = 43 ∨ c1 = 45
  · rw [if_pos h2]
    rcases three with rfl | rfl <;> rcases h2 with rfl | rfl <;> cases d2
    all_goals
      clear HD1 h1
      go_enter Tryz.func100, Tryz.ntmps100
      go_wp2_with fail
      refine HP.out.mono ?_
      rintro e w2 ⟨rfl, m, rfl⟩
      clear HP
      go_wp2_with fail
      refine (HP1.out m).mono ?_
      rintro e w2 ⟨rfl, m2, rfl⟩
      clear HP1
      rw [World.drewN_drewN]
      go_wp2_with fail
      refine (HP2.out _).mono ?_
      rintro e w2 ⟨rfl, m3, rfl⟩
      clear HP2
      go_wp2_with fail
      refine (HD2.out _).mono ?_
      rintro e w2 ⟨rfl, rfl⟩
      clear HD2
      go_wp2
      go_ret
      exact ⟨rfl, _, by first | rfl | rw [World.drewN_drewN]⟩
  · rw [if_neg h2]
    have a1 : ((c1 : Int) == 43) = false := by simp; omega
    have a2 : ((c1 : Int) == 45) = false := by simp; omega
    rcases three with rfl | rfl <;> cases d1
    all_goals
      clear HD2 HP2 h1 h2
      have HP3 := HP1
      go_enter Tryz.func100, Tryz.ntmps100
      go_wp2_with fail
      refine HP.out.mono ?_
      rintro e w2 ⟨rfl, m, rfl⟩
      clear HP
      go_wp2_with fail
      refine (HP1.out m).mono ?_
      rintro e w2 ⟨rfl, m2, rfl⟩
      clear HP1
      rw [World.drewN_drewN]
      go_wp2_with fail
      refine (HP3.out _).mono ?_
      rintro e w2 ⟨rfl, m3, rfl⟩
      clear HP3
      go_wp2_with fail
      refine (HD1.out _).mono ?_
      rintro e w2 ⟨rfl, rfl⟩
      clear HD1
      go_wp2
      go_ret
      exact ⟨rfl, _, by first | rfl | rw [World.drewN_drewN]⟩

theorem exp_le {t : List UInt8} {k : Nat} (h : expLen t k ≠ 0) : k + expLen t k ≤ t.length := by
  have hd : ∀ j, isDig (at0 t j) = true → j < t.length := fun j hj => by
    rcases Nat.lt_or_ge j t.length with hl | hl
    · exact hl
    · rw [at0_ge hl] at hj; cases hj
  unfold expLen at h ⊢
  split
  · rename_i h1; rw [if_pos h1] at h; exact absurd rfl h
  · split
    · split
      · rename_i h1; have := hd _ h1; omega
      · rename_i h1 h2 h3; rw [if_neg h1, if_pos h2, if_neg h3] at h; exact absurd rfl h
    · split
      · rename_i h1; have := hd _ h1; omega
      · rename_i h1 h2 h3; rw [if_neg h1, if_neg h2, if_neg h3] at h; exact absurd rfl h
theorem frac_le {t : List UInt8} {k : Nat} (hk : k < t.length) : fracEnd t k ≤ t.length := by
  unfold fracEnd
  simp only
  split
  · exact upto_le (by omega)
  · rename_i h; exact upto_le (exp_le h)
theorem frac_ge (t : List UInt8) (k : Nat) : k < fracEnd t k := by
  unfold fracEnd
  simp only
  have h1 := upto_ge isDig t (k + 1)
  have h2 := upto_ge isDig t (upto isDig t (k + 1) + expLen t (upto isDig t (k + 1)))
  split <;> omega

set_option maxRecDepth 100000 in
set_option maxHeartbeats 1000000 in
theorem fraction_any {w : World} {b : Nat} {t : List UInt8} {k : Nat} (h : Rd w b t k) (hk : k < t.length) : Calls Tryz.prog 76 #[pv b] w fun e w' => e = .returned (.tuple #[]) ∧ Fr (· = b) w w' ∧ Rd w' b t (fracEnd t k) := by
  have HC := hid (pass_any h 1 1 rfl (by omega))
  have HX : Hid (fracEnd t k = if expLen t (upto isDig t (k + 1)) = 0 then upto isDig t (k + 1) else upto isDig t (upto isDig t (k + 1) + expLen t (upto isDig t (k + 1)))) := rfl
  have HL : Hid (expLen t (upto isDig t (k + 1)) ≠ 0 → upto isDig t (k + 1) + expLen t (upto isDig t (k + 1)) ≤ t.length) := exp_le
  clear h hk
  generalize fracEnd t k = fe at *
  go_enter Tryz.func76, Tryz.ntmps76
  go_wp2_with fail
  refine HC.out.mono ?_
  rintro e w1 ⟨rfl, f1, r1⟩
  have HF1 := hid f1
  have HC1 := hid (run_digit r1)
  clear f1 r1 HC
  go_wp2_with fail
  refine HC1.out.mono ?_
  rintro e w2 ⟨rfl, f2, r2⟩
  have HF2 := hid (HF1.out.same f2)
  have HR2 := hid r2
  clear f2 r2 HC1 HF1
  generalize upto isDig t (k + 1) = i at *
  go_wp2_with fail
  refine (exponent_any HR2.out).mono ?_
  rintro e w3 ⟨rfl, m, rfl⟩
  generalize expLen t i = el at *
  by_cases h0 : el = 0
  · rw [if_pos h0] at HX
    subst h0
    go_wp2_with fail
    go_end0
    rw [HX.out]
    exact ⟨rfl, HF2.out.drewN m, HR2.out.drewN m⟩
  · rw [if_neg h0] at HX
    have h1 : 0 < el := by omega
    have HL2 := hid (HL.out h0)
    clear HL h0
    go_wp2_with fail
    refine (pass_any (HR2.out.drewN m) _ el rfl HL2.out).mono ?_
    rintro e w4 ⟨rfl, f4, r4⟩
    have HF4 := hid ((HF2.out.drewN m).same f4)
    have HC4 := hid (run_digit r4)
    clear f4 r4
    go_wp2_with fail
    refine HC4.out.mono ?_
    rintro e w5 ⟨rfl, f5, r5⟩
    have HE := hid (And.intro (HF4.out.same f5) r5)
    clear f5 r5 HC4
    go_wp2_with fail
    go_end0
    rw [HX.out]
    exact ⟨rfl, HE.out⟩

def tokF (t : List UInt8) (k f : Nat) : Tok := ⟨3, sub t k (fracEnd t (upto isDig t k)), 0, f, k⟩

set_option maxRecDepth 100000 in
set_option maxHeartbeats 2000000 in
theorem number_float {w0 w : World} {b : Nat} {t : List UInt8} {k f : Nat} (h : Rd w b t k) (hk : k < t.length) (hd : isDig t[k] = true) (hz : 1 < upto isDig t k - k → (at0 t k == 48) = false) (hp : (at0 t (upto isDig t k) == 46) = true) (hp1 : isDig (at0 t (upto isDig t k + 1)) = true)
    (hP : PFok w0 (sub t k (fracEnd t (upto isDig t k))) f) (hE : Env w0 w) (hb : w0.heap.size ≤ b) : Calls Tryz.prog 55 #[pv b] w (GoodPost w b t (tokF t k f) (fracEnd t (upto isDig t k))) := by
  have HA := hid (new_tok w)
  have HF := hid ((Fr.refl (· = b) w).alloc (.cells #[.int .i64 0, .string ⟨#[]⟩, .int .i64 0, .float .f64 0, .int .i64 0] 37))
  have hR : Rd (w.alloc (.cells #[.int .i64 0, .string ⟨#[]⟩, .int .i64 0, .float .f64 0, .int .i64 0] 37)) b t k := ⟨h.blk.alloc _, h.le, h.len⟩
  have HR := hid hR
  have c1 := hR.c1
  have HB := hid h.blk.lt
  have htl := h.len
  have HEnv := hid hE
  have Hb := hid hb
  have HP := hid hP
  have HG := hid (upto_gt hk hd)
  have HLe := hid (upto_le (p := isDig) h.le)
  have HSl := hid (sub_length t k (upto isDig t k) HLe.out)
  have HPt := hid (at0_pos (by decide) hp)
  have HX : Hid (tokF t k f = ⟨3, sub t k (fracEnd t (upto isDig t k)), 0, f, k⟩) := rfl
  have HFl := hid (frac_le HPt.out)
  have HFg := hid (frac_ge t (upto isDig t k))
  have hn46 : (((at0 t (upto isDig t k)).toNat : Int) == 46) = true := by rw [u8n] at hp; simp at hp; simp [hp]
  have HD := hid (fun w => digit_any w (at0 t (upto isDig t k + 1)))
  rw [hp1] at HD
  have HS0 : Hid (∀ h0 : 0 < (sub t k (upto isDig t k)).length, (sub t k (upto isDig t k))[0] = at0 t k) := fun h0 => by
    rw [at0_lt hk]; simp [sub]
  have HZ : Hid (1 < (sub t k (upto isDig t k)).length → (((at0 t k).toNat : Int) == 48) = false) := fun h => by
    rw [HSl.out] at h
    have := hz h
    rw [Bool.eq_false_iff] at this ⊢
    intro h; apply this; rw [u8n]; simp at h; simp; omega
  clear h hR hk hd hz hp hp1 hP hE hb
  generalize hn : w.heap.size = n at *
  generalize tokF t k f = tk at *
  go_enter Tryz.func55, Tryz.ntmps55
  go_wp2_with fail
  refine (run_digit HR.out).mono ?_
  rintro e w2 ⟨rfl, f2, r2⟩
  have HB2 := hid (f2.blk HA.out (by have := HB.out; omega))
  have HF2 := hid (HF.out.same f2)
  have HR2 := hid r2
  clear f2 r2 HR HA HF c1
  generalize upto isDig t k = i at *
  have HSt := hid (fun h0 => str_at (sub t k i) 0 h0)
  generalize sub t k i = S at *
  have HP0 := hid (peek_any HR2.out 0 0 rfl (by omega))
  have HP1 := hid (fun m => peek_any (HR2.out.drewN m) 1 1 rfl (by omega))
  rw [Nat.add_zero] at HP0
  generalize at0 t i = ci at *
  generalize at0 t (i + 1) = cj at *
  have hSl : S.length ≤ 4096 := by have := HSl.out; have := HLe.out; omega
  by_cases hlong : 1 < S.length
  · have hl1 : decide ((S.length : Int) > 1) = true := by simp; omega
    have hl0 : (0 : Int) < (S.length : Int) := by omega
    have HZ2 := hid (HZ.out hlong)
    have e0 := (HSt.out (by omega)).trans (HS0.out (by omega))
    have hz2 : ((((ByteArray.mk S.toArray)[0]'(by simp [ByteArray.size]; omega)).toNat : Int) == 48) = false := by rw [e0]; exact HZ2.out
    clear e0 HZ
    go_wp2_with fail
    refine HP0.out.mono ?_
    rintro e w3 ⟨rfl, m, rfl⟩
    clear HP0
    go_wp2_with fail
    refine (HP1.out m).mono ?_
    rintro e w3 ⟨rfl, m3, rfl⟩
    clear HP1
    go_wp2_with fail
    refine (HD.out _).mono ?_
    rintro e w3 ⟨rfl, rfl⟩
    clear HD
    have HR3 := hid (HR2.out.drewN (m + m3))
    have HF3 := hid (HF2.out.drewN (m + m3))
    have HB3 : Hid (Blk (w2.drewN (m + m3)) n 37 (tokC zeroT)) := HB2.out
    try rw [World.drewN_drewN]
    generalize w2.drewN (m + m3) = w3 at *
    clear HR2 HF2 HB2
    go_wp2_with fail
    refine (fraction_any HR3.out HPt.out).mono ?_
    rintro e w4 ⟨rfl, f4, r4⟩
    have HF4 := hid (HF3.out.same f4)
    have HB4 := hid (f4.blk HB3.out (by have := HB.out; omega))
    have HR4 := hid r4
    have d0 := r4.c0
    have d1 := r4.c1
    clear f4 r4 HF3 HB3 HR3
    generalize fracEnd t i = fe at *
    have hfe1 : (fe : Int) ≤ (t.length : Int) := by have := HFl.out; omega
    have hfe2 : (k : Int) ≤ (fe : Int) := by have := HFg.out; have := HG.out; omega
    have hfe0 : (0 : Int) ≤ (k : Int) := by omega
    have hfe3 : (0 : Int) ≤ (fe : Int) := by omega
    have HXx := hid (ext_sub t k fe)
    have HEn4 := hid (HEnv.out.fr HF4.out (fun j hj => by rw [hj]; exact Hb.out))
    go_wp2_with fail
    have HD0 : Hid (Fr (· = n) w4 w4.drew) := (Fr.refl _ _).drew
    have HRd := hid (fun (W : World) (f : Fr (· = n) w4 W) => HR4.out.fr f (by have := HB.out; omega))
    refine wp_region_noPanic ?_
    refine wp_region_held_drew (S := (fun w' => Fr (· = n) w4 w')) (by kernel_rfl) HD0.out (fun _ => ?_)
    refine takeH (i := 0) (d := some 33) (pv b) rfl (by kernel_rfl) (by kernel_rfl) (by kernel_rfl) (fun _ _ _ _ h => h) HD0.out (fun o ho => by cases ho; exact .inl ⟨by rfl, fun w hSw => by (go_simp)⟩) ?_
    simp only [Act.put, List.setIfInBounds_toArray, List.set_cons_zero, List.set_cons_succ]
    refine takeH (i := 1) (d := some 34) (.pointer (some ⟨b, 0, none⟩)) rfl (by kernel_rfl) (by kernel_rfl) (by kernel_rfl) (fun _ _ _ _ h => h) HD0.out (fun o ho => by cases ho; exact .inl ⟨by rfl, fun w hSw => by (go_simp)⟩) ?_
    simp only [Act.put, List.setIfInBounds_toArray, List.set_cons_zero, List.set_cons_succ]
    refine takeH (i := 2) (d := some 35) (.pointer (some ⟨b, 0, none⟩)) rfl (by kernel_rfl) (by kernel_rfl) (by kernel_rfl) (fun _ _ _ _ h => h) HD0.out (fun o ho => by cases ho; exact .inl ⟨by rfl, fun w hSw => by (go_simp)⟩) ?_
    simp only [Act.put, List.setIfInBounds_toArray, List.set_cons_zero, List.set_cons_succ]
    refine takeH (i := 3) (d := some 36) (.string ⟨t.toArray⟩) rfl (by kernel_rfl) (by kernel_rfl) (by kernel_rfl) (fun _ _ _ _ h => h) HD0.out (fun o ho => by cases ho; exact .inl ⟨by rfl, fun w hSw => by (have d0 := (HRd.out _ hSw).c0; have d1 := (HRd.out _ hSw).c1; go_simp)⟩) ?_
    simp only [Act.put, List.setIfInBounds_toArray, List.set_cons_zero, List.set_cons_succ]
    refine takeH (i := 4) (d := some 37) (.int .i64 (k : Int)) rfl (by kernel_rfl) (by kernel_rfl) (by kernel_rfl) (fun _ _ _ _ h => h) HD0.out (fun o ho => by cases ho; exact .inl ⟨by rfl, fun w hSw => by (go_simp)⟩) ?_
    simp only [Act.put, List.setIfInBounds_toArray, List.set_cons_zero, List.set_cons_succ]
    refine takeH (i := 5) (d := some 38) (pv b) rfl (by kernel_rfl) (by kernel_rfl) (by kernel_rfl) (fun _ _ _ _ h => h) HD0.out (fun o ho => by cases ho; exact .inl ⟨by rfl, fun w hSw => by (go_simp)⟩) ?_
    simp only [Act.put, List.setIfInBounds_toArray, List.set_cons_zero, List.set_cons_succ]
    refine takeH (i := 6) (d := some 39) (.pointer (some ⟨b, 0, none⟩)) rfl (by kernel_rfl) (by kernel_rfl) (by kernel_rfl) (fun _ _ _ _ h => h) HD0.out (fun o ho => by cases ho; exact .inl ⟨by rfl, fun w hSw => by (go_simp)⟩) ?_
    simp only [Act.put, List.setIfInBounds_toArray, List.set_cons_zero, List.set_cons_succ]
    refine takeH (i := 7) (d := some 40) (.pointer (some ⟨b, 1, none⟩)) rfl (by kernel_rfl) (by kernel_rfl) (by kernel_rfl) (fun _ _ _ _ h => h) HD0.out (fun o ho => by cases ho; exact .inl ⟨by rfl, fun w hSw => by (go_simp)⟩) ?_
    simp only [Act.put, List.setIfInBounds_toArray, List.set_cons_zero, List.set_cons_succ]
    refine takeH (i := 8) (d := some 41) (.int .i64 (fe : Int)) rfl (by kernel_rfl) (by kernel_rfl) (by kernel_rfl) (fun _ _ _ _ h => h) HD0.out (fun o ho => by cases ho; exact .inl ⟨by rfl, fun w hSw => by (have d0 := (HRd.out _ hSw).c0; have d1 := (HRd.out _ hSw).c1; go_simp)⟩) ?_
    simp only [Act.put, List.setIfInBounds_toArray, List.set_cons_zero, List.set_cons_succ]
    refine takeH (i := 9) (d := some 42) (.string ((ByteArray.mk t.toArray).extract k fe)) rfl (by kernel_rfl) (by kernel_rfl) (by kernel_rfl) (fun _ _ _ _ h => h) HD0.out (fun o ho => by cases ho; exact .inl ⟨by rfl, fun w hSw => by (go_simp)⟩) ?_
    simp only [Act.put, List.setIfInBounds_toArray, List.set_cons_zero, List.set_cons_succ]
    refine takeH (i := 10) (d := some 43) (.int .i64 (k : Int)) rfl (by kernel_rfl) (by kernel_rfl) (by kernel_rfl) (fun _ _ _ _ h => h) HD0.out (fun o ho => by cases ho; exact .inl ⟨by rfl, fun w hSw => by (go_simp)⟩) ?_
    simp only [Act.put, List.setIfInBounds_toArray, List.set_cons_zero, List.set_cons_succ]
    rw [HXx.out]
    refine oneH (i := 11) (by kernel_rfl) (fun o ho K' hK => ?_) (by decide)
    cases ho
    rw [if_pos (by rfl)]
    go_simp
    refine (float_ok k HP.out (HEn4.out.fr HD0.out (fun j hj => by have := HB.out; have := Hb.out; omega))).mono ?_
    rintro e w5 ⟨rfl, f5⟩
    have HF5 : Hid (Fr (· = n) w4 w5) := HD0.out.trans f5 (fun _ h => h.elim)
    have HB5 : Hid (Blk w5 n 37 (tokC zeroT)) := f5.blk (HB4.out.drew) (fun h => h)
    clear f5
    refine hK.out _ _ HF5.out ?_
    clear hK K'
    try simp only [Act.put, List.setIfInBounds_toArray, List.set_cons_zero, List.set_cons_succ]
    refine takeH (i := 12) (d := some 45) (tokV ⟨3, sub t k fe, 0, f, k⟩) rfl (by kernel_rfl) (by kernel_rfl) (by kernel_rfl) (fun _ _ _ _ h => h) HF5.out (fun o ho => by cases ho; exact .inl ⟨by rfl, fun w hSw => by (go_simp)⟩) ?_
    simp only [Act.put, List.setIfInBounds_toArray, List.set_cons_zero, List.set_cons_succ]
    refine takeH (i := 13) (d := some 46) (.nilIface) rfl (by kernel_rfl) (by kernel_rfl) (by kernel_rfl) (fun _ _ _ _ h => h) HF5.out (fun o ho => by cases ho; exact .inl ⟨by rfl, fun w hSw => by (go_simp)⟩) ?_
    simp only [Act.put, List.setIfInBounds_toArray, List.set_cons_zero, List.set_cons_succ]
    refine oneH (i := 14) (by kernel_rfl) (fun o ho K' hK => ?_) (by decide)
    cases ho
    rw [if_pos (by rfl)]
    refine wp_storeT ⟨3, sub t k fe, 0, f, k⟩ _ _ (by rfl) HB5.out (by rfl) (by rfl) ?_
    intro w6 b6 f6
    have HB6 := hid b6
    have HF6 := hid (HF5.out.same f6)
    clear b6 f6
    refine hK.out _ _ HF6.out ?_
    clear hK K'
    try simp only [Act.put, List.setIfInBounds_toArray]
    refine takeH (i := 15) (d := some 3) (.nilIface) rfl (by kernel_rfl) (by kernel_rfl) (by kernel_rfl) (fun _ _ _ _ h => h) HF6.out (fun o ho => by cases ho; exact .inl ⟨by rfl, fun w hSw => by (go_simp)⟩) ?_
    simp only [Act.put]
    refine wpAnyH_done (by kernel_rfl) (NoPanic.normal ?_) _
    have HE : Hid (Fr (· = b) w w6 ∧ Rd w6 b t fe) := ⟨HF4.out.trans HF6.out (fun i hi => .inr (by omega)), HRd.out _ HF6.out⟩
    go_wp2_with fail
    rw [HX.out]
    exact bodyPost_ret (resultsT rfl rfl rfl HB6.out) rfl ⟨rfl, HE.out⟩
  · have hl1 : decide ((S.length : Int) > 1) = false := by simp; omega
    clear HZ HS0 HSt
    go_wp2_with fail
    refine HP0.out.mono ?_
    rintro e w3 ⟨rfl, m, rfl⟩
    clear HP0
    go_wp2_with fail
    refine (HP1.out m).mono ?_
    rintro e w3 ⟨rfl, m3, rfl⟩
    clear HP1
    go_wp2_with fail
    refine (HD.out _).mono ?_
    rintro e w3 ⟨rfl, rfl⟩
    clear HD
    have HR3 := hid (HR2.out.drewN (m + m3))
    have HF3 := hid (HF2.out.drewN (m + m3))
    have HB3 : Hid (Blk (w2.drewN (m + m3)) n 37 (tokC zeroT)) := HB2.out
    try rw [World.drewN_drewN]
    generalize w2.drewN (m + m3) = w3 at *
    clear HR2 HF2 HB2
    go_wp2_with fail
    refine (fraction_any HR3.out HPt.out).mono ?_
    rintro e w4 ⟨rfl, f4, r4⟩
    have HF4 := hid (HF3.out.same f4)
    have HB4 := hid (f4.blk HB3.out (by have := HB.out; omega))
    have HR4 := hid r4
    have d0 := r4.c0
    have d1 := r4.c1
    clear f4 r4 HF3 HB3 HR3
    generalize fracEnd t i = fe at *
    have hfe1 : (fe : Int) ≤ (t.length : Int) := by have := HFl.out; omega
    have hfe2 : (k : Int) ≤ (fe : Int) := by have := HFg.out; have := HG.out; omega
    have hfe0 : (0 : Int) ≤ (k : Int) := by omega
    have hfe3 : (0 : Int) ≤ (fe : Int) := by omega
    have HXx := hid (ext_sub t k fe)
    have HEn4 := hid (HEnv.out.fr HF4.out (fun j hj => by rw [hj]; exact Hb.out))
    go_wp2_with fail
    have HD0 : Hid (Fr (· = n) w4 w4.drew) := (Fr.refl _ _).drew
    have HRd := hid (fun (W : World) (f : Fr (· = n) w4 W) => HR4.out.fr f (by have := HB.out; omega))
    refine wp_region_noPanic ?_
    refine wp_region_held_drew (S := (fun w' => Fr (· = n) w4 w')) (by kernel_rfl) HD0.out (fun _ => ?_)
    refine takeH (i := 0) (d := some 33) (pv b) rfl (by kernel_rfl) (by kernel_rfl) (by kernel_rfl) (fun _ _ _ _ h => h) HD0.out (fun o ho => by cases ho; exact .inl ⟨by rfl, fun w hSw => by (go_simp)⟩) ?_
    simp only [Act.put, List.setIfInBounds_toArray, List.set_cons_zero, List.set_cons_succ]
    refine takeH (i := 1) (d := some 34) (.pointer (some ⟨b, 0, none⟩)) rfl (by kernel_rfl) (by kernel_rfl) (by kernel_rfl) (fun _ _ _ _ h => h) HD0.out (fun o ho => by cases ho; exact .inl ⟨by rfl, fun w hSw => by (go_simp)⟩) ?_
    simp only [Act.put, List.setIfInBounds_toArray, List.set_cons_zero, List.set_cons_succ]
    refine takeH (i := 2) (d := some 35) (.pointer (some ⟨b, 0, none⟩)) rfl (by kernel_rfl) (by kernel_rfl) (by kernel_rfl) (fun _ _ _ _ h => h) HD0.out (fun o ho => by cases ho; exact .inl ⟨by rfl, fun w hSw => by (go_simp)⟩) ?_
    simp only [Act.put, List.setIfInBounds_toArray, List.set_cons_zero, List.set_cons_succ]
    refine takeH (i := 3) (d := some 36) (.string ⟨t.toArray⟩) rfl (by kernel_rfl) (by kernel_rfl) (by kernel_rfl) (fun _ _ _ _ h => h) HD0.out (fun o ho => by cases ho; exact .inl ⟨by rfl, fun w hSw => by (have d0 := (HRd.out _ hSw).c0; have d1 := (HRd.out _ hSw).c1; go_simp)⟩) ?_
    simp only [Act.put, List.setIfInBounds_toArray, List.set_cons_zero, List.set_cons_succ]
    refine takeH (i := 4) (d := some 37) (.int .i64 (k : Int)) rfl (by kernel_rfl) (by kernel_rfl) (by kernel_rfl) (fun _ _ _ _ h => h) HD0.out (fun o ho => by cases ho; exact .inl ⟨by rfl, fun w hSw => by (go_simp)⟩) ?_
    simp only [Act.put, List.setIfInBounds_toArray, List.set_cons_zero, List.set_cons_succ]
    refine takeH (i := 5) (d := some 38) (pv b) rfl (by kernel_rfl) (by kernel_rfl) (by kernel_rfl) (fun _ _ _ _ h => h) HD0.out (fun o ho => by cases ho; exact .inl ⟨by rfl, fun w hSw => by (go_simp)⟩) ?_
    simp only [Act.put, List.setIfInBounds_toArray, List.set_cons_zero, List.set_cons_succ]
    refine takeH (i := 6) (d := some 39) (.pointer (some ⟨b, 0, none⟩)) rfl (by kernel_rfl) (by kernel_rfl) (by kernel_rfl) (fun _ _ _ _ h => h) HD0.out (fun o ho => by cases ho; exact .inl ⟨by rfl, fun w hSw => by (go_simp)⟩) ?_
    simp only [Act.put, List.setIfInBounds_toArray, List.set_cons_zero, List.set_cons_succ]
    refine takeH (i := 7) (d := some 40) (.pointer (some ⟨b, 1, none⟩)) rfl (by kernel_rfl) (by kernel_rfl) (by kernel_rfl) (fun _ _ _ _ h => h) HD0.out (fun o ho => by cases ho; exact .inl ⟨by rfl, fun w hSw => by (go_simp)⟩) ?_
    simp only [Act.put, List.setIfInBounds_toArray, List.set_cons_zero, List.set_cons_succ]
    refine takeH (i := 8) (d := some 41) (.int .i64 (fe : Int)) rfl (by kernel_rfl) (by kernel_rfl) (by kernel_rfl) (fun _ _ _ _ h => h) HD0.out (fun o ho => by cases ho; exact .inl ⟨by rfl, fun w hSw => by (have d0 := (HRd.out _ hSw).c0; have d1 := (HRd.out _ hSw).c1; go_simp)⟩) ?_
    simp only [Act.put, List.setIfInBounds_toArray, List.set_cons_zero, List.set_cons_succ]
    refine takeH (i := 9) (d := some 42) (.string ((ByteArray.mk t.toArray).extract k fe)) rfl (by kernel_rfl) (by kernel_rfl) (by kernel_rfl) (fun _ _ _ _ h => h) HD0.out (fun o ho => by cases ho; exact .inl ⟨by rfl, fun w hSw => by (go_simp)⟩) ?_
    simp only [Act.put, List.setIfInBounds_toArray, List.set_cons_zero, List.set_cons_succ]
    refine takeH (i := 10) (d := some 43) (.int .i64 (k : Int)) rfl (by kernel_rfl) (by kernel_rfl) (by kernel_rfl) (fun _ _ _ _ h => h) HD0.out (fun o ho => by cases ho; exact .inl ⟨by rfl, fun w hSw => by (go_simp)⟩) ?_
    simp only [Act.put, List.setIfInBounds_toArray, List.set_cons_zero, List.set_cons_succ]
    rw [HXx.out]
    refine oneH (i := 11) (by kernel_rfl) (fun o ho K' hK => ?_) (by decide)
    cases ho
    rw [if_pos (by rfl)]
    go_simp
    refine (float_ok k HP.out (HEn4.out.fr HD0.out (fun j hj => by have := HB.out; have := Hb.out; omega))).mono ?_
    rintro e w5 ⟨rfl, f5⟩
    have HF5 : Hid (Fr (· = n) w4 w5) := HD0.out.trans f5 (fun _ h => h.elim)
    have HB5 : Hid (Blk w5 n 37 (tokC zeroT)) := f5.blk (HB4.out.drew) (fun h => h)
    clear f5
    refine hK.out _ _ HF5.out ?_
    clear hK K'
    try simp only [Act.put, List.setIfInBounds_toArray, List.set_cons_zero, List.set_cons_succ]
    refine takeH (i := 12) (d := some 45) (tokV ⟨3, sub t k fe, 0, f, k⟩) rfl (by kernel_rfl) (by kernel_rfl) (by kernel_rfl) (fun _ _ _ _ h => h) HF5.out (fun o ho => by cases ho; exact .inl ⟨by rfl, fun w hSw => by (go_simp)⟩) ?_
    simp only [Act.put, List.setIfInBounds_toArray, List.set_cons_zero, List.set_cons_succ]
    refine takeH (i := 13) (d := some 46) (.nilIface) rfl (by kernel_rfl) (by kernel_rfl) (by kernel_rfl) (fun _ _ _ _ h => h) HF5.out (fun o ho => by cases ho; exact .inl ⟨by rfl, fun w hSw => by (go_simp)⟩) ?_
    simp only [Act.put, List.setIfInBounds_toArray, List.set_cons_zero, List.set_cons_succ]
    refine oneH (i := 14) (by kernel_rfl) (fun o ho K' hK => ?_) (by decide)
    cases ho
    rw [if_pos (by rfl)]
    refine wp_storeT ⟨3, sub t k fe, 0, f, k⟩ _ _ (by rfl) HB5.out (by rfl) (by rfl) ?_
    intro w6 b6 f6
    have HB6 := hid b6
    have HF6 := hid (HF5.out.same f6)
    clear b6 f6
    refine hK.out _ _ HF6.out ?_
    clear hK K'
    try simp only [Act.put, List.setIfInBounds_toArray]
    refine takeH (i := 15) (d := some 3) (.nilIface) rfl (by kernel_rfl) (by kernel_rfl) (by kernel_rfl) (fun _ _ _ _ h => h) HF6.out (fun o ho => by cases ho; exact .inl ⟨by rfl, fun w hSw => by (go_simp)⟩) ?_
    simp only [Act.put]
    refine wpAnyH_done (by kernel_rfl) (NoPanic.normal ?_) _
    have HE : Hid (Fr (· = b) w w6 ∧ Rd w6 b t fe) := ⟨HF4.out.trans HF6.out (fun i hi => .inr (by omega)), HRd.out _ HF6.out⟩
    go_wp2_with fail
    rw [HX.out]
    exact bodyPost_ret (resultsT rfl rfl rfl HB6.out) rfl ⟨rfl, HE.out⟩

end Go.Proofs.YtionmohglmbklaaGreatDoor.Tr
