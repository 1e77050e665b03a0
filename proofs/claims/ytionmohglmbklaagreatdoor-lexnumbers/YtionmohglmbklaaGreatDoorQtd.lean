/- The contracts of meant, escaped, quoted. -/
import Derived.Test.YtionmohglmbklaaGreatDoorApp
namespace Go.Proofs.YtionmohglmbklaaGreatDoor.Tr
open Go.RowKit

def meantB (o : Option UInt8) : Value := .tuple #[.int .u8 ((o.getD 0).toNat : Int), .bool o.isSome]
theorem meant_cases (c : UInt8) : (c.toNat = 110 ∧ meant c = some 10) ∨ (c.toNat = 116 ∧ meant c = some 9) ∨ (c.toNat = 34 ∧ meant c = some c) ∨ (c.toNat = 92 ∧ meant c = some c) ∨ (c.toNat ≠ 110 ∧ c.toNat ≠ 116 ∧ c.toNat ≠ 34 ∧ c.toNat ≠ 92 ∧ meant c = none) := by
  unfold meant
  have e : ∀ d : UInt8, ((c == d) = true) = (c.toNat = d.toNat) := fun d => propext (u8n c d)
  simp only [Bool.or_eq_true, e]
  by_cases h1 : c.toNat = 110
  · simp [h1]
  by_cases h2 : c.toNat = 116
  · simp [h2]
  by_cases h3 : c.toNat = 34
  · simp [h3]
  by_cases h4 : c.toNat = 92
  · simp [h4]
  simp [h1, h2, h3, h4]

set_option maxRecDepth 100000 in
set_option maxHeartbeats 1000000 in
theorem meant_any (w : World) (c : UInt8) : Calls Tryz.prog 102 #[.int .u8 (c.toNat : Int)] w fun e w' => e = .returned (meantB (meant c)) ∧ w' = w := by
  unfold meantB
  rcases meant_cases c with ⟨h, hm⟩ | ⟨h, hm⟩ | ⟨h, hm⟩ | ⟨h, hm⟩ | ⟨h1, h2, h3, h4, hm⟩
  case inr.inr.inr.inr =>
    rw [hm]
    have hc := UInt8.toNat_lt c
    generalize c.toNat = n at *
    have e1 : ((n : Int) == 110) = false := by simp; omega
    have e2 : ((n : Int) == 116) = false := by simp; omega
    have e3 : ((n : Int) == 34) = false := by simp; omega
    have e4 : ((n : Int) == 92) = false := by simp; omega
    clear hm h1 h2 h3 h4
    go_enter Tryz.func102, Tryz.ntmps102
    go_wp2
    go_ret2
    exact ⟨rfl, rfl⟩
  all_goals
    rw [hm]
    simp only [Option.getD_some, Option.isSome_some]
    try rw [h]
    clear hm
    go_enter Tryz.func102, Tryz.ntmps102
    go_wp2
    go_ret2
    exact ⟨rfl, rfl⟩

set_option maxRecDepth 100000 in
set_option maxHeartbeats 1000000 in
theorem escaped_any {w : World} {b : Nat} {t : List UInt8} {k : Nat} (h : Rd w b t k) : Calls Tryz.prog 81 #[pv b] w fun e w' => e = .returned (meantB (escp t k)) ∧ Fr (· = b) w w' ∧ Rd w' b t (if (escp t k).isSome then k + 2 else k) := by
  have HR := hid h
  clear h
  have HP := hid (peek_any HR.out 0 0 rfl (by omega))
  rw [Nat.add_zero] at HP
  have HE : Hid (escp t k = if at0 t k == 92 then meant (at0 t (k + 1)) else none) := rfl
  have HL : Hid (∀ c, escp t k = some c → k + 2 ≤ t.length) := fun c h => escp_lt h
  generalize escp t k = o at *
  cases hc : (at0 t k == 92) with
  | false =>
    have hn : (((at0 t k).toNat : Int) != 92) = true := by
      have : (at0 t k).toNat ≠ 92 := fun e => by rw [Bool.eq_false_iff] at hc; exact hc ((u8n _ _).2 e)
      simp; omega
    rw [hc] at HE
    obtain rfl : o = none := HE.out
    generalize at0 t k = c at *
    clear HE HL
    go_enter Tryz.func81, Tryz.ntmps81
    go_wp2_with fail
    refine HP.out.mono ?_
    rintro e w2 ⟨rfl, m, rfl⟩
    clear HP
    go_wp2
    go_ret2
    exact ⟨rfl, HR.out.drew m⟩
  | true =>
    have hn : (((at0 t k).toNat : Int) != 92) = false := by
      rw [u8n] at hc; simp at hc; simp [hc]
    rw [hc] at HE
    obtain rfl : o = meant (at0 t (k + 1)) := HE.out
    clear HE
    generalize at0 t k = c at *
    have HM := hid (fun w => meant_any w (at0 t (k + 1)))
    have HP1 := hid (fun m => peek_any (HR.out.drewN m) 1 1 rfl (by omega))
    generalize at0 t (k + 1) = d at *
    generalize meant d = o at *
    cases o
    all_goals
      simp only [Option.isSome_none, Option.isSome_some, if_true, Bool.false_eq_true, if_false]
      go_enter Tryz.func81, Tryz.ntmps81
      go_wp2_with fail
      refine HP.out.mono ?_
      rintro e w2 ⟨rfl, m, rfl⟩
      clear HP
      go_wp2_with fail
      refine (HP1.out m).mono ?_
      rintro e w2 ⟨rfl, m2, rfl⟩
      clear HP1
      go_wp2_with fail
      refine (HM.out _).mono ?_
      rintro e w2 ⟨rfl, rfl⟩
      clear HM
      have HR2 := hid (HR.out.drewN (m + m2))
      have HF2 := hid ((Fr.refl (· = b) w).drewN (m + m2))
    · unfold meantB
      go_wp2
      go_ret2
      exact ⟨rfl, HF2.out, HR2.out⟩
    · unfold meantB
      go_wp2_with fail
      refine (pass_any HR2.out _ 2 rfl (HL.out _ rfl)).mono ?_
      rintro e w3 ⟨rfl, f3, r3⟩
      have HE3 := hid (And.intro (HF2.out.same f3) r3)
      clear f3 r3
      go_wp2
      go_ret2
      exact ⟨rfl, HE3.out⟩

def QPost (w : World) (b : Nat) (t : List UInt8) (k : Nat) : Oc → Ending → World → Prop
  | .fin s k', r, w' => GoodPost w b t ⟨4, s, 0, 0, k⟩ k' r w'
  | .err, r, w' => BadPost w b k 5 r w'
  | .bad k', r, w' => BadPost w b k' 3 r w'

set_option maxRecDepth 100000 in
set_option maxHeartbeats 2000000 in
theorem quoted_any {w : World} {b : Nat} {t : List UInt8} {k : Nat} {o : Oc} (h : Rd w b t k) (hk : k < t.length) (ho : StrO t (k + 1) [] o) : Calls Tryz.prog 56 #[pv b] w (QPost w b t k o) := by
  have HA := hid (new_tok w)
  have HF := hid ((Fr.refl (· = b) w).alloc (.cells #[.int .i64 0, .string ⟨#[]⟩, .int .i64 0, .float .f64 0, .int .i64 0] 37))
  have hR : Rd (w.alloc (.cells #[.int .i64 0, .string ⟨#[]⟩, .int .i64 0, .float .f64 0, .int .i64 0] 37)) b t k := ⟨h.blk.alloc _, h.le, h.len⟩
  have HR := hid hR
  have c1 := hR.c1
  have HB := hid h.blk.lt
  have HK := hid hk
  have HO := hid ho
  have htl := h.len
  clear h hR hk ho
  have HSz : Hid ((w.alloc (.cells #[.int .i64 0, .string ⟨#[]⟩, .int .i64 0, .float .f64 0, .int .i64 0] 37)).heap.size = w.heap.size + 1) := World.size_alloc _ _
  generalize hn : w.heap.size = n at *
  go_enter Tryz.func56, Tryz.ntmps56
  go_wp2_with fail
  refine (pass_any HR.out _ 1 rfl (by have := HK.out; omega)).mono ?_
  rintro e w2 ⟨rfl, f2, r2⟩
  have HB2 := hid (f2.blk HA.out (by have := HB.out; omega))
  have HS2 : Hid (n + 1 ≤ w2.heap.size) := by have := f2.size; rw [HSz.out] at this; exact this
  have HF2 := hid (HF.out.same f2)
  have HR2 := hid r2
  clear f2 r2 HR HA HF c1
  go_wp2_with fail
  go_loopw [5, 6, 7] (fun bv _ _ wr => ∃ (i : Nat) (s : List UInt8), Rd wr b t i ∧ StrO t i s o ∧ wr.ownsRow (n + 1) 5 1 bv s.length (bs s) ∧ s.length ≤ 1025 ∧ Fr (· = b) w wr ∧ Blk wr n 37 (tokC zeroT) ∧ n + 1 ≤ wr.heap.size) (fun _ _ _ wr => t.length - curK wr b)
  case atStart => exact ⟨k + 1, [], HR2.out, HO.out, World.ownsRow_nil _ _ _ _, by simp, HF2.out, HB2.out, HS2.out⟩
  case round =>
    obtain ⟨i, s, hR, hO, hOw, hsl, hF, hBn, hSz⟩ := hrel
    clear HO HR2 HF2 HB2 HS2
    have HU := hid (And.intro hR (And.intro hF (And.intro hBn hSz)))
    have HOw := hid hOw
    have HO := hid hO
    clear hR hO hOw hF hBn hSz
    go_wp2_with fail
    refine (run_plain HU.out.1).mono ?_
    rintro e w3 ⟨rfl, f3, r3⟩
    have hbn := HB.out
    have hOw3 : w3.ownsRow (n + 1) 5 1 u5 s.length (bs s) := owns_of_eq HOw.out (fun k' hk' => f3.block k' (HOw.out.lt k' hk').2 (fun e => by have := (HOw.out.lt k' hk').1; omega))
    have HOw3 := hid hOw3
    have HU3 := hid (And.intro r3 (And.intro (HU.out.2.1.same f3) (And.intro (f3.blk HU.out.2.2.1 (by omega)) (Nat.le_trans HU.out.2.2.2 f3.size))))
    have HCur : Hid (t.length - curK wr b = t.length - i) := by unfold Hid; rw [HU.out.1.cur]
    have HGe := hid (upto_ge isPl t i)
    have hsub : (sub t i (upto isPl t i)).length ≤ 4096 := by
      have := sub_length t i (upto isPl t i) r3.le; have := r3.le; omega
    clear f3 r3 hOw3 HU HOw
    generalize hu : upto isPl t i = u at *
    have HUq := hid hu
    clear hu
    go_wp2_with (at_builtin; refine Hid.out ?_)
    refine hid ?_
    refine wpList_append_src (by rfl) _ _ 9 (by rfl) (n + 1) s.length (sub t i u).length u5 (.string ⟨(sub t i u).toArray⟩) (bs s) (bs (sub t i u)) (by rfl) (by rfl) HOw3.out (srcStr _ _) (by omega) HU3.out.2.2.2 ?_
    intro v4 w4 h4
    obtain ⟨a4, c4, hv4⟩ := own_len h4.own
    subst hv4
    have hS : s.length + (sub t i u).length = (s ++ sub t i u).length := by simp
    have hO4 : w4.ownsRow (n + 1) 5 1 (.slice a4 (s.length + (sub t i u).length) c4) (s ++ sub t i u).length (bs (s ++ sub t i u)) := by
      have := h4.own
      rw [hS] at this ⊢
      simpa [bs] using this
    have f4 : Fr (fun k => n + 1 ≤ k) w3 w4 := (Fr.refl _ w3).grown h4.grown (fun k' hk' => .inl (HOw3.out.lt k' hk').1)
    have hW4 : Rd w4 b t u ∧ Fr (· = b) w w4 ∧ Blk w4 n 37 (tokC zeroT) ∧ n + 1 ≤ w4.heap.size := ⟨HU3.out.1.fr f4 (by omega), HU3.out.2.1.trans f4 (fun i hi => .inr (by omega)), f4.blk HU3.out.2.2.1 (by omega), Nat.le_trans HU3.out.2.2.2 f4.size⟩
    have HW4 := hid hW4
    have HO4 := hid hO4
    clear h4 hO4 f4 hW4 HU3 HOw3
    rw [hS] at HO4
    rw [hS]
    have hSl : (s ++ sub t i u).length ≤ 6000 := by rw [← hS]; omega
    clear hS hsub
    have HEn := hid (ended_any HW4.out.1)
    cases HO.out with
    | err hx =>
      rw [HUq.out] at hx
      generalize hSS : s ++ sub t i u = S at *
      by_cases hlong : 1024 < S.length
      · have hl1 : decide ((S.length : Int) > 1024) = true := by simp; omega
        obtain ⟨W5, hW5⟩ : ∃ W5, W5 = w4 := ⟨_, rfl⟩
        have HW5 := HW4
        rw [← hW5] at HW5
        subst hW5
        clear hx HO HEn HO4 HW4
        go_wp2_with fail
        refine (fault_any _ k 5).mono ?_
        rintro e w6 ⟨rfl, q6, f6⟩
        have hs6 := f6.size
        have HB6 := hid (f6.blk HW5.out.2.2.1 (fun h => h))
        have HQ6 := hid (And.intro q6 (And.intro (HW5.out.2.1.trans f6 (fun _ h => h.elim)) (Nat.le_trans (by have := HW5.out.2.2.2; omega) (Nat.le_refl W5.heap.size))))
        clear q6 f6
        go_wp2_with (refine wpList_storeT zeroT (by rfl) _ _ (by rfl) HB6.out (by rfl) (by rfl) ?_; intro w7 b7 f7)
        have HB7 := hid b7
        have HE : Hid (Flt w7 W5.heap.size k 5 ∧ Fr (· = b) w w7) := ⟨f7.blk HQ6.out.1 (by have := HW5.out.2.2.2; omega), HQ6.out.2.1.trans f7 (fun i hi => .inr (by omega))⟩
        clear b7 f7
        go_wp2_with fail
        exact bodyPost_ret (resultsT rfl rfl rfl HB7.out) rfl ⟨zeroT, W5.heap.size, rfl, by have := HW5.out.2.2.2; omega, HE.out⟩
      · have hl1 : decide ((S.length : Int) > 1024) = false := by simp; omega
        have hend : (u == t.length) = true := by simp; omega
        rw [hend] at HEn
        clear hx HO HO4
        go_wp2_with fail
        refine HEn.out.mono ?_
        rintro e w5 ⟨rfl, m, rfl⟩
        have HW5 : Hid (Rd (w4.drewN m) b t u ∧ Fr (· = b) w (w4.drewN m) ∧ Blk (w4.drewN m) n 37 (tokC zeroT) ∧ n + 1 ≤ (w4.drewN m).heap.size) := ⟨HW4.out.1.drewN m, HW4.out.2.1.drewN m, HW4.out.2.2.1, HW4.out.2.2.2⟩
        generalize w4.drewN m = W5 at *
        clear HEn HW4
        go_wp2_with fail
        refine (fault_any _ k 5).mono ?_
        rintro e w6 ⟨rfl, q6, f6⟩
        have hs6 := f6.size
        have HB6 := hid (f6.blk HW5.out.2.2.1 (fun h => h))
        have HQ6 := hid (And.intro q6 (And.intro (HW5.out.2.1.trans f6 (fun _ h => h.elim)) (Nat.le_trans (by have := HW5.out.2.2.2; omega) (Nat.le_refl W5.heap.size))))
        clear q6 f6
        go_wp2_with (refine wpList_storeT zeroT (by rfl) _ _ (by rfl) HB6.out (by rfl) (by rfl) ?_; intro w7 b7 f7)
        have HB7 := hid b7
        have HE : Hid (Flt w7 W5.heap.size k 5 ∧ Fr (· = b) w w7) := ⟨f7.blk HQ6.out.1 (by have := HW5.out.2.2.2; omega), HQ6.out.2.1.trans f7 (fun i hi => .inr (by omega))⟩
        clear b7 f7
        go_wp2_with fail
        exact bodyPost_ret (resultsT rfl rfl rfl HB7.out) rfl ⟨zeroT, W5.heap.size, rfl, by have := HW5.out.2.2.2; omega, HE.out⟩
    | fin h1 h2 h3 =>
      rw [HUq.out] at h1 h2 h3
      have hl1 : decide (((s ++ sub t i u).length : Int) > 1024) = false := by simp only [decide_eq_false_iff_not]; omega
      have hend : (u == t.length) = false := by simp; omega
      rw [hend] at HEn
      have HH1 := hid h1
      have HH2 := hid h2
      clear h1 h2 HO
      generalize hSS : s ++ sub t i u = S at *
      have HSS := hid hSS
      clear hSS
      go_wp2_with fail
      refine HEn.out.mono ?_
      rintro e w5 ⟨rfl, m, rfl⟩
      have HW5 : Hid (Rd (w4.drewN m) b t u ∧ Fr (· = b) w (w4.drewN m) ∧ Blk (w4.drewN m) n 37 (tokC zeroT) ∧ n + 1 ≤ (w4.drewN m).heap.size) := ⟨HW4.out.1.drewN m, HW4.out.2.1.drewN m, HW4.out.2.2.1, HW4.out.2.2.2⟩
      have HO5 : Hid ((w4.drewN m).ownsRow (n + 1) 5 1 (.slice a4 S.length c4) S.length (bs S)) := HO4.out
      generalize w4.drewN m = w5 at *
      clear HEn HW4 HO4
      have HP := hid (peek_any HW5.out.1 0 0 rfl (by omega))
      rw [Nat.add_zero] at HP
      have hn34 : (((at0 t u).toNat : Int) == 34) = true := by
        rw [u8n] at h3; simp at h3; simp [h3]
      generalize at0 t u = cu at *
      clear h3
      go_wp2_with fail
      refine HP.out.mono ?_
      rintro e w6 ⟨rfl, m6, rfl⟩
      clear HP
      have HW6 : Hid (Rd (w5.drewN m6) b t u ∧ Fr (· = b) w (w5.drewN m6) ∧ Blk (w5.drewN m6) n 37 (tokC zeroT) ∧ n + 1 ≤ (w5.drewN m6).heap.size) := ⟨HW5.out.1.drewN m6, HW5.out.2.1.drewN m6, HW5.out.2.2.1, HW5.out.2.2.2⟩
      have HO6 : Hid ((w5.drewN m6).ownsRow (n + 1) 5 1 (.slice a4 S.length c4) S.length (bs S)) := HO5.out
      generalize w5.drewN m6 = w6 at *
      clear HW5 HO5
      go_wp2_with fail
      refine (pass_any HW6.out.1 _ 1 rfl (by have := HH2.out; omega)).mono ?_
      rintro e w7 ⟨rfl, f7, r7⟩
      have HW7 : Hid (Rd w7 b t (u + 1) ∧ Fr (· = b) w w7 ∧ Blk w7 n 37 (tokC zeroT)) := ⟨r7, HW6.out.2.1.same f7, f7.blk HW6.out.2.2.1 (by omega)⟩
      have hO7 : w7.ownsRow (n + 1) 5 1 (.slice a4 S.length c4) S.length (bs S) := owns_of_eq HO6.out (fun k' hk' => f7.block k' (HO6.out.lt k' hk').2 (fun e => by have := (HO6.out.lt k' hk').1; omega))
      have hcv := conv_bytes (src_own hO7) c4
      clear f7 r7 hO7 HW6 HO6
      go_wp2_with (refine wpList_storeT ⟨4, S, 0, 0, k⟩ (by rfl) _ _ (by rfl) HW7.out.2.2 (by rfl) (by rfl) ?_; intro w8 b8 f8)
      have HB8 := hid b8
      have HE : Hid (Fr (· = b) w w8 ∧ Rd w8 b t (u + 1)) := ⟨HW7.out.2.1.trans f8 (fun i hi => .inr (by omega)), HW7.out.1.fr f8 (by omega)⟩
      clear b8 f8
      go_wp2_with fail
      exact bodyPost_ret (resultsT rfl rfl rfl HB8.out) rfl (show GoodPost w b t ⟨4, s ++ sub t i (upto isPl t i), 0, 0, k⟩ (upto isPl t i + 1) _ _ from by rw [HUq.out, HSS.out]; exact ⟨rfl, HE.out⟩)
    | bad h1 h2 h3 h4 =>
      rw [HUq.out] at h4
      rw [HUq.out] at h1 h2 h3
      have hl1 : decide (((s ++ sub t i u).length : Int) > 1024) = false := by simp only [decide_eq_false_iff_not]; omega
      have hend : (u == t.length) = false := by simp; omega
      rw [hend] at HEn
      have HH1 := hid h1
      have HH2 := hid h2
      clear h1 h2 HO
      generalize hSS : s ++ sub t i u = S at *
      have HSS := hid hSS
      clear hSS
      go_wp2_with fail
      refine HEn.out.mono ?_
      rintro e w5 ⟨rfl, m, rfl⟩
      have HW5 : Hid (Rd (w4.drewN m) b t u ∧ Fr (· = b) w (w4.drewN m) ∧ Blk (w4.drewN m) n 37 (tokC zeroT) ∧ n + 1 ≤ (w4.drewN m).heap.size) := ⟨HW4.out.1.drewN m, HW4.out.2.1.drewN m, HW4.out.2.2.1, HW4.out.2.2.2⟩
      have HO5 : Hid ((w4.drewN m).ownsRow (n + 1) 5 1 (.slice a4 S.length c4) S.length (bs S)) := HO4.out
      generalize w4.drewN m = w5 at *
      clear HEn HW4 HO4
      have HP := hid (peek_any HW5.out.1 0 0 rfl (by omega))
      rw [Nat.add_zero] at HP
      have hn34 : (((at0 t u).toNat : Int) == 34) = false := by
        rw [Bool.eq_false_iff] at h3 ⊢
        intro h; apply h3; rw [u8n]; simp at h; simp; omega
      generalize hcu : at0 t u = cu at *
      clear hcu h3
      go_wp2_with fail
      refine HP.out.mono ?_
      rintro e w6 ⟨rfl, m6, rfl⟩
      clear HP
      have HW6 : Hid (Rd (w5.drewN m6) b t u ∧ Fr (· = b) w (w5.drewN m6) ∧ Blk (w5.drewN m6) n 37 (tokC zeroT) ∧ n + 1 ≤ (w5.drewN m6).heap.size) := ⟨HW5.out.1.drewN m6, HW5.out.2.1.drewN m6, HW5.out.2.2.1, HW5.out.2.2.2⟩
      have HO6 : Hid ((w5.drewN m6).ownsRow (n + 1) 5 1 (.slice a4 S.length c4) S.length (bs S)) := HO5.out
      generalize w5.drewN m6 = w6 at *
      clear HW5 HO5
      go_wp2_with fail
      refine (escaped_any HW6.out.1).mono ?_
      rintro e w7 ⟨rfl, f7, r7⟩
      rw [h4] at r7 ⊢
      simp at r7
      have HW7 : Hid (Rd w7 b t u ∧ Fr (· = b) w w7 ∧ Blk w7 n 37 (tokC zeroT) ∧ n + 1 ≤ w7.heap.size) := ⟨r7, HW6.out.2.1.same f7, f7.blk HW6.out.2.2.1 (by omega), Nat.le_trans HW6.out.2.2.2 f7.size⟩
      have HO7 : Hid (w7.ownsRow (n + 1) 5 1 (.slice a4 S.length c4) S.length (bs S)) := owns_of_eq HO6.out (fun k' hk' => f7.block k' (HO6.out.lt k' hk').2 (fun e => by have := (HO6.out.lt k' hk').1; omega))
      clear f7 r7 HW6 HO6 h4
      unfold meantB
      have c1 := HW7.out.1.c1
      have HW5 := HW7
      clear HW7 HO7
      generalize hw7 : w7 = W5 at *
      clear hw7
      go_wp2_with fail
      refine (fault_any _ u 3).mono ?_
      rintro e w6 ⟨rfl, q6, f6⟩
      have hs6 := f6.size
      have HB6 := hid (f6.blk HW5.out.2.2.1 (fun h => h))
      have HQ6 := hid (And.intro q6 (And.intro (HW5.out.2.1.trans f6 (fun _ h => h.elim)) (Nat.le_trans (by have := HW5.out.2.2.2; omega) (Nat.le_refl W5.heap.size))))
      clear q6 f6
      go_wp2_with (refine wpList_storeT zeroT (by rfl) _ _ (by rfl) HB6.out (by rfl) (by rfl) ?_; intro w7 b7 f7)
      have HB7 := hid b7
      have HE : Hid (Flt w7 W5.heap.size u 3 ∧ Fr (· = b) w w7) := ⟨f7.blk HQ6.out.1 (by have := HW5.out.2.2.2; omega), HQ6.out.2.1.trans f7 (fun i hi => .inr (by omega))⟩
      clear b7 f7
      go_wp2_with fail
      exact bodyPost_ret (resultsT rfl rfl rfl HB7.out) rfl (show BadPost w b (upto isPl t i) 3 _ _ from by rw [HUq.out]; exact ⟨zeroT, W5.heap.size, rfl, by have := HW5.out.2.2.2; omega, HE.out⟩)
    | esc h1 h2 h3 h4 h5 =>
      rename_i cx
      rw [HUq.out] at h4 h5
      have HLt := hid (escp_lt h4)
      have H5 := hid h5
      clear h5
      rw [HUq.out] at h1 h2 h3
      have hl1 : decide (((s ++ sub t i u).length : Int) > 1024) = false := by simp only [decide_eq_false_iff_not]; omega
      have hend : (u == t.length) = false := by simp; omega
      rw [hend] at HEn
      have HH1 := hid h1
      have HH2 := hid h2
      clear h1 h2 HO
      generalize hSS : s ++ sub t i u = S at *
      have HSS := hid hSS
      clear hSS
      go_wp2_with fail
      refine HEn.out.mono ?_
      rintro e w5 ⟨rfl, m, rfl⟩
      have HW5 : Hid (Rd (w4.drewN m) b t u ∧ Fr (· = b) w (w4.drewN m) ∧ Blk (w4.drewN m) n 37 (tokC zeroT) ∧ n + 1 ≤ (w4.drewN m).heap.size) := ⟨HW4.out.1.drewN m, HW4.out.2.1.drewN m, HW4.out.2.2.1, HW4.out.2.2.2⟩
      have HO5 : Hid ((w4.drewN m).ownsRow (n + 1) 5 1 (.slice a4 S.length c4) S.length (bs S)) := HO4.out
      generalize w4.drewN m = w5 at *
      clear HEn HW4 HO4
      have HP := hid (peek_any HW5.out.1 0 0 rfl (by omega))
      rw [Nat.add_zero] at HP
      have hn34 : (((at0 t u).toNat : Int) == 34) = false := by
        rw [Bool.eq_false_iff] at h3 ⊢
        intro h; apply h3; rw [u8n]; simp at h; simp; omega
      generalize hcu : at0 t u = cu at *
      clear hcu h3
      go_wp2_with fail
      refine HP.out.mono ?_
      rintro e w6 ⟨rfl, m6, rfl⟩
      clear HP
      have HW6 : Hid (Rd (w5.drewN m6) b t u ∧ Fr (· = b) w (w5.drewN m6) ∧ Blk (w5.drewN m6) n 37 (tokC zeroT) ∧ n + 1 ≤ (w5.drewN m6).heap.size) := ⟨HW5.out.1.drewN m6, HW5.out.2.1.drewN m6, HW5.out.2.2.1, HW5.out.2.2.2⟩
      have HO6 : Hid ((w5.drewN m6).ownsRow (n + 1) 5 1 (.slice a4 S.length c4) S.length (bs S)) := HO5.out
      generalize w5.drewN m6 = w6 at *
      clear HW5 HO5
      go_wp2_with fail
      refine (escaped_any HW6.out.1).mono ?_
      rintro e w7 ⟨rfl, f7, r7⟩
      rw [h4] at r7 ⊢
      simp at r7
      have HW7 : Hid (Rd w7 b t (u + 2) ∧ Fr (· = b) w w7 ∧ Blk w7 n 37 (tokC zeroT) ∧ n + 1 ≤ w7.heap.size) := ⟨r7, HW6.out.2.1.same f7, f7.blk HW6.out.2.2.1 (by omega), Nat.le_trans HW6.out.2.2.2 f7.size⟩
      have HO7 : Hid (w7.ownsRow (n + 1) 5 1 (.slice a4 S.length c4) S.length (bs S)) := owns_of_eq HO6.out (fun k' hk' => f7.block k' (HO6.out.lt k' hk').2 (fun e => by have := (HO6.out.lt k' hk').1; omega))
      clear f7 r7 HW6 HO6 h4
      unfold meantB
      have HN8 : Hid (Src (w7.alloc (.cells #[.int .u8 (cx.toNat : Int)] 5)) (some ⟨w7.heap.size, 0, none⟩) [cx]) := fun _ => ⟨_, _, rfl, (Blk.new w7 5 (bs [cx])).range 0 _ rfl⟩
      have HW8 : Hid (Rd (w7.alloc (.cells #[.int .u8 (cx.toNat : Int)] 5)) b t (u + 2) ∧ Fr (· = b) w (w7.alloc (.cells #[.int .u8 (cx.toNat : Int)] 5)) ∧ Blk (w7.alloc (.cells #[.int .u8 (cx.toNat : Int)] 5)) n 37 (tokC zeroT) ∧ n + 1 ≤ (w7.alloc (.cells #[.int .u8 (cx.toNat : Int)] 5)).heap.size) :=
        ⟨⟨HW7.out.1.blk.alloc _, HW7.out.1.le, HW7.out.1.len⟩, HW7.out.2.1.alloc _, HW7.out.2.2.1.alloc _, by rw [World.size_alloc]; have := HW7.out.2.2.2; omega⟩
      have HO8 : Hid ((w7.alloc (.cells #[.int .u8 (cx.toNat : Int)] 5)).ownsRow (n + 1) 5 1 (.slice a4 S.length c4) S.length (bs S)) := owns_of_eq HO7.out (fun k' hk' => Below.heap_alloc w7 _ k' (HO7.out.lt k' hk').2)
      clear HW7 HO7
      go_wp2_with (at_builtin; refine Hid.out ?_)
      refine hid ?_
      generalize w7.alloc (.cells #[.int .u8 (cx.toNat : Int)] 5) = w8 at *
      refine wpList_append_src (by rfl) _ _ 60 (by rfl) (n + 1) S.length 1 (.slice a4 S.length c4) (.slice (some ⟨w7.heap.size, 0, none⟩) 1 1) (bs S) (bs [cx]) (by rfl) (by rfl) HO8.out (srcBytes HN8.out 1) (by have := HH1.out; omega) HW8.out.2.2.2 ?_
      intro v9 w9 h9
      have f9 : Fr (fun k => n + 1 ≤ k) w8 w9 := (Fr.refl _ w8).grown h9.grown (fun k' hk' => .inl (HO8.out.lt k' hk').1)
      have HW9 : Hid (Rd w9 b t (u + 2) ∧ Fr (· = b) w w9 ∧ Blk w9 n 37 (tokC zeroT) ∧ n + 1 ≤ w9.heap.size) := ⟨HW8.out.1.fr f9 (by omega), HW8.out.2.1.trans f9 (fun i hi => .inr (by omega)), f9.blk HW8.out.2.2.1 (by omega), Nat.le_trans HW8.out.2.2.2 f9.size⟩
      have HO9 : Hid (w9.ownsRow (n + 1) 5 1 v9 (S ++ [cx]).length (bs (S ++ [cx]))) := by
        have := h9.own
        simpa [bs, Hid] using this
      clear h9 f9 HW8 HO8 HN8
      go_wp2
      refine ⟨⟨u + 2, S ++ [cx], HW9.out.1, H5.out, HO9.out, by have := HH1.out; simp; omega, HW9.out.2.1, HW9.out.2.2.1, HW9.out.2.2.2⟩, ?_⟩
      rw [HW9.out.1.cur, HCur.out]
      have := HGe.out
      have := HLt.out
      omega

end Go.Proofs.YtionmohglmbklaaGreatDoor.Tr
