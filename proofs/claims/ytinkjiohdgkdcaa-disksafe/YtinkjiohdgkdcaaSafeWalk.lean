/- The walk of DiskSafe. -/
import Derived.Test.YtinkjiohdgkdcaaMade
import Derived.Test.YtinkjiohdgkdcaaClone
namespace Go.Proofs.Ytinkjiohdgkdcaa.Dk
open Go.RowKit

theorem start_off {D : Dsk} (h : D.up = false) : (if D.up = true then (42 : Int) else 0) = 0 := by simp [h]

theorem crash_none {k : Nat} {D : Dsk} (h : DInv k D) : (D.crash 0).up = false ∧ (D.crash 0).N = D.L ∧ (D.crash 0).Q = [] := by
  have e : D.crash 0 = D.fail 0 := by simp [Dsk.crash, h.up]
  rw [e]
  exact ⟨rfl, settle_zero _ _ _, rfl⟩
theorem crash_all {k : Nat} {D : Dsk} (h : DInv k D) (cl cn : Nat) (zl zn : List Value) : (({ D with cl := cl, cn := cn, zl := zl, zn := zn } : Dsk).crash ones).up = false ∧ (({ D with cl := cl, cn := cn, zl := zl, zn := zn } : Dsk).crash ones).N = D.N := by
  have e : ({ D with cl := cl, cn := cn, zl := zl, zn := zn } : Dsk).crash ones = ({ D with cl := cl, cn := cn, zl := zl, zn := zn } : Dsk).fail ones := by simp [Dsk.crash, h.up]
  rw [e]
  exact ⟨rfl, h.now.symm⟩
theorem Own2.fr0 {G : Nat → Prop} {w w' : World} {p p2 : Nat} {D D2 : Dsk} (h : Own2 G w p D p2 D2) (f : Fr (fun _ => False) w w') : Own2 G w' p D p2 D2 := by
  obtain ⟨bl, bn, lv, bl2, bn2, lv2, r1, r2, g, d⟩ := h
  exact ⟨bl, bn, lv, bl2, bn2, lv2, r1.frame f (fun _ _ h => h), r2.frame f (fun _ _ h => h), fun k hk => ⟨Nat.lt_of_lt_of_le (g k hk).1 f.size, (g k hk).2⟩, d⟩

set_option maxRecDepth 100000 in
set_option maxHeartbeats 1000000 in
theorem safe_walk (w : World) (n : Int) (ad : Option Addr) (len cap : Nat) (ad2 : Option Addr) (len2 cap2 : Nat) (n0 : -9223372036854775808 ≤ n) (n1 : n ≤ 9223372036854775807) (hL : ArgOpsS w ad len) (hL2 : ArgOpsS w ad2 len2) :
    Calls Try.prog 4 #[.int .i64 n, .slice ad len cap, .slice ad2 len2 cap2] w fun e w' => e = .returned (.bool true) ∧ Kp (GW w) w w' := by
  have HL := hid hL
  have HL2 := hid hL2
  clear hL hL2
  go_enter Try.func4, Try.ntmps4
  go_wp2_with fail
  refine (shown_any (GW w) w (fun _ h => h)).mono ?_
  rintro e w1 ⟨rfl, f1⟩
  have F1 := hid f1
  clear f1
  go_wp2_with fail
  refine (made_any w w1 F1.out n n0 n1 ad len cap HL.out).mono ?_
  rintro e w2 ⟨p, D0, rfl, d2, f2, hI, hn, hLN, hQ⟩
  have F2 := hid (F1.out.trans f2)
  have D2 := hid d2
  have HI := hid hI
  have HLN := hid hLN
  clear d2 f2 F1 hI hLN hQ HL
  go_wp2_with fail
  refine (image_any D2.out HI.out.up).mono ?_
  rintro e w3 ⟨rfl, f3⟩
  have F3 := hid (F2.out.trans (Kp.fr0 f3))
  have D3 := hid (D2.out.fr0 f3)
  clear f3 F2 D2
  go_wp2_with fail
  go_loopw [10] (fun i wr => ∃ (k : Nat) (D : Dsk), k ≤ 60 ∧ i = .int .i64 (k : Int) ∧ Own (GW w) wr p D ∧ Kp (GW w) w wr ∧ DInv (61 + k) D ∧ D.L = D0.N) (fun i _ => 60 - (intOf i).toNat)
  case atStart => exact ⟨0, D0, by omega, rfl, D3.out, F3.out, HI.out, HLN.out⟩
  case round =>
    obtain ⟨k, D, hk60, rfl, hO, hF, hJ, hDL⟩ := hrel
    have HO := hid hO
    have HF := hid hF
    have HJ := hid hJ
    have HD := hid hDL
    clear hO hF hJ hDL
    have sQ : D.Q.length < 1073741824 := by have := HJ.out.q; omega
    have sD : D.deeds < 1073741824 := by have := HJ.out.d; omega
    by_cases hlt : k < len2 ∧ k < 60
    · obtain ⟨hlt1, hlt2⟩ := hlt
      obtain ⟨lb, lo, x, rfl, hx, hxs⟩ := HL2.out k hlt1
      have OA := hx.kept HF.out
      have OX := hid hx
      have K1 : Kp (GW w) w wr.drew := Fr.drew HF.out
      have HK1 := hid K1
      have hk0 : (0 : Int) ≤ (k : Int) := Int.natCast_nonneg _
      have hk1 : (k : Int) < (len2 : Int) := by omega
      have hk2 : (k : Int) < 60 := by omega
      have C0 := OA.kind
      by_cases hkd : x.kind = 1
      · have hkb : (x.kind != 1) = false := by simp [hkd]
        clear hx OA K1 hkd
        go_wp2_with fail
        exact ⟨⟨k + 1, D, by omega, by go_num, HO.out, HF.out, HJ.out.more (by omega), HD.out⟩, by simp [intOf]; omega⟩
      · have hkb : (x.kind != 1) = true := by simpa using hkd
        have HSec : Hid (Calls Try.prog 26 #[.agg #[.int .i64 x.kind, .int .i64 x.a, .slice x.ad x.bytes.length x.cap, .int .u8 x.c, .bool x.fit, .int .u64 (x.keep : Int)]] wr.drew fun e w' => SecPost wr.drew x.sec e w') :=
          sector_any wr.drew x OA.c0 (fun _ => hxs) (fun hb => by obtain ⟨bb, bo, e1, e2, e3⟩ := OA.src hb; exact ⟨bb, bo, e1, by simpa using e2, e3⟩)
        have HO' := hid HO.out.drew
        have HW := hid (HJ.out.write x.a x.sec)
        clear hx OA K1 hkd
        go_wp2_with fail
        go_region_held3 (fun w' => w'.cell? ⟨lb, lo + k * 6, none⟩ = some (.int .i64 x.kind) ∧ w'.cell? ⟨lb, lo + k * 6 + 1, none⟩ = some (.int .i64 x.a) ∧ w'.cell? ⟨lb, lo + k * 6 + 2, none⟩ = some (.slice x.ad x.bytes.length x.cap) ∧
            w'.cell? ⟨lb, lo + k * 6 + 3, none⟩ = some (.int .u8 x.c) ∧ w'.cell? ⟨lb, lo + k * 6 + 4, none⟩ = some (.bool x.fit) ∧ w'.cell? ⟨lb, lo + k * 6 + 5, none⟩ = some (.int .u64 (x.keep : Int)))
          (first
            | exact (OX.out.kept HK1.out).cells
            | exact (OX.out.kept (Kp.trans (Kp.trans HK1.out (Kp.fr0 f4)) f5)).cells
            | exact (OX.out.kept (Kp.trans HK1.out (Kp.fr0 f4))).cells)
          (first
            | (go_at_call 26; refine HSec.out.mono ?_; rintro e w4 ⟨ad4, cap4, rfl, f4, g4⟩)
            | (go_at_call 12; refine (write_sec HO'.out sQ sD _ _ _ _ f4 g4).mono ?_; rintro e w5 ⟨rfl, d5, f5⟩))
        have D5 := hid d5
        have F5 : Hid (Kp (GW w) w w5) := HF.out.trans (Kp.trans (Kp.trans (Fr.drew (Fr.refl _ wr)) (Kp.fr0 f4)) f5)
        clear d5 f5 f4 g4
        go_wp2_with fail
        exact ⟨⟨k + 1, D.write x.a x.sec, by omega, by go_num, D5.out, F5.out, HW.out.1, HW.out.2.1.trans HD.out⟩, by simp [intOf]; omega⟩
    · have hg : ¬ (k : Int) < (len2 : Int) ∨ ((k : Int) < (len2 : Int) ∧ ¬ (k : Int) < 60) := by omega
      have HIm := hid (image_any HO.out HJ.out.up)
      rcases hg with hg1 | ⟨hg1, hg2⟩
      all_goals
        go_wp2_with fail
        refine HIm.out.mono ?_
        rintro e w6 ⟨rfl, f6⟩
        have F6 := hid (HF.out.trans (Kp.fr0 f6))
        have D6 := hid (HO.out.fr0 f6)
        clear f6
        go_wp2_with fail
        refine (clone_any D6.out sQ).mono ?_
        rintro e w7 ⟨p2, cl, cn, zl, zn, rfl, h7, f7⟩
        have F7 := hid (F6.out.trans f7)
        have D7 := hid h7
        clear f7 h7 D6 F6
        obtain ⟨Fa, oa, ka⟩ := D7.out.first
        have OA := hid oa
        have KA := hid ka
        clear oa ka
        go_wp2_with fail
        refine (own_crash OA.out sQ 0 (by omega)).mono ?_
        rintro e w8 ⟨rfl, o8, k8⟩
        have D8 := hid (KA.out _ _ o8 k8).1
        have F8 := hid (F7.out.trans (KA.out _ _ o8 k8).2)
        clear o8 k8 OA KA D7 F7
        obtain ⟨Fb, ob, kb⟩ := D8.out.swap.first
        have OB := hid ob
        have KB := hid kb
        clear ob kb
        go_wp2_with fail
        rw [ones_int]
        refine (own_crash OB.out sQ ones ones_lt).mono ?_
        rintro e w9 ⟨rfl, o9, k9⟩
        have D9 := hid (KB.out _ _ o9 k9).1.swap
        have F9 := hid (F8.out.trans (KB.out _ _ o9 k9).2)
        clear o9 k9 OB KB D8 F8
        have M1 := hid (crash_none HJ.out)
        have M2 := hid (crash_all HJ.out cl cn zl zn)
        generalize hE1 : D.crash 0 = E1 at *
        generalize hE2 : ({ D with cl := cl, cn := cn, zl := zl, zn := zn } : Dsk).crash ones = E2 at *
        clear hE1 hE2
        obtain ⟨Fc, oc, kc⟩ := D9.out.first
        have hs1 := own_start oc
        rw [start_off M1.out.1] at hs1
        have HS1 := hid hs1
        have KC := hid kc
        clear oc kc hs1
        go_wp2_with fail
        refine HS1.out.mono ?_
        rintro e w10 ⟨rfl, o10, k10⟩
        have D10 := hid (KC.out _ _ o10 k10).1
        have F10 := hid (F9.out.trans (KC.out _ _ o10 k10).2)
        clear o10 k10 HS1 KC D9 F9
        obtain ⟨Fd, od, kd⟩ := D10.out.swap.first
        have hs2 := own_start od
        rw [start_off M2.out.1] at hs2
        have HS2 := hid hs2
        have KD := hid kd
        clear od kd hs2
        go_wp2_with fail
        refine HS2.out.mono ?_
        rintro e w11 ⟨rfl, o11, k11⟩
        have D11 := hid (KD.out _ _ o11 k11).1.swap
        have F11 := hid (F10.out.trans (KD.out _ _ o11 k11).2)
        clear o11 k11 HS2 KD D10 F10
        have hdt := own_dirty D11.out.one
        rw [show E1.start.Q = [] from M1.out.2.2] at hdt
        have HDt := hid hdt
        clear hdt
        have him := image_any D11.out.one rfl
        rw [show E1.start.N = D0.N from M1.out.2.1.trans HD.out] at him
        have HI1 := hid him
        clear him
        go_wp2_with fail
        refine HDt.out.mono ?_
        rintro e w12 ⟨rfl, hw⟩
        obtain rfl : w11 = w12 := hw.symm
        clear hw HDt
        go_wp2_with fail
        refine HI1.out.mono ?_
        rintro e w12 ⟨rfl, f12⟩
        have F12 := hid (F11.out.trans (Kp.fr0 f12))
        have him2 := image_any (D11.out.fr0 f12).swap.one rfl
        rw [show E2.start.N = D.N from M2.out.2] at him2
        have HI2 := hid him2
        clear him2 f12 HI1 D11 F11
        go_wp2_with fail
        refine HI2.out.mono ?_
        rintro e w13 ⟨rfl, f13⟩
        have F13 := hid (F12.out.trans (Kp.fr0 f13))
        clear f13 HI2 F12
        go_wp2
        go_ret
        exact ⟨by simp, F13.out⟩

end Go.Proofs.Ytinkjiohdgkdcaa.Dk
