/- The walk of DiskEither. -/
import Derived.Test.YtinkjiohdgkdcaaWant
import Derived.Deep.DeepCutAuto
namespace Go.Proofs.Ytinkjiohdgkdcaa.Dk
open Go.RowKit

set_option maxRecDepth 100000 in
set_option maxHeartbeats 1000000 in
theorem either_walk (w : World) (n : Int) (ad : Option Addr) (len cap : Nat) (a b : Int) (kp : Nat) (n0 : -9223372036854775808 ≤ n) (n1 : n ≤ 9223372036854775807) (hL : ArgOpsS w ad len)
    (a0 : -9223372036854775808 ≤ a) (a1 : a ≤ 9223372036854775807) (b0 : -9223372036854775808 ≤ b) (b1 : b ≤ 9223372036854775807) (hk : kp < 18446744073709551616) :
    Calls Try.prog 6 #[.int .i64 n, .slice ad len cap, .int .i64 a, .int .i64 b, .int .u64 (kp : Int)] w fun e w' => e = .returned (.bool true) ∧ Kp (GW w) w w' := by
  have HL := hid hL
  clear hL
  go_enter Try.func6, Try.ntmps6
  go_wp2_with fail
  refine (shown_any (GW w) w (fun _ h => h)).mono ?_
  rintro e w1 ⟨rfl, f1⟩
  have F1 := hid f1
  clear f1
  go_wp2_with fail
  refine (made_any w w1 F1.out n n0 n1 ad len cap HL.out).mono ?_
  rintro e w2 ⟨p, D, rfl, d2, f2, hI, hn, hLN, hQ⟩
  have F2 := hid (F1.out.trans f2)
  have D2 := hid d2
  have HI := hid hI
  have HLN := hid hLN
  have HQ := hid hQ
  have hn1 := d2.ok.n1
  have HlX := hid d2.ok.lN
  clear d2 f2 F1 hI hLN hQ HL
  go_upto_if 27 with fail
  go_cut [2] (fun a' wx => ∃ A0 : Nat, A0 ≤ 9223372036854775807 ∧ a' = .int .i64 (A0 : Int) ∧ wx = w2)
  case first =>
    by_cases ha : a < 0
    · go_wp2_with fail
      all_goals go_meet
      exact ⟨(-(a + 1)).toNat, by omega, by congr 1; omega, rfl⟩
    · have hda : decide (a < 0) = false := by simpa using ha
      go_wp2_with fail
      all_goals go_meet
      exact ⟨a.toNat, by omega, by congr 1; omega, rfl⟩
  case rest =>
    obtain ⟨A0, hA0, rfl, hw⟩ := hcut
    obtain rfl : w2 = wc := hw.symm
    clear hw
    go_upto_if 32 with fail
    go_cut [3] (fun b' wx => ∃ B0 : Nat, B0 ≤ 9223372036854775807 ∧ b' = .int .i64 (B0 : Int) ∧ wx = w2)
    case first =>
      by_cases hb : b < 0
      · go_wp2_with fail
        all_goals go_meet
        exact ⟨(-(b + 1)).toNat, by omega, by congr 1; omega, rfl⟩
      · have hdb : decide (b < 0) = false := by simpa using hb
        go_wp2_with fail
        all_goals go_meet
        exact ⟨b.toNat, by omega, by congr 1; omega, rfl⟩
    case rest =>
      obtain ⟨B0, hB0, rfl, hw⟩ := hcut
      obtain rfl : w2 = wc := hw.symm
      clear hw
      have HSz := hid (own_size D2.out)
      have hm1 : (1 : Int) ≤ (D.n : Int) := by omega
      have hm0 : ¬ D.n = 0 := by omega
      obtain ⟨A, hA, hAe⟩ : ∃ A : Nat, A < D.n ∧ (A0 : Int) % (D.n : Int) = (A : Int) := ⟨A0 % D.n, Nat.mod_lt _ (by omega), by omega⟩
      obtain ⟨B, hB, hBe⟩ : ∃ B : Nat, B < D.n ∧ (B0 : Int) % (D.n : Int) = (B : Int) := ⟨B0 % D.n, Nat.mod_lt _ (by omega), by omega⟩
      have HAe := hid hAe
      have HBe := hid hBe
      clear hAe hBe
      go_wp2_with (first | (go_at_call 27; refine HSz.out.mono ?_; rintro e w' ⟨rfl, rfl⟩))
      rw [HAe.out, HBe.out]
      clear HSz HAe HBe
      refine (image_any D2.out HI.out.up).mono ?_
      rintro e w3 ⟨rfl, f3⟩
      have F3 := hid (F2.out.trans (Kp.fr0 f3))
      have D3 := hid (D2.out.fr0 f3)
      clear f3 F2 D2
      have hM := either_model HI.out HLN.out HQ.out A B kp hA hB (fullB 201) (fullB 202) (fullB_length 201) (fullB_length 202)
      have sQ : D.Q.length < 1073741824 := by have := HI.out.q; omega
      have sD : D.deeds < 1073741824 := by have := HI.out.d; omega
      have w1I := HI.out.write (A : Int) (fullB 201)
      have sQ1 : (D.write (A : Int) (fullB 201)).Q.length < 1073741824 := by have := w1I.1.q; omega
      have sD1 : (D.write (A : Int) (fullB 201)).deeds < 1073741824 := by have := w1I.1.d; omega
      have HMd := hid hM
      clear hM w1I
      go_wp2_with fail
      refine (full_any _ 201 (by omega) (by omega)).mono ?_
      rintro e w4 ⟨rfl, rfl⟩
      go_wp2_with fail
      refine (own_write_new D3.out sQ sD (A : Int) (fullB 201) 5 128 128 (fullB_length 201)).mono ?_
      rintro e w4 ⟨rfl, d4, f4⟩
      have F4 := hid (F3.out.trans f4)
      have D4 := hid d4
      clear d4 f4 D3 F3
      go_wp2_with fail
      refine (full_any _ 202 (by omega) (by omega)).mono ?_
      rintro e w5 ⟨rfl, rfl⟩
      go_wp2_with fail
      refine (own_write_new D4.out sQ1 sD1 (B : Int) (fullB 202) 5 128 128 (fullB_length 202)).mono ?_
      rintro e w5 ⟨rfl, d5, f5⟩
      have F5 := hid (F4.out.trans f5)
      have D5 := hid d5
      clear d5 f5 D4 F4
      go_wp2_with fail
      refine (own_crash D5.out (by have := HMd.out.2.2.2; omega) kp hk).mono ?_
      rintro e w6 ⟨rfl, d6, f6⟩
      have F6 := hid (F5.out.trans f6)
      have D6 := hid d6
      clear d6 f6 D5 F5
      go_wp2_with fail
      refine (own_start D6.out).mono ?_
      rintro e w7 ⟨rfl, d7, f7⟩
      generalize (if (((D.write (A : Int) (fullB 201)).write (B : Int) (fullB 202)).crash kp).up = true then (42 : Int) else 0) = sv
      have F7 := hid (F6.out.trans f7)
      have D7 := hid d7
      clear d7 f7 D6 F6
      have HX := hid D7.out.ok.lN
      generalize hE : (((D.write (A : Int) (fullB 201)).write (B : Int) (fullB 202)).crash kp).start = E at *
      have HEu : Hid (E.up = true) := HMd.out.1
      have HEN : Hid (E.N = settle1 kp (settle1 kp D.N 0 (A, fullB 201)) 1 (B, fullB 202)) := HMd.out.2.1
      have HEQ : Hid (E.Q = []) := HMd.out.2.2.1
      clear HMd hE
      go_wp2_with fail
      refine (image_any D7.out HEu.out).mono ?_
      rintro e w8 ⟨rfl, f8⟩
      have F8 := hid (F7.out.trans (Kp.fr0 f8))
      have D8 := hid (D7.out.fr0 f8)
      clear f8 D7 F7
      obtain ⟨cp, W0, hcp, hcv, hWn, f9⟩ := run_want w8 D.N
      have F9 := hid (F8.out.trans (Kp.fr0 f9))
      have hgl : Hid (¬ GW w w8.heap.size) := fun h => by have h2 := F8.out.size; exact absurd h (Nat.not_lt_of_le h2)
      have D9 := hid (D8.out.fr1 f9 w8.heap.size (Nat.le_refl _) hWn.lt)
      have HWn := hid hWn
      generalize hg : w8.heap.size = g at *
      have hlX : D.N.length = D.n * 128 := HlX.out
      clear hWn f9 D8 F8
      rw [hlX] at hcp hcv
      clear hlX
      go_upto_if 65 with fail
      go_cut [] (fun wx => Own (fun k => GW w k ∨ k = g) wx p E ∧ Kp (GW w) w wx ∧ Wnt wx g (settle1 kp D.N 0 (A, fullB 201)))
      case first =>
        cases hb : kp.testBit 0
        · have hbt : (bits BinOp.and IntKind.u64 (kp : Int) 1 == 1) = false := by rw [bit0 kp hk]; exact hb
          go_wp2_with fail
          all_goals go_meet
          refine ⟨D9.out, F9.out, ?_⟩
          have e : settle1 kp D.N 0 (A, fullB 201) = D.N := by simp [settle1, hb]
          rw [e]; exact HWn.out
        · have hbt : (bits BinOp.and IntKind.u64 (kp : Int) 1 == 1) = true := by rw [bit0 kp hk]; exact hb
          have hw1 : IntKind.i64.wrap ((A : Int) * 128) = (A : Int) * 128 := by rw [IntKind.wrap_i64]; omega
          have t1 : ((A : Int) * 128).toNat = A * 128 := by omega
          have t2 : (0 : Int) ≤ (A : Int) * 128 := by omega
          have t3 : (A : Int) * 128 ≤ ((D.n * 128 : Nat) : Int) := by omega
          have t4 : (A : Int) * 128 ≤ (cp : Int) := by omega
          have t5 : ¬ cp = A * 128 := by omega
          have t6 : A * 128 ≤ D.n * 128 := by omega
          have t7 : (A : Int) * 128 ≤ (D.n : Int) * 128 := by omega
          have t8 : ¬ D.n < A := by omega
          have t9 : A ≤ D.n := by omega
          have t10 : (D.n < A) = False := by simp; omega
          have HFu := hid (full_any W0.drew 201 (by omega) (by omega))
          have HCn : Hid ((bs (fullB 201)).length = Nat.min 128 (D.n * 128 - A * 128) * 1) := by
            unfold Hid; rw [bs_length, fullB_length, show Nat.min 128 (D.n * 128 - A * 128) = 128 from Nat.min_eq_left (by omega)]
          have HCs : Hid (∀ j v, (bs (fullB 201))[j]? = some v → ((W0.alloc (.cells (bs (fullB 201)).toArray 5)).drew).cell? ((⟨W0.heap.size, 0, none⟩ : Addr).add j) = some v) := fun j v hv => by
            rw [Addr.add_mid, Nat.zero_add]; exact ((Blk.new W0 5 (bs (fullB 201))).cell j).trans hv
          have HCt : Hid (((W0.alloc (.cells (bs (fullB 201)).toArray 5)).drew).there g (A * 128) (bs (fullB 201)).length) := (HWn.out.alloc _).drew.there _ _ (by rw [bs_length, fullB_length, HlX.out]; omega)
          go_wp2_with fail
          go_region_held3 (fun _ => True) (trivial)
            (first
              | (refine step_copy_rows (by rfl) _ _ 28 28 (by rfl) 5 1 Try.underlying28 (by kernel_rfl) g (A * 128) (D.n * 128 - A * 128) (cp - A * 128) ⟨W0.heap.size, 0, none⟩ 128 128 (by rfl) (by rfl) (bs (fullB 201)) HCn.out (by exact HCs.out) (by exact HCt.out) (bs_one _) ?_)
              | (go_at_call 13; refine HFu.out.mono ?_; rintro e w' ⟨rfl, rfl⟩))
          go_wp2_with fail
          all_goals go_meet
          refine ⟨((D9.out.alloc _).drew).setG (.inr rfl) _ _, Fr.setCells (Fr.drew (Fr.alloc F9.out _)) (.inl hgl.out) _ _, ?_⟩
          have e : settle1 kp D.N 0 (A, fullB 201) = splice D.N (A * 128) (fullB 201) := by simp [settle1, hb]
          rw [e]
          exact ((HWn.out.alloc _).drew).setCells _ _ (by rw [fullB_length, HlX.out]; omega)
      case rest =>
        obtain ⟨d10, f10, hW1⟩ := hcut
        have D10 := hid d10
        have F10 := hid f10
        have HW1 := hid hW1
        have HlY : Hid ((settle1 kp D.N 0 (A, fullB 201)).length = D.n * 128) := settle1_length _ _ _ _ _ HlX.out hA (fullB_length 201)
        clear d10 f10 hW1 D9 F9 HWn
        generalize hX : settle1 kp D.N 0 (A, fullB 201) = X1 at *
        have HX1 := hid hX
        clear hX
        go_upto_if 74 with fail
        go_cut [] (fun wx => Own (fun k => GW w k ∨ k = g) wx p E ∧ Kp (GW w) w wx ∧ Wnt wx g (settle1 kp X1 1 (B, fullB 202)))
        case first =>
          cases hb : kp.testBit 1
          · have hbt : (bits BinOp.and IntKind.u64 (kp : Int) 2 == 2) = false := by rw [bit1 kp hk]; exact hb
            go_wp2_with fail
            all_goals go_meet
            refine ⟨D10.out, F10.out, ?_⟩
            have e : settle1 kp X1 1 (B, fullB 202) = X1 := by simp [settle1, hb]
            rw [e]; exact HW1.out
          · have hbt : (bits BinOp.and IntKind.u64 (kp : Int) 2 == 2) = true := by rw [bit1 kp hk]; exact hb
            have hw1 : IntKind.i64.wrap ((B : Int) * 128) = (B : Int) * 128 := by rw [IntKind.wrap_i64]; omega
            have t1 : ((B : Int) * 128).toNat = B * 128 := by omega
            have t2 : (0 : Int) ≤ (B : Int) * 128 := by omega
            have t3 : (B : Int) * 128 ≤ ((D.n * 128 : Nat) : Int) := by omega
            have t4 : (B : Int) * 128 ≤ (cp : Int) := by omega
            have t5 : ¬ cp = B * 128 := by omega
            have t6 : B * 128 ≤ D.n * 128 := by omega
            have t7 : (B : Int) * 128 ≤ (D.n : Int) * 128 := by omega
            have t8 : ¬ D.n < B := by omega
            have t9 : B ≤ D.n := by omega
            have t10 : (D.n < B) = False := by simp; omega
            have HFu := hid (full_any wc.drew 202 (by omega) (by omega))
            have HCn : Hid ((bs (fullB 202)).length = Nat.min 128 (D.n * 128 - B * 128) * 1) := by
              unfold Hid; rw [bs_length, fullB_length, show Nat.min 128 (D.n * 128 - B * 128) = 128 from Nat.min_eq_left (by omega)]
            have HCs : Hid (∀ j v, (bs (fullB 202))[j]? = some v → ((wc.alloc (.cells (bs (fullB 202)).toArray 5)).drew).cell? ((⟨wc.heap.size, 0, none⟩ : Addr).add j) = some v) := fun j v hv => by
              rw [Addr.add_mid, Nat.zero_add]; exact ((Blk.new wc 5 (bs (fullB 202))).cell j).trans hv
            have HCt : Hid (((wc.alloc (.cells (bs (fullB 202)).toArray 5)).drew).there g (B * 128) (bs (fullB 202)).length) := (HW1.out.alloc _).drew.there _ _ (by rw [bs_length, fullB_length, HlY.out]; omega)
            go_wp2_with fail
            go_region_held3 (fun _ => True) (trivial)
              (first
                | (refine step_copy_rows (by rfl) _ _ 28 28 (by rfl) 5 1 Try.underlying28 (by kernel_rfl) g (B * 128) (D.n * 128 - B * 128) (cp - B * 128) ⟨wc.heap.size, 0, none⟩ 128 128 (by rfl) (by rfl) (bs (fullB 202)) HCn.out (by exact HCs.out) (by exact HCt.out) (bs_one _) ?_)
                | (go_at_call 13; refine HFu.out.mono ?_; rintro e w' ⟨rfl, rfl⟩))
            go_wp2_with fail
            all_goals go_meet
            refine ⟨((D10.out.alloc _).drew).setG (.inr rfl) _ _, Fr.setCells (Fr.drew (Fr.alloc F10.out _)) (.inl hgl.out) _ _, ?_⟩
            have e : settle1 kp X1 1 (B, fullB 202) = splice X1 (B * 128) (fullB 202) := by simp [settle1, hb]
            rw [e]
            exact ((HW1.out.alloc _).drew).setCells _ _ (by rw [fullB_length, HlY.out]; omega)
        case rest =>
          obtain ⟨d11, f11, hW2⟩ := hcut
          have F11 := hid f11
          have HlZ : (settle1 kp X1 1 (B, fullB 202)).length = D.n * 128 := settle1_length _ _ _ _ _ HlY.out hB (fullB_length 202)
          have hcv2 := hW2.conv (cap := cp) HlZ
          have hdt := own_dirty d11
          rw [HEQ.out] at hdt
          have HDt := hid hdt
          have heN := HEN.out
          rw [heN]
          clear d11 f11 hW2 D10 F10 HW1 hdt heN HlZ
          go_wp2_with (first | (go_at_call 21; refine HDt.out.mono ?_; rintro e w' ⟨rfl, rfl⟩))
          go_ret
          exact ⟨by simp, F11.out⟩

end Go.Proofs.Ytinkjiohdgkdcaa.Dk
