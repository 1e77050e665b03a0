/- The walk of DiskArmed. -/
import Derived.Test.YtinkjiohdgkdcaaArmed
namespace Go.Proofs.Ytinkjiohdgkdcaa.Dk
open Go.RowKit

def ShownSaid : Prop := ∀ (G : Nat → Prop) (w : World), (∀ k, G k → k < w.heap.size) → Calls Try.prog 7 #[] w fun e w' => e = .returned (.bool true) ∧ Kp G w w'

/-- The cells of an argument's list of ops that this law reads. -/
def ArgL (w : World) (ad : Option Addr) (len : Nat) : Prop := ∀ k, k < len → ∃ lb lo kd c, ad = some ⟨lb, lo, none⟩ ∧ lb < w.heap.size ∧ w.cell? ⟨lb, lo + k * 6, none⟩ = some (.int .i64 kd) ∧ w.cell? ⟨lb, lo + k * 6 + 3, none⟩ = some (.int .u8 c) ∧ 0 ≤ c ∧ c ≤ 255

abbrev GW (w : World) (k : Nat) : Prop := k < w.heap.size

theorem Kp.cell {G : Nat → Prop} {w w' : World} (h : Kp G w w') {b o : Nat} {v : Value} (hc : w.cell? ⟨b, o, none⟩ = some v) (hg : G b) (hb : b < w.heap.size) : w'.cell? ⟨b, o, none⟩ = some v := by
  rw [World.cell?_of_block (w := w) (h.block b hb (fun hn => hn hg))]; exact hc

set_option maxRecDepth 100000 in
set_option maxHeartbeats 1000000 in
theorem armed_walk (hsh : ShownSaid) (w : World) (n : Int) (ad : Option Addr) (len cap : Nat) (after : Int) (kp : Nat) (n0 : -9223372036854775808 ≤ n) (n1 : n ≤ 9223372036854775807)
    (a0 : -9223372036854775808 ≤ after) (a1 : after ≤ 9223372036854775807) (hk : kp < 18446744073709551616) (hL : ArgL w ad len) (A : Nat) (hA : A ≤ 49)
    (hneg : after < 0 → -((after + 1).tmod 50) = (A : Int)) (hpos : 0 ≤ after → after % 50 = (A : Int)) :
    Calls Try.prog 5 #[.int .i64 n, .slice ad len cap, .int .i64 after, .int .u64 (kp : Int)] w fun e w' => e = .returned (.bool true) ∧ Kp (GW w) w w' := by
  have HL := hid' hL
  have HN := hid' hneg
  have HP := hid' hpos
  have HS := hid' hsh
  clear hL hneg hpos hsh
  by_cases ha : after < 0
  · go_enter Try.func5, Try.ntmps5
    go_wp2_with fail
    refine (HS.out (GW w) w (fun _ h => h)).mono ?_
    rintro e w1 ⟨rfl, f1⟩
    have F1 := hid' f1
    clear f1
    go_wp2_with fail
    refine (made_nil (GW w) w1 (fun k h => Nat.lt_of_lt_of_le h F1.out.size) n n0 n1).mono ?_
    rintro e w2 ⟨p, m, m1, m2, rfl, d2, f2⟩
    have F2 := hid' (F1.out.trans f2)
    have D2 := hid' d2
    clear f2 d2 F1
    go_wp2_with fail
    refine (own_deeds D2.out).mono ?_
    rintro e w3 ⟨rfl, hw⟩
    obtain rfl : w2 = w3 := hw.symm
    clear hw
    have hd1 : ((Dsk.new m).flush.deeds : Int) = 1 := by simp [Dsk.flush, Dsk.flushed, Dsk.deedE, Dsk.deed, Dsk.new]
    rw [hd1]
    clear hd1
    go_wp2_with fail
    rw [HN.out ha]
    refine (own_arm D2.out (A : Int) kp (by omega) hk).mono ?_
    rintro e w3 ⟨rfl, d3, f3⟩
    have F3 := hid' (F2.out.trans f3)
    have D3 := hid' d3
    clear f3 d3 F2
    go_wp2_with fail
    go_loopw [12, 13] (fun dn i wr => ∃ (k : Nat) (D : Dsk), k ≤ 100 ∧ dn = .int .i64 (k : Int) ∧ i = .int .i64 (k : Int) ∧ Own (GW w) wr p D ∧ Kp (GW w) w wr ∧ AInv m A k D) (fun _ i _ => 100 - (intOf i).toNat)
    case atStart => exact ⟨0, _, by omega, rfl, rfl, D3.out, F3.out, AInv.start⟩
    case round =>
      obtain ⟨k, D, hk100, rfl, rfl, hO, hF, hI⟩ := hrel
      have HO := hid' hO
      have HF := hid' hF
      have HI := hid' hI
      clear hO hF hI
      have hA0 : (0 : Int) ≤ (A : Int) := Int.natCast_nonneg _
      by_cases hlt : k < len ∧ k < 100
      · obtain ⟨hlt1, hlt2⟩ := hlt
        obtain ⟨lb, lo, kd, c, rfl, hlb, c0, c3, hc0, hc1⟩ := HL.out k hlt1
        have hk0 : (0 : Int) ≤ (k : Int) := Int.natCast_nonneg _
        have hk1 : (k : Int) < (len : Int) := by omega
        have hk2 : (k : Int) < 100 := by omega
        have C0 := Kp.cell HF.out c0 hlb hlb
        have C3 := Kp.cell HF.out c3 hlb hlb
        clear c0 c3
        have sQ : D.Q.length < 1073741824 := by have := HI.out.q; omega
        have sD : D.deeds < 1073741824 := by have := HI.out.d; omega
        have HFl := hid' (own_flush HO.out sQ sD)
        have hfl := HI.out.flush
        have HFI := hid' hfl.2
        have HFE := hid' hfl.1
        clear hfl
        by_cases hkd : kd = 1
        · subst hkd
          rcases Nat.lt_trichotomy k A with hkA | hkA | hkA
          · have HFl' : Hid (Calls Try.prog 14 #[pv p] wr fun e w' => e = .returned (.int .i64 0) ∧ Own (GW w) w' p D.flush ∧ Kp (GW w) wr w') := by
              have := HFl.out; rw [HFE.out, code_lt hkA] at this; exact this
            have hb1 : (k : Int) < (A : Int) := by omega
            go_wp2_with fail
            refine HFl'.out.mono ?_
            rintro e w4 ⟨rfl, d4, f4⟩
            have D4 := hid' d4
            have F4 := hid' (HF.out.trans f4)
            clear d4 f4
            go_wp2_with fail
            refine ⟨⟨k + 1, D.flush, by omega, by go_num, by go_num, D4.out, F4.out, HFI.out⟩, by simp [intOf]; omega⟩
          · subst hkA
            have HFl' : Hid (Calls Try.prog 14 #[pv p] wr fun e w' => e = .returned (.int .i64 41) ∧ Own (GW w) w' p D.flush ∧ Kp (GW w) wr w') := by
              have := HFl.out; rw [HFE.out, code_eq rfl] at this; exact this
            go_wp2_with fail
            refine HFl'.out.mono ?_
            rintro e w4 ⟨rfl, d4, f4⟩
            have D4 := hid' d4
            have F4 := hid' (HF.out.trans f4)
            clear d4 f4
            have hup := own_up D4.out
            rw [(HFI.out.off (by omega)).1] at hup
            have HUp := hid' hup
            clear hup
            go_wp2_with (first | (go_at_call 28; refine HUp.out.mono ?_; rintro e w' ⟨rfl, rfl⟩))
            refine ⟨⟨k + 1, D.flush, by omega, by go_num, by go_num, D4.out, F4.out, HFI.out⟩, by simp [intOf]; omega⟩
          · have HFl' : Hid (Calls Try.prog 14 #[pv p] wr fun e w' => e = .returned (.int .i64 40) ∧ Own (GW w) w' p D.flush ∧ Kp (GW w) wr w') := by
              have := HFl.out; rw [HFE.out, code_gt hkA] at this; exact this
            have hb1 : ¬ (k : Int) < (A : Int) := by omega
            have hb2 : ((k : Int) == (A : Int)) = false := by rw [beq_eq_false_iff_ne]; omega
            go_wp2_with fail
            refine HFl'.out.mono ?_
            rintro e w4 ⟨rfl, d4, f4⟩
            have D4 := hid' d4
            have F4 := hid' (HF.out.trans f4)
            clear d4 f4
            go_wp2_with fail
            refine ⟨⟨k + 1, D.flush, by omega, by go_num, by go_num, D4.out, F4.out, HFI.out⟩, by simp [intOf]; omega⟩
        · have hkb : (kd == 1) = false := by simpa using hkd
          have hm1 : (1 : Int) ≤ (m : Int) := by omega
          have i0 : (0 : Int) ≤ (k : Int) % (m : Int) := Int.emod_nonneg _ (by omega)
          have i1 : (k : Int) % (m : Int) < (m : Int) := Int.emod_lt_of_pos _ (by omega)
          have hm0 : ¬ m = 0 := by omega
          have hx : (k : Int).tmod (m : Int) = (k : Int) % (m : Int) := Int.tmod_eq_emod_of_nonneg (by omega)
          have hw1 : IntKind.i64.wrap ((k : Int) % (m : Int)) = (k : Int) % (m : Int) := by rw [IntKind.wrap_i64]; omega
          have hw2 : IntKind.i64.wrap ((k : Int).tmod (m : Int)) = (k : Int) % (m : Int) := by rw [hx]; exact hw1
          have hlb' : lb < wr.heap.size := Nat.lt_of_lt_of_le hlb HF.out.size
          have C3a : (wr.alloc (.cells (bs (fullB c)).toArray 5)).cell? ⟨lb, lo + k * 6 + 3, none⟩ = some (.int .u8 c) := by
            rw [World.cell?_alloc_lt _ _ _ hlb']; exact C3
          have hwI := HI.out.write ((k : Int) % (m : Int)) (fullB c) i0 i1 (fullB_length c)
          have HWI := hid' hwI.2
          have HWE := hid' hwI.1
          have hsz := own_size HO.out.drew
          rw [HI.out.n] at hsz
          have HSz := hid' hsz
          have HFu := hid' (full_any wr.drew c hc0 hc1)
          have hwc := own_write_new HO.out.drew sQ sD ((k : Int) % (m : Int)) (fullB c) 5 128 128 (fullB_length c)
          clear hwI hsz
          rcases Nat.lt_trichotomy k A with hkA | hkA | hkA
          · have hb1 : (k : Int) < (A : Int) := by omega
            have HWc : Hid (Calls Try.prog 12 #[pv p, .int .i64 ((k : Int) % (m : Int)), .slice (some ⟨wr.heap.size, 0, none⟩) 128 128] ((wr.alloc (.cells (bs (fullB c)).toArray 5)).drew) fun e w' => e = .returned (.int .i64 0) ∧ Own (GW w) w' p (D.write ((k : Int) % (m : Int)) (fullB c)) ∧ Kp (GW w) wr w') := by
              rw [HWE.out, code_lt hkA] at hwc
              exact hwc.mono fun _ _ ⟨e1, e2, e3⟩ => ⟨e1, e2, Kp.trans ((Fr.refl _ wr).drew) e3⟩
            clear hwc
            go_wp2_with fail
            go_region_held3 (fun w' => w'.cell? ⟨lb, lo + k * 6 + 3, none⟩ = some (.int .u8 c))
              (first | exact C3 | exact C3a | exact Kp.cell f4 C3 hlb hlb')
              (first
                | (go_at_call 27; refine HSz.out.mono ?_; rintro e w' ⟨rfl, rfl⟩)
                | (go_at_call 13; refine HFu.out.mono ?_; rintro e w' ⟨rfl, rfl⟩)
                | (go_at_call 12; refine HWc.out.mono ?_; rintro e w4 ⟨rfl, d4, f4⟩))
            have D4 := hid' d4
            have F4 := hid' (HF.out.trans f4)
            clear d4 f4
            go_wp2_with fail
            refine ⟨⟨k + 1, D.write ((k : Int) % (m : Int)) (fullB c), by omega, by go_num, by go_num, D4.out, F4.out, HWI.out⟩, by simp [intOf]; omega⟩
          · subst hkA
            have HWc : Hid (Calls Try.prog 12 #[pv p, .int .i64 ((k : Int) % (m : Int)), .slice (some ⟨wr.heap.size, 0, none⟩) 128 128] ((wr.alloc (.cells (bs (fullB c)).toArray 5)).drew) fun e w' => e = .returned (.int .i64 41) ∧ Own (GW w) w' p (D.write ((k : Int) % (m : Int)) (fullB c)) ∧ Kp (GW w) wr w') := by
              rw [HWE.out, code_eq rfl] at hwc
              exact hwc.mono fun _ _ ⟨e1, e2, e3⟩ => ⟨e1, e2, Kp.trans ((Fr.refl _ wr).drew) e3⟩
            clear hwc
            go_wp2_with fail
            go_region_held3 (fun w' => w'.cell? ⟨lb, lo + k * 6 + 3, none⟩ = some (.int .u8 c))
              (first | exact C3 | exact C3a | exact Kp.cell f4 C3 hlb hlb')
              (first
                | (go_at_call 27; refine HSz.out.mono ?_; rintro e w' ⟨rfl, rfl⟩)
                | (go_at_call 13; refine HFu.out.mono ?_; rintro e w' ⟨rfl, rfl⟩)
                | (go_at_call 12; refine HWc.out.mono ?_; rintro e w4 ⟨rfl, d4, f4⟩))
            have D4 := hid' d4
            have F4 := hid' (HF.out.trans f4)
            clear d4 f4
            have hup := own_up D4.out
            rw [(HWI.out.off (by omega)).1] at hup
            have HUp := hid' hup
            clear hup
            go_wp2_with (first | (go_at_call 28; refine HUp.out.mono ?_; rintro e w' ⟨rfl, rfl⟩))
            refine ⟨⟨k + 1, D.write ((k : Int) % (m : Int)) (fullB c), by omega, by go_num, by go_num, D4.out, F4.out, HWI.out⟩, by simp [intOf]; omega⟩
          · have hb1 : ¬ (k : Int) < (A : Int) := by omega
            have HWc : Hid (Calls Try.prog 12 #[pv p, .int .i64 ((k : Int) % (m : Int)), .slice (some ⟨wr.heap.size, 0, none⟩) 128 128] ((wr.alloc (.cells (bs (fullB c)).toArray 5)).drew) fun e w' => e = .returned (.int .i64 40) ∧ Own (GW w) w' p (D.write ((k : Int) % (m : Int)) (fullB c)) ∧ Kp (GW w) wr w') := by
              rw [HWE.out, code_gt hkA] at hwc
              exact hwc.mono fun _ _ ⟨e1, e2, e3⟩ => ⟨e1, e2, Kp.trans ((Fr.refl _ wr).drew) e3⟩
            clear hwc
            have hb2 : ((k : Int) == (A : Int)) = false := by rw [beq_eq_false_iff_ne]; omega
            go_wp2_with fail
            go_region_held3 (fun w' => w'.cell? ⟨lb, lo + k * 6 + 3, none⟩ = some (.int .u8 c))
              (first | exact C3 | exact C3a | exact Kp.cell f4 C3 hlb hlb')
              (first
                | (go_at_call 27; refine HSz.out.mono ?_; rintro e w' ⟨rfl, rfl⟩)
                | (go_at_call 13; refine HFu.out.mono ?_; rintro e w' ⟨rfl, rfl⟩)
                | (go_at_call 12; refine HWc.out.mono ?_; rintro e w4 ⟨rfl, d4, f4⟩))
            have D4 := hid' d4
            have F4 := hid' (HF.out.trans f4)
            clear d4 f4
            go_wp2_with fail
            refine ⟨⟨k + 1, D.write ((k : Int) % (m : Int)) (fullB c), by omega, by go_num, by go_num, D4.out, F4.out, HWI.out⟩, by simp [intOf]; omega⟩
      · have hg : ¬ (k : Int) < (len : Int) ∨ ((k : Int) < (len : Int) ∧ ¬ (k : Int) < 100) := by omega
        rcases hg with hg1 | ⟨hg1, hg2⟩
        · rcases Nat.lt_or_ge A k with hkA | hkA
          · have hds : Calls Try.prog 23 #[pv p] wr fun e w' => e = .returned (.int .i64 ((1 + A : Nat) : Int)) ∧ w' = wr := by have := own_deeds HO.out; rw [(HI.out.off hkA).2] at this; exact this
            have hup : Calls Try.prog 28 #[pv p] wr fun e w' => e = .returned (.bool false) ∧ w' = wr := by have := own_up HO.out; rw [(HI.out.off hkA).1] at this; exact this
            have HDs := hid' hds
            have HUp := hid' hup
            have hb1 : ¬ (k : Int) ≤ (A : Int) := by omega
            have hmn : min (k : Int) (A : Int) = (A : Int) := by omega
            clear hds hup
            go_wp2_with (first | (go_at_call 23; refine HDs.out.mono ?_; rintro e w' ⟨rfl, rfl⟩) | (go_at_call 28; refine HUp.out.mono ?_; rintro e w' ⟨rfl, rfl⟩))
            go_ret
            exact ⟨by simp; omega, HF.out⟩
          · have hds : Calls Try.prog 23 #[pv p] wr fun e w' => e = .returned (.int .i64 ((1 + k : Nat) : Int)) ∧ w' = wr := by have := own_deeds HO.out; rw [(HI.out.on hkA).2.2.2] at this; exact this
            have hup : Calls Try.prog 28 #[pv p] wr fun e w' => e = .returned (.bool true) ∧ w' = wr := by have := own_up HO.out; rw [(HI.out.on hkA).1] at this; exact this
            have HDs := hid' hds
            have HUp := hid' hup
            have hb1 : (k : Int) ≤ (A : Int) := by omega
            have hmn : min (k : Int) (A : Int) = (k : Int) := by omega
            clear hds hup
            go_wp2_with (first | (go_at_call 23; refine HDs.out.mono ?_; rintro e w' ⟨rfl, rfl⟩) | (go_at_call 28; refine HUp.out.mono ?_; rintro e w' ⟨rfl, rfl⟩))
            go_ret
            exact ⟨by simp, HF.out⟩
        · have hkA : A < k := by omega
          have hds : Calls Try.prog 23 #[pv p] wr fun e w' => e = .returned (.int .i64 ((1 + A : Nat) : Int)) ∧ w' = wr := by have := own_deeds HO.out; rw [(HI.out.off hkA).2] at this; exact this
          have hup : Calls Try.prog 28 #[pv p] wr fun e w' => e = .returned (.bool false) ∧ w' = wr := by have := own_up HO.out; rw [(HI.out.off hkA).1] at this; exact this
          have HDs := hid' hds
          have HUp := hid' hup
          have hb1 : ¬ (k : Int) ≤ (A : Int) := by omega
          have hmn : min (k : Int) (A : Int) = (A : Int) := by omega
          clear hds hup
          go_wp2_with (first | (go_at_call 23; refine HDs.out.mono ?_; rintro e w' ⟨rfl, rfl⟩) | (go_at_call 28; refine HUp.out.mono ?_; rintro e w' ⟨rfl, rfl⟩))
          go_ret
          exact ⟨by simp; omega, HF.out⟩
  · have ha' : 0 ≤ after := by omega
    have hdn : decide (after < 0) = false := by simpa using ha
    clear ha
    go_enter Try.func5, Try.ntmps5
    go_wp2_with fail
    refine (HS.out (GW w) w (fun _ h => h)).mono ?_
    rintro e w1 ⟨rfl, f1⟩
    have F1 := hid' f1
    clear f1
    go_wp2_with fail
    refine (made_nil (GW w) w1 (fun k h => Nat.lt_of_lt_of_le h F1.out.size) n n0 n1).mono ?_
    rintro e w2 ⟨p, m, m1, m2, rfl, d2, f2⟩
    have F2 := hid' (F1.out.trans f2)
    have D2 := hid' d2
    clear f2 d2 F1
    go_wp2_with fail
    refine (own_deeds D2.out).mono ?_
    rintro e w3 ⟨rfl, hw⟩
    obtain rfl : w2 = w3 := hw.symm
    clear hw
    have hd1 : ((Dsk.new m).flush.deeds : Int) = 1 := by simp [Dsk.flush, Dsk.flushed, Dsk.deedE, Dsk.deed, Dsk.new]
    rw [hd1]
    clear hd1
    go_wp2_with fail
    rw [HP.out ha']
    refine (own_arm D2.out (A : Int) kp (by omega) hk).mono ?_
    rintro e w3 ⟨rfl, d3, f3⟩
    have F3 := hid' (F2.out.trans f3)
    have D3 := hid' d3
    clear f3 d3 F2
    go_wp2_with fail
    go_loopw [12, 13] (fun dn i wr => ∃ (k : Nat) (D : Dsk), k ≤ 100 ∧ dn = .int .i64 (k : Int) ∧ i = .int .i64 (k : Int) ∧ Own (GW w) wr p D ∧ Kp (GW w) w wr ∧ AInv m A k D) (fun _ i _ => 100 - (intOf i).toNat)
    case atStart => exact ⟨0, _, by omega, rfl, rfl, D3.out, F3.out, AInv.start⟩
    case round =>
      obtain ⟨k, D, hk100, rfl, rfl, hO, hF, hI⟩ := hrel
      have HO := hid' hO
      have HF := hid' hF
      have HI := hid' hI
      clear hO hF hI
      have hA0 : (0 : Int) ≤ (A : Int) := Int.natCast_nonneg _
      by_cases hlt : k < len ∧ k < 100
      · obtain ⟨hlt1, hlt2⟩ := hlt
        obtain ⟨lb, lo, kd, c, rfl, hlb, c0, c3, hc0, hc1⟩ := HL.out k hlt1
        have hk0 : (0 : Int) ≤ (k : Int) := Int.natCast_nonneg _
        have hk1 : (k : Int) < (len : Int) := by omega
        have hk2 : (k : Int) < 100 := by omega
        have C0 := Kp.cell HF.out c0 hlb hlb
        have C3 := Kp.cell HF.out c3 hlb hlb
        clear c0 c3
        have sQ : D.Q.length < 1073741824 := by have := HI.out.q; omega
        have sD : D.deeds < 1073741824 := by have := HI.out.d; omega
        have HFl := hid' (own_flush HO.out sQ sD)
        have hfl := HI.out.flush
        have HFI := hid' hfl.2
        have HFE := hid' hfl.1
        clear hfl
        by_cases hkd : kd = 1
        · subst hkd
          rcases Nat.lt_trichotomy k A with hkA | hkA | hkA
          · have HFl' : Hid (Calls Try.prog 14 #[pv p] wr fun e w' => e = .returned (.int .i64 0) ∧ Own (GW w) w' p D.flush ∧ Kp (GW w) wr w') := by
              have := HFl.out; rw [HFE.out, code_lt hkA] at this; exact this
            have hb1 : (k : Int) < (A : Int) := by omega
            go_wp2_with fail
            refine HFl'.out.mono ?_
            rintro e w4 ⟨rfl, d4, f4⟩
            have D4 := hid' d4
            have F4 := hid' (HF.out.trans f4)
            clear d4 f4
            go_wp2_with fail
            refine ⟨⟨k + 1, D.flush, by omega, by go_num, by go_num, D4.out, F4.out, HFI.out⟩, by simp [intOf]; omega⟩
          · subst hkA
            have HFl' : Hid (Calls Try.prog 14 #[pv p] wr fun e w' => e = .returned (.int .i64 41) ∧ Own (GW w) w' p D.flush ∧ Kp (GW w) wr w') := by
              have := HFl.out; rw [HFE.out, code_eq rfl] at this; exact this
            go_wp2_with fail
            refine HFl'.out.mono ?_
            rintro e w4 ⟨rfl, d4, f4⟩
            have D4 := hid' d4
            have F4 := hid' (HF.out.trans f4)
            clear d4 f4
            have hup := own_up D4.out
            rw [(HFI.out.off (by omega)).1] at hup
            have HUp := hid' hup
            clear hup
            go_wp2_with (first | (go_at_call 28; refine HUp.out.mono ?_; rintro e w' ⟨rfl, rfl⟩))
            refine ⟨⟨k + 1, D.flush, by omega, by go_num, by go_num, D4.out, F4.out, HFI.out⟩, by simp [intOf]; omega⟩
          · have HFl' : Hid (Calls Try.prog 14 #[pv p] wr fun e w' => e = .returned (.int .i64 40) ∧ Own (GW w) w' p D.flush ∧ Kp (GW w) wr w') := by
              have := HFl.out; rw [HFE.out, code_gt hkA] at this; exact this
            have hb1 : ¬ (k : Int) < (A : Int) := by omega
            have hb2 : ((k : Int) == (A : Int)) = false := by rw [beq_eq_false_iff_ne]; omega
            go_wp2_with fail
            refine HFl'.out.mono ?_
            rintro e w4 ⟨rfl, d4, f4⟩
            have D4 := hid' d4
            have F4 := hid' (HF.out.trans f4)
            clear d4 f4
            go_wp2_with fail
            refine ⟨⟨k + 1, D.flush, by omega, by go_num, by go_num, D4.out, F4.out, HFI.out⟩, by simp [intOf]; omega⟩
        · have hkb : (kd == 1) = false := by simpa using hkd
          have hm1 : (1 : Int) ≤ (m : Int) := by omega
          have i0 : (0 : Int) ≤ (k : Int) % (m : Int) := Int.emod_nonneg _ (by omega)
          have i1 : (k : Int) % (m : Int) < (m : Int) := Int.emod_lt_of_pos _ (by omega)
          have hm0 : ¬ m = 0 := by omega
          have hx : (k : Int).tmod (m : Int) = (k : Int) % (m : Int) := Int.tmod_eq_emod_of_nonneg (by omega)
          have hw1 : IntKind.i64.wrap ((k : Int) % (m : Int)) = (k : Int) % (m : Int) := by rw [IntKind.wrap_i64]; omega
          have hw2 : IntKind.i64.wrap ((k : Int).tmod (m : Int)) = (k : Int) % (m : Int) := by rw [hx]; exact hw1
          have hlb' : lb < wr.heap.size := Nat.lt_of_lt_of_le hlb HF.out.size
          have C3a : (wr.alloc (.cells (bs (fullB c)).toArray 5)).cell? ⟨lb, lo + k * 6 + 3, none⟩ = some (.int .u8 c) := by
            rw [World.cell?_alloc_lt _ _ _ hlb']; exact C3
          have hwI := HI.out.write ((k : Int) % (m : Int)) (fullB c) i0 i1 (fullB_length c)
          have HWI := hid' hwI.2
          have HWE := hid' hwI.1
          have hsz := own_size HO.out.drew
          rw [HI.out.n] at hsz
          have HSz := hid' hsz
          have HFu := hid' (full_any wr.drew c hc0 hc1)
          have hwc := own_write_new HO.out.drew sQ sD ((k : Int) % (m : Int)) (fullB c) 5 128 128 (fullB_length c)
          clear hwI hsz
          rcases Nat.lt_trichotomy k A with hkA | hkA | hkA
          · have hb1 : (k : Int) < (A : Int) := by omega
            have HWc : Hid (Calls Try.prog 12 #[pv p, .int .i64 ((k : Int) % (m : Int)), .slice (some ⟨wr.heap.size, 0, none⟩) 128 128] ((wr.alloc (.cells (bs (fullB c)).toArray 5)).drew) fun e w' => e = .returned (.int .i64 0) ∧ Own (GW w) w' p (D.write ((k : Int) % (m : Int)) (fullB c)) ∧ Kp (GW w) wr w') := by
              rw [HWE.out, code_lt hkA] at hwc
              exact hwc.mono fun _ _ ⟨e1, e2, e3⟩ => ⟨e1, e2, Kp.trans ((Fr.refl _ wr).drew) e3⟩
            clear hwc
            go_wp2_with fail
            go_region_held3 (fun w' => w'.cell? ⟨lb, lo + k * 6 + 3, none⟩ = some (.int .u8 c))
              (first | exact C3 | exact C3a | exact Kp.cell f4 C3 hlb hlb')
              (first
                | (go_at_call 27; refine HSz.out.mono ?_; rintro e w' ⟨rfl, rfl⟩)
                | (go_at_call 13; refine HFu.out.mono ?_; rintro e w' ⟨rfl, rfl⟩)
                | (go_at_call 12; refine HWc.out.mono ?_; rintro e w4 ⟨rfl, d4, f4⟩))
            have D4 := hid' d4
            have F4 := hid' (HF.out.trans f4)
            clear d4 f4
            go_wp2_with fail
            refine ⟨⟨k + 1, D.write ((k : Int) % (m : Int)) (fullB c), by omega, by go_num, by go_num, D4.out, F4.out, HWI.out⟩, by simp [intOf]; omega⟩
          · subst hkA
            have HWc : Hid (Calls Try.prog 12 #[pv p, .int .i64 ((k : Int) % (m : Int)), .slice (some ⟨wr.heap.size, 0, none⟩) 128 128] ((wr.alloc (.cells (bs (fullB c)).toArray 5)).drew) fun e w' => e = .returned (.int .i64 41) ∧ Own (GW w) w' p (D.write ((k : Int) % (m : Int)) (fullB c)) ∧ Kp (GW w) wr w') := by
              rw [HWE.out, code_eq rfl] at hwc
              exact hwc.mono fun _ _ ⟨e1, e2, e3⟩ => ⟨e1, e2, Kp.trans ((Fr.refl _ wr).drew) e3⟩
            clear hwc
            go_wp2_with fail
            go_region_held3 (fun w' => w'.cell? ⟨lb, lo + k * 6 + 3, none⟩ = some (.int .u8 c))
              (first | exact C3 | exact C3a | exact Kp.cell f4 C3 hlb hlb')
              (first
                | (go_at_call 27; refine HSz.out.mono ?_; rintro e w' ⟨rfl, rfl⟩)
                | (go_at_call 13; refine HFu.out.mono ?_; rintro e w' ⟨rfl, rfl⟩)
                | (go_at_call 12; refine HWc.out.mono ?_; rintro e w4 ⟨rfl, d4, f4⟩))
            have D4 := hid' d4
            have F4 := hid' (HF.out.trans f4)
            clear d4 f4
            have hup := own_up D4.out
            rw [(HWI.out.off (by omega)).1] at hup
            have HUp := hid' hup
            clear hup
            go_wp2_with (first | (go_at_call 28; refine HUp.out.mono ?_; rintro e w' ⟨rfl, rfl⟩))
            refine ⟨⟨k + 1, D.write ((k : Int) % (m : Int)) (fullB c), by omega, by go_num, by go_num, D4.out, F4.out, HWI.out⟩, by simp [intOf]; omega⟩
          · have hb1 : ¬ (k : Int) < (A : Int) := by omega
            have HWc : Hid (Calls Try.prog 12 #[pv p, .int .i64 ((k : Int) % (m : Int)), .slice (some ⟨wr.heap.size, 0, none⟩) 128 128] ((wr.alloc (.cells (bs (fullB c)).toArray 5)).drew) fun e w' => e = .returned (.int .i64 40) ∧ Own (GW w) w' p (D.write ((k : Int) % (m : Int)) (fullB c)) ∧ Kp (GW w) wr w') := by
              rw [HWE.out, code_gt hkA] at hwc
              exact hwc.mono fun _ _ ⟨e1, e2, e3⟩ => ⟨e1, e2, Kp.trans ((Fr.refl _ wr).drew) e3⟩
            clear hwc
            have hb2 : ((k : Int) == (A : Int)) = false := by rw [beq_eq_false_iff_ne]; omega
            go_wp2_with fail
            go_region_held3 (fun w' => w'.cell? ⟨lb, lo + k * 6 + 3, none⟩ = some (.int .u8 c))
              (first | exact C3 | exact C3a | exact Kp.cell f4 C3 hlb hlb')
              (first
                | (go_at_call 27; refine HSz.out.mono ?_; rintro e w' ⟨rfl, rfl⟩)
                | (go_at_call 13; refine HFu.out.mono ?_; rintro e w' ⟨rfl, rfl⟩)
                | (go_at_call 12; refine HWc.out.mono ?_; rintro e w4 ⟨rfl, d4, f4⟩))
            have D4 := hid' d4
            have F4 := hid' (HF.out.trans f4)
            clear d4 f4
            go_wp2_with fail
            refine ⟨⟨k + 1, D.write ((k : Int) % (m : Int)) (fullB c), by omega, by go_num, by go_num, D4.out, F4.out, HWI.out⟩, by simp [intOf]; omega⟩
      · have hg : ¬ (k : Int) < (len : Int) ∨ ((k : Int) < (len : Int) ∧ ¬ (k : Int) < 100) := by omega
        rcases hg with hg1 | ⟨hg1, hg2⟩
        · rcases Nat.lt_or_ge A k with hkA | hkA
          · have hds : Calls Try.prog 23 #[pv p] wr fun e w' => e = .returned (.int .i64 ((1 + A : Nat) : Int)) ∧ w' = wr := by have := own_deeds HO.out; rw [(HI.out.off hkA).2] at this; exact this
            have hup : Calls Try.prog 28 #[pv p] wr fun e w' => e = .returned (.bool false) ∧ w' = wr := by have := own_up HO.out; rw [(HI.out.off hkA).1] at this; exact this
            have HDs := hid' hds
            have HUp := hid' hup
            have hb1 : ¬ (k : Int) ≤ (A : Int) := by omega
            have hmn : min (k : Int) (A : Int) = (A : Int) := by omega
            clear hds hup
            go_wp2_with (first | (go_at_call 23; refine HDs.out.mono ?_; rintro e w' ⟨rfl, rfl⟩) | (go_at_call 28; refine HUp.out.mono ?_; rintro e w' ⟨rfl, rfl⟩))
            go_ret
            exact ⟨by simp; omega, HF.out⟩
          · have hds : Calls Try.prog 23 #[pv p] wr fun e w' => e = .returned (.int .i64 ((1 + k : Nat) : Int)) ∧ w' = wr := by have := own_deeds HO.out; rw [(HI.out.on hkA).2.2.2] at this; exact this
            have hup : Calls Try.prog 28 #[pv p] wr fun e w' => e = .returned (.bool true) ∧ w' = wr := by have := own_up HO.out; rw [(HI.out.on hkA).1] at this; exact this
            have HDs := hid' hds
            have HUp := hid' hup
            have hb1 : (k : Int) ≤ (A : Int) := by omega
            have hmn : min (k : Int) (A : Int) = (k : Int) := by omega
            clear hds hup
            go_wp2_with (first | (go_at_call 23; refine HDs.out.mono ?_; rintro e w' ⟨rfl, rfl⟩) | (go_at_call 28; refine HUp.out.mono ?_; rintro e w' ⟨rfl, rfl⟩))
            go_ret
            exact ⟨by simp, HF.out⟩
        · have hkA : A < k := by omega
          have hds : Calls Try.prog 23 #[pv p] wr fun e w' => e = .returned (.int .i64 ((1 + A : Nat) : Int)) ∧ w' = wr := by have := own_deeds HO.out; rw [(HI.out.off hkA).2] at this; exact this
          have hup : Calls Try.prog 28 #[pv p] wr fun e w' => e = .returned (.bool false) ∧ w' = wr := by have := own_up HO.out; rw [(HI.out.off hkA).1] at this; exact this
          have HDs := hid' hds
          have HUp := hid' hup
          have hb1 : ¬ (k : Int) ≤ (A : Int) := by omega
          have hmn : min (k : Int) (A : Int) = (A : Int) := by omega
          clear hds hup
          go_wp2_with (first | (go_at_call 23; refine HDs.out.mono ?_; rintro e w' ⟨rfl, rfl⟩) | (go_at_call 28; refine HUp.out.mono ?_; rintro e w' ⟨rfl, rfl⟩))
          go_ret
          exact ⟨by simp; omega, HF.out⟩

end Go.Proofs.Ytinkjiohdgkdcaa.Dk
