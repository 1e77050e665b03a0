/- The contract of Reckon over two ints, and over two strings. -/
import Derived.Test.YtlepjghfcpgbcaaGreatDoorCmp
namespace Go.Proofs.YtlepjghfcpgbcaaGreatDoor.Tr
open Go.RowKit

set_option maxRecDepth 100000 in
set_option maxHeartbeats 1000000 in
theorem isSign_four (w : World) (s : UInt8) (h : s = 43 ∨ s = 45 ∨ s = 42 ∨ s = 47) : Calls Tryz.prog 63 #[.string ⟨#[s]⟩] w fun e w' => e = .returned (.bool true) ∧ w = w' := by
  rcases h with rfl | rfl | rfl | rfl
  all_goals
    go_enter Tryz.func63, Tryz.ntmps63
    go_wp2
    go_ret
    exact ⟨rfl, rfl⟩
theorem rightI (n : Int) : rightS (vI n) = true := rfl
theorem rightF (f : Nat) : rightS (vF f) = true := rfl

/-- What reckonInts tells, wherever. -/
def IntsOf (s : UInt8) (a b : Int) (x : Vv) (e : Int) : Prop := ∀ W, Calls Tryz.prog 66 #[.string ⟨#[s]⟩, .int .i64 a, .int .i64 b] W fun r w' => r = .returned (.tuple #[x.v, .int .i64 e]) ∧ Fr (fun _ => False) W w'

theorem three_blk (w : World) (x y z : Vv) : Blk (vBox (vBox (vBox w x) y) z) w.heap.size 26 x.cs ∧ Blk (vBox (vBox (vBox w x) y) z) (w.heap.size + 1) 26 y.cs ∧ Blk (vBox (vBox (vBox w x) y) z) (w.heap.size + 1 + 1) 26 z.cs := by
  have h := two_blk w x y
  refine ⟨h.1.alloc _, h.2.alloc _, ?_⟩
  have h := vBlk (vBox (vBox w x) y) z
  rw [World.size_alloc, World.size_alloc] at h
  exact h
theorem three_fr (w : World) (x y z : Vv) : Fr (fun _ => False) w (vBox (vBox (vBox w x) y) z) := (two_fr w x y).alloc _

set_option maxRecDepth 100000 in
set_option maxHeartbeats 4000000 in
theorem reckon_ints (w : World) (s : UInt8) (hs : s = 43 ∨ s = 45 ∨ s = 42 ∨ s = 47) (a b : Int) (x : Vv) (er : Int) (hi : IntsOf s a b x er) : Calls Tryz.prog 31 #[.string ⟨#[s]⟩, (vI a).v, (vI b).v] w fun e w' => e = .returned (.tuple #[x.v, .int .i64 er]) ∧ Fr (fun _ => False) w w' := by
  have HB := hid (three_blk w (vI a) (vI b) vZ)
  have HF := hid (three_fr w (vI a) (vI b) vZ)
  have HS := hid (fun W => isSign_four W s hs)
  have HRa := hid (fun W => right_sca W (vI a) (show (2 : Int) ≠ 5 by decide) (show (2 : Int) ≠ 6 by decide))
  have HRb := hid (fun W => right_sca W (vI b) (show (2 : Int) ≠ 5 by decide) (show (2 : Int) ≠ 6 by decide))
  rw [rightI] at HRa HRb
  have HA := hid (fun W => areBoth_any W 2 (vI a) (vI b))
  have HI := hid hi
  clear hi
  rcases hs with rfl | rfl | rfl | rfl
  all_goals
    go_enter Tryz.func31, Tryz.ntmps31
    go_wp2_with fail
    refine (HS.out _).mono ?_
    rintro e w1 ⟨rfl, rfl⟩
    go_wp2_with fail
    refine (HRa.out _).mono ?_
    rintro e w1 ⟨rfl, f1⟩
    have HB1 := hid (And.intro (f1.blk HB.out.1 (fun h => h)) (And.intro (f1.blk HB.out.2.1 (fun h => h)) (f1.blk HB.out.2.2 (fun h => h))))
    have HF1 := hid (HF.out.trans f1 (fun _ h => h.elim))
    clear f1 HB HF HRa HS
    obtain ⟨d0, d1, d2, d3, d4, d5⟩ := HB1.out.2.1.six
    go_wp2_with fail
    refine (HRb.out _).mono ?_
    rintro e w2 ⟨rfl, f2⟩
    have HB2 := hid (And.intro (f2.blk HB1.out.1 (fun h => h)) (And.intro (f2.blk HB1.out.2.1 (fun h => h)) (f2.blk HB1.out.2.2 (fun h => h))))
    have HF2 := hid (HF1.out.trans f2 (fun _ h => h.elim))
    clear f2 HB1 HF1 HRb d0 d1 d2 d3 d4 d5
    obtain ⟨c0, c1, c2, c3, c4, c5⟩ := HB2.out.1.six
    obtain ⟨d0, d1, d2, d3, d4, d5⟩ := HB2.out.2.1.six
    go_wp2_with fail
    refine (HA.out _).mono ?_
    rintro e w3 ⟨rfl, f3⟩
    have HB3 := hid (And.intro (f3.blk HB2.out.1 (fun h => h)) (And.intro (f3.blk HB2.out.2.1 (fun h => h)) (f3.blk HB2.out.2.2 (fun h => h))))
    have HF3 := hid (HF2.out.trans f3 (fun _ h => h.elim))
    clear f3 HB2 HF2 HA c0 c1 c2 c3 c4 c5 d0 d1 d2 d3 d4 d5
    obtain ⟨c0, c1, c2, c3, c4, c5⟩ := HB3.out.1.six
    obtain ⟨d0, d1, d2, d3, d4, d5⟩ := HB3.out.2.1.six
    go_wp2_with fail
    refine (HI.out _).mono ?_
    rintro e w4 ⟨rfl, f4⟩
    have HB4 := hid (f4.blk HB3.out.2.2 (fun h => h))
    have HF4 := hid (HF3.out.trans f4 (fun _ h => h.elim))
    clear f4 HB3 HF3 HI c0 c1 c2 c3 c4 c5 d0 d1 d2 d3 d4 d5
    go_wp2_with (refine wpList_storeV x (by rfl) _ _ (by rfl) HB4.out (by rfl) (by rfl) ?_; intro w5 b5 f5)
    have HF5 := hid (HF4.out.trans f5 (fun i hi => .inr (by omega)))
    have HB5 := hid b5
    clear f5 b5 HB4 HF4
    go_wp2_with fail
    exact bodyPost_ret (resVE rfl rfl HB5.out) rfl ⟨rfl, HF5.out⟩

theorem ints_plus (a b : Int) (ha : I64 a) (hb : I64 b) : IntsOf 43 a b (if I64 (a + b) then vI (a + b) else vZ) (if I64 (a + b) then 0 else 16) := fun W => by
  refine (rint_plus W a b ha hb).mono fun e w' h => ⟨?_, h.2⟩
  rw [h.1]; unfold fitV
  by_cases hq : I64 (a + b) <;> simp [hq]
theorem ints_minus (a b : Int) (ha : I64 a) (hb : I64 b) : IntsOf 45 a b (if I64 (a - b) then vI (a - b) else vZ) (if I64 (a - b) then 0 else 16) := fun W => by
  refine (rint_minus W a b ha hb).mono fun e w' h => ⟨?_, h.2⟩
  rw [h.1]; unfold fitV
  by_cases hq : I64 (a - b) <;> simp [hq]
theorem ints_times (a b : Int) (ha : I64 a) (hb : I64 b) : IntsOf 42 a b (if I64 (a * b) then vI (a * b) else vZ) (if I64 (a * b) then 0 else 16) := fun W => by
  refine (rint_times W a b ha hb).mono fun e w' h => ⟨?_, h.2⟩
  rw [h.1]; unfold fitV
  by_cases hq : I64 (a * b) <;> simp [hq]
theorem ints_zero (a : Int) : IntsOf 47 a 0 vZ 17 := fun W => rint_zero W a
theorem ints_quo (a b : Int) (ha : I64 a) (hb : I64 b) (h0 : b ≠ 0) : IntsOf 47 a b (if a = -9223372036854775808 ∧ b = -1 then vZ else vI (a.tdiv b)) (if a = -9223372036854775808 ∧ b = -1 then 16 else 0) := fun W => by
  refine (rint_quo W a b ha hb h0).mono fun e w' h => ⟨?_, h.2⟩
  rw [h.1]; unfold fitV
  by_cases hq : a = -9223372036854775808 ∧ b = -1
  · rw [if_pos hq, if_pos hq]
    have e : (!(decide (a = -9223372036854775808) && decide (b = -1))) = false := by simp [hq]
    rw [e]; rfl
  · rw [if_neg hq, if_neg hq]
    have e : (!(decide (a = -9223372036854775808) && decide (b = -1))) = true := by
      have h2 : (decide (a = -9223372036854775808) && decide (b = -1)) = false := by simpa using hq
      rw [h2]; rfl
    rw [e]; rfl
end Go.Proofs.YtlepjghfcpgbcaaGreatDoor.Tr
