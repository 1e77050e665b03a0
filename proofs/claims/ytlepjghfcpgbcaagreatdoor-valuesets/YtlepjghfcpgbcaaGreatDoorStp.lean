/- The contracts over strings: Same, equal, joinTexts, Reckon. -/
import Derived.Test.YtlepjghfcpgbcaaGreatDoorShn
import Derived.Test.YtlepjghfcpgbcaaGreatDoorHnd
namespace Go.Proofs.YtlepjghfcpgbcaaGreatDoor.Tr
open Go.RowKit

theorem bl_irrefl : ∀ a : List UInt8, Op.bytesLess a a = false
  | [] => rfl
  | x :: r => by
    rw [Op.bytesLess, bl_irrefl r]
    simp
theorem bl_trans : ∀ a b c : List UInt8, Op.bytesLess a b = true → Op.bytesLess b c = true → Op.bytesLess a c = true
  | [], [], _, h, _ => by simp [Op.bytesLess] at h
  | _ :: _, [], _, h, _ => by simp [Op.bytesLess] at h
  | _, _ :: _, [], _, h => by simp [Op.bytesLess] at h
  | [], _ :: _, _ :: _, _, _ => rfl
  | x :: a, y :: b, z :: c, h1, h2 => by
    have ih := bl_trans a b c
    simp only [Op.bytesLess, Bool.or_eq_true, Bool.and_eq_true, decide_eq_true_eq, beq_iff_eq] at h1 h2 ⊢
    rcases h1 with h1 | ⟨h1, h1'⟩
    · rcases h2 with h2 | ⟨h2, _⟩
      · exact .inl (UInt8.lt_trans h1 h2)
      · subst h2; exact .inl h1
    · subst h1
      rcases h2 with h2 | ⟨h2, h2'⟩
      · exact .inl h2
      · exact .inr ⟨h2, ih h1' h2'⟩
theorem bl_three : ∀ a b : List UInt8, (Op.bytesLess a b = true ∧ Op.bytesLess b a = false ∧ a ≠ b) ∨ (Op.bytesLess a b = false ∧ Op.bytesLess b a = true ∧ a ≠ b) ∨ (Op.bytesLess a b = false ∧ Op.bytesLess b a = false ∧ a = b)
  | [], [] => .inr (.inr ⟨rfl, rfl, rfl⟩)
  | [], _ :: _ => .inl ⟨rfl, rfl, by simp⟩
  | _ :: _, [] => .inr (.inl ⟨rfl, rfl, by simp⟩)
  | x :: a, y :: b => by
    rcases bl_three a b with h | h | h
    all_goals
      simp only [Op.bytesLess]
      by_cases h1 : x < y
      · left
        have h2 : ¬ y < x := fun h => absurd (UInt8.lt_trans h1 h) (UInt8.lt_irrefl _)
        have h3 : ¬ x = y := fun h => by subst h; exact UInt8.lt_irrefl _ h1
        have h4 : ¬ y = x := fun h => h3 h.symm
        refine ⟨by simp [h1], by simp [h2, h4], by simp [h3]⟩
      · by_cases h2 : y < x
        · right; left
          have h3 : ¬ x = y := fun h => by subst h; exact UInt8.lt_irrefl _ h2
          refine ⟨by simp [h1, h3], by simp [h2], by simp [h3]⟩
        · have h3 : x = y := by
            apply UInt8.toNat_inj.1
            rw [UInt8.lt_iff_toNat_lt] at h1 h2
            omega
          subst h3
          simp [h1, h, bl_irrefl]

set_option maxRecDepth 100000 in
set_option maxHeartbeats 1000000 in
theorem sameFloat_00 (w : World) : Calls Tryz.prog 50 #[.float .f64 0, .float .f64 0] w fun e w' => e = .returned (.bool true) ∧ w = w' := by
  have h1 := fun W => fbits_any W 0
  go_enter Tryz.func50, Tryz.ntmps50
  go_wp2
  go_ret
  exact ⟨rfl, rfl⟩
set_option maxRecDepth 100000 in
set_option maxHeartbeats 1000000 in
theorem eqFunc_none (w : World) (f : Value) : Calls Tryz.prog 52 #[.slice none 0 0, .slice none 0 0, f] w fun e w' => e = .returned (.bool true) ∧ w = w' := by
  go_enter Tryz.func52, Tryz.ntmps52
  go_wp2_with fail
  go_loopw [17] (fun iv wr => iv = .int .i64 0 ∧ wr = w) (fun _ _ => 0)
  case atStart => exact ⟨rfl, rfl⟩
  case round =>
    obtain ⟨rfl, rfl⟩ := hrel
    go_wp2_with fail
    go_ret
    exact ⟨rfl, rfl⟩

set_option maxRecDepth 100000 in
set_option maxHeartbeats 2000000 in
theorem same_str (w : World) (s t : List UInt8) : Calls Tryz.prog 23 #[(vS s).v, (vS t).v] w fun e w' => e = .returned (.bool (s == t)) ∧ Fr (fun _ => False) w w' := by
  have HF := hid (two_fr w (vS s) (vS t))
  have HQ := hid (fun W => Tryz.slices_Equal_string_empty none none 0 0 0 W (by decide))
  cases hq : (s == t) with
  | true =>
    go_enter Tryz.func23, Tryz.ntmps23
    go_wp2_with fail
    refine (sameFloat_00 _).mono ?_
    rintro e w1 ⟨rfl, rfl⟩
    go_wp2_with fail
    refine (HQ.out _).mono ?_
    rintro e w1 ⟨rfl, rfl⟩
    go_wp2_with fail
    refine (eqFunc_none _ _).mono ?_
    rintro e w1 ⟨rfl, rfl⟩
    go_wp2_with fail
    go_ret
    exact ⟨rfl, HF.out⟩
  | false =>
    go_enter Tryz.func23, Tryz.ntmps23
    go_wp2_with fail
    refine (sameFloat_00 _).mono ?_
    rintro e w1 ⟨rfl, rfl⟩
    go_wp2_with fail
    go_ret
    exact ⟨rfl, HF.out⟩

set_option maxRecDepth 100000 in
set_option maxHeartbeats 2000000 in
theorem equal_str (w : World) (s t : List UInt8) : Calls Tryz.prog 54 #[(vS s).v, (vS t).v] w fun e w' => e = .returned (.tuple #[.bool (s == t), .int .i64 0]) ∧ Fr (fun _ => False) w w' := by
  have HB := hid (two_blk w (vS s) (vS t))
  have HF := hid (two_fr w (vS s) (vS t))
  have HN := hid (fun W => areNumbers_any W (vS s) (vS t))
  have HS := hid (fun W => same_str W s t)
  have hn : (numB (vS s) && numB (vS t)) = false := rfl
  rw [hn] at HN
  clear hn
  go_enter Tryz.func54, Tryz.ntmps54
  go_wp2_with fail
  refine (HN.out _).mono ?_
  rintro e w1 ⟨rfl, f1⟩
  have HB1 := hid (And.intro (f1.blk HB.out.1 (fun h => h)) (f1.blk HB.out.2 (fun h => h)))
  have HF1 := hid (HF.out.trans f1 (fun _ h => h.elim))
  clear f1 HB HF HN
  obtain ⟨c0, c1, c2, c3, c4, c5⟩ := HB1.out.1.six
  obtain ⟨d0, d1, d2, d3, d4, d5⟩ := HB1.out.2.six
  go_wp2_with fail
  refine (HS.out _).mono ?_
  rintro e w2 ⟨rfl, f2⟩
  have HF2 := hid (HF1.out.trans f2 (fun _ h => h.elim))
  clear f2 HF1
  go_wp2_with fail
  go_ret2
  exact ⟨rfl, HF2.out⟩
theorem rightStr (t : List UInt8) (h : t.length ≤ 1024) : rightS (vS t) = true := by
  have e : rightS (vS t) = (decide (t.length ≤ 1024) && bareB (vS [])) := rfl
  rw [e, decide_eq_true h]; rfl
theorem right_of_str (w : World) (t : List UInt8) (h : t.length ≤ 1024) : RightOf w (vS t) true := by
  have := right_of_sca w (vS t) (show (4 : Int) ≠ 5 by decide) (show (4 : Int) ≠ 6 by decide)
  rw [rightStr t h] at this; exact this
theorem less_str (w : World) (s t : List UInt8) (hs : s.length ≤ 1024) (ht : t.length ≤ 1024) : Calls Tryz.prog 27 #[(vS s).v, (vS t).v] w fun e w' => e = .returned (.tuple #[.bool (Op.bytesLess s t), .int .i64 0]) ∧ Fr (fun _ => False) w w' :=
  less_any w (vS s) (vS t) true true (right_of_str w s hs) (right_of_str w t ht)
theorem Equal_str (w : World) (s t : List UInt8) (hs : s.length ≤ 1024) (ht : t.length ≤ 1024) : Calls Tryz.prog 25 #[(vS s).v, (vS t).v] w fun e w' => e = .returned (.tuple #[.bool (s == t), .int .i64 0]) ∧ Fr (fun _ => False) w w' :=
  Equal_any w (vS s) (vS t) true true (s == t, 0) (right_of_str w s hs) (right_of_str w t ht) (fun _ _ W _ => equal_str W s t)

/-- Two strings, one behind the other. -/
def joinT (a b : List UInt8) : Vv × Int := if 1024 < a.length + b.length then (vZ, 20) else (vS (a ++ b), 0)
theorem str_cat (a b : List UInt8) : (ByteArray.mk a.toArray) ++ (ByteArray.mk b.toArray) = ⟨(a ++ b).toArray⟩ := by
  apply ByteArray.ext
  simp
set_option maxRecDepth 100000 in
set_option maxHeartbeats 2000000 in
theorem join_any (w : World) (a b : List UInt8) (ha : a.length ≤ 1024) (hb : b.length ≤ 1024) : Calls Tryz.prog 69 #[.string ⟨a.toArray⟩, .string ⟨b.toArray⟩] w fun e w' => e = .returned (.tuple #[(joinT a b).1.v, .int .i64 (joinT a b).2]) ∧ Fr (fun _ => False) w w' := by
  have HB := hid (vBlk w vZ)
  have HF := hid (vFr w vZ)
  by_cases hl : 1024 < a.length + b.length
  · have e : joinT a b = (vZ, 20) := if_pos hl
    rw [e]
    have hl' : ((a.length : Nat) : Int) + ((b.length : Nat) : Int) > 1024 := by omega
    clear e
    go_enter Tryz.func69, Tryz.ntmps69
    go_wp2_with (refine wpList_storeV vZ (by rfl) _ _ (by rfl) HB.out (by rfl) (by rfl) ?_; intro w3 b3 f3)
    have HF3 := hid (HF.out.trans f3 (fun i hi => .inr (by omega)))
    have HB3 := hid b3
    clear f3 b3
    go_wp2_with fail
    exact bodyPost_ret (resVE rfl rfl HB3.out) rfl ⟨rfl, HF3.out⟩
  · have e : joinT a b = (vS (a ++ b), 0) := if_neg hl
    rw [e]
    have hl' : ¬ ((a.length : Nat) : Int) + ((b.length : Nat) : Int) > 1024 := by omega
    clear e
    go_enter Tryz.func69, Tryz.ntmps69
    go_wp2_with fail
    rw [str_cat]
    refine (ofText_any _ (a ++ b)).mono ?_
    rintro e w2 ⟨rfl, f2⟩
    have HB2 := hid (f2.blk HB.out (fun h => h))
    have HF2 := hid (HF.out.trans f2 (fun _ h => h.elim))
    clear f2
    go_wp2_with (refine wpList_storeV (vS (a ++ b)) (by rfl) _ _ (by rfl) HB2.out (by rfl) (by rfl) ?_; intro w3 b3 f3)
    have HF3 := hid (HF2.out.trans f3 (fun i hi => .inr (by omega)))
    have HB3 := hid b3
    clear f3 b3
    go_wp2_with fail
    exact bodyPost_ret (resVE rfl rfl HB3.out) rfl ⟨rfl, HF3.out⟩

set_option maxRecDepth 100000 in
set_option maxHeartbeats 4000000 in
theorem reckon_str (w : World) (a b : List UInt8) (ha : a.length ≤ 1024) (hb : b.length ≤ 1024) : Calls Tryz.prog 31 #[.string ⟨#[43]⟩, (vS a).v, (vS b).v] w fun e w' => e = .returned (.tuple #[(joinT a b).1.v, .int .i64 (joinT a b).2]) ∧ Fr (fun _ => False) w w' := by
  have HB := hid (three_blk w (vS a) (vS b) vZ)
  have HF := hid (three_fr w (vS a) (vS b) vZ)
  have HS := hid (fun W => isSign_four W 43 (.inl rfl))
  have HRa := hid (fun W => right_of_str W a ha W (Env.refl W))
  have HRb := hid (fun W => right_of_str W b hb W (Env.refl W))
  have HA2 := hid (fun W => areBoth_any W 2 (vS a) (vS b))
  have HA4 := hid (fun W => areBoth_any W 4 (vS a) (vS b))
  have HN := hid (fun W => areNumbers_any W (vS a) (vS b))
  have hn : (numB (vS a) && numB (vS b)) = false := rfl
  rw [hn] at HN
  have HJ := hid (fun W => join_any W a b ha hb)
  clear hn ha hb
  generalize joinT a b = R at *
  go_enter Tryz.func31, Tryz.ntmps31
  go_wp2_with fail
  refine (HS.out _).mono ?_
  rintro e w1 ⟨rfl, rfl⟩
  go_wp2_with fail
  refine (HRa.out _).mono ?_
  rintro e w1 ⟨rfl, f1⟩
  have HB1 := hid (And.intro (f1.blk HB.out.1 (fun h => h)) (And.intro (f1.blk HB.out.2.1 (fun h => h)) (f1.blk HB.out.2.2 (fun h => h))))
  have HF1 := hid (HF.out.trans f1 (fun _ h => h.elim))
  clear f1 HB HF HRa HS
  obtain ⟨d0, d1, d2, d3, d4, d5⟩ := HB1.out.2.1.six
  go_wp2_with fail
  refine (HRb.out _).mono ?_
  rintro e w2 ⟨rfl, f2⟩
  have HB2 := hid (And.intro (f2.blk HB1.out.1 (fun h => h)) (And.intro (f2.blk HB1.out.2.1 (fun h => h)) (f2.blk HB1.out.2.2 (fun h => h))))
  have HF2 := hid (HF1.out.trans f2 (fun _ h => h.elim))
  clear f2 HB1 HF1 HRb d0 d1 d2 d3 d4 d5
  obtain ⟨c0, c1, c2, c3, c4, c5⟩ := HB2.out.1.six
  obtain ⟨d0, d1, d2, d3, d4, d5⟩ := HB2.out.2.1.six
  go_wp2_with fail
  refine (HA2.out _).mono ?_
  rintro e w3 ⟨rfl, f3⟩
  have HB3 := hid (And.intro (f3.blk HB2.out.1 (fun h => h)) (And.intro (f3.blk HB2.out.2.1 (fun h => h)) (f3.blk HB2.out.2.2 (fun h => h))))
  have HF3 := hid (HF2.out.trans f3 (fun _ h => h.elim))
  clear f3 HB2 HF2 HA2 c0 c1 c2 c3 c4 c5 d0 d1 d2 d3 d4 d5
  obtain ⟨c0, c1, c2, c3, c4, c5⟩ := HB3.out.1.six
  obtain ⟨d0, d1, d2, d3, d4, d5⟩ := HB3.out.2.1.six
  go_wp2_with fail
  refine (HN.out _).mono ?_
  rintro e w4 ⟨rfl, f4⟩
  have HB4 := hid (And.intro (f4.blk HB3.out.1 (fun h => h)) (And.intro (f4.blk HB3.out.2.1 (fun h => h)) (f4.blk HB3.out.2.2 (fun h => h))))
  have HF4 := hid (HF3.out.trans f4 (fun _ h => h.elim))
  clear f4 HB3 HF3 HN c0 c1 c2 c3 c4 c5 d0 d1 d2 d3 d4 d5
  obtain ⟨c0, c1, c2, c3, c4, c5⟩ := HB4.out.1.six
  obtain ⟨d0, d1, d2, d3, d4, d5⟩ := HB4.out.2.1.six
  go_wp2_with fail
  refine (HA4.out _).mono ?_
  rintro e w5 ⟨rfl, f5⟩
  have HB5 := hid (And.intro (f5.blk HB4.out.1 (fun h => h)) (And.intro (f5.blk HB4.out.2.1 (fun h => h)) (f5.blk HB4.out.2.2 (fun h => h))))
  have HF5 := hid (HF4.out.trans f5 (fun _ h => h.elim))
  clear f5 HB4 HF4 HA4 c0 c1 c2 c3 c4 c5 d0 d1 d2 d3 d4 d5
  obtain ⟨c0, c1, c2, c3, c4, c5⟩ := HB5.out.1.six
  obtain ⟨d0, d1, d2, d3, d4, d5⟩ := HB5.out.2.1.six
  go_wp2_with fail
  refine (HJ.out _).mono ?_
  rintro e w6 ⟨rfl, f6⟩
  have HB6 := hid (f6.blk HB5.out.2.2 (fun h => h))
  have HF6 := hid (HF5.out.trans f6 (fun _ h => h.elim))
  clear f6 HB5 HF5 HJ c0 c1 c2 c3 c4 c5 d0 d1 d2 d3 d4 d5
  go_wp2_with (refine wpList_storeV R.1 (by rfl) _ _ (by rfl) HB6.out (by rfl) (by rfl) ?_; intro w7 b7 f7)
  have HF7 := hid (HF6.out.trans f7 (fun i hi => .inr (by omega)))
  have HB7 := hid b7
  clear f7 b7
  go_wp2_with fail
  exact bodyPost_ret (resVE rfl rfl HB7.out) rfl ⟨rfl, HF7.out⟩
end Go.Proofs.YtlepjghfcpgbcaaGreatDoor.Tr
