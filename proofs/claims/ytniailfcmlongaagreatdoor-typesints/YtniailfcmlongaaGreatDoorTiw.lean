/- The walk of TypesInts. -/
import Derived.Test.YtniailfcmlongaaGreatDoorTsw
import Derived.Test.YtniailfcmlongaaGreatDoorTdg
import Derived.Test.YtniailfcmlongaaGreatDoorTin
import Derived.Deep.DeepCutAuto
namespace Go.Proofs.YtniailfcmlongaaGreatDoor.Tr
open Go.RowKit

theorem tInts_cat (lo hi : Nat) : ((ByteArray.mk #[105, 110, 116, 32] ++ ByteArray.mk (decD lo).toArray) ++ ByteArray.mk #[32]) ++ ByteArray.mk (decD hi).toArray = ⟨(tInts lo hi).toArray⟩ := by
  rw [show (ByteArray.mk #[105, 110, 116, 32]) = ⟨([105, 110, 116, 32] : List UInt8).toArray⟩ from rfl, show (ByteArray.mk #[32]) = ⟨([32] : List UInt8).toArray⟩ from rfl, str_cat, str_cat, str_cat]
  congr 2
  simp [tInts]

set_option maxRecDepth 100000 in
set_option maxHeartbeats 8000000 in
theorem typesInts_walk (w : World) (lo hi n : Int) (hlo : I64 lo) (hhi : I64 hi) (hn : I64 n) (hm : Mx w) : Calls Tryz.prog 8 #[.int .i64 lo, .int .i64 hi, .int .i64 n] w fun e w' => e = .returned (.bool true) ∧ Fr (fun _ => False) w w' := by
  have HS := hid (shown_any w hm)
  have HM := hid hm
  have HN := hid hn
  have hlo0 : -9223372036854775808 ≤ lo := hlo.1
  have hlo1 : lo ≤ 9223372036854775807 := hlo.2
  have hhi0 : -9223372036854775808 ≤ hi := hhi.1
  have hhi1 : hi ≤ 9223372036854775807 := hhi.2
  clear hm hn hlo hhi
  go_enter Tryz.func8, Tryz.ntmps8
  go_wp2_with fail
  refine HS.out.mono ?_
  rintro e w1 ⟨rfl, f1⟩
  have HF1 := hid f1
  clear f1 HS
  go_upto_if 15 with fail
  go_cut [0] (fun a' wx => ∃ A0 : Nat, A0 ≤ 9223372036854775807 ∧ a' = .int .i64 (A0 : Int) ∧ wx = w1)
  case first =>
    by_cases ha : lo < 0
    · go_wp2_with fail
      all_goals go_meet
      exact ⟨(-(lo + 1)).toNat, by omega, by congr 1; omega, rfl⟩
    · have hda : decide (lo < 0) = false := by simpa using ha
      go_wp2_with fail
      all_goals go_meet
      exact ⟨lo.toNat, by omega, by congr 1; omega, rfl⟩
  case rest =>
    obtain ⟨A0, hA0, rfl, hw⟩ := hcut
    obtain rfl : w1 = wc := hw.symm
    clear hw hlo0 hlo1
    go_upto_if 20 with fail
    go_cut [1] (fun a' wx => ∃ B0 : Nat, B0 ≤ 9223372036854775807 ∧ a' = .int .i64 (B0 : Int) ∧ wx = w1)
    case first =>
      by_cases ha : hi < 0
      · go_wp2_with fail
        all_goals go_meet
        exact ⟨(-(hi + 1)).toNat, by omega, by congr 1; omega, rfl⟩
      · have hda : decide (hi < 0) = false := by simpa using ha
        go_wp2_with fail
        all_goals go_meet
        exact ⟨hi.toNat, by omega, by congr 1; omega, rfl⟩
    case rest =>
      obtain ⟨B0, hB0, rfl, hw⟩ := hcut
      obtain rfl : w1 = wc := hw.symm
      clear hw hhi0 hhi1
      obtain ⟨a, ha⟩ : ∃ a : Nat, a = A0 % 1000000 := ⟨_, rfl⟩
      obtain ⟨b, hb⟩ : ∃ b : Nat, b = B0 % 1000000 := ⟨_, rfl⟩
      have ea : (A0 : Int) % 1000000 = (a : Int) := by omega
      have eb : (B0 : Int) % 1000000 = (b : Int) := by omega
      have ha6 : a < 1000000 := by omega
      have hb6 : b < 1000000 := by omega
      have HDa := hid (fun W => digits_any W a ha6)
      have HDb := hid (fun W => digits_any W b hb6)
      have HCat := hid (tInts_cat a b)
      have HR : Hid (∀ W, Env w W → Calls Tryz.prog 12 #[.string ⟨(tInts a b).toArray⟩] W fun e w' => e = .returned (.bool (decide (a ≤ b))) ∧ Fr (fun _ => False) W w') := fun W e => by
        have h := tRight_any W (tInts a b) (by have := tInts_len a b ha6 hb6; omega) (HM.out.env e)
        rw [read_ints a b ha6 hb6] at h
        by_cases hab : a ≤ b
        · rw [if_pos hab] at h; rw [decide_eq_true hab]; exact h
        · rw [if_neg hab] at h; rw [decide_eq_false hab]; exact h
      have HO : Hid (∀ W, Env w W → Calls Tryz.prog 14 #[.string ⟨(tInts a b).toArray⟩, (vI n).v] W fun e w' => e = .returned (.bool (decide (a ≤ b) && (decide ((a : Int) ≤ n) && decide (n ≤ (b : Int))))) ∧ Fr (fun _ => False) W w') := fun W e => by
        have h := tOf_any W (tInts a b) (by have := tInts_len a b ha6 hb6; omega) (HM.out.env e) (.mk 2 n 0 [] [] []) (vI n) (vin_int W n HN.out)
        rw [of_ints a b ha6 hb6] at h
        exact h
      have HG : Hid (a ≤ b → ∀ W g cap, g = W.heap.size → Env w W → Calls Tryz.prog 17 #[.string ⟨(tInts a b).toArray⟩, .slice (some ⟨g, 0, none⟩) 1 cap] (dBox W ⟨vI n, 0, 0⟩) fun e w' => MPost (dBox W ⟨vI n, 0, 0⟩) (if (a : Int) ≤ n ∧ n ≤ (b : Int) then .inl (.mk 2 n 0 [] [] []) else .inr 11) e w') := fun hab W g cap hg e => hg ▸ merge_ints _ ((HM.out.env e).env (Env.alloc W _)) a b ha6 hb6 n HN.out cap W.heap.size (dBlk W _) hab
      have HG2 : Hid (¬ a ≤ b → ∀ W g cap, g = W.heap.size → Env w W → Calls Tryz.prog 17 #[.string ⟨(tInts a b).toArray⟩, .slice (some ⟨g, 0, none⟩) 1 cap] (dBox W ⟨vI n, 0, 0⟩) fun e w' => MPost (dBox W ⟨vI n, 0, 0⟩) (.inr 1) e w') := fun hab W g cap hg e => Merge_arg (dBox W ⟨vI n, 0, 0⟩) (tInts a b) [⟨.mk 2 n 0 [] [] [], 0, 0⟩] (some ⟨g, 0, none⟩) cap (by have := tInts_len a b ha6 hb6; omega) ((HM.out.env e).env (Env.alloc W _)) (by rw [read_ints a b ha6 hb6, if_neg hab])
      have la : (decD a).length ≤ 6 := decD_len 5 a (by simpa using ha6)
      have lb : (decD b).length ≤ 6 := decD_len 5 b (by simpa using hb6)
      generalize tInts a b = t at *
      generalize decD a = da at *
      generalize decD b = db at *
      clear ha hb HM
      go_wp2_with fail
      simp only [ea, eb]
      clear ea eb hA0 hB0
      refine (HDa.out _).mono ?_
      rintro e w2 ⟨rfl, f2⟩
      have HF2 := hid (HF1.out.trans f2 (fun _ h => h.elim))
      clear f2 HF1 HDa
      go_wp2_with fail
      refine (HDb.out _).mono ?_
      rintro e w3 ⟨rfl, f3⟩
      have HF3 := hid (HF2.out.trans f3 (fun _ h => h.elim))
      clear f3 HF2 HDb
      go_wp2_with fail
      have hcat := HCat.out
      simp only [hcat]
      clear hcat HCat la lb
      have hst := fun (W : World) (a : Addr) (m : Mode) (f : Nat) => run_store Tryz.prog W a (.float .f64 f) m rfl
      by_cases hab : a ≤ b
      · have hab' : (a : Int) ≤ (b : Int) := by omega
        have hab2 : decide ((a : Int) > (b : Int)) = false := by simp; omega
        rw [decide_eq_true hab] at HR HO
        simp only [Bool.true_and] at HO
        have HG1 := hid (HG.out hab)
        clear HG HG2
        refine (HR.out _ (Env.of HF3.out)).mono ?_
        rintro e w4 ⟨rfl, f4⟩
        have HF4 := hid (HF3.out.trans f4 (fun _ h => h.elim))
        have HF5 := hid (HF4.out.trans (vFr w4 (vI n)) (fun _ h => h.elim))
        have HB5 := hid (vBlk w4 (vI n))
        clear f4 HF3 HR
        by_cases hin : (a : Int) ≤ n ∧ n ≤ (b : Int)
        · rw [if_pos hin] at HG1
          rw [decide_eq_true hin.1, decide_eq_true hin.2] at HO
          obtain ⟨h1, h2⟩ := hin
          obtain ⟨c0, c1, c2, c3, c4, c5⟩ := HB5.out.six
          go_wp2_with fail
          refine (HG1.out (vBox w4 (vI n)) _ _ (size_box _ _).symm (Env.of HF5.out)).mono ?_
          rintro e w6 ⟨f6, ⟨er, e1, _⟩ | ⟨v1, x1, e1, rfl, hv1⟩⟩
          · cases e1
          cases e1
          have hxn : x1.n = n := hv1.parts.1.2.1
          have HF6 : Hid (Fr (fun _ => False) w w6) := (HF5.out.alloc _).trans f6 (fun _ h => h.elim)
          have HB6 := hid (f6.blk (HB5.out.alloc _) (fun h => h))
          clear f6 hv1 c0 c1 c2 c3 c4 c5 HB5 HF5 HF4 HG1
          have HF7 := hid (HF6.out.trans (vFr w6 x1) (fun _ h => h.elim))
          have HBx := hid (vBlk w6 x1)
          obtain ⟨k, n', f, tx, na, nl, nc, ia, il, ic⟩ := x1
          simp only at hxn
          subst hxn
          obtain ⟨c0, c1, c2, c3, c4, c5⟩ := (HB6.out.alloc (.cells #[.int .i64 k, .int .i64 n', .float .f64 f, .string ⟨tx.toArray⟩, .slice na nl nc, .slice ia il ic] 26)).six
          go_wp2_with fail
          refine (HO.out _ (Env.of HF7.out)).mono ?_
          rintro e w8 ⟨rfl, f8⟩
          have HF8 := hid (HF7.out.trans f8 (fun _ h => h.elim))
          have HBx8 := hid (f8.blk HBx.out (fun h => h))
          clear f8 c0 c1 c2 c3 c4 c5
          obtain ⟨d0, d1, d2, d3, d4, d5⟩ := HBx8.out.six
          go_wp2_with fail
          go_ret
          exact ⟨rfl, HF8.out⟩
        · rw [if_neg hin] at HG1
          by_cases h1 : (a : Int) ≤ n
          · have h2 : decide (n ≤ (b : Int)) = false := by simp; omega
            have h2' : ¬ n ≤ (b : Int) := by omega
            rw [decide_eq_true h1, h2] at HO
            clear hin
            obtain ⟨c0, c1, c2, c3, c4, c5⟩ := HB5.out.six
            go_wp2_with fail
            refine (HG1.out (vBox w4 (vI n)) _ _ (size_box _ _).symm (Env.of HF5.out)).mono ?_
            rintro e w6 ⟨f6, ⟨er, e1, rfl⟩ | ⟨v1, x1, e1, _, _⟩⟩
            case inr => cases e1
            cases e1
            have HF6 : Hid (Fr (fun _ => False) w w6) := (HF5.out.alloc _).trans f6 (fun _ h => h.elim)
            have HB6 := hid (f6.blk (HB5.out.alloc _) (fun h => h))
            clear f6 c0 c1 c2 c3 c4 c5 HB5 HF5 HF4 HG1
            have HF7 := hid (HF6.out.trans (vFr w6 vZ) (fun _ h => h.elim))
            obtain ⟨c0, c1, c2, c3, c4, c5⟩ := (HB6.out.alloc (.cells #[.int .i64 0, .int .i64 0, .float .f64 0, .string ⟨#[]⟩, .slice none 0 0, .slice none 0 0] 26)).six
            go_wp2_with fail
            refine (HO.out _ (Env.of HF7.out)).mono ?_
            rintro e w8 ⟨rfl, f8⟩
            have HF8 := hid (HF7.out.trans f8 (fun _ h => h.elim))
            clear f8 c0 c1 c2 c3 c4 c5
            go_wp2_with fail
            go_ret
            exact ⟨rfl, HF8.out⟩
          · have h2 : decide ((a : Int) ≤ n) = false := by simp; omega
            have h2' : ¬ (a : Int) ≤ n := by omega
            rw [h2] at HO
            clear hin h1
            obtain ⟨c0, c1, c2, c3, c4, c5⟩ := HB5.out.six
            go_wp2_with fail
            refine (HG1.out (vBox w4 (vI n)) _ _ (size_box _ _).symm (Env.of HF5.out)).mono ?_
            rintro e w6 ⟨f6, ⟨er, e1, rfl⟩ | ⟨v1, x1, e1, _, _⟩⟩
            case inr => cases e1
            cases e1
            have HF6 : Hid (Fr (fun _ => False) w w6) := (HF5.out.alloc _).trans f6 (fun _ h => h.elim)
            have HB6 := hid (f6.blk (HB5.out.alloc _) (fun h => h))
            clear f6 c0 c1 c2 c3 c4 c5 HB5 HF5 HF4 HG1
            have HF7 := hid (HF6.out.trans (vFr w6 vZ) (fun _ h => h.elim))
            obtain ⟨c0, c1, c2, c3, c4, c5⟩ := (HB6.out.alloc (.cells #[.int .i64 0, .int .i64 0, .float .f64 0, .string ⟨#[]⟩, .slice none 0 0, .slice none 0 0] 26)).six
            go_wp2_with fail
            refine (HO.out _ (Env.of HF7.out)).mono ?_
            rintro e w8 ⟨rfl, f8⟩
            have HF8 := hid (HF7.out.trans f8 (fun _ h => h.elim))
            clear f8 c0 c1 c2 c3 c4 c5
            go_wp2_with fail
            go_ret
            exact ⟨rfl, HF8.out⟩
      · have hab' : ¬ (a : Int) ≤ (b : Int) := by omega
        have hab2 : decide ((a : Int) > (b : Int)) = true := by simp; omega
        have hab3 : decide ((a : Int) ≤ (b : Int)) = false := by simp; omega
        rw [decide_eq_false hab] at HR HO
        simp only [Bool.false_and] at HO
        have HG1 := hid (HG2.out hab)
        clear HG HG2
        refine (HR.out _ (Env.of HF3.out)).mono ?_
        rintro e w4 ⟨rfl, f4⟩
        have HF4 := hid (HF3.out.trans f4 (fun _ h => h.elim))
        have HF5 := hid (HF4.out.trans (vFr w4 (vI n)) (fun _ h => h.elim))
        have HB5 := hid (vBlk w4 (vI n))
        clear f4 HF3 HR
        obtain ⟨c0, c1, c2, c3, c4, c5⟩ := HB5.out.six
        go_wp2_with fail
        refine (HG1.out (vBox w4 (vI n)) _ _ (size_box _ _).symm (Env.of HF5.out)).mono ?_
        rintro e w6 ⟨f6, ⟨er, e1, rfl⟩ | ⟨v1, x1, e1, _, _⟩⟩
        case inr => cases e1
        cases e1
        have HF6 : Hid (Fr (fun _ => False) w w6) := (HF5.out.alloc _).trans f6 (fun _ h => h.elim)
        have HB6 := hid (f6.blk (HB5.out.alloc _) (fun h => h))
        clear f6 c0 c1 c2 c3 c4 c5 HB5 HF5 HF4 HG1
        have HF7 := hid (HF6.out.trans (vFr w6 vZ) (fun _ h => h.elim))
        obtain ⟨c0, c1, c2, c3, c4, c5⟩ := (HB6.out.alloc (.cells #[.int .i64 0, .int .i64 0, .float .f64 0, .string ⟨#[]⟩, .slice none 0 0, .slice none 0 0] 26)).six
        go_wp2_with fail
        refine (HO.out _ (Env.of HF7.out)).mono ?_
        rintro e w8 ⟨rfl, f8⟩
        have HF8 := hid (HF7.out.trans f8 (fun _ h => h.elim))
        clear f8 c0 c1 c2 c3 c4 c5
        go_wp2_with fail
        go_ret
        exact ⟨rfl, HF8.out⟩
end Go.Proofs.YtniailfcmlongaaGreatDoor.Tr
