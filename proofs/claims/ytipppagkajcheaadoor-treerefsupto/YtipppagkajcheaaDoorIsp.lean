/- The contracts of tail and IsPath. -/
import Derived.Test.YtipppagkajcheaaDoorSto
import Derived.Test.YtipppagkajcheaaDoorSRp
import Derived.Test.YtipppagkajcheaaDoorDec
namespace Go.Proofs.YtipppagkajcheaaDoor.Tr
open Go.RowKit

theorem name_two (c : UInt8) : nameB [120, c] = mayB c := by
  unfold nameB
  have h1 : ([120, c] == [(46 : UInt8)]) = false := rfl
  have h2 : ([120, c] == [(46 : UInt8), 46]) = false := rfl
  rw [h1, h2]
  have h3 : mayB 120 = true := by decide
  simp [h3]
set_option maxRecDepth 100000 in
theorem tail_any (w : World) (c : UInt8) : Calls Tryd.prog 37 #[.int .u8 (c.toNat : Int)] w fun e w' => e = .returned (.bool (mayB c)) ∧ Fr (fun _ => False) w w' := by
  have hcv := conv_one w c
  unfold bv at hcv
  have HN := hid (rname_any (w.alloc (.cells #[.int .u8 (c.toNat : Int)] 5)) [120, c])
  rw [name_two] at HN
  have HS : Hid ((ByteArray.mk #[120]) ++ (ByteArray.mk #[c]) = ⟨[120, c].toArray⟩) := str_cat [120] [c]
  go_enter Tryd.func37, Tryd.ntmps37
  go_wp2_with (go_at_call 52; rw [HS.out]; refine HN.out.mono ?_; rintro e w1 ⟨rfl, f1⟩; have F1 : Hid (Fr (fun _ => False) w w1) := ((Fr.refl _ w).alloc _).trans f1 (fun _ h => h.elim))
  go_ret
  exact ⟨rfl, F1.out⟩

/-- What is asked of a text of the right length. -/
theorem isPath_len (s : List UInt8) (h : s.length < 25 ∨ 43 < s.length) : isPathB s = false := by
  unfold isPathB
  rcases h with h | h
  · rw [decide_eq_false (show ¬ 25 ≤ s.length by omega)]; rfl
  · rw [decide_eq_false (show ¬ s.length ≤ 43 by omega)]; simp
theorem isPath_pre (s : List UInt8) (h : s.take 7 ≠ storeL) : isPathB s = false := by
  unfold isPathB headAt
  have : (s.take 7 == storeL) = false := by simpa using h
  rw [this]; simp
theorem isPath_dash (s : List UInt8) (h : 23 < s.length) (e : s[23] ≠ 45) : isPathB s = false := by
  unfold isPathB headAt
  have : (s[23]? == some 45) = false := by
    rw [List.getElem?_eq_getElem h]
    exact beq_eq_false_iff_ne.2 (fun hc => e (Option.some.inj hc))
  rw [this]; simp
theorem isPath_rest (s : List UInt8) (h1 : 25 ≤ s.length) (h2 : s.length ≤ 43) (h3 : s.take 7 = storeL) (h4 : s[23] = 45) : isPathB s = ((parsed (sub s 7 23)).isSome && (s.drop 24).all mayB) := by
  unfold isPathB headAt
  have e1 : (s.take 7 == storeL) = true := by rw [h3]; rfl
  have e2 : (s[23]? == some 45) = true := by rw [List.getElem?_eq_getElem (by omega), h4]; rfl
  have e3 : sub s 7 23 = (s.drop 7).take 16 := by unfold sub; rw [List.drop_take]
  rw [e1, e2, e3, parsed_some _ (by rw [List.length_take, List.length_drop]; omega), decide_eq_true h1, decide_eq_true h2, decide_eq_true (show 24 ≤ s.length by omega)]
  simp
theorem sub_all_succ (s : List UInt8) (i : Nat) (h : 24 ≤ i) (hi : i < s.length) : (sub s 24 (i + 1)).all mayB = ((sub s 24 i).all mayB && mayB s[i]) := by
  rw [sub_snoc s 24 i h hi, List.all_append]; simp

set_option maxRecDepth 100000 in
set_option maxHeartbeats 1000000 in
theorem isPath_any (w : World) (s : List UInt8) : Calls Tryd.prog 19 #[.string ⟨s.toArray⟩] w fun e w' => e = .returned (.bool (isPathB s)) ∧ Fr (fun _ => False) w w' := by
  by_cases h1 : s.length < 25
  · have h1' : ((s.length : Nat) : Int) < 25 := by omega
    have HR := hid (isPath_len s (.inl h1))
    go_enter Tryd.func19, Tryd.ntmps19
    go_wp2
    go_ret
    exact ⟨by rw [HR.out]; rfl, Fr.refl _ _⟩
  have h1' : ¬ ((s.length : Nat) : Int) < 25 := by omega
  by_cases h2 : 43 < s.length
  · have h2' : (43 : Int) < ((s.length : Nat) : Int) := by omega
    have HR := hid (isPath_len s (.inr h2))
    go_enter Tryd.func19, Tryd.ntmps19
    go_wp2
    go_ret
    exact ⟨by rw [HR.out]; rfl, Fr.refl _ _⟩
  have h2' : ¬ (43 : Int) < ((s.length : Nat) : Int) := by omega
  have h7 : (7 : Int) ≤ ((s.length : Nat) : Int) := by omega
  have h23 : (23 : Int) < ((s.length : Nat) : Int) := by omega
  have h23' : 23 < s.length := by omega
  have hat := str_at s 23 h23'
  have HX7 := hid (ext_sub s 0 7)
  have HX23 := hid (ext_sub s 7 23)
  have HT : Hid (((ByteArray.mk s.toArray).extract 0 7).toList = s.take 7) := by
    unfold Hid; rw [HX7.out, toList_mk]; rfl
  by_cases hp : s.take 7 = storeL
  · have hp' : ((ByteArray.mk s.toArray).extract 0 7).toList = [47, 115, 116, 111, 114, 101, 47] := by rw [HT.out, hp]; rfl
    by_cases hd : s[23] = 45
    · have hd' : (((s[23].toNat : Int)) != 45) = false := by rw [hd]; rfl
      have HR := hid (isPath_rest s (by omega) (by omega) hp hd)
      have HP := hid (rparse_any w (sub s 7 23) (by rw [sub_length s 7 23 (by omega)]; omega))
      clear hp hd HT HX7
      go_enter Tryd.func19, Tryd.ntmps19
      go_wp2_with fail
      rw [HX23.out]
      refine HP.out.mono ?_
      rintro e w1 ⟨rfl, f1⟩
      have F1 := hid f1
      obtain ⟨ov, ob, hob, hot⟩ : ∃ (ov : Nat) (ob : Bool), ob = (parsed (sub s 7 23)).isSome ∧ tup (parsed (sub s 7 23)) = .tuple #[.int .u64 (ov : Int), .bool ob] := by
        unfold tup
        cases parsed (sub s 7 23) with
        | none => exact ⟨0, false, rfl, rfl⟩
        | some n => exact ⟨n, true, rfl, rfl⟩
      rw [hot]
      rw [← hob] at HR
      clear hot hob f1 HP HX23 hp' hd'
      go_wp2_with fail
      go_loopw [4, 5] (fun kv iv wr => ∃ i : Nat, 24 ≤ i ∧ i ≤ s.length ∧ iv = .int .i64 (i : Int) ∧ kv = .bool (ob && (sub s 24 i).all mayB) ∧ Fr (fun _ => False) w wr) (fun _ iv _ => s.length - (intOf iv).toNat)
      case atStart => exact ⟨24, Nat.le_refl _, by omega, rfl, by rw [sub_self]; simp, F1.out⟩
      case round =>
        obtain ⟨i, hi24, hi, rfl, rfl, hF⟩ := hrel
        have HF := hid hF
        clear hF F1
        by_cases hlt : i < s.length
        · have hi1 : (i : Int) < ((s.length : Nat) : Int) := by omega
          have hi0 : (0 : Int) ≤ (i : Int) := Int.natCast_nonneg _
          have hati := str_at s i hlt
          have HS := hid (sub_all_succ s i hi24 hlt)
          have HC := hid (tail_any wr s[i])
          generalize (sub s 24 i).all mayB = q at *
          cases hq : (ob && q) with
          | true =>
            go_wp2_with (go_at_call 37; refine HC.out.mono ?_; rintro e w2 ⟨rfl, f2⟩; have F2 := hid (HF.out.trans f2 (fun _ h => h.elim)); clear f2)
            exact ⟨⟨i + 1, by omega, by omega, by go_num, by rw [HS.out, ← Bool.and_assoc, hq]; rfl, F2.out⟩, by simp [intOf]; omega⟩
          | false =>
            go_wp2_with (go_at_call 37; refine HC.out.mono ?_; rintro e w2 ⟨rfl, f2⟩; have F2 := hid (HF.out.trans f2 (fun _ h => h.elim)); clear f2)
            exact ⟨⟨i + 1, by omega, by omega, by go_num, by rw [HS.out, ← Bool.and_assoc, hq]; rfl, F2.out⟩, by simp [intOf]; omega⟩
        · obtain rfl : i = s.length := by omega
          have hkn : ¬ ((s.length : Nat) : Int) < ((s.length : Nat) : Int) := by omega
          rw [sub_all]
          go_wp2
          go_ret
          exact ⟨by rw [HR.out]; rfl, HF.out⟩
    · have hd' : (((s[23].toNat : Int)) != 45) = true := by
        rw [bne_iff_ne]; intro hc; exact hd (UInt8.toNat_inj.1 (by have : (45 : UInt8).toNat = 45 := rfl; omega))
      have HR := hid (isPath_dash s h23' hd)
      clear hd
      go_enter Tryd.func19, Tryd.ntmps19
      go_wp2
      go_ret
      exact ⟨by rw [HR.out]; rfl, Fr.refl _ _⟩
  · have hp' : (((ByteArray.mk s.toArray).extract 0 7).toList == [47, 115, 116, 111, 114, 101, 47]) = false := by
      rw [HT.out]; exact beq_eq_false_iff_ne.2 hp
    have HR := hid (isPath_pre s hp)
    clear hp
    go_enter Tryd.func19, Tryd.ntmps19
    go_wp2
    all_goals
      go_ret
      exact ⟨by rw [HR.out]; rfl, Fr.refl _ _⟩

end Go.Proofs.YtipppagkajcheaaDoor.Tr
