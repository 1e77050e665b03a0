/- The contract of storePath. -/
import Derived.Test.YtipppagkajcheaaGreatDoorSpt
import Derived.Test.YtipppagkajcheaaGreatDoorSPu
namespace Go.Proofs.YtipppagkajcheaaGreatDoor.Tr
open Go.RowKit

theorem ref_none {d : List UInt8} (h : headAt d = false) : refAt d = [] := by unfold refAt; rw [h]; rfl
theorem pre_iff (d : List UInt8) : Lib.hasPrefix d storeL = (d.take 7 == storeL) := by
  rw [Bool.eq_iff_iff, Lib.hasPrefix, List.isPrefixOf_iff_prefix, beq_iff_eq]
  constructor
  · rintro ⟨t, rfl⟩
    have : (7 : Nat) = storeL.length := rfl
    rw [this, List.take_left]
  · intro h
    exact ⟨d.drop 7, by rw [← h, List.take_append_drop]⟩
theorem ref_pre {d : List UInt8} (h : Lib.hasPrefix d storeL = false) : refAt d = [] := ref_none (by unfold headAt; rw [← pre_iff, h]; rfl)
theorem ref_short {d : List UInt8} (h : (d.drop 7).length ≤ 16) : refAt d = [] := ref_none (by
  unfold headAt
  rw [List.length_drop] at h
  rw [decide_eq_false (show ¬ 24 ≤ d.length by omega)]; simp)
theorem ref_dash {d : List UInt8} (h : 16 < (d.drop 7).length) (e : (d.drop 7)[16] ≠ 45) : refAt d = [] := ref_none (by
  unfold headAt
  have h' : 23 < d.length := by rw [List.length_drop] at h; omega
  have : (d[23]? == some 45) = false := by
    rw [List.getElem?_eq_getElem h']
    have e2 : d[23] = (d.drop 7)[16] := by rw [List.getElem_drop]
    rw [e2]
    exact beq_eq_false_iff_ne.2 (fun hc => e (Option.some.inj hc))
  rw [this]; simp)
theorem hex_dig (c : UInt8) : hexB c = (dig c).isSome := by
  unfold hexB dig
  by_cases h1 : 48 ≤ c.toNat ∧ c.toNat ≤ 57
  · rw [if_pos h1]; simp [h1.1, h1.2]
  · rw [if_neg h1]
    by_cases h2 : 97 ≤ c.toNat ∧ c.toNat ≤ 102
    · rw [if_pos h2]; simp [h2.1, h2.2]
    · rw [if_neg h2]
      simp only [Option.isSome_none, Bool.or_eq_false_iff, Bool.and_eq_false_iff, decide_eq_false_iff_not]
      omega
theorem fold_some : ∀ (l : List UInt8) (s : Nat), (l.foldl pf (some s)).isSome = l.all hexB
  | [], _ => rfl
  | c :: r, s => by
    rw [List.foldl_cons, List.all_cons, hex_dig]
    cases h : dig c with
    | none =>
      have : pf (some s) c = none := by unfold pf; simp only [h]
      rw [this, pf_none]; rfl
    | some d => rw [pf_good h, fold_some r]; rfl
theorem parsed_some (l : List UInt8) (h : l.length = 16) : (parsed l).isSome = l.all hexB := by
  unfold parsed; rw [if_pos h]; exact fold_some l 0
theorem ref_hex {d : List UInt8} (h : 16 < (d.drop 7).length) (e : parsed ((d.drop 7).take 16) = none) : refAt d = [] := ref_none (by
  unfold headAt
  rw [← parsed_some ((d.drop 7).take 16) (by rw [List.length_take]; omega), e]; simp)
theorem ref_head {d : List UInt8} (h0 : Lib.hasPrefix d storeL = true) (h : 16 < (d.drop 7).length) (e : (d.drop 7)[16] = 45) {s : Nat} (hp : parsed ((d.drop 7).take 16) = some s) : headAt d = true := by
  unfold headAt
  have h' : 23 < d.length := by rw [List.length_drop] at h; omega
  have e1 : (d[23]? == some 45) = true := by
    rw [List.getElem?_eq_getElem h']
    have e2 : d[23] = (d.drop 7)[16] := by rw [List.getElem_drop]
    rw [e2, e]; rfl
  rw [← pre_iff, h0, ← parsed_some ((d.drop 7).take 16) (by rw [List.length_take]; omega), hp, e1, decide_eq_true (show 24 ≤ d.length by omega)]; rfl
theorem tail_run (d : List UInt8) : (((d.drop 7).drop 17).takeWhile mayB).length = tailN d := by
  unfold tailN; rw [List.drop_drop]
theorem ref_zero {d : List UInt8} (h : min 19 (((d.drop 7).drop 17).takeWhile mayB).length = 0) : refAt d = [] := by
  rw [tail_run] at h
  unfold refAt
  rw [decide_eq_false (show ¬ 1 ≤ tailN d by omega)]; simp
theorem ref_len {d : List UInt8} (h0 : headAt d = true) (h : ¬ min 19 (((d.drop 7).drop 17).takeWhile mayB).length = 0) : (refAt d).length = 24 + min 19 (((d.drop 7).drop 17).takeWhile mayB).length := by
  rw [tail_run] at h ⊢
  unfold refAt
  rw [h0, decide_eq_true (show 1 ≤ tailN d by omega)]
  have := tailN_le d
  simp only [Bool.and_self, if_true, List.length_take]
  omega

set_option maxRecDepth 100000 in
set_option maxHeartbeats 1000000 in
theorem store_any (w : World) (ad : Option Addr) (d : List UInt8) (cap : Nat) (hs : Src w ad d) (hc : d.length ≤ cap) :
    Calls Tryz.prog 22 #[.slice ad d.length cap] w fun e w' => e = .returned (.int .i64 ((refAt d).length : Nat)) ∧ Fr (fun _ => False) w w' := by
  have hcv := Lib.run_convert_bytes_const (P := Tryz.prog) w 22 5 #[.int .u8 47, .int .u8 115, .int .u8 116, .int .u8 111, .int .u8 114, .int .u8 101, .int .u8 47] 7 7 Tryz.underlying22 Tryz.underlying5
  have HF : Hid (Fr (fun _ => False) w (w.alloc (.cells #[.int .u8 47, .int .u8 115, .int .u8 116, .int .u8 111, .int .u8 114, .int .u8 101, .int .u8 47] 5 (7, 8)))) := (Fr.refl _ w).alloc _
  have HP : Hid (Src (w.alloc (.cells #[.int .u8 47, .int .u8 115, .int .u8 116, .int .u8 111, .int .u8 114, .int .u8 101, .int .u8 47] 5 (7, 8))) (some ⟨w.heap.size, 0, none⟩) storeL) := Src.const storeL rfl
  have HS := hid hs
  clear hs
  cases hp : Lib.hasPrefix d storeL with
  | false =>
    have HR := hid (ref_pre hp)
    have HC := hid (cutpre_no _ ad d cap (HS.out.fr HF.out) hc _ storeL 7 HP.out hp)
    go_enter Tryz.func22, Tryz.ntmps22
    go_wp2_with (go_at_call 35; refine HC.out.mono ?_; rintro e w1 ⟨⟨a1, n1, c1, rfl⟩, rfl⟩)
    go_ret
    exact ⟨by rw [HR.out]; rfl, HF.out⟩
  | true =>
    have HC := hid (cutpre_yes _ ad d cap (HS.out.fr HF.out) hc _ 47 [115, 116, 111, 114, 101, 47] 7 HP.out hp)
    have e7 : [(47 : UInt8), 115, 116, 111, 114, 101, 47].length = 7 := rfl
    rw [e7] at HC
    have hc2 : (d.drop 7).length ≤ cap - 7 := by rw [List.length_drop]; omega
    have HR1 := hid (fun h => ref_short (d := d) h)
    have HR2 := hid (fun h => ref_dash (d := d) h)
    have HR3 := hid (fun h => ref_hex (d := d) h)
    have HR4 := hid (fun h => ref_zero (d := d) h)
    have HR5 := hid (fun h e s hp' => ref_len (ref_head (d := d) hp h e (s := s) hp'))
    clear hp HS hc
    generalize d.drop 7 = t at *
    go_enter Tryz.func22, Tryz.ntmps22
    by_cases h1 : t.length ≤ 16
    · have h1' : ((t.length : Nat) : Int) ≤ 16 := by omega
      have HR := hid (HR1.out h1)
      go_wp2_with (go_at_call 35; refine HC.out.mono ?_; rintro e w1 ⟨⟨a1, rfl, hs1⟩, rfl⟩)
      go_ret
      exact ⟨by rw [HR.out]; rfl, HF.out⟩
    have h1' : ¬ ((t.length : Nat) : Int) ≤ 16 := by omega
    have h1'' : (16 : Int) < ((t.length : Nat) : Int) := by omega
    go_wp2_with (go_at_call 35; refine HC.out.mono ?_; rintro e w1 ⟨⟨a1, rfl, hs1⟩, rfl⟩; obtain ⟨bb, bo, rfl, c16⟩ := hs1.at 16 (by omega); refine Hid.out ?_)
    refine hid ?_
    clear HC HP hcv HR1
    generalize w.alloc (.cells #[.int .u8 47, .int .u8 115, .int .u8 116, .int .u8 111, .int .u8 114, .int .u8 101, .int .u8 47] 5 (7, 8)) = W1 at *
    have h16 : 16 < t.length := by omega
    have HR2' := hid (HR2.out h16)
    have HR3' := hid (HR3.out h16)
    have HR5' := hid (HR5.out h16)
    clear HR2 HR3 HR5
    generalize t[16] = c at *
    by_cases h45 : c = 45
    · have h45' : (((c.toNat : Int)) != 45) = false := by rw [h45]; rfl
      have hcv2 := conv_bytes (hs1.take' 16) (cap - 7)
      have el : (t.take 16).length = 16 := by rw [List.length_take]; omega
      rw [el] at hcv2
      have hcap : (16 : Int) ≤ ((cap - 7 : Nat) : Int) := by omega
      have hcap' : 16 ≤ cap - 7 := by omega
      have HPa := hid (parse_any W1 (t.take 16))
      have HSr := hid (src_from hs1 hc2 17)
      have el2 : (t.drop 17).length = t.length - 17 := by rw [List.length_drop]
      cases hpr : parsed (t.take 16) with
      | none =>
        have HR := hid (HR3'.out hpr)
        rw [hpr] at HPa
        unfold tup at HPa
        clear HR2' HR3' HR5' HR4 HSr hs1
        go_wp2_with (go_at_call 36; refine HPa.out.mono ?_; rintro e w2 ⟨rfl, rfl⟩)
        go_ret
        exact ⟨by rw [HR.out]; rfl, HF.out⟩
      | some s =>
        have HR := hid (HR5'.out h45 s hpr)
        rw [hpr] at HPa
        unfold tup at HPa
        have HRun := hid (fun (A : Option Addr) (hA : Src W1 A (t.drop 17)) => run_any W1 A (t.drop 17) (cap - 7 - 17) hA)
        rw [el2] at HRun
        clear HR2' HR3' HR5' hs1
        have HR19 : Hid (min 19 ((t.drop 17).takeWhile mayB).length ≤ 19) := Nat.min_le_left _ _
        generalize min 19 ((t.drop 17).takeWhile mayB).length = r at *
        have hr19 : r ≤ 19 := HR19.out
        by_cases hr : r = 0
        · have HRz := hid (HR4.out hr)
          have hr' : ((r : Int) == 0) = true := by rw [hr]; rfl
          go_wp2_with (first | (go_at_call 36; refine HPa.out.mono ?_; rintro e w2 ⟨rfl, rfl⟩) | (go_at_call 37; refine (HRun.out _ HSr.out).mono ?_; rintro e w3 ⟨rfl, rfl⟩))
          all_goals
            go_ret
            exact ⟨by rw [HRz.out]; rfl, HF.out⟩
        · have HRn := hid (HR.out hr)
          have hr' : ((r : Int) == 0) = false := by simpa using hr
          go_wp2_with (first | (go_at_call 36; refine HPa.out.mono ?_; rintro e w2 ⟨rfl, rfl⟩) | (go_at_call 37; refine (HRun.out _ HSr.out).mono ?_; rintro e w3 ⟨rfl, rfl⟩))
          all_goals
            go_ret
            refine ⟨?_, HF.out⟩
            rw [HRn.out, Int.natCast_add]
            rfl
    · have h45' : (((c.toNat : Int)) != 45) = true := by
        rw [bne_iff_ne]; intro hc; exact h45 (UInt8.toNat_inj.1 (by have : (45 : UInt8).toNat = 45 := rfl; omega))
      have HR := hid (HR2'.out h45)
      clear HR2' HR3' HR5' HR4 hs1
      go_wp2
      go_ret
      exact ⟨by rw [HR.out]; rfl, HF.out⟩

end Go.Proofs.YtipppagkajcheaaGreatDoor.Tr
