/- The contract of LexStrings. -/
import Derived.Test.YtngalmkdlbpdoaaGreatDoorNms
import Derived.Test.YtngalmkdlbpdoaaGreatDoorEsc
import Derived.Test.YtngalmkdlbpdoaaGreatDoorFau
namespace Go.Proofs.YtngalmkdlbpdoaaGreatDoor.Tr
open Go.RowKit

theorem mayS_iff (c : UInt8) : mayS c = true ↔ c.toNat = 9 ∨ c.toNat = 10 ∨ (32 ≤ c.toNat ∧ c.toNat ≠ 127) := by
  unfold mayS
  have h127 : (c != 127) = true ↔ c.toNat ≠ 127 := by
    rw [bne_iff_ne]; exact ⟨fun h e => h (UInt8.toNat_inj.1 e), fun h e => h (by rw [e]; rfl)⟩
  simp only [Bool.or_eq_true, Bool.and_eq_true, u8n, decide_eq_true_eq, h127]
  simp
  omega

set_option maxRecDepth 100000 in
set_option maxHeartbeats 8000000 in
theorem lexStrings_any {w : World} (hT : Tabs w) (hH : Hnl w) (s : List UInt8) (hs : s.length ≤ 1048576) : Calls Tryz.prog 6 #[.string ⟨s.toArray⟩] w fun e w' => e = .returned (.bool true) ∧ Fr (fun _ => False) w w' := by
  have HS := hid (shown_any hT (Env.refl w))
  have HH := hid hH
  clear hT hH
  go_enter Tryz.func6, Tryz.ntmps6
  go_wp2_with fail
  refine HS.out.mono ?_
  rintro e w1 ⟨rfl, f1⟩
  have HB1 := hid (own_new1 w1 34 f1.size)
  have HF1 := hid (f1.alloc (.cells #[.int .u8 34] 5))
  clear f1 HS
  go_wp2_with fail
  go_loopw [2, 4, 5, 6] (fun _ ov iv _ wr => ∃ k : Nat, k ≤ s.length ∧ iv = .int .i64 (k : Int) ∧ (s.take k).all mayS = true ∧ wr.ownsRow w.heap.size 5 1 ov (34 :: encF 0 (s.take k)).length (bs (34 :: encF 0 (s.take k))) ∧ Fr (fun _ => False) w wr) (fun _ _ iv _ _ => s.length - (intOf iv).toNat)
  case atStart => exact ⟨0, Nat.zero_le _, rfl, by simp, HB1.out, HF1.out⟩
  case round =>
    obtain ⟨k, hk, rfl, hall, hOw, hF⟩ := hrel
    clear HB1 HF1
    obtain ⟨va, vc, rfl⟩ := own_len hOw
    have HOw := hid hOw
    have HF := hid hF
    have HAll := hid hall
    have hol : (encF 0 (s.take k)).length ≤ 2 * k := by have := encF_len (s.take k) 0; rw [List.length_take] at this; omega
    have hlo : (34 :: encF 0 (s.take k)).length = (encF 0 (s.take k)).length + 1 := rfl
    rw [hlo] at HOw
    rw [hlo]
    clear hOw hF hall hlo
    have hk0 : (0 : Int) ≤ (k : Int) := Int.natCast_nonneg _
    by_cases h1 : k < s.length
    · have h1' : (k : Int) < (s.length : Int) := by omega
      have HSt := hid (str_at s k h1)
      have HTk := hid (encF_take s k h1)
      have HAp := hid (fun (h : mayS s[k] = true) => (show (s.take (k + 1)).all mayS = true by rw [all_take_succ mayS s k h1, HAll.out, h]; rfl))
      have HI := hid (mayS_iff s[k])
      have HFin : Hid (∀ (o9 : List UInt8) (v9 : Value) (w9 : World), encF 0 (s.take (k + 1)) = o9 → mayS s[k] = true → w9.ownsRow w.heap.size 5 1 v9 (34 :: o9).length (bs (34 :: o9)) → Fr (fun _ => False) w w9 → ∃ k' : Nat, k' ≤ s.length ∧ (Value.int .i64 ((k : Int) + 1)) = .int .i64 (k' : Int) ∧ (s.take k').all mayS = true ∧ w9.ownsRow w.heap.size 5 1 v9 (34 :: encF 0 (s.take k')).length (bs (34 :: encF 0 (s.take k'))) ∧ Fr (fun _ => False) w w9) := by
        intro o9 v9 w9 e hm ho hf
        exact ⟨k + 1, h1, rfl, HAp.out hm, by rw [e]; exact ho, hf⟩
      generalize encF 0 (s.take k) = o at *
      generalize hcc : s[k] = c at *
      have hc8 := UInt8.toNat_lt c
      rw [← HSt.out] at hc8
      have HXc : Hid ((((ByteArray.mk s.toArray)[k]'(by simpa [ByteArray.size] using h1)).toNat : Int) = (c.toNat : Int)) := by unfold Hid; rw [HSt.out]
      clear hcc HAp
      have cls : (0 ≤ ((ByteArray.mk s.toArray)[k]'(by simpa [ByteArray.size] using h1)).toNat ∧ ((ByteArray.mk s.toArray)[k]'(by simpa [ByteArray.size] using h1)).toNat ≤ 8) ∨ (9 ≤ ((ByteArray.mk s.toArray)[k]'(by simpa [ByteArray.size] using h1)).toNat ∧ ((ByteArray.mk s.toArray)[k]'(by simpa [ByteArray.size] using h1)).toNat ≤ 9) ∨ (10 ≤ ((ByteArray.mk s.toArray)[k]'(by simpa [ByteArray.size] using h1)).toNat ∧ ((ByteArray.mk s.toArray)[k]'(by simpa [ByteArray.size] using h1)).toNat ≤ 10) ∨ (11 ≤ ((ByteArray.mk s.toArray)[k]'(by simpa [ByteArray.size] using h1)).toNat ∧ ((ByteArray.mk s.toArray)[k]'(by simpa [ByteArray.size] using h1)).toNat ≤ 31) ∨ (32 ≤ ((ByteArray.mk s.toArray)[k]'(by simpa [ByteArray.size] using h1)).toNat ∧ ((ByteArray.mk s.toArray)[k]'(by simpa [ByteArray.size] using h1)).toNat ≤ 33) ∨ (34 ≤ ((ByteArray.mk s.toArray)[k]'(by simpa [ByteArray.size] using h1)).toNat ∧ ((ByteArray.mk s.toArray)[k]'(by simpa [ByteArray.size] using h1)).toNat ≤ 34) ∨ (35 ≤ ((ByteArray.mk s.toArray)[k]'(by simpa [ByteArray.size] using h1)).toNat ∧ ((ByteArray.mk s.toArray)[k]'(by simpa [ByteArray.size] using h1)).toNat ≤ 91) ∨ (92 ≤ ((ByteArray.mk s.toArray)[k]'(by simpa [ByteArray.size] using h1)).toNat ∧ ((ByteArray.mk s.toArray)[k]'(by simpa [ByteArray.size] using h1)).toNat ≤ 92) ∨ (93 ≤ ((ByteArray.mk s.toArray)[k]'(by simpa [ByteArray.size] using h1)).toNat ∧ ((ByteArray.mk s.toArray)[k]'(by simpa [ByteArray.size] using h1)).toNat ≤ 126) ∨ (127 ≤ ((ByteArray.mk s.toArray)[k]'(by simpa [ByteArray.size] using h1)).toNat ∧ ((ByteArray.mk s.toArray)[k]'(by simpa [ByteArray.size] using h1)).toNat ≤ 127) ∨ (128 ≤ ((ByteArray.mk s.toArray)[k]'(by simpa [ByteArray.size] using h1)).toNat ∧ ((ByteArray.mk s.toArray)[k]'(by simpa [ByteArray.size] using h1)).toNat ≤ 255) := by omega
      rcases cls with ⟨x1, x2⟩ | ⟨x1, x2⟩ | ⟨x1, x2⟩ | ⟨x1, x2⟩ | ⟨x1, x2⟩ | ⟨x1, x2⟩ | ⟨x1, x2⟩ | ⟨x1, x2⟩ | ⟨x1, x2⟩ | ⟨x1, x2⟩ | ⟨x1, x2⟩
      · have l32 : decide ((((ByteArray.mk s.toArray)[k]'(by simpa [ByteArray.size] using h1)).toNat : Int) < 32) = true := decide_eq_true (by omega)
        have n9 : ((((ByteArray.mk s.toArray)[k]'(by simpa [ByteArray.size] using h1)).toNat : Int) != 9) = true := by simp; omega
        have n10 : ((((ByteArray.mk s.toArray)[k]'(by simpa [ByteArray.size] using h1)).toNat : Int) != 10) = true := by simp; omega
        have e127 : ((((ByteArray.mk s.toArray)[k]'(by simpa [ByteArray.size] using h1)).toNat : Int) == 127) = false := by simp; omega
        have e34 : ((((ByteArray.mk s.toArray)[k]'(by simpa [ByteArray.size] using h1)).toNat : Int) == 34) = false := by simp; omega
        have e92 : ((((ByteArray.mk s.toArray)[k]'(by simpa [ByteArray.size] using h1)).toNat : Int) == 92) = false := by simp; omega
        have e10 : ((((ByteArray.mk s.toArray)[k]'(by simpa [ByteArray.size] using h1)).toNat : Int) == 10) = false := by simp; omega
        have e9 : ((((ByteArray.mk s.toArray)[k]'(by simpa [ByteArray.size] using h1)).toNat : Int) == 9) = false := by simp; omega
        clear HI HFin x1 x2 hc8
        go_wp2_with fail
        go_ret
        exact ⟨rfl, HF.out⟩
      · have l32 : decide ((((ByteArray.mk s.toArray)[k]'(by simpa [ByteArray.size] using h1)).toNat : Int) < 32) = true := decide_eq_true (by omega)
        have n9 : ((((ByteArray.mk s.toArray)[k]'(by simpa [ByteArray.size] using h1)).toNat : Int) != 9) = false := by simp; omega
        have n10 : ((((ByteArray.mk s.toArray)[k]'(by simpa [ByteArray.size] using h1)).toNat : Int) != 10) = true := by simp; omega
        have e127 : ((((ByteArray.mk s.toArray)[k]'(by simpa [ByteArray.size] using h1)).toNat : Int) == 127) = false := by simp; omega
        have e34 : ((((ByteArray.mk s.toArray)[k]'(by simpa [ByteArray.size] using h1)).toNat : Int) == 34) = false := by simp; omega
        have e92 : ((((ByteArray.mk s.toArray)[k]'(by simpa [ByteArray.size] using h1)).toNat : Int) == 92) = false := by simp; omega
        have e10 : ((((ByteArray.mk s.toArray)[k]'(by simpa [ByteArray.size] using h1)).toNat : Int) == 10) = false := by simp; omega
        have e9 : ((((ByteArray.mk s.toArray)[k]'(by simpa [ByteArray.size] using h1)).toNat : Int) == 9) = true := by simp; omega
        have hct : c.toNat = ((ByteArray.mk s.toArray)[k]'(by simpa [ByteArray.size] using h1)).toNat := by have := HXc.out; omega
        have hmay : mayS c = true := HI.out.2 (by omega)
        by_cases hpar : k % 2 = 0
        · have hpr : ((k : Int).tmod 2 == 0) = true := by rw [Int.tmod_eq_emod_of_nonneg hk0]; simp; omega
          have HEn : Hid (encP k c = [92, 116]) := by
            unfold Hid encP
            rw [if_neg (by omega), if_neg (by omega), if_pos (by omega), if_pos hpar]
          clear HI x1 x2 hc8 hct
          have HN8 : Hid (Src (wr.alloc (.cells #[.int .u8 92, .int .u8 116] 5)) (some ⟨wr.heap.size, 0, none⟩) [92, 116]) := by
            try rw [HXc.out]
            exact fun _ => ⟨_, _, rfl, (Blk.new wr 5 (bs [92, 116])).range 0 _ rfl⟩
          have HO8 : Hid ((wr.alloc (.cells #[.int .u8 92, .int .u8 116] 5)).ownsRow w.heap.size 5 1 (.slice va (o.length + 1) vc) (o.length + 1) (bs (34 :: o))) := owns_of_eq HOw.out (fun k' hk' => Below.heap_alloc wr _ k' (HOw.out.lt k' hk').2)
          have HF8 := hid (HF.out.alloc (.cells #[.int .u8 92, .int .u8 116] 5))
          clear HOw HF
          go_wp2_with (at_builtin; refine Hid.out ?_)
          refine hid ?_
          generalize wr.alloc (.cells #[.int .u8 92, .int .u8 116] 5) = w8 at *
          refine wpList_append_src (by rfl) _ _ 42 (by rfl) w.heap.size (o.length + 1) 2 (.slice va (o.length + 1) vc) (.slice (some ⟨wr.heap.size, 0, none⟩) 2 2) (bs (34 :: o)) (bs [92, 116]) (by rfl) (by rfl) HO8.out (srcBytes HN8.out 2) (by omega) HF8.out.size ?_
          intro v9 w9 h9
          have HF9 : Hid (Fr (fun _ => False) w w9) := HF8.out.grown h9.grown (fun k' hk' => .inr (HO8.out.lt k' hk').1)
          have HO9 : Hid (w9.ownsRow w.heap.size 5 1 v9 (34 :: (o ++ [92, 116])).length (bs (34 :: (o ++ [92, 116])))) := by
            have := h9.own
            simpa [bs, Hid, Nat.add_assoc] using this
          clear h9 HF8 HO8 HN8
          go_wp2_with fail
          exact ⟨HFin.out _ _ _ (by rw [HTk.out]; exact congrArg _ HEn.out) hmay HO9.out HF9.out, by simp [intOf]; omega⟩
        · have hpr : ((k : Int).tmod 2 == 0) = false := by rw [Int.tmod_eq_emod_of_nonneg hk0]; simp; omega
          have HEn : Hid (encP k c = [c]) := by
            unfold Hid encP
            rw [if_neg (by omega), if_neg (by omega), if_pos (by omega), if_neg hpar]
          clear HI x1 x2 hc8 hct
          have HN8 : Hid (Src (wr.alloc (.cells #[.int .u8 (((ByteArray.mk s.toArray)[k]'(by simpa [ByteArray.size] using h1)).toNat : Int)] 5)) (some ⟨wr.heap.size, 0, none⟩) [c]) := by
            try rw [HXc.out]
            exact fun _ => ⟨_, _, rfl, (Blk.new wr 5 (bs [c])).range 0 _ rfl⟩
          have HO8 : Hid ((wr.alloc (.cells #[.int .u8 (((ByteArray.mk s.toArray)[k]'(by simpa [ByteArray.size] using h1)).toNat : Int)] 5)).ownsRow w.heap.size 5 1 (.slice va (o.length + 1) vc) (o.length + 1) (bs (34 :: o))) := owns_of_eq HOw.out (fun k' hk' => Below.heap_alloc wr _ k' (HOw.out.lt k' hk').2)
          have HF8 := hid (HF.out.alloc (.cells #[.int .u8 (((ByteArray.mk s.toArray)[k]'(by simpa [ByteArray.size] using h1)).toNat : Int)] 5))
          clear HOw HF
          go_wp2_with (at_builtin; refine Hid.out ?_)
          refine hid ?_
          generalize wr.alloc (.cells #[.int .u8 (((ByteArray.mk s.toArray)[k]'(by simpa [ByteArray.size] using h1)).toNat : Int)] 5) = w8 at *
          refine wpList_append_src (by rfl) _ _ 42 (by rfl) w.heap.size (o.length + 1) 1 (.slice va (o.length + 1) vc) (.slice (some ⟨wr.heap.size, 0, none⟩) 1 1) (bs (34 :: o)) (bs [c]) (by rfl) (by rfl) HO8.out (srcBytes HN8.out 1) (by omega) HF8.out.size ?_
          intro v9 w9 h9
          have HF9 : Hid (Fr (fun _ => False) w w9) := HF8.out.grown h9.grown (fun k' hk' => .inr (HO8.out.lt k' hk').1)
          have HO9 : Hid (w9.ownsRow w.heap.size 5 1 v9 (34 :: (o ++ [c])).length (bs (34 :: (o ++ [c])))) := by
            have := h9.own
            simpa [bs, Hid, Nat.add_assoc] using this
          clear h9 HF8 HO8 HN8
          go_wp2_with fail
          exact ⟨HFin.out _ _ _ (by rw [HTk.out]; exact congrArg _ HEn.out) hmay HO9.out HF9.out, by simp [intOf]; omega⟩
      · have l32 : decide ((((ByteArray.mk s.toArray)[k]'(by simpa [ByteArray.size] using h1)).toNat : Int) < 32) = true := decide_eq_true (by omega)
        have n9 : ((((ByteArray.mk s.toArray)[k]'(by simpa [ByteArray.size] using h1)).toNat : Int) != 9) = true := by simp; omega
        have n10 : ((((ByteArray.mk s.toArray)[k]'(by simpa [ByteArray.size] using h1)).toNat : Int) != 10) = false := by simp; omega
        have e127 : ((((ByteArray.mk s.toArray)[k]'(by simpa [ByteArray.size] using h1)).toNat : Int) == 127) = false := by simp; omega
        have e34 : ((((ByteArray.mk s.toArray)[k]'(by simpa [ByteArray.size] using h1)).toNat : Int) == 34) = false := by simp; omega
        have e92 : ((((ByteArray.mk s.toArray)[k]'(by simpa [ByteArray.size] using h1)).toNat : Int) == 92) = false := by simp; omega
        have e10 : ((((ByteArray.mk s.toArray)[k]'(by simpa [ByteArray.size] using h1)).toNat : Int) == 10) = true := by simp; omega
        have e9 : ((((ByteArray.mk s.toArray)[k]'(by simpa [ByteArray.size] using h1)).toNat : Int) == 9) = false := by simp; omega
        have hct : c.toNat = ((ByteArray.mk s.toArray)[k]'(by simpa [ByteArray.size] using h1)).toNat := by have := HXc.out; omega
        have hmay : mayS c = true := HI.out.2 (by omega)
        by_cases hpar : k % 2 = 0
        · have hpr : ((k : Int).tmod 2 == 0) = true := by rw [Int.tmod_eq_emod_of_nonneg hk0]; simp; omega
          have HEn : Hid (encP k c = [92, 110]) := by
            unfold Hid encP
            rw [if_neg (by omega), if_pos (by omega), if_pos hpar]
          clear HI x1 x2 hc8 hct
          have HN8 : Hid (Src (wr.alloc (.cells #[.int .u8 92, .int .u8 110] 5)) (some ⟨wr.heap.size, 0, none⟩) [92, 110]) := by
            try rw [HXc.out]
            exact fun _ => ⟨_, _, rfl, (Blk.new wr 5 (bs [92, 110])).range 0 _ rfl⟩
          have HO8 : Hid ((wr.alloc (.cells #[.int .u8 92, .int .u8 110] 5)).ownsRow w.heap.size 5 1 (.slice va (o.length + 1) vc) (o.length + 1) (bs (34 :: o))) := owns_of_eq HOw.out (fun k' hk' => Below.heap_alloc wr _ k' (HOw.out.lt k' hk').2)
          have HF8 := hid (HF.out.alloc (.cells #[.int .u8 92, .int .u8 110] 5))
          clear HOw HF
          go_wp2_with (at_builtin; refine Hid.out ?_)
          refine hid ?_
          generalize wr.alloc (.cells #[.int .u8 92, .int .u8 110] 5) = w8 at *
          refine wpList_append_src (by rfl) _ _ 42 (by rfl) w.heap.size (o.length + 1) 2 (.slice va (o.length + 1) vc) (.slice (some ⟨wr.heap.size, 0, none⟩) 2 2) (bs (34 :: o)) (bs [92, 110]) (by rfl) (by rfl) HO8.out (srcBytes HN8.out 2) (by omega) HF8.out.size ?_
          intro v9 w9 h9
          have HF9 : Hid (Fr (fun _ => False) w w9) := HF8.out.grown h9.grown (fun k' hk' => .inr (HO8.out.lt k' hk').1)
          have HO9 : Hid (w9.ownsRow w.heap.size 5 1 v9 (34 :: (o ++ [92, 110])).length (bs (34 :: (o ++ [92, 110])))) := by
            have := h9.own
            simpa [bs, Hid, Nat.add_assoc] using this
          clear h9 HF8 HO8 HN8
          go_wp2_with fail
          exact ⟨HFin.out _ _ _ (by rw [HTk.out]; exact congrArg _ HEn.out) hmay HO9.out HF9.out, by simp [intOf]; omega⟩
        · have hpr : ((k : Int).tmod 2 == 0) = false := by rw [Int.tmod_eq_emod_of_nonneg hk0]; simp; omega
          have HEn : Hid (encP k c = [c]) := by
            unfold Hid encP
            rw [if_neg (by omega), if_pos (by omega), if_neg hpar]
          clear HI x1 x2 hc8 hct
          have HN8 : Hid (Src (wr.alloc (.cells #[.int .u8 (((ByteArray.mk s.toArray)[k]'(by simpa [ByteArray.size] using h1)).toNat : Int)] 5)) (some ⟨wr.heap.size, 0, none⟩) [c]) := by
            try rw [HXc.out]
            exact fun _ => ⟨_, _, rfl, (Blk.new wr 5 (bs [c])).range 0 _ rfl⟩
          have HO8 : Hid ((wr.alloc (.cells #[.int .u8 (((ByteArray.mk s.toArray)[k]'(by simpa [ByteArray.size] using h1)).toNat : Int)] 5)).ownsRow w.heap.size 5 1 (.slice va (o.length + 1) vc) (o.length + 1) (bs (34 :: o))) := owns_of_eq HOw.out (fun k' hk' => Below.heap_alloc wr _ k' (HOw.out.lt k' hk').2)
          have HF8 := hid (HF.out.alloc (.cells #[.int .u8 (((ByteArray.mk s.toArray)[k]'(by simpa [ByteArray.size] using h1)).toNat : Int)] 5))
          clear HOw HF
          go_wp2_with (at_builtin; refine Hid.out ?_)
          refine hid ?_
          generalize wr.alloc (.cells #[.int .u8 (((ByteArray.mk s.toArray)[k]'(by simpa [ByteArray.size] using h1)).toNat : Int)] 5) = w8 at *
          refine wpList_append_src (by rfl) _ _ 42 (by rfl) w.heap.size (o.length + 1) 1 (.slice va (o.length + 1) vc) (.slice (some ⟨wr.heap.size, 0, none⟩) 1 1) (bs (34 :: o)) (bs [c]) (by rfl) (by rfl) HO8.out (srcBytes HN8.out 1) (by omega) HF8.out.size ?_
          intro v9 w9 h9
          have HF9 : Hid (Fr (fun _ => False) w w9) := HF8.out.grown h9.grown (fun k' hk' => .inr (HO8.out.lt k' hk').1)
          have HO9 : Hid (w9.ownsRow w.heap.size 5 1 v9 (34 :: (o ++ [c])).length (bs (34 :: (o ++ [c])))) := by
            have := h9.own
            simpa [bs, Hid, Nat.add_assoc] using this
          clear h9 HF8 HO8 HN8
          go_wp2_with fail
          exact ⟨HFin.out _ _ _ (by rw [HTk.out]; exact congrArg _ HEn.out) hmay HO9.out HF9.out, by simp [intOf]; omega⟩
      · have l32 : decide ((((ByteArray.mk s.toArray)[k]'(by simpa [ByteArray.size] using h1)).toNat : Int) < 32) = true := decide_eq_true (by omega)
        have n9 : ((((ByteArray.mk s.toArray)[k]'(by simpa [ByteArray.size] using h1)).toNat : Int) != 9) = true := by simp; omega
        have n10 : ((((ByteArray.mk s.toArray)[k]'(by simpa [ByteArray.size] using h1)).toNat : Int) != 10) = true := by simp; omega
        have e127 : ((((ByteArray.mk s.toArray)[k]'(by simpa [ByteArray.size] using h1)).toNat : Int) == 127) = false := by simp; omega
        have e34 : ((((ByteArray.mk s.toArray)[k]'(by simpa [ByteArray.size] using h1)).toNat : Int) == 34) = false := by simp; omega
        have e92 : ((((ByteArray.mk s.toArray)[k]'(by simpa [ByteArray.size] using h1)).toNat : Int) == 92) = false := by simp; omega
        have e10 : ((((ByteArray.mk s.toArray)[k]'(by simpa [ByteArray.size] using h1)).toNat : Int) == 10) = false := by simp; omega
        have e9 : ((((ByteArray.mk s.toArray)[k]'(by simpa [ByteArray.size] using h1)).toNat : Int) == 9) = false := by simp; omega
        clear HI HFin x1 x2 hc8
        go_wp2_with fail
        go_ret
        exact ⟨rfl, HF.out⟩
      · have l32 : decide ((((ByteArray.mk s.toArray)[k]'(by simpa [ByteArray.size] using h1)).toNat : Int) < 32) = false := decide_eq_false (by omega)
        have n9 : ((((ByteArray.mk s.toArray)[k]'(by simpa [ByteArray.size] using h1)).toNat : Int) != 9) = true := by simp; omega
        have n10 : ((((ByteArray.mk s.toArray)[k]'(by simpa [ByteArray.size] using h1)).toNat : Int) != 10) = true := by simp; omega
        have e127 : ((((ByteArray.mk s.toArray)[k]'(by simpa [ByteArray.size] using h1)).toNat : Int) == 127) = false := by simp; omega
        have e34 : ((((ByteArray.mk s.toArray)[k]'(by simpa [ByteArray.size] using h1)).toNat : Int) == 34) = false := by simp; omega
        have e92 : ((((ByteArray.mk s.toArray)[k]'(by simpa [ByteArray.size] using h1)).toNat : Int) == 92) = false := by simp; omega
        have e10 : ((((ByteArray.mk s.toArray)[k]'(by simpa [ByteArray.size] using h1)).toNat : Int) == 10) = false := by simp; omega
        have e9 : ((((ByteArray.mk s.toArray)[k]'(by simpa [ByteArray.size] using h1)).toNat : Int) == 9) = false := by simp; omega
        have hct : c.toNat = ((ByteArray.mk s.toArray)[k]'(by simpa [ByteArray.size] using h1)).toNat := by have := HXc.out; omega
        have hmay : mayS c = true := HI.out.2 (by omega)
        have HEn : Hid (encP k c = [c]) := by
          unfold Hid encP
          rw [if_neg (by omega), if_neg (by omega), if_neg (by omega)]
        clear HI x1 x2 hc8 hct
        have HN8 : Hid (Src (wr.alloc (.cells #[.int .u8 (((ByteArray.mk s.toArray)[k]'(by simpa [ByteArray.size] using h1)).toNat : Int)] 5)) (some ⟨wr.heap.size, 0, none⟩) [c]) := by
          try rw [HXc.out]
          exact fun _ => ⟨_, _, rfl, (Blk.new wr 5 (bs [c])).range 0 _ rfl⟩
        have HO8 : Hid ((wr.alloc (.cells #[.int .u8 (((ByteArray.mk s.toArray)[k]'(by simpa [ByteArray.size] using h1)).toNat : Int)] 5)).ownsRow w.heap.size 5 1 (.slice va (o.length + 1) vc) (o.length + 1) (bs (34 :: o))) := owns_of_eq HOw.out (fun k' hk' => Below.heap_alloc wr _ k' (HOw.out.lt k' hk').2)
        have HF8 := hid (HF.out.alloc (.cells #[.int .u8 (((ByteArray.mk s.toArray)[k]'(by simpa [ByteArray.size] using h1)).toNat : Int)] 5))
        clear HOw HF
        go_wp2_with (at_builtin; refine Hid.out ?_)
        refine hid ?_
        generalize wr.alloc (.cells #[.int .u8 (((ByteArray.mk s.toArray)[k]'(by simpa [ByteArray.size] using h1)).toNat : Int)] 5) = w8 at *
        refine wpList_append_src (by rfl) _ _ 42 (by rfl) w.heap.size (o.length + 1) 1 (.slice va (o.length + 1) vc) (.slice (some ⟨wr.heap.size, 0, none⟩) 1 1) (bs (34 :: o)) (bs [c]) (by rfl) (by rfl) HO8.out (srcBytes HN8.out 1) (by omega) HF8.out.size ?_
        intro v9 w9 h9
        have HF9 : Hid (Fr (fun _ => False) w w9) := HF8.out.grown h9.grown (fun k' hk' => .inr (HO8.out.lt k' hk').1)
        have HO9 : Hid (w9.ownsRow w.heap.size 5 1 v9 (34 :: (o ++ [c])).length (bs (34 :: (o ++ [c])))) := by
          have := h9.own
          simpa [bs, Hid, Nat.add_assoc] using this
        clear h9 HF8 HO8 HN8
        go_wp2_with fail
        exact ⟨HFin.out _ _ _ (by rw [HTk.out]; exact congrArg _ HEn.out) hmay HO9.out HF9.out, by simp [intOf]; omega⟩
      · have l32 : decide ((((ByteArray.mk s.toArray)[k]'(by simpa [ByteArray.size] using h1)).toNat : Int) < 32) = false := decide_eq_false (by omega)
        have n9 : ((((ByteArray.mk s.toArray)[k]'(by simpa [ByteArray.size] using h1)).toNat : Int) != 9) = true := by simp; omega
        have n10 : ((((ByteArray.mk s.toArray)[k]'(by simpa [ByteArray.size] using h1)).toNat : Int) != 10) = true := by simp; omega
        have e127 : ((((ByteArray.mk s.toArray)[k]'(by simpa [ByteArray.size] using h1)).toNat : Int) == 127) = false := by simp; omega
        have e34 : ((((ByteArray.mk s.toArray)[k]'(by simpa [ByteArray.size] using h1)).toNat : Int) == 34) = true := by simp; omega
        have e92 : ((((ByteArray.mk s.toArray)[k]'(by simpa [ByteArray.size] using h1)).toNat : Int) == 92) = false := by simp; omega
        have e10 : ((((ByteArray.mk s.toArray)[k]'(by simpa [ByteArray.size] using h1)).toNat : Int) == 10) = false := by simp; omega
        have e9 : ((((ByteArray.mk s.toArray)[k]'(by simpa [ByteArray.size] using h1)).toNat : Int) == 9) = false := by simp; omega
        have hct : c.toNat = ((ByteArray.mk s.toArray)[k]'(by simpa [ByteArray.size] using h1)).toNat := by have := HXc.out; omega
        have hmay : mayS c = true := HI.out.2 (by omega)
        have HEn : Hid (encP k c = [92, c]) := by
          unfold Hid encP
          rw [if_pos (by omega)]
        clear HI x1 x2 hc8 hct
        have HN8 : Hid (Src (wr.alloc (.cells #[.int .u8 92, .int .u8 (((ByteArray.mk s.toArray)[k]'(by simpa [ByteArray.size] using h1)).toNat : Int)] 5)) (some ⟨wr.heap.size, 0, none⟩) [92, c]) := by
          try rw [HXc.out]
          exact fun _ => ⟨_, _, rfl, (Blk.new wr 5 (bs [92, c])).range 0 _ rfl⟩
        have HO8 : Hid ((wr.alloc (.cells #[.int .u8 92, .int .u8 (((ByteArray.mk s.toArray)[k]'(by simpa [ByteArray.size] using h1)).toNat : Int)] 5)).ownsRow w.heap.size 5 1 (.slice va (o.length + 1) vc) (o.length + 1) (bs (34 :: o))) := owns_of_eq HOw.out (fun k' hk' => Below.heap_alloc wr _ k' (HOw.out.lt k' hk').2)
        have HF8 := hid (HF.out.alloc (.cells #[.int .u8 92, .int .u8 (((ByteArray.mk s.toArray)[k]'(by simpa [ByteArray.size] using h1)).toNat : Int)] 5))
        clear HOw HF
        go_wp2_with (at_builtin; refine Hid.out ?_)
        refine hid ?_
        generalize wr.alloc (.cells #[.int .u8 92, .int .u8 (((ByteArray.mk s.toArray)[k]'(by simpa [ByteArray.size] using h1)).toNat : Int)] 5) = w8 at *
        refine wpList_append_src (by rfl) _ _ 42 (by rfl) w.heap.size (o.length + 1) 2 (.slice va (o.length + 1) vc) (.slice (some ⟨wr.heap.size, 0, none⟩) 2 2) (bs (34 :: o)) (bs [92, c]) (by rfl) (by rfl) HO8.out (srcBytes HN8.out 2) (by omega) HF8.out.size ?_
        intro v9 w9 h9
        have HF9 : Hid (Fr (fun _ => False) w w9) := HF8.out.grown h9.grown (fun k' hk' => .inr (HO8.out.lt k' hk').1)
        have HO9 : Hid (w9.ownsRow w.heap.size 5 1 v9 (34 :: (o ++ [92, c])).length (bs (34 :: (o ++ [92, c])))) := by
          have := h9.own
          simpa [bs, Hid, Nat.add_assoc] using this
        clear h9 HF8 HO8 HN8
        go_wp2_with fail
        exact ⟨HFin.out _ _ _ (by rw [HTk.out]; exact congrArg _ HEn.out) hmay HO9.out HF9.out, by simp [intOf]; omega⟩
      · have l32 : decide ((((ByteArray.mk s.toArray)[k]'(by simpa [ByteArray.size] using h1)).toNat : Int) < 32) = false := decide_eq_false (by omega)
        have n9 : ((((ByteArray.mk s.toArray)[k]'(by simpa [ByteArray.size] using h1)).toNat : Int) != 9) = true := by simp; omega
        have n10 : ((((ByteArray.mk s.toArray)[k]'(by simpa [ByteArray.size] using h1)).toNat : Int) != 10) = true := by simp; omega
        have e127 : ((((ByteArray.mk s.toArray)[k]'(by simpa [ByteArray.size] using h1)).toNat : Int) == 127) = false := by simp; omega
        have e34 : ((((ByteArray.mk s.toArray)[k]'(by simpa [ByteArray.size] using h1)).toNat : Int) == 34) = false := by simp; omega
        have e92 : ((((ByteArray.mk s.toArray)[k]'(by simpa [ByteArray.size] using h1)).toNat : Int) == 92) = false := by simp; omega
        have e10 : ((((ByteArray.mk s.toArray)[k]'(by simpa [ByteArray.size] using h1)).toNat : Int) == 10) = false := by simp; omega
        have e9 : ((((ByteArray.mk s.toArray)[k]'(by simpa [ByteArray.size] using h1)).toNat : Int) == 9) = false := by simp; omega
        have hct : c.toNat = ((ByteArray.mk s.toArray)[k]'(by simpa [ByteArray.size] using h1)).toNat := by have := HXc.out; omega
        have hmay : mayS c = true := HI.out.2 (by omega)
        have HEn : Hid (encP k c = [c]) := by
          unfold Hid encP
          rw [if_neg (by omega), if_neg (by omega), if_neg (by omega)]
        clear HI x1 x2 hc8 hct
        have HN8 : Hid (Src (wr.alloc (.cells #[.int .u8 (((ByteArray.mk s.toArray)[k]'(by simpa [ByteArray.size] using h1)).toNat : Int)] 5)) (some ⟨wr.heap.size, 0, none⟩) [c]) := by
          try rw [HXc.out]
          exact fun _ => ⟨_, _, rfl, (Blk.new wr 5 (bs [c])).range 0 _ rfl⟩
        have HO8 : Hid ((wr.alloc (.cells #[.int .u8 (((ByteArray.mk s.toArray)[k]'(by simpa [ByteArray.size] using h1)).toNat : Int)] 5)).ownsRow w.heap.size 5 1 (.slice va (o.length + 1) vc) (o.length + 1) (bs (34 :: o))) := owns_of_eq HOw.out (fun k' hk' => Below.heap_alloc wr _ k' (HOw.out.lt k' hk').2)
        have HF8 := hid (HF.out.alloc (.cells #[.int .u8 (((ByteArray.mk s.toArray)[k]'(by simpa [ByteArray.size] using h1)).toNat : Int)] 5))
        clear HOw HF
        go_wp2_with (at_builtin; refine Hid.out ?_)
        refine hid ?_
        generalize wr.alloc (.cells #[.int .u8 (((ByteArray.mk s.toArray)[k]'(by simpa [ByteArray.size] using h1)).toNat : Int)] 5) = w8 at *
        refine wpList_append_src (by rfl) _ _ 42 (by rfl) w.heap.size (o.length + 1) 1 (.slice va (o.length + 1) vc) (.slice (some ⟨wr.heap.size, 0, none⟩) 1 1) (bs (34 :: o)) (bs [c]) (by rfl) (by rfl) HO8.out (srcBytes HN8.out 1) (by omega) HF8.out.size ?_
        intro v9 w9 h9
        have HF9 : Hid (Fr (fun _ => False) w w9) := HF8.out.grown h9.grown (fun k' hk' => .inr (HO8.out.lt k' hk').1)
        have HO9 : Hid (w9.ownsRow w.heap.size 5 1 v9 (34 :: (o ++ [c])).length (bs (34 :: (o ++ [c])))) := by
          have := h9.own
          simpa [bs, Hid, Nat.add_assoc] using this
        clear h9 HF8 HO8 HN8
        go_wp2_with fail
        exact ⟨HFin.out _ _ _ (by rw [HTk.out]; exact congrArg _ HEn.out) hmay HO9.out HF9.out, by simp [intOf]; omega⟩
      · have l32 : decide ((((ByteArray.mk s.toArray)[k]'(by simpa [ByteArray.size] using h1)).toNat : Int) < 32) = false := decide_eq_false (by omega)
        have n9 : ((((ByteArray.mk s.toArray)[k]'(by simpa [ByteArray.size] using h1)).toNat : Int) != 9) = true := by simp; omega
        have n10 : ((((ByteArray.mk s.toArray)[k]'(by simpa [ByteArray.size] using h1)).toNat : Int) != 10) = true := by simp; omega
        have e127 : ((((ByteArray.mk s.toArray)[k]'(by simpa [ByteArray.size] using h1)).toNat : Int) == 127) = false := by simp; omega
        have e34 : ((((ByteArray.mk s.toArray)[k]'(by simpa [ByteArray.size] using h1)).toNat : Int) == 34) = false := by simp; omega
        have e92 : ((((ByteArray.mk s.toArray)[k]'(by simpa [ByteArray.size] using h1)).toNat : Int) == 92) = true := by simp; omega
        have e10 : ((((ByteArray.mk s.toArray)[k]'(by simpa [ByteArray.size] using h1)).toNat : Int) == 10) = false := by simp; omega
        have e9 : ((((ByteArray.mk s.toArray)[k]'(by simpa [ByteArray.size] using h1)).toNat : Int) == 9) = false := by simp; omega
        have hct : c.toNat = ((ByteArray.mk s.toArray)[k]'(by simpa [ByteArray.size] using h1)).toNat := by have := HXc.out; omega
        have hmay : mayS c = true := HI.out.2 (by omega)
        have HEn : Hid (encP k c = [92, c]) := by
          unfold Hid encP
          rw [if_pos (by omega)]
        clear HI x1 x2 hc8 hct
        have HN8 : Hid (Src (wr.alloc (.cells #[.int .u8 92, .int .u8 (((ByteArray.mk s.toArray)[k]'(by simpa [ByteArray.size] using h1)).toNat : Int)] 5)) (some ⟨wr.heap.size, 0, none⟩) [92, c]) := by
          try rw [HXc.out]
          exact fun _ => ⟨_, _, rfl, (Blk.new wr 5 (bs [92, c])).range 0 _ rfl⟩
        have HO8 : Hid ((wr.alloc (.cells #[.int .u8 92, .int .u8 (((ByteArray.mk s.toArray)[k]'(by simpa [ByteArray.size] using h1)).toNat : Int)] 5)).ownsRow w.heap.size 5 1 (.slice va (o.length + 1) vc) (o.length + 1) (bs (34 :: o))) := owns_of_eq HOw.out (fun k' hk' => Below.heap_alloc wr _ k' (HOw.out.lt k' hk').2)
        have HF8 := hid (HF.out.alloc (.cells #[.int .u8 92, .int .u8 (((ByteArray.mk s.toArray)[k]'(by simpa [ByteArray.size] using h1)).toNat : Int)] 5))
        clear HOw HF
        go_wp2_with (at_builtin; refine Hid.out ?_)
        refine hid ?_
        generalize wr.alloc (.cells #[.int .u8 92, .int .u8 (((ByteArray.mk s.toArray)[k]'(by simpa [ByteArray.size] using h1)).toNat : Int)] 5) = w8 at *
        refine wpList_append_src (by rfl) _ _ 42 (by rfl) w.heap.size (o.length + 1) 2 (.slice va (o.length + 1) vc) (.slice (some ⟨wr.heap.size, 0, none⟩) 2 2) (bs (34 :: o)) (bs [92, c]) (by rfl) (by rfl) HO8.out (srcBytes HN8.out 2) (by omega) HF8.out.size ?_
        intro v9 w9 h9
        have HF9 : Hid (Fr (fun _ => False) w w9) := HF8.out.grown h9.grown (fun k' hk' => .inr (HO8.out.lt k' hk').1)
        have HO9 : Hid (w9.ownsRow w.heap.size 5 1 v9 (34 :: (o ++ [92, c])).length (bs (34 :: (o ++ [92, c])))) := by
          have := h9.own
          simpa [bs, Hid, Nat.add_assoc] using this
        clear h9 HF8 HO8 HN8
        go_wp2_with fail
        exact ⟨HFin.out _ _ _ (by rw [HTk.out]; exact congrArg _ HEn.out) hmay HO9.out HF9.out, by simp [intOf]; omega⟩
      · have l32 : decide ((((ByteArray.mk s.toArray)[k]'(by simpa [ByteArray.size] using h1)).toNat : Int) < 32) = false := decide_eq_false (by omega)
        have n9 : ((((ByteArray.mk s.toArray)[k]'(by simpa [ByteArray.size] using h1)).toNat : Int) != 9) = true := by simp; omega
        have n10 : ((((ByteArray.mk s.toArray)[k]'(by simpa [ByteArray.size] using h1)).toNat : Int) != 10) = true := by simp; omega
        have e127 : ((((ByteArray.mk s.toArray)[k]'(by simpa [ByteArray.size] using h1)).toNat : Int) == 127) = false := by simp; omega
        have e34 : ((((ByteArray.mk s.toArray)[k]'(by simpa [ByteArray.size] using h1)).toNat : Int) == 34) = false := by simp; omega
        have e92 : ((((ByteArray.mk s.toArray)[k]'(by simpa [ByteArray.size] using h1)).toNat : Int) == 92) = false := by simp; omega
        have e10 : ((((ByteArray.mk s.toArray)[k]'(by simpa [ByteArray.size] using h1)).toNat : Int) == 10) = false := by simp; omega
        have e9 : ((((ByteArray.mk s.toArray)[k]'(by simpa [ByteArray.size] using h1)).toNat : Int) == 9) = false := by simp; omega
        have hct : c.toNat = ((ByteArray.mk s.toArray)[k]'(by simpa [ByteArray.size] using h1)).toNat := by have := HXc.out; omega
        have hmay : mayS c = true := HI.out.2 (by omega)
        have HEn : Hid (encP k c = [c]) := by
          unfold Hid encP
          rw [if_neg (by omega), if_neg (by omega), if_neg (by omega)]
        clear HI x1 x2 hc8 hct
        have HN8 : Hid (Src (wr.alloc (.cells #[.int .u8 (((ByteArray.mk s.toArray)[k]'(by simpa [ByteArray.size] using h1)).toNat : Int)] 5)) (some ⟨wr.heap.size, 0, none⟩) [c]) := by
          try rw [HXc.out]
          exact fun _ => ⟨_, _, rfl, (Blk.new wr 5 (bs [c])).range 0 _ rfl⟩
        have HO8 : Hid ((wr.alloc (.cells #[.int .u8 (((ByteArray.mk s.toArray)[k]'(by simpa [ByteArray.size] using h1)).toNat : Int)] 5)).ownsRow w.heap.size 5 1 (.slice va (o.length + 1) vc) (o.length + 1) (bs (34 :: o))) := owns_of_eq HOw.out (fun k' hk' => Below.heap_alloc wr _ k' (HOw.out.lt k' hk').2)
        have HF8 := hid (HF.out.alloc (.cells #[.int .u8 (((ByteArray.mk s.toArray)[k]'(by simpa [ByteArray.size] using h1)).toNat : Int)] 5))
        clear HOw HF
        go_wp2_with (at_builtin; refine Hid.out ?_)
        refine hid ?_
        generalize wr.alloc (.cells #[.int .u8 (((ByteArray.mk s.toArray)[k]'(by simpa [ByteArray.size] using h1)).toNat : Int)] 5) = w8 at *
        refine wpList_append_src (by rfl) _ _ 42 (by rfl) w.heap.size (o.length + 1) 1 (.slice va (o.length + 1) vc) (.slice (some ⟨wr.heap.size, 0, none⟩) 1 1) (bs (34 :: o)) (bs [c]) (by rfl) (by rfl) HO8.out (srcBytes HN8.out 1) (by omega) HF8.out.size ?_
        intro v9 w9 h9
        have HF9 : Hid (Fr (fun _ => False) w w9) := HF8.out.grown h9.grown (fun k' hk' => .inr (HO8.out.lt k' hk').1)
        have HO9 : Hid (w9.ownsRow w.heap.size 5 1 v9 (34 :: (o ++ [c])).length (bs (34 :: (o ++ [c])))) := by
          have := h9.own
          simpa [bs, Hid, Nat.add_assoc] using this
        clear h9 HF8 HO8 HN8
        go_wp2_with fail
        exact ⟨HFin.out _ _ _ (by rw [HTk.out]; exact congrArg _ HEn.out) hmay HO9.out HF9.out, by simp [intOf]; omega⟩
      · have l32 : decide ((((ByteArray.mk s.toArray)[k]'(by simpa [ByteArray.size] using h1)).toNat : Int) < 32) = false := decide_eq_false (by omega)
        have n9 : ((((ByteArray.mk s.toArray)[k]'(by simpa [ByteArray.size] using h1)).toNat : Int) != 9) = true := by simp; omega
        have n10 : ((((ByteArray.mk s.toArray)[k]'(by simpa [ByteArray.size] using h1)).toNat : Int) != 10) = true := by simp; omega
        have e127 : ((((ByteArray.mk s.toArray)[k]'(by simpa [ByteArray.size] using h1)).toNat : Int) == 127) = true := by simp; omega
        have e34 : ((((ByteArray.mk s.toArray)[k]'(by simpa [ByteArray.size] using h1)).toNat : Int) == 34) = false := by simp; omega
        have e92 : ((((ByteArray.mk s.toArray)[k]'(by simpa [ByteArray.size] using h1)).toNat : Int) == 92) = false := by simp; omega
        have e10 : ((((ByteArray.mk s.toArray)[k]'(by simpa [ByteArray.size] using h1)).toNat : Int) == 10) = false := by simp; omega
        have e9 : ((((ByteArray.mk s.toArray)[k]'(by simpa [ByteArray.size] using h1)).toNat : Int) == 9) = false := by simp; omega
        clear HI HFin x1 x2 hc8
        go_wp2_with fail
        go_ret
        exact ⟨rfl, HF.out⟩
      · have l32 : decide ((((ByteArray.mk s.toArray)[k]'(by simpa [ByteArray.size] using h1)).toNat : Int) < 32) = false := decide_eq_false (by omega)
        have n9 : ((((ByteArray.mk s.toArray)[k]'(by simpa [ByteArray.size] using h1)).toNat : Int) != 9) = true := by simp; omega
        have n10 : ((((ByteArray.mk s.toArray)[k]'(by simpa [ByteArray.size] using h1)).toNat : Int) != 10) = true := by simp; omega
        have e127 : ((((ByteArray.mk s.toArray)[k]'(by simpa [ByteArray.size] using h1)).toNat : Int) == 127) = false := by simp; omega
        have e34 : ((((ByteArray.mk s.toArray)[k]'(by simpa [ByteArray.size] using h1)).toNat : Int) == 34) = false := by simp; omega
        have e92 : ((((ByteArray.mk s.toArray)[k]'(by simpa [ByteArray.size] using h1)).toNat : Int) == 92) = false := by simp; omega
        have e10 : ((((ByteArray.mk s.toArray)[k]'(by simpa [ByteArray.size] using h1)).toNat : Int) == 10) = false := by simp; omega
        have e9 : ((((ByteArray.mk s.toArray)[k]'(by simpa [ByteArray.size] using h1)).toNat : Int) == 9) = false := by simp; omega
        have hct : c.toNat = ((ByteArray.mk s.toArray)[k]'(by simpa [ByteArray.size] using h1)).toNat := by have := HXc.out; omega
        have hmay : mayS c = true := HI.out.2 (by omega)
        have HEn : Hid (encP k c = [c]) := by
          unfold Hid encP
          rw [if_neg (by omega), if_neg (by omega), if_neg (by omega)]
        clear HI x1 x2 hc8 hct
        have HN8 : Hid (Src (wr.alloc (.cells #[.int .u8 (((ByteArray.mk s.toArray)[k]'(by simpa [ByteArray.size] using h1)).toNat : Int)] 5)) (some ⟨wr.heap.size, 0, none⟩) [c]) := by
          try rw [HXc.out]
          exact fun _ => ⟨_, _, rfl, (Blk.new wr 5 (bs [c])).range 0 _ rfl⟩
        have HO8 : Hid ((wr.alloc (.cells #[.int .u8 (((ByteArray.mk s.toArray)[k]'(by simpa [ByteArray.size] using h1)).toNat : Int)] 5)).ownsRow w.heap.size 5 1 (.slice va (o.length + 1) vc) (o.length + 1) (bs (34 :: o))) := owns_of_eq HOw.out (fun k' hk' => Below.heap_alloc wr _ k' (HOw.out.lt k' hk').2)
        have HF8 := hid (HF.out.alloc (.cells #[.int .u8 (((ByteArray.mk s.toArray)[k]'(by simpa [ByteArray.size] using h1)).toNat : Int)] 5))
        clear HOw HF
        go_wp2_with (at_builtin; refine Hid.out ?_)
        refine hid ?_
        generalize wr.alloc (.cells #[.int .u8 (((ByteArray.mk s.toArray)[k]'(by simpa [ByteArray.size] using h1)).toNat : Int)] 5) = w8 at *
        refine wpList_append_src (by rfl) _ _ 42 (by rfl) w.heap.size (o.length + 1) 1 (.slice va (o.length + 1) vc) (.slice (some ⟨wr.heap.size, 0, none⟩) 1 1) (bs (34 :: o)) (bs [c]) (by rfl) (by rfl) HO8.out (srcBytes HN8.out 1) (by omega) HF8.out.size ?_
        intro v9 w9 h9
        have HF9 : Hid (Fr (fun _ => False) w w9) := HF8.out.grown h9.grown (fun k' hk' => .inr (HO8.out.lt k' hk').1)
        have HO9 : Hid (w9.ownsRow w.heap.size 5 1 v9 (34 :: (o ++ [c])).length (bs (34 :: (o ++ [c])))) := by
          have := h9.own
          simpa [bs, Hid, Nat.add_assoc] using this
        clear h9 HF8 HO8 HN8
        go_wp2_with fail
        exact ⟨HFin.out _ _ _ (by rw [HTk.out]; exact congrArg _ HEn.out) hmay HO9.out HF9.out, by simp [intOf]; omega⟩
    · obtain rfl : k = s.length := by omega
      rw [List.take_length] at HOw HAll hol
      have hst : ¬ ((s.length : Int) < (s.length : Int)) := by omega
      generalize ho : encF 0 s = o at *
      have HEo := hid ho
      clear ho
      have hn1 : (encF 0 (s.take s.length)).length = o.length := by rw [List.take_length, HEo.out]
      rw [hn1]
      clear hn1
      have HN8 : Hid (Src (wr.alloc (.cells #[.int .u8 34] 5)) (some ⟨wr.heap.size, 0, none⟩) [34]) := fun _ => ⟨_, _, rfl, (Blk.new wr 5 (bs [34])).range 0 _ rfl⟩
      have HO8 : Hid ((wr.alloc (.cells #[.int .u8 34] 5)).ownsRow w.heap.size 5 1 (.slice va (o.length + 1) vc) (o.length + 1) (bs (34 :: o))) := owns_of_eq HOw.out (fun k' hk' => Below.heap_alloc wr _ k' (HOw.out.lt k' hk').2)
      have HF8 := hid (HF.out.alloc (.cells #[.int .u8 34] 5))
      clear HOw HF
      go_wp2_with (at_builtin; refine Hid.out ?_)
      refine hid ?_
      generalize wr.alloc (.cells #[.int .u8 34] 5) = w8 at *
      refine wpList_append_src (by rfl) _ _ 42 (by rfl) w.heap.size (o.length + 1) 1 (.slice va (o.length + 1) vc) (.slice (some ⟨wr.heap.size, 0, none⟩) 1 1) (bs (34 :: o)) (bs [34]) (by rfl) (by rfl) HO8.out (srcBytes HN8.out 1) (by omega) HF8.out.size ?_
      intro v9 w9 h9
      have HF9 : Hid (Fr (fun _ => False) w w9) := HF8.out.grown h9.grown (fun k' hk' => .inr (HO8.out.lt k' hk').1)
      obtain ⟨v9a, v9c, hv9⟩ := own_len h9.own
      subst hv9
      obtain ⟨g9, hv9a, hcap⟩ : ∃ g9, v9a = some ⟨g9, 0, none⟩ ∧ o.length + 1 + 1 ≤ v9c := by
        rcases h9.own.2 with ⟨_, h00⟩ | ⟨g9, c9, cur9, hv, _, _, hnc, _⟩
        · omega
        · simp only [Value.slice.injEq] at hv
          exact ⟨g9, hv.1, by rw [hv.2.2]; exact hnc⟩
      subst hv9a
      have hcap1 : (o.length : Int) + 1 ≤ (v9c : Int) := by omega
      have hcap2 : ¬ v9c = 0 := by omega
      have HO9 : Hid (w9.ownsRow w.heap.size 5 1 (.slice (some ⟨g9, 0, none⟩) (o.length + 1 + 1) v9c) (34 :: (o ++ [34])).length (bs (34 :: (o ++ [34])))) := by
        have := h9.own
        simpa [bs, Hid, Nat.add_assoc] using this
      clear h9 HF8 HO8 HN8
      have hcv := conv_bytes (src_own HO9.out) v9c
      have hl2 : (34 :: (o ++ [34])).length = o.length + 1 + 1 := by simp
      rw [hl2] at hcv
      by_cases hbig : 4096 < o.length + 1 + 1
      · have hb1 : (4096 : Int) < (o.length : Int) + 1 + 1 := by omega
        go_wp2_with fail
        go_ret
        exact ⟨rfl, HF9.out⟩
      have hb1 : ¬ ((4096 : Int) < (o.length : Int) + 1 + 1) := by omega
      have HEnv := hid ((Env.refl w).fr HF9.out (fun _ h => h.elim))
      by_cases hlong : 1024 < s.length
      · have hb2 : (1024 : Int) < (s.length : Int) := by omega
        have HRun := hid (runLong (w0 := w) HAll.out hlong)
        rw [HEo.out] at HRun
        have HA := hid (all_any HEnv.out (by rw [hl2]; omega) HRun.out (by simp))
        unfold AllPost at HA
        go_wp2_with fail
        refine HA.out.mono ?_
        rintro e w10 ⟨fb, rfl, hfb, q10, f10⟩
        have HF10 := hid (HF9.out.same f10)
        have HH10 : Hid (Hnl w10) := ⟨((Env.refl w).fr HF10.out (fun _ h => h.elim)).cell HH.out.1, Nat.lt_of_lt_of_le HH.out.2 HF10.out.size⟩
        have HC := hid (fault_hit q10 HH10.out)
        clear q10 f10 HA
        go_wp2_with fail
        refine HC.out.mono ?_
        rintro e w11 ⟨rfl, f11⟩
        have HF11 := hid (HF10.out.same f11)
        clear f11 HC
        go_wp2
        go_ret
        exact ⟨rfl, HF11.out⟩
      · have hb2 : ¬ ((1024 : Int) < (s.length : Int)) := by omega
        have HRun := hid (runStr (w0 := w) HAll.out (by omega))
        rw [HEo.out] at HRun
        have HA := hid (all_any HEnv.out (by rw [hl2]; omega) HRun.out (by simp))
        unfold AllPost at HA
        go_wp2_with fail
        refine HA.out.mono ?_
        rintro e w10 ⟨v, rfl, ho, f10⟩
        obtain ⟨g, cap, rfl, _, hTk⟩ := toks_own ho rfl (by simp)
        have k0 : w10.cell? ⟨g, 0, none⟩ = some (.int .i64 4) := hTk.kind 0 (by simp)
        have k1 : w10.cell? ⟨g, 1, none⟩ = some (.string ⟨s.toArray⟩) := hTk.text 0 (by simp)
        have k2 : w10.cell? ⟨g, 2, none⟩ = some (.int .i64 0) := hTk.int 0 (by simp)
        have k3 : w10.cell? ⟨g, 3, none⟩ = some (.float .f64 0) := hTk.flt 0 (by simp)
        have k4 : w10.cell? ⟨g, 4, none⟩ = some (.int .i64 0) := hTk.at_ 0 (by simp)
        have heq := eqTokIn ⟨4, s, 0, 0, 0⟩ ⟨4, s, 0, 0, 0⟩ w10
        rw [tokEq_refl _ floatEq0] at heq
        simp only [tokV] at heq
        have hfl := eqFlt 9998 w10 0 0
        rw [floatEq0] at hfl
        have HF10 := hid (HF9.out.same f10)
        have hO10 : w10.ownsRow w.heap.size 5 1 (.slice (some ⟨g9, 0, none⟩) (o.length + 1 + 1) v9c) (34 :: (o ++ [34])).length (bs (34 :: (o ++ [34]))) := owns_of_eq HO9.out (fun k' hk' => f10.block k' (HO9.out.lt k' hk').2 (fun h => h))
        have hSo : Src w10 (some ⟨g9, 0, none⟩) (34 :: o) := by
          intro _
          obtain ⟨bb, bo, e1, e2⟩ := src_own hO10 (by simp)
          refine ⟨bb, bo, e1, fun j u hu => e2 j u ?_⟩
          have hx : bs (34 :: (o ++ [34])) = bs (34 :: o) ++ bs [34] := by simp [bs]
          rw [hx, List.getElem?_append_left (List.getElem?_eq_some_iff.1 hu).1]
          exact hu
        have hcv2 := conv_bytes hSo v9c
        have hl3 : (34 :: o).length = o.length + 1 := rfl
        rw [hl3] at hcv2
        have HEnv2 := hid ((Env.refl w).fr HF10.out (fun _ h => h.elim))
        have HRun2 := hid (runOpen (w0 := w) HAll.out)
        rw [HEo.out] at HRun2
        have HA2 := hid (all_any HEnv2.out (by rw [hl3]; omega) HRun2.out (by simp))
        unfold AllPost at HA2
        clear hTk ho f10 hO10 hSo HA HRun HRun2
        go_wp2_with fail
        refine HA2.out.mono ?_
        rintro e w11 ⟨fb, rfl, hfb, q11, f11⟩
        have HF11 := hid (HF10.out.same f11)
        have HH11 : Hid (Hnl w11) := ⟨((Env.refl w).fr HF11.out (fun _ h => h.elim)).cell HH.out.1, Nat.lt_of_lt_of_le HH.out.2 HF11.out.size⟩
        have HC := hid (fault_hit q11 HH11.out)
        clear q11 f11 HA2
        go_wp2_with fail
        refine HC.out.mono ?_
        rintro e w12 ⟨rfl, f12⟩
        have HF12 := hid (HF11.out.same f12)
        clear f12 HC
        go_wp2
        go_ret
        exact ⟨rfl, HF12.out.alloc _⟩

end Go.Proofs.YtngalmkdlbpdoaaGreatDoor.Tr
