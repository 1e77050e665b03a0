/- The contract of LexNames. -/
import Derived.Test.YtngalmkdlbpdoaaGreatDoorShw
import Derived.Test.YtngalmkdlbpdoaaGreatDoorTeq
namespace Go.Proofs.YtngalmkdlbpdoaaGreatDoor.Tr
open Go.RowKit

theorem inN_iff (c : UInt8) : inN c = true ↔ (97 ≤ c.toNat ∧ c.toNat ≤ 122) ∨ (65 ≤ c.toNat ∧ c.toNat ≤ 90) ∨ (48 ≤ c.toNat ∧ c.toNat ≤ 57) ∨ c.toNat = 95 ∨ c.toNat = 39 ∨ c.toNat = 45 := by
  unfold inN begN
  simp only [Bool.or_eq_true, u8n, let_iff, dig_iff]
  simp
  omega

theorem upto_all {p : UInt8 → Bool} {t : List UInt8} (h : t.all p = true) : upto p t 0 = t.length := by
  unfold upto
  have e : t.takeWhile p = t := by
    rw [← List.append_nil t, List.takeWhile_append_of_pos (by simpa using h)]; simp
  simp [e]
theorem runName {w0 : World} {o : List UInt8} (h : o.all inN = true) : Run w0 (113 :: o) 0 [⟨1, 113 :: o, 0, 0, 0⟩, endT (113 :: o)] none := by
  have hu : upto inN (113 :: o) 0 = (113 :: o).length := upto_all (by rw [List.all_cons, h]; decide)
  have hN : tokN (113 :: o) 0 = ⟨1, 113 :: o, 0, 0, 0⟩ := by
    unfold tokN
    rw [hu, sub_all]; rfl
  have hb0 : upto isBlank (113 :: o) 0 = 0 := upto_stop (by simp) (by show isBlank 113 = false; decide)
  have r1 : Run w0 (113 :: o) (113 :: o).length [endT (113 :: o)] none := by
    refine Run.fin (k1 := (113 :: o).length) (k2 := (113 :: o).length) ?_ Here.fin rfl
    rw [upto_end (Nat.le_refl _)]
    exact Skp.done (by rw [at0_ge (Nat.le_refl _)]; decide)
  refine Run.tok (k1 := 0) (k2 := (113 :: o).length) ?_ ?_ (by simp) r1
  · rw [hb0]; exact Skp.done (by simp [at0])
  · have := Here.name (w0 := w0) (t := 113 :: o) (k := 0) (by simp) (by simp [at0]; decide)
    rw [hN, hu] at this
    exact this

theorem own_new1 {base : Nat} (w : World) (c : UInt8) (h : base ≤ w.heap.size) : (w.alloc (.cells #[.int .u8 (c.toNat : Int)] 5)).ownsRow base 5 1 (.slice (some ⟨w.heap.size, 0, none⟩) 1 1) ([c] : List UInt8).length (bs [c]) :=
  ⟨rfl, .inr ⟨w.heap.size, 1, #[.int .u8 (c.toNat : Int)], rfl, h, heap_alloc_new w _, Nat.le_refl _, by unfold maxLen; omega, rfl, rfl⟩⟩

set_option maxRecDepth 100000 in
set_option maxHeartbeats 4000000 in
theorem lexNames_any {w : World} (hT : Tabs w) (s : List UInt8) (hs : s.length ≤ 140737488351232) : Calls Tryz.prog 8 #[.string ⟨s.toArray⟩] w fun e w' => e = .returned (.bool true) ∧ Fr (fun _ => False) w w' := by
  have HS := hid (shown_any hT (Env.refl w))
  have HT := hid hT
  clear hT
  go_enter Tryz.func8, Tryz.ntmps8
  go_wp2_with fail
  refine HS.out.mono ?_
  rintro e w1 ⟨rfl, f1⟩
  have HB1 := hid (own_new1 w1 113 f1.size)
  have HF1 := hid (f1.alloc (.cells #[.int .u8 113] 5))
  clear f1 HS
  go_wp2_with fail
  go_loopw [4, 5, 6] (fun ov iv _ wr => ∃ (k : Nat) (o : List UInt8), k ≤ s.length ∧ iv = .int .i64 (k : Int) ∧ o.all inN = true ∧ o.length < 2000 ∧ wr.ownsRow w.heap.size 5 1 ov (113 :: o).length (bs (113 :: o)) ∧ Fr (fun _ => False) w wr) (fun _ iv _ _ => s.length - (intOf iv).toNat)
  case atStart => exact ⟨0, [], Nat.zero_le _, rfl, rfl, by decide, HB1.out, HF1.out⟩
  case round =>
    obtain ⟨k, o, hk, rfl, hall, hol, hOw, hF⟩ := hrel
    clear HB1 HF1
    obtain ⟨va, vc, rfl⟩ := own_len hOw
    have HOw := hid hOw
    have HF := hid hF
    have HAll := hid hall
    have hlo : (113 :: o).length = o.length + 1 := rfl
    rw [hlo] at HOw
    rw [hlo]
    clear hOw hF hall hlo
    have hk0 : (0 : Int) ≤ (k : Int) := Int.natCast_nonneg _
    by_cases hgo : k < s.length ∧ o.length + 1 < 2000
    · obtain ⟨h1, h2⟩ := hgo
      have h1' : (k : Int) < (s.length : Int) := by omega
      have h2' : ((o.length : Int) + 1) < 2000 := by omega
      have HSt := hid (str_at s k h1)
      have HAp := hid (fun (h : inN s[k] = true) => (show (o ++ [s[k]]).all inN = true by rw [List.all_append, HAll.out]; simp [h]))
      have HI := hid (inN_iff s[k])
      generalize hcc : s[k] = c at *
      have hc8 := UInt8.toNat_lt c
      rw [← HSt.out] at hc8
      have HXc : Hid ((((ByteArray.mk s.toArray)[k]'(by simpa [ByteArray.size] using h1)).toNat : Int) = (c.toNat : Int)) := by unfold Hid; rw [HSt.out]
      clear hcc
      have cls : (0 ≤ ((ByteArray.mk s.toArray)[k]'(by simpa [ByteArray.size] using h1)).toNat ∧ ((ByteArray.mk s.toArray)[k]'(by simpa [ByteArray.size] using h1)).toNat ≤ 38) ∨ (39 ≤ ((ByteArray.mk s.toArray)[k]'(by simpa [ByteArray.size] using h1)).toNat ∧ ((ByteArray.mk s.toArray)[k]'(by simpa [ByteArray.size] using h1)).toNat ≤ 39) ∨ (40 ≤ ((ByteArray.mk s.toArray)[k]'(by simpa [ByteArray.size] using h1)).toNat ∧ ((ByteArray.mk s.toArray)[k]'(by simpa [ByteArray.size] using h1)).toNat ≤ 44) ∨ (45 ≤ ((ByteArray.mk s.toArray)[k]'(by simpa [ByteArray.size] using h1)).toNat ∧ ((ByteArray.mk s.toArray)[k]'(by simpa [ByteArray.size] using h1)).toNat ≤ 45) ∨ (46 ≤ ((ByteArray.mk s.toArray)[k]'(by simpa [ByteArray.size] using h1)).toNat ∧ ((ByteArray.mk s.toArray)[k]'(by simpa [ByteArray.size] using h1)).toNat ≤ 47) ∨ (48 ≤ ((ByteArray.mk s.toArray)[k]'(by simpa [ByteArray.size] using h1)).toNat ∧ ((ByteArray.mk s.toArray)[k]'(by simpa [ByteArray.size] using h1)).toNat ≤ 57) ∨ (58 ≤ ((ByteArray.mk s.toArray)[k]'(by simpa [ByteArray.size] using h1)).toNat ∧ ((ByteArray.mk s.toArray)[k]'(by simpa [ByteArray.size] using h1)).toNat ≤ 64) ∨ (65 ≤ ((ByteArray.mk s.toArray)[k]'(by simpa [ByteArray.size] using h1)).toNat ∧ ((ByteArray.mk s.toArray)[k]'(by simpa [ByteArray.size] using h1)).toNat ≤ 90) ∨ (91 ≤ ((ByteArray.mk s.toArray)[k]'(by simpa [ByteArray.size] using h1)).toNat ∧ ((ByteArray.mk s.toArray)[k]'(by simpa [ByteArray.size] using h1)).toNat ≤ 94) ∨ (95 ≤ ((ByteArray.mk s.toArray)[k]'(by simpa [ByteArray.size] using h1)).toNat ∧ ((ByteArray.mk s.toArray)[k]'(by simpa [ByteArray.size] using h1)).toNat ≤ 95) ∨ (96 ≤ ((ByteArray.mk s.toArray)[k]'(by simpa [ByteArray.size] using h1)).toNat ∧ ((ByteArray.mk s.toArray)[k]'(by simpa [ByteArray.size] using h1)).toNat ≤ 96) ∨ (97 ≤ ((ByteArray.mk s.toArray)[k]'(by simpa [ByteArray.size] using h1)).toNat ∧ ((ByteArray.mk s.toArray)[k]'(by simpa [ByteArray.size] using h1)).toNat ≤ 122) ∨ (123 ≤ ((ByteArray.mk s.toArray)[k]'(by simpa [ByteArray.size] using h1)).toNat ∧ ((ByteArray.mk s.toArray)[k]'(by simpa [ByteArray.size] using h1)).toNat ≤ 255) := by omega
      rcases cls with ⟨x1, x2⟩ | ⟨x1, x2⟩ | ⟨x1, x2⟩ | ⟨x1, x2⟩ | ⟨x1, x2⟩ | ⟨x1, x2⟩ | ⟨x1, x2⟩ | ⟨x1, x2⟩ | ⟨x1, x2⟩ | ⟨x1, x2⟩ | ⟨x1, x2⟩ | ⟨x1, x2⟩ | ⟨x1, x2⟩
      · have c1 : decide ((((ByteArray.mk s.toArray)[k]'(by simpa [ByteArray.size] using h1)).toNat : Int) ≥ 97) = false := decide_eq_false (by omega)
        have c2 : decide ((((ByteArray.mk s.toArray)[k]'(by simpa [ByteArray.size] using h1)).toNat : Int) ≤ 122) = true := decide_eq_true (by omega)
        have c3 : decide ((((ByteArray.mk s.toArray)[k]'(by simpa [ByteArray.size] using h1)).toNat : Int) ≥ 65) = false := decide_eq_false (by omega)
        have c4 : decide ((((ByteArray.mk s.toArray)[k]'(by simpa [ByteArray.size] using h1)).toNat : Int) ≤ 90) = true := decide_eq_true (by omega)
        have c5 : decide ((((ByteArray.mk s.toArray)[k]'(by simpa [ByteArray.size] using h1)).toNat : Int) ≥ 48) = false := decide_eq_false (by omega)
        have c6 : decide ((((ByteArray.mk s.toArray)[k]'(by simpa [ByteArray.size] using h1)).toNat : Int) ≤ 57) = true := decide_eq_true (by omega)
        have c7 : ((((ByteArray.mk s.toArray)[k]'(by simpa [ByteArray.size] using h1)).toNat : Int) == 95) = false := by simp; omega
        have c8 : ((((ByteArray.mk s.toArray)[k]'(by simpa [ByteArray.size] using h1)).toNat : Int) == 39) = false := by simp; omega
        have c9 : ((((ByteArray.mk s.toArray)[k]'(by simpa [ByteArray.size] using h1)).toNat : Int) == 45) = false := by simp; omega
        have hX97 : (((ByteArray.mk s.toArray)[k]'(by simpa [ByteArray.size] using h1)).toNat : Int) < 256 := by omega
        clear HI HAp x1 x2 hc8
        go_wp2_with fail
        exact ⟨⟨k + 1, o, by omega, rfl, HAll.out, hol, HOw.out, HF.out⟩, by simp [intOf]; omega⟩
      · have c1 : decide ((((ByteArray.mk s.toArray)[k]'(by simpa [ByteArray.size] using h1)).toNat : Int) ≥ 97) = false := decide_eq_false (by omega)
        have c2 : decide ((((ByteArray.mk s.toArray)[k]'(by simpa [ByteArray.size] using h1)).toNat : Int) ≤ 122) = true := decide_eq_true (by omega)
        have c3 : decide ((((ByteArray.mk s.toArray)[k]'(by simpa [ByteArray.size] using h1)).toNat : Int) ≥ 65) = false := decide_eq_false (by omega)
        have c4 : decide ((((ByteArray.mk s.toArray)[k]'(by simpa [ByteArray.size] using h1)).toNat : Int) ≤ 90) = true := decide_eq_true (by omega)
        have c5 : decide ((((ByteArray.mk s.toArray)[k]'(by simpa [ByteArray.size] using h1)).toNat : Int) ≥ 48) = false := decide_eq_false (by omega)
        have c6 : decide ((((ByteArray.mk s.toArray)[k]'(by simpa [ByteArray.size] using h1)).toNat : Int) ≤ 57) = true := decide_eq_true (by omega)
        have c7 : ((((ByteArray.mk s.toArray)[k]'(by simpa [ByteArray.size] using h1)).toNat : Int) == 95) = false := by simp; omega
        have c8 : ((((ByteArray.mk s.toArray)[k]'(by simpa [ByteArray.size] using h1)).toNat : Int) == 39) = true := by simp; omega
        have c9 : ((((ByteArray.mk s.toArray)[k]'(by simpa [ByteArray.size] using h1)).toNat : Int) == 45) = false := by simp; omega
        have hX97 : (((ByteArray.mk s.toArray)[k]'(by simpa [ByteArray.size] using h1)).toNat : Int) < 256 := by omega
        have hin : inN c = true := HI.out.2 (by have := HXc.out; omega)
        have HO2 := hid (HAp.out hin)
        clear HI HAp hin x1 x2 hc8
        have HN8 : Hid (Src (wr.alloc (.cells #[.int .u8 (((ByteArray.mk s.toArray)[k]'(by simpa [ByteArray.size] using h1)).toNat : Int)] 5)) (some ⟨wr.heap.size, 0, none⟩) [c]) := by
          rw [HXc.out]
          exact fun _ => ⟨_, _, rfl, (Blk.new wr 5 (bs [c])).range 0 _ rfl⟩
        have HO8 : Hid ((wr.alloc (.cells #[.int .u8 (((ByteArray.mk s.toArray)[k]'(by simpa [ByteArray.size] using h1)).toNat : Int)] 5)).ownsRow w.heap.size 5 1 (.slice va (o.length + 1) vc) (o.length + 1) (bs (113 :: o))) := owns_of_eq HOw.out (fun k' hk' => Below.heap_alloc wr _ k' (HOw.out.lt k' hk').2)
        have HF8 := hid (HF.out.alloc (.cells #[.int .u8 (((ByteArray.mk s.toArray)[k]'(by simpa [ByteArray.size] using h1)).toNat : Int)] 5))
        clear HOw HF
        go_wp2_with (at_builtin; refine Hid.out ?_)
        refine hid ?_
        generalize wr.alloc (.cells #[.int .u8 (((ByteArray.mk s.toArray)[k]'(by simpa [ByteArray.size] using h1)).toNat : Int)] 5) = w8 at *
        refine wpList_append_src (by rfl) _ _ 42 (by rfl) w.heap.size (o.length + 1) 1 (.slice va (o.length + 1) vc) (.slice (some ⟨wr.heap.size, 0, none⟩) 1 1) (bs (113 :: o)) (bs [c]) (by rfl) (by rfl) HO8.out (srcBytes HN8.out 1) (by omega) HF8.out.size ?_
        intro v9 w9 h9
        have HF9 : Hid (Fr (fun _ => False) w w9) := HF8.out.grown h9.grown (fun k' hk' => .inr (HO8.out.lt k' hk').1)
        have HO9 : Hid (w9.ownsRow w.heap.size 5 1 v9 (113 :: (o ++ [c])).length (bs (113 :: (o ++ [c])))) := by
          have := h9.own
          simpa [bs, Hid] using this
        clear h9 HF8 HO8 HN8
        go_wp2_with fail
        exact ⟨⟨k + 1, o ++ [c], by omega, rfl, HO2.out, by simp; omega, HO9.out, HF9.out⟩, by simp [intOf]; omega⟩
      · have c1 : decide ((((ByteArray.mk s.toArray)[k]'(by simpa [ByteArray.size] using h1)).toNat : Int) ≥ 97) = false := decide_eq_false (by omega)
        have c2 : decide ((((ByteArray.mk s.toArray)[k]'(by simpa [ByteArray.size] using h1)).toNat : Int) ≤ 122) = true := decide_eq_true (by omega)
        have c3 : decide ((((ByteArray.mk s.toArray)[k]'(by simpa [ByteArray.size] using h1)).toNat : Int) ≥ 65) = false := decide_eq_false (by omega)
        have c4 : decide ((((ByteArray.mk s.toArray)[k]'(by simpa [ByteArray.size] using h1)).toNat : Int) ≤ 90) = true := decide_eq_true (by omega)
        have c5 : decide ((((ByteArray.mk s.toArray)[k]'(by simpa [ByteArray.size] using h1)).toNat : Int) ≥ 48) = false := decide_eq_false (by omega)
        have c6 : decide ((((ByteArray.mk s.toArray)[k]'(by simpa [ByteArray.size] using h1)).toNat : Int) ≤ 57) = true := decide_eq_true (by omega)
        have c7 : ((((ByteArray.mk s.toArray)[k]'(by simpa [ByteArray.size] using h1)).toNat : Int) == 95) = false := by simp; omega
        have c8 : ((((ByteArray.mk s.toArray)[k]'(by simpa [ByteArray.size] using h1)).toNat : Int) == 39) = false := by simp; omega
        have c9 : ((((ByteArray.mk s.toArray)[k]'(by simpa [ByteArray.size] using h1)).toNat : Int) == 45) = false := by simp; omega
        have hX97 : (((ByteArray.mk s.toArray)[k]'(by simpa [ByteArray.size] using h1)).toNat : Int) < 256 := by omega
        clear HI HAp x1 x2 hc8
        go_wp2_with fail
        exact ⟨⟨k + 1, o, by omega, rfl, HAll.out, hol, HOw.out, HF.out⟩, by simp [intOf]; omega⟩
      · have c1 : decide ((((ByteArray.mk s.toArray)[k]'(by simpa [ByteArray.size] using h1)).toNat : Int) ≥ 97) = false := decide_eq_false (by omega)
        have c2 : decide ((((ByteArray.mk s.toArray)[k]'(by simpa [ByteArray.size] using h1)).toNat : Int) ≤ 122) = true := decide_eq_true (by omega)
        have c3 : decide ((((ByteArray.mk s.toArray)[k]'(by simpa [ByteArray.size] using h1)).toNat : Int) ≥ 65) = false := decide_eq_false (by omega)
        have c4 : decide ((((ByteArray.mk s.toArray)[k]'(by simpa [ByteArray.size] using h1)).toNat : Int) ≤ 90) = true := decide_eq_true (by omega)
        have c5 : decide ((((ByteArray.mk s.toArray)[k]'(by simpa [ByteArray.size] using h1)).toNat : Int) ≥ 48) = false := decide_eq_false (by omega)
        have c6 : decide ((((ByteArray.mk s.toArray)[k]'(by simpa [ByteArray.size] using h1)).toNat : Int) ≤ 57) = true := decide_eq_true (by omega)
        have c7 : ((((ByteArray.mk s.toArray)[k]'(by simpa [ByteArray.size] using h1)).toNat : Int) == 95) = false := by simp; omega
        have c8 : ((((ByteArray.mk s.toArray)[k]'(by simpa [ByteArray.size] using h1)).toNat : Int) == 39) = false := by simp; omega
        have c9 : ((((ByteArray.mk s.toArray)[k]'(by simpa [ByteArray.size] using h1)).toNat : Int) == 45) = true := by simp; omega
        have hX97 : (((ByteArray.mk s.toArray)[k]'(by simpa [ByteArray.size] using h1)).toNat : Int) < 256 := by omega
        have hin : inN c = true := HI.out.2 (by have := HXc.out; omega)
        have HO2 := hid (HAp.out hin)
        clear HI HAp hin x1 x2 hc8
        have HN8 : Hid (Src (wr.alloc (.cells #[.int .u8 (((ByteArray.mk s.toArray)[k]'(by simpa [ByteArray.size] using h1)).toNat : Int)] 5)) (some ⟨wr.heap.size, 0, none⟩) [c]) := by
          rw [HXc.out]
          exact fun _ => ⟨_, _, rfl, (Blk.new wr 5 (bs [c])).range 0 _ rfl⟩
        have HO8 : Hid ((wr.alloc (.cells #[.int .u8 (((ByteArray.mk s.toArray)[k]'(by simpa [ByteArray.size] using h1)).toNat : Int)] 5)).ownsRow w.heap.size 5 1 (.slice va (o.length + 1) vc) (o.length + 1) (bs (113 :: o))) := owns_of_eq HOw.out (fun k' hk' => Below.heap_alloc wr _ k' (HOw.out.lt k' hk').2)
        have HF8 := hid (HF.out.alloc (.cells #[.int .u8 (((ByteArray.mk s.toArray)[k]'(by simpa [ByteArray.size] using h1)).toNat : Int)] 5))
        clear HOw HF
        go_wp2_with (at_builtin; refine Hid.out ?_)
        refine hid ?_
        generalize wr.alloc (.cells #[.int .u8 (((ByteArray.mk s.toArray)[k]'(by simpa [ByteArray.size] using h1)).toNat : Int)] 5) = w8 at *
        refine wpList_append_src (by rfl) _ _ 42 (by rfl) w.heap.size (o.length + 1) 1 (.slice va (o.length + 1) vc) (.slice (some ⟨wr.heap.size, 0, none⟩) 1 1) (bs (113 :: o)) (bs [c]) (by rfl) (by rfl) HO8.out (srcBytes HN8.out 1) (by omega) HF8.out.size ?_
        intro v9 w9 h9
        have HF9 : Hid (Fr (fun _ => False) w w9) := HF8.out.grown h9.grown (fun k' hk' => .inr (HO8.out.lt k' hk').1)
        have HO9 : Hid (w9.ownsRow w.heap.size 5 1 v9 (113 :: (o ++ [c])).length (bs (113 :: (o ++ [c])))) := by
          have := h9.own
          simpa [bs, Hid] using this
        clear h9 HF8 HO8 HN8
        go_wp2_with fail
        exact ⟨⟨k + 1, o ++ [c], by omega, rfl, HO2.out, by simp; omega, HO9.out, HF9.out⟩, by simp [intOf]; omega⟩
      · have c1 : decide ((((ByteArray.mk s.toArray)[k]'(by simpa [ByteArray.size] using h1)).toNat : Int) ≥ 97) = false := decide_eq_false (by omega)
        have c2 : decide ((((ByteArray.mk s.toArray)[k]'(by simpa [ByteArray.size] using h1)).toNat : Int) ≤ 122) = true := decide_eq_true (by omega)
        have c3 : decide ((((ByteArray.mk s.toArray)[k]'(by simpa [ByteArray.size] using h1)).toNat : Int) ≥ 65) = false := decide_eq_false (by omega)
        have c4 : decide ((((ByteArray.mk s.toArray)[k]'(by simpa [ByteArray.size] using h1)).toNat : Int) ≤ 90) = true := decide_eq_true (by omega)
        have c5 : decide ((((ByteArray.mk s.toArray)[k]'(by simpa [ByteArray.size] using h1)).toNat : Int) ≥ 48) = false := decide_eq_false (by omega)
        have c6 : decide ((((ByteArray.mk s.toArray)[k]'(by simpa [ByteArray.size] using h1)).toNat : Int) ≤ 57) = true := decide_eq_true (by omega)
        have c7 : ((((ByteArray.mk s.toArray)[k]'(by simpa [ByteArray.size] using h1)).toNat : Int) == 95) = false := by simp; omega
        have c8 : ((((ByteArray.mk s.toArray)[k]'(by simpa [ByteArray.size] using h1)).toNat : Int) == 39) = false := by simp; omega
        have c9 : ((((ByteArray.mk s.toArray)[k]'(by simpa [ByteArray.size] using h1)).toNat : Int) == 45) = false := by simp; omega
        have hX97 : (((ByteArray.mk s.toArray)[k]'(by simpa [ByteArray.size] using h1)).toNat : Int) < 256 := by omega
        clear HI HAp x1 x2 hc8
        go_wp2_with fail
        exact ⟨⟨k + 1, o, by omega, rfl, HAll.out, hol, HOw.out, HF.out⟩, by simp [intOf]; omega⟩
      · have c1 : decide ((((ByteArray.mk s.toArray)[k]'(by simpa [ByteArray.size] using h1)).toNat : Int) ≥ 97) = false := decide_eq_false (by omega)
        have c2 : decide ((((ByteArray.mk s.toArray)[k]'(by simpa [ByteArray.size] using h1)).toNat : Int) ≤ 122) = true := decide_eq_true (by omega)
        have c3 : decide ((((ByteArray.mk s.toArray)[k]'(by simpa [ByteArray.size] using h1)).toNat : Int) ≥ 65) = false := decide_eq_false (by omega)
        have c4 : decide ((((ByteArray.mk s.toArray)[k]'(by simpa [ByteArray.size] using h1)).toNat : Int) ≤ 90) = true := decide_eq_true (by omega)
        have c5 : decide ((((ByteArray.mk s.toArray)[k]'(by simpa [ByteArray.size] using h1)).toNat : Int) ≥ 48) = true := decide_eq_true (by omega)
        have c6 : decide ((((ByteArray.mk s.toArray)[k]'(by simpa [ByteArray.size] using h1)).toNat : Int) ≤ 57) = true := decide_eq_true (by omega)
        have c7 : ((((ByteArray.mk s.toArray)[k]'(by simpa [ByteArray.size] using h1)).toNat : Int) == 95) = false := by simp; omega
        have c8 : ((((ByteArray.mk s.toArray)[k]'(by simpa [ByteArray.size] using h1)).toNat : Int) == 39) = false := by simp; omega
        have c9 : ((((ByteArray.mk s.toArray)[k]'(by simpa [ByteArray.size] using h1)).toNat : Int) == 45) = false := by simp; omega
        have hX97 : (((ByteArray.mk s.toArray)[k]'(by simpa [ByteArray.size] using h1)).toNat : Int) < 256 := by omega
        have hin : inN c = true := HI.out.2 (by have := HXc.out; omega)
        have HO2 := hid (HAp.out hin)
        clear HI HAp hin x1 x2 hc8
        have HN8 : Hid (Src (wr.alloc (.cells #[.int .u8 (((ByteArray.mk s.toArray)[k]'(by simpa [ByteArray.size] using h1)).toNat : Int)] 5)) (some ⟨wr.heap.size, 0, none⟩) [c]) := by
          rw [HXc.out]
          exact fun _ => ⟨_, _, rfl, (Blk.new wr 5 (bs [c])).range 0 _ rfl⟩
        have HO8 : Hid ((wr.alloc (.cells #[.int .u8 (((ByteArray.mk s.toArray)[k]'(by simpa [ByteArray.size] using h1)).toNat : Int)] 5)).ownsRow w.heap.size 5 1 (.slice va (o.length + 1) vc) (o.length + 1) (bs (113 :: o))) := owns_of_eq HOw.out (fun k' hk' => Below.heap_alloc wr _ k' (HOw.out.lt k' hk').2)
        have HF8 := hid (HF.out.alloc (.cells #[.int .u8 (((ByteArray.mk s.toArray)[k]'(by simpa [ByteArray.size] using h1)).toNat : Int)] 5))
        clear HOw HF
        go_wp2_with (at_builtin; refine Hid.out ?_)
        refine hid ?_
        generalize wr.alloc (.cells #[.int .u8 (((ByteArray.mk s.toArray)[k]'(by simpa [ByteArray.size] using h1)).toNat : Int)] 5) = w8 at *
        refine wpList_append_src (by rfl) _ _ 42 (by rfl) w.heap.size (o.length + 1) 1 (.slice va (o.length + 1) vc) (.slice (some ⟨wr.heap.size, 0, none⟩) 1 1) (bs (113 :: o)) (bs [c]) (by rfl) (by rfl) HO8.out (srcBytes HN8.out 1) (by omega) HF8.out.size ?_
        intro v9 w9 h9
        have HF9 : Hid (Fr (fun _ => False) w w9) := HF8.out.grown h9.grown (fun k' hk' => .inr (HO8.out.lt k' hk').1)
        have HO9 : Hid (w9.ownsRow w.heap.size 5 1 v9 (113 :: (o ++ [c])).length (bs (113 :: (o ++ [c])))) := by
          have := h9.own
          simpa [bs, Hid] using this
        clear h9 HF8 HO8 HN8
        go_wp2_with fail
        exact ⟨⟨k + 1, o ++ [c], by omega, rfl, HO2.out, by simp; omega, HO9.out, HF9.out⟩, by simp [intOf]; omega⟩
      · have c1 : decide ((((ByteArray.mk s.toArray)[k]'(by simpa [ByteArray.size] using h1)).toNat : Int) ≥ 97) = false := decide_eq_false (by omega)
        have c2 : decide ((((ByteArray.mk s.toArray)[k]'(by simpa [ByteArray.size] using h1)).toNat : Int) ≤ 122) = true := decide_eq_true (by omega)
        have c3 : decide ((((ByteArray.mk s.toArray)[k]'(by simpa [ByteArray.size] using h1)).toNat : Int) ≥ 65) = false := decide_eq_false (by omega)
        have c4 : decide ((((ByteArray.mk s.toArray)[k]'(by simpa [ByteArray.size] using h1)).toNat : Int) ≤ 90) = true := decide_eq_true (by omega)
        have c5 : decide ((((ByteArray.mk s.toArray)[k]'(by simpa [ByteArray.size] using h1)).toNat : Int) ≥ 48) = true := decide_eq_true (by omega)
        have c6 : decide ((((ByteArray.mk s.toArray)[k]'(by simpa [ByteArray.size] using h1)).toNat : Int) ≤ 57) = false := decide_eq_false (by omega)
        have c7 : ((((ByteArray.mk s.toArray)[k]'(by simpa [ByteArray.size] using h1)).toNat : Int) == 95) = false := by simp; omega
        have c8 : ((((ByteArray.mk s.toArray)[k]'(by simpa [ByteArray.size] using h1)).toNat : Int) == 39) = false := by simp; omega
        have c9 : ((((ByteArray.mk s.toArray)[k]'(by simpa [ByteArray.size] using h1)).toNat : Int) == 45) = false := by simp; omega
        have hX97 : (((ByteArray.mk s.toArray)[k]'(by simpa [ByteArray.size] using h1)).toNat : Int) < 256 := by omega
        clear HI HAp x1 x2 hc8
        go_wp2_with fail
        exact ⟨⟨k + 1, o, by omega, rfl, HAll.out, hol, HOw.out, HF.out⟩, by simp [intOf]; omega⟩
      · have c1 : decide ((((ByteArray.mk s.toArray)[k]'(by simpa [ByteArray.size] using h1)).toNat : Int) ≥ 97) = false := decide_eq_false (by omega)
        have c2 : decide ((((ByteArray.mk s.toArray)[k]'(by simpa [ByteArray.size] using h1)).toNat : Int) ≤ 122) = true := decide_eq_true (by omega)
        have c3 : decide ((((ByteArray.mk s.toArray)[k]'(by simpa [ByteArray.size] using h1)).toNat : Int) ≥ 65) = true := decide_eq_true (by omega)
        have c4 : decide ((((ByteArray.mk s.toArray)[k]'(by simpa [ByteArray.size] using h1)).toNat : Int) ≤ 90) = true := decide_eq_true (by omega)
        have c5 : decide ((((ByteArray.mk s.toArray)[k]'(by simpa [ByteArray.size] using h1)).toNat : Int) ≥ 48) = true := decide_eq_true (by omega)
        have c6 : decide ((((ByteArray.mk s.toArray)[k]'(by simpa [ByteArray.size] using h1)).toNat : Int) ≤ 57) = false := decide_eq_false (by omega)
        have c7 : ((((ByteArray.mk s.toArray)[k]'(by simpa [ByteArray.size] using h1)).toNat : Int) == 95) = false := by simp; omega
        have c8 : ((((ByteArray.mk s.toArray)[k]'(by simpa [ByteArray.size] using h1)).toNat : Int) == 39) = false := by simp; omega
        have c9 : ((((ByteArray.mk s.toArray)[k]'(by simpa [ByteArray.size] using h1)).toNat : Int) == 45) = false := by simp; omega
        have hX97 : (((ByteArray.mk s.toArray)[k]'(by simpa [ByteArray.size] using h1)).toNat : Int) < 256 := by omega
        have hin : inN c = true := HI.out.2 (by have := HXc.out; omega)
        have HO2 := hid (HAp.out hin)
        clear HI HAp hin x1 x2 hc8
        have HN8 : Hid (Src (wr.alloc (.cells #[.int .u8 (((ByteArray.mk s.toArray)[k]'(by simpa [ByteArray.size] using h1)).toNat : Int)] 5)) (some ⟨wr.heap.size, 0, none⟩) [c]) := by
          rw [HXc.out]
          exact fun _ => ⟨_, _, rfl, (Blk.new wr 5 (bs [c])).range 0 _ rfl⟩
        have HO8 : Hid ((wr.alloc (.cells #[.int .u8 (((ByteArray.mk s.toArray)[k]'(by simpa [ByteArray.size] using h1)).toNat : Int)] 5)).ownsRow w.heap.size 5 1 (.slice va (o.length + 1) vc) (o.length + 1) (bs (113 :: o))) := owns_of_eq HOw.out (fun k' hk' => Below.heap_alloc wr _ k' (HOw.out.lt k' hk').2)
        have HF8 := hid (HF.out.alloc (.cells #[.int .u8 (((ByteArray.mk s.toArray)[k]'(by simpa [ByteArray.size] using h1)).toNat : Int)] 5))
        clear HOw HF
        go_wp2_with (at_builtin; refine Hid.out ?_)
        refine hid ?_
        generalize wr.alloc (.cells #[.int .u8 (((ByteArray.mk s.toArray)[k]'(by simpa [ByteArray.size] using h1)).toNat : Int)] 5) = w8 at *
        refine wpList_append_src (by rfl) _ _ 42 (by rfl) w.heap.size (o.length + 1) 1 (.slice va (o.length + 1) vc) (.slice (some ⟨wr.heap.size, 0, none⟩) 1 1) (bs (113 :: o)) (bs [c]) (by rfl) (by rfl) HO8.out (srcBytes HN8.out 1) (by omega) HF8.out.size ?_
        intro v9 w9 h9
        have HF9 : Hid (Fr (fun _ => False) w w9) := HF8.out.grown h9.grown (fun k' hk' => .inr (HO8.out.lt k' hk').1)
        have HO9 : Hid (w9.ownsRow w.heap.size 5 1 v9 (113 :: (o ++ [c])).length (bs (113 :: (o ++ [c])))) := by
          have := h9.own
          simpa [bs, Hid] using this
        clear h9 HF8 HO8 HN8
        go_wp2_with fail
        exact ⟨⟨k + 1, o ++ [c], by omega, rfl, HO2.out, by simp; omega, HO9.out, HF9.out⟩, by simp [intOf]; omega⟩
      · have c1 : decide ((((ByteArray.mk s.toArray)[k]'(by simpa [ByteArray.size] using h1)).toNat : Int) ≥ 97) = false := decide_eq_false (by omega)
        have c2 : decide ((((ByteArray.mk s.toArray)[k]'(by simpa [ByteArray.size] using h1)).toNat : Int) ≤ 122) = true := decide_eq_true (by omega)
        have c3 : decide ((((ByteArray.mk s.toArray)[k]'(by simpa [ByteArray.size] using h1)).toNat : Int) ≥ 65) = true := decide_eq_true (by omega)
        have c4 : decide ((((ByteArray.mk s.toArray)[k]'(by simpa [ByteArray.size] using h1)).toNat : Int) ≤ 90) = false := decide_eq_false (by omega)
        have c5 : decide ((((ByteArray.mk s.toArray)[k]'(by simpa [ByteArray.size] using h1)).toNat : Int) ≥ 48) = true := decide_eq_true (by omega)
        have c6 : decide ((((ByteArray.mk s.toArray)[k]'(by simpa [ByteArray.size] using h1)).toNat : Int) ≤ 57) = false := decide_eq_false (by omega)
        have c7 : ((((ByteArray.mk s.toArray)[k]'(by simpa [ByteArray.size] using h1)).toNat : Int) == 95) = false := by simp; omega
        have c8 : ((((ByteArray.mk s.toArray)[k]'(by simpa [ByteArray.size] using h1)).toNat : Int) == 39) = false := by simp; omega
        have c9 : ((((ByteArray.mk s.toArray)[k]'(by simpa [ByteArray.size] using h1)).toNat : Int) == 45) = false := by simp; omega
        have hX97 : (((ByteArray.mk s.toArray)[k]'(by simpa [ByteArray.size] using h1)).toNat : Int) < 256 := by omega
        clear HI HAp x1 x2 hc8
        go_wp2_with fail
        exact ⟨⟨k + 1, o, by omega, rfl, HAll.out, hol, HOw.out, HF.out⟩, by simp [intOf]; omega⟩
      · have c1 : decide ((((ByteArray.mk s.toArray)[k]'(by simpa [ByteArray.size] using h1)).toNat : Int) ≥ 97) = false := decide_eq_false (by omega)
        have c2 : decide ((((ByteArray.mk s.toArray)[k]'(by simpa [ByteArray.size] using h1)).toNat : Int) ≤ 122) = true := decide_eq_true (by omega)
        have c3 : decide ((((ByteArray.mk s.toArray)[k]'(by simpa [ByteArray.size] using h1)).toNat : Int) ≥ 65) = true := decide_eq_true (by omega)
        have c4 : decide ((((ByteArray.mk s.toArray)[k]'(by simpa [ByteArray.size] using h1)).toNat : Int) ≤ 90) = false := decide_eq_false (by omega)
        have c5 : decide ((((ByteArray.mk s.toArray)[k]'(by simpa [ByteArray.size] using h1)).toNat : Int) ≥ 48) = true := decide_eq_true (by omega)
        have c6 : decide ((((ByteArray.mk s.toArray)[k]'(by simpa [ByteArray.size] using h1)).toNat : Int) ≤ 57) = false := decide_eq_false (by omega)
        have c7 : ((((ByteArray.mk s.toArray)[k]'(by simpa [ByteArray.size] using h1)).toNat : Int) == 95) = true := by simp; omega
        have c8 : ((((ByteArray.mk s.toArray)[k]'(by simpa [ByteArray.size] using h1)).toNat : Int) == 39) = false := by simp; omega
        have c9 : ((((ByteArray.mk s.toArray)[k]'(by simpa [ByteArray.size] using h1)).toNat : Int) == 45) = false := by simp; omega
        have hX97 : (((ByteArray.mk s.toArray)[k]'(by simpa [ByteArray.size] using h1)).toNat : Int) < 256 := by omega
        have hin : inN c = true := HI.out.2 (by have := HXc.out; omega)
        have HO2 := hid (HAp.out hin)
        clear HI HAp hin x1 x2 hc8
        have HN8 : Hid (Src (wr.alloc (.cells #[.int .u8 (((ByteArray.mk s.toArray)[k]'(by simpa [ByteArray.size] using h1)).toNat : Int)] 5)) (some ⟨wr.heap.size, 0, none⟩) [c]) := by
          rw [HXc.out]
          exact fun _ => ⟨_, _, rfl, (Blk.new wr 5 (bs [c])).range 0 _ rfl⟩
        have HO8 : Hid ((wr.alloc (.cells #[.int .u8 (((ByteArray.mk s.toArray)[k]'(by simpa [ByteArray.size] using h1)).toNat : Int)] 5)).ownsRow w.heap.size 5 1 (.slice va (o.length + 1) vc) (o.length + 1) (bs (113 :: o))) := owns_of_eq HOw.out (fun k' hk' => Below.heap_alloc wr _ k' (HOw.out.lt k' hk').2)
        have HF8 := hid (HF.out.alloc (.cells #[.int .u8 (((ByteArray.mk s.toArray)[k]'(by simpa [ByteArray.size] using h1)).toNat : Int)] 5))
        clear HOw HF
        go_wp2_with (at_builtin; refine Hid.out ?_)
        refine hid ?_
        generalize wr.alloc (.cells #[.int .u8 (((ByteArray.mk s.toArray)[k]'(by simpa [ByteArray.size] using h1)).toNat : Int)] 5) = w8 at *
        refine wpList_append_src (by rfl) _ _ 42 (by rfl) w.heap.size (o.length + 1) 1 (.slice va (o.length + 1) vc) (.slice (some ⟨wr.heap.size, 0, none⟩) 1 1) (bs (113 :: o)) (bs [c]) (by rfl) (by rfl) HO8.out (srcBytes HN8.out 1) (by omega) HF8.out.size ?_
        intro v9 w9 h9
        have HF9 : Hid (Fr (fun _ => False) w w9) := HF8.out.grown h9.grown (fun k' hk' => .inr (HO8.out.lt k' hk').1)
        have HO9 : Hid (w9.ownsRow w.heap.size 5 1 v9 (113 :: (o ++ [c])).length (bs (113 :: (o ++ [c])))) := by
          have := h9.own
          simpa [bs, Hid] using this
        clear h9 HF8 HO8 HN8
        go_wp2_with fail
        exact ⟨⟨k + 1, o ++ [c], by omega, rfl, HO2.out, by simp; omega, HO9.out, HF9.out⟩, by simp [intOf]; omega⟩
      · have c1 : decide ((((ByteArray.mk s.toArray)[k]'(by simpa [ByteArray.size] using h1)).toNat : Int) ≥ 97) = false := decide_eq_false (by omega)
        have c2 : decide ((((ByteArray.mk s.toArray)[k]'(by simpa [ByteArray.size] using h1)).toNat : Int) ≤ 122) = true := decide_eq_true (by omega)
        have c3 : decide ((((ByteArray.mk s.toArray)[k]'(by simpa [ByteArray.size] using h1)).toNat : Int) ≥ 65) = true := decide_eq_true (by omega)
        have c4 : decide ((((ByteArray.mk s.toArray)[k]'(by simpa [ByteArray.size] using h1)).toNat : Int) ≤ 90) = false := decide_eq_false (by omega)
        have c5 : decide ((((ByteArray.mk s.toArray)[k]'(by simpa [ByteArray.size] using h1)).toNat : Int) ≥ 48) = true := decide_eq_true (by omega)
        have c6 : decide ((((ByteArray.mk s.toArray)[k]'(by simpa [ByteArray.size] using h1)).toNat : Int) ≤ 57) = false := decide_eq_false (by omega)
        have c7 : ((((ByteArray.mk s.toArray)[k]'(by simpa [ByteArray.size] using h1)).toNat : Int) == 95) = false := by simp; omega
        have c8 : ((((ByteArray.mk s.toArray)[k]'(by simpa [ByteArray.size] using h1)).toNat : Int) == 39) = false := by simp; omega
        have c9 : ((((ByteArray.mk s.toArray)[k]'(by simpa [ByteArray.size] using h1)).toNat : Int) == 45) = false := by simp; omega
        have hX97 : (((ByteArray.mk s.toArray)[k]'(by simpa [ByteArray.size] using h1)).toNat : Int) < 256 := by omega
        clear HI HAp x1 x2 hc8
        go_wp2_with fail
        exact ⟨⟨k + 1, o, by omega, rfl, HAll.out, hol, HOw.out, HF.out⟩, by simp [intOf]; omega⟩
      · have c1 : decide ((((ByteArray.mk s.toArray)[k]'(by simpa [ByteArray.size] using h1)).toNat : Int) ≥ 97) = true := decide_eq_true (by omega)
        have c2 : decide ((((ByteArray.mk s.toArray)[k]'(by simpa [ByteArray.size] using h1)).toNat : Int) ≤ 122) = true := decide_eq_true (by omega)
        have c3 : decide ((((ByteArray.mk s.toArray)[k]'(by simpa [ByteArray.size] using h1)).toNat : Int) ≥ 65) = true := decide_eq_true (by omega)
        have c4 : decide ((((ByteArray.mk s.toArray)[k]'(by simpa [ByteArray.size] using h1)).toNat : Int) ≤ 90) = false := decide_eq_false (by omega)
        have c5 : decide ((((ByteArray.mk s.toArray)[k]'(by simpa [ByteArray.size] using h1)).toNat : Int) ≥ 48) = true := decide_eq_true (by omega)
        have c6 : decide ((((ByteArray.mk s.toArray)[k]'(by simpa [ByteArray.size] using h1)).toNat : Int) ≤ 57) = false := decide_eq_false (by omega)
        have c7 : ((((ByteArray.mk s.toArray)[k]'(by simpa [ByteArray.size] using h1)).toNat : Int) == 95) = false := by simp; omega
        have c8 : ((((ByteArray.mk s.toArray)[k]'(by simpa [ByteArray.size] using h1)).toNat : Int) == 39) = false := by simp; omega
        have c9 : ((((ByteArray.mk s.toArray)[k]'(by simpa [ByteArray.size] using h1)).toNat : Int) == 45) = false := by simp; omega
        have hX97 : (((ByteArray.mk s.toArray)[k]'(by simpa [ByteArray.size] using h1)).toNat : Int) < 256 := by omega
        have hin : inN c = true := HI.out.2 (by have := HXc.out; omega)
        have HO2 := hid (HAp.out hin)
        clear HI HAp hin x1 x2 hc8
        have HN8 : Hid (Src (wr.alloc (.cells #[.int .u8 (((ByteArray.mk s.toArray)[k]'(by simpa [ByteArray.size] using h1)).toNat : Int)] 5)) (some ⟨wr.heap.size, 0, none⟩) [c]) := by
          rw [HXc.out]
          exact fun _ => ⟨_, _, rfl, (Blk.new wr 5 (bs [c])).range 0 _ rfl⟩
        have HO8 : Hid ((wr.alloc (.cells #[.int .u8 (((ByteArray.mk s.toArray)[k]'(by simpa [ByteArray.size] using h1)).toNat : Int)] 5)).ownsRow w.heap.size 5 1 (.slice va (o.length + 1) vc) (o.length + 1) (bs (113 :: o))) := owns_of_eq HOw.out (fun k' hk' => Below.heap_alloc wr _ k' (HOw.out.lt k' hk').2)
        have HF8 := hid (HF.out.alloc (.cells #[.int .u8 (((ByteArray.mk s.toArray)[k]'(by simpa [ByteArray.size] using h1)).toNat : Int)] 5))
        clear HOw HF
        go_wp2_with (at_builtin; refine Hid.out ?_)
        refine hid ?_
        generalize wr.alloc (.cells #[.int .u8 (((ByteArray.mk s.toArray)[k]'(by simpa [ByteArray.size] using h1)).toNat : Int)] 5) = w8 at *
        refine wpList_append_src (by rfl) _ _ 42 (by rfl) w.heap.size (o.length + 1) 1 (.slice va (o.length + 1) vc) (.slice (some ⟨wr.heap.size, 0, none⟩) 1 1) (bs (113 :: o)) (bs [c]) (by rfl) (by rfl) HO8.out (srcBytes HN8.out 1) (by omega) HF8.out.size ?_
        intro v9 w9 h9
        have HF9 : Hid (Fr (fun _ => False) w w9) := HF8.out.grown h9.grown (fun k' hk' => .inr (HO8.out.lt k' hk').1)
        have HO9 : Hid (w9.ownsRow w.heap.size 5 1 v9 (113 :: (o ++ [c])).length (bs (113 :: (o ++ [c])))) := by
          have := h9.own
          simpa [bs, Hid] using this
        clear h9 HF8 HO8 HN8
        go_wp2_with fail
        exact ⟨⟨k + 1, o ++ [c], by omega, rfl, HO2.out, by simp; omega, HO9.out, HF9.out⟩, by simp [intOf]; omega⟩
      · have c1 : decide ((((ByteArray.mk s.toArray)[k]'(by simpa [ByteArray.size] using h1)).toNat : Int) ≥ 97) = true := decide_eq_true (by omega)
        have c2 : decide ((((ByteArray.mk s.toArray)[k]'(by simpa [ByteArray.size] using h1)).toNat : Int) ≤ 122) = false := decide_eq_false (by omega)
        have c3 : decide ((((ByteArray.mk s.toArray)[k]'(by simpa [ByteArray.size] using h1)).toNat : Int) ≥ 65) = true := decide_eq_true (by omega)
        have c4 : decide ((((ByteArray.mk s.toArray)[k]'(by simpa [ByteArray.size] using h1)).toNat : Int) ≤ 90) = false := decide_eq_false (by omega)
        have c5 : decide ((((ByteArray.mk s.toArray)[k]'(by simpa [ByteArray.size] using h1)).toNat : Int) ≥ 48) = true := decide_eq_true (by omega)
        have c6 : decide ((((ByteArray.mk s.toArray)[k]'(by simpa [ByteArray.size] using h1)).toNat : Int) ≤ 57) = false := decide_eq_false (by omega)
        have c7 : ((((ByteArray.mk s.toArray)[k]'(by simpa [ByteArray.size] using h1)).toNat : Int) == 95) = false := by simp; omega
        have c8 : ((((ByteArray.mk s.toArray)[k]'(by simpa [ByteArray.size] using h1)).toNat : Int) == 39) = false := by simp; omega
        have c9 : ((((ByteArray.mk s.toArray)[k]'(by simpa [ByteArray.size] using h1)).toNat : Int) == 45) = false := by simp; omega
        have hX97 : (((ByteArray.mk s.toArray)[k]'(by simpa [ByteArray.size] using h1)).toNat : Int) < 256 := by omega
        clear HI HAp x1 x2 hc8
        go_wp2_with fail
        exact ⟨⟨k + 1, o, by omega, rfl, HAll.out, hol, HOw.out, HF.out⟩, by simp [intOf]; omega⟩
    · have hstop : ¬ ((k : Int) < (s.length : Int)) ∨ ((k : Int) < (s.length : Int) ∧ ¬ ((o.length : Int) + 1 < 2000)) := by omega
      have hcv := conv_bytes (src_own (b := 113 :: o) HOw.out) vc
      have hlo : (113 :: o).length = o.length + 1 := rfl
      rw [hlo] at hcv
      have HRun := hid (runName (w0 := w) HAll.out)
      have HSl := hid (show (113 :: o).length ≤ 4096 by rw [hlo]; omega)
      have HEnv := hid ((Env.refl w).fr HF.out (fun _ h => h.elim))
      have HBy := hid HOw.out
      generalize hxo : 113 :: o = xo at *
      have HXl : Hid (xo.length = o.length + 1) := by unfold Hid; rw [← hxo]; rfl
      have HAll2 := hid (all_any HEnv.out HSl.out HRun.out (by simp))
      unfold AllPost at HAll2
      clear hxo hlo HOw HRun HSl HEnv HAll
      rcases hstop with hst | ⟨hst0, hst⟩
      · go_wp2_with fail
        refine HAll2.out.mono ?_
        rintro e w2 ⟨v, rfl, ho, f2⟩
        obtain ⟨g, cap, rfl, _, hTk⟩ := toks_own ho rfl (by simp)
        have k0 : w2.cell? ⟨g, 0, none⟩ = some (.int .i64 1) := hTk.kind 0 (by simp)
        have k1 : w2.cell? ⟨g, 1, none⟩ = some (.string ⟨xo.toArray⟩) := hTk.text 0 (by simp)
        have k2 : w2.cell? ⟨g, 2, none⟩ = some (.int .i64 0) := hTk.int 0 (by simp)
        have k3 : w2.cell? ⟨g, 3, none⟩ = some (.float .f64 0) := hTk.flt 0 (by simp)
        have k4 : w2.cell? ⟨g, 4, none⟩ = some (.int .i64 0) := hTk.at_ 0 (by simp)
        have hO2 : w2.ownsRow w.heap.size 5 1 (.slice va (o.length + 1) vc) xo.length (bs xo) := by
          rw [HXl.out]
          exact owns_of_eq HBy.out (fun k' hk' => f2.block k' (HBy.out.lt k' hk').2 (fun h => h))
        have hcv2 := fun m => conv_bytes (w := w2.drewN m) (src_own (b := xo) hO2) vc
        rw [HXl.out] at hcv2
        have heq := fun m => eqTokIn ⟨1, xo, 0, 0, 0⟩ ⟨1, xo, 0, 0, 0⟩ (w2.drewN m)
        rw [tokEq_refl _ floatEq0] at heq
        simp only [tokV] at heq
        have hfl := fun m => eqFlt 9998 (w2.drewN m) 0 0
        rw [floatEq0] at hfl
        have HF2 := hid (HF.out.same f2)
        clear hTk ho f2 hO2 HAll2
        go_wp2_with fail
        go_quiet (fail)
        go_wp2
        go_ret
        exact ⟨rfl, HF2.out.drewN _⟩
      · go_wp2_with fail
        refine HAll2.out.mono ?_
        rintro e w2 ⟨v, rfl, ho, f2⟩
        obtain ⟨g, cap, rfl, _, hTk⟩ := toks_own ho rfl (by simp)
        have k0 : w2.cell? ⟨g, 0, none⟩ = some (.int .i64 1) := hTk.kind 0 (by simp)
        have k1 : w2.cell? ⟨g, 1, none⟩ = some (.string ⟨xo.toArray⟩) := hTk.text 0 (by simp)
        have k2 : w2.cell? ⟨g, 2, none⟩ = some (.int .i64 0) := hTk.int 0 (by simp)
        have k3 : w2.cell? ⟨g, 3, none⟩ = some (.float .f64 0) := hTk.flt 0 (by simp)
        have k4 : w2.cell? ⟨g, 4, none⟩ = some (.int .i64 0) := hTk.at_ 0 (by simp)
        have hO2 : w2.ownsRow w.heap.size 5 1 (.slice va (o.length + 1) vc) xo.length (bs xo) := by
          rw [HXl.out]
          exact owns_of_eq HBy.out (fun k' hk' => f2.block k' (HBy.out.lt k' hk').2 (fun h => h))
        have hcv2 := fun m => conv_bytes (w := w2.drewN m) (src_own (b := xo) hO2) vc
        rw [HXl.out] at hcv2
        have heq := fun m => eqTokIn ⟨1, xo, 0, 0, 0⟩ ⟨1, xo, 0, 0, 0⟩ (w2.drewN m)
        rw [tokEq_refl _ floatEq0] at heq
        simp only [tokV] at heq
        have hfl := fun m => eqFlt 9998 (w2.drewN m) 0 0
        rw [floatEq0] at hfl
        have HF2 := hid (HF.out.same f2)
        clear hTk ho f2 hO2 HAll2
        go_wp2_with fail
        go_quiet (fail)
        go_wp2
        go_ret
        exact ⟨rfl, HF2.out.drewN _⟩

end Go.Proofs.YtngalmkdlbpdoaaGreatDoor.Tr
