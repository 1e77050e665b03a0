/- 'shown' answers true: the document's examples, which stand at the head of every law. -/
import Derived.Test.YtdempopelalafaaShown
namespace Go.Proofs.Ytdempopelalafaa.Dk
open Go.RowKit

section
variable {P : Program} {ops : Array Oper} {Q : Exit → Act → World → Prop} {md : Region.Mode} {S : World → Prop}
/-- Operation number i is taken first: its value is v in every world that meets S. -/
theorem takeH {i : Nat} {d : Option Tmp} {fuel : Nat} {listed : Array Bool} {a : Act} {w : World} (v : Value) (hd : (ops[i]?).map (·.dst) = some d) (hs : Region.noSelect ops = true) (hf : Region.free md ops listed i = true)
    (hr : (Region.ready md ops listed).contains i = true) (hQ : ∀ (o : Oper) c a w, Q (.panic c) (a.put o.dst v) w → Q (.panic c) a w) (hS : S w) (hy : ∀ o, ops[i]? = some o → YieldsIf P ops S o v a)
    (h : wpAnyH P md ops Q S fuel (listed.setIfInBounds i true) (a.put d v) w) : wpAnyH P md ops Q S (fuel + 1) listed a w := by
  cases ho : ops[i]? with
  | none => simp [ho] at hd
  | some o =>
    have e : o.dst = d := by simpa [ho] using hd
    subst e
    exact wpAnyH_take ho hs hf hr (hQ o) (hy o ho) hS h
/-- Operation number i alone can come up. -/
theorem oneH {i : Nat} {fuel : Nat} {listed : Array Bool} {a : Act} {w : World} (hr : Region.ready md ops listed = [i])
    (h : ∀ o, ops[i]? = some o → ∀ K' : Act → World → Prop, Hid (∀ a w, S w → wpAnyH P md ops Q S fuel (listed.setIfInBounds i true) a w → K' a w) → if Region.wanted o (yielded ops a.tmps) = true then Oper.wp P o a w K' Q else K' (a.put o.dst undef) w)
    (hi : i < ops.size) : wpAnyH P md ops Q S (fuel + 1) listed a w := by
  have ho : ops[i]? = some ops[i] := Array.getElem?_eq_getElem hi
  exact wpAnyH_ready hr (by simp) (AllReadyH.cons ho (fun K' hK => h _ ho K' (fun a w hS hW => hK a w hS (fun _ => hW))) AllReadyH.nil)
end
theorem hid {p : Prop} (h : p) : Hid p := h
def strB (l : List UInt8) : ByteArray := ⟨l.toArray⟩
theorem conv_blk {w : World} {b : Nat} {t : TypeId} (l : List UInt8) (h : Blk w b t (bs l)) (cap n : Nat) (hn : l.length = n) :
    (convert 28 9 (.slice (some ⟨b, 0, none⟩) n cap)).run Try.prog w = .ok (.string (strB l)) w := by
  subst hn
  refine run_convert_bytes_back (P := Try.prog) w 28 9 5 ⟨b, 0, none⟩ cap l Try.underlying28 Try.underlying5 Try.underlying9 (fun j hj => ?_)
  rw [Addr.add_mid, Nat.zero_add, h.cell]
  simp [bs, bv, hj]

set_option maxRecDepth 100000 in
set_option maxHeartbeats 1000000 in
theorem shown_any (G : Nat → Prop) (w : World) (hG : ∀ k, G k → k < w.heap.size) : Calls Try.prog 7 #[] w fun e w' => e = .returned (.bool true) ∧ Kp G w w' := by
  go_enter Try.func7, Try.ntmps7
  go_wp2_with fail
  refine (own_new G w hG 4 (by omega) (by omega)).mono ?_
  rintro e w1 ⟨p, rfl, h0, f1⟩
  have F1 : Hid (Kp G w w1) := f1
  clear f1
  go_wp2_with fail
  refine (full_any _ 1 (by omega) (by omega)).mono ?_
  rintro e w2 ⟨rfl, rfl⟩
  go_wp2_with fail
  refine (own_write_new (D := s0) h0 small0.1 small0.2 0 (fullB 1) 5 128 128 (fullB_length 1)).mono ?_
  rintro e w3 ⟨rfl, h1, f2⟩
  have F2 : Hid (Kp G w w3) := F1.out.trans f2
  clear h0 f2 F1
  go_wp2_with fail
  refine (own_flush (D := s1) h1 small1.1 small1.2).mono ?_
  rintro e w4 ⟨rfl, h2, f3⟩
  have F3 : Hid (Kp G w w4) := F2.out.trans f3
  clear h1 f3 F2
  go_wp2_with fail
  refine (full_any _ 2 (by omega) (by omega)).mono ?_
  rintro e w5 ⟨rfl, rfl⟩
  go_wp2_with fail
  refine (own_write_new (D := s2) h2 small2.1 small2.2 0 (fullB 2) 5 128 128 (fullB_length 2)).mono ?_
  rintro e w6 ⟨rfl, h3, f4⟩
  have F4 : Hid (Kp G w w6) := F3.out.trans f4
  clear h2 f4 F3
  go_wp2_with fail
  refine (full_any _ 2 (by omega) (by omega)).mono ?_
  rintro e w7 ⟨rfl, rfl⟩
  go_wp2_with fail
  refine (own_write_new (D := s3) h3 small3.1 small3.2 1 (fullB 2) 5 128 128 (fullB_length 2)).mono ?_
  rintro e w8 ⟨rfl, h4, f5⟩
  have F5 : Hid (Kp G w w8) := F4.out.trans f5
  clear h3 f5 F4
  have d4 := own_dirty (D := s4) h4
  rw [q4] at d4
  have D4 := hid d4
  clear d4
  go_wp2_with fail
  refine D4.out.mono ?_
  rintro e w9 ⟨rfl, hw⟩
  obtain rfl : w8 = w9 := hw.symm
  clear hw
  go_wp2_with fail
  refine (own_crash (D := s4) h4 small4.1 2 (by omega)).mono ?_
  rintro e w9 ⟨rfl, h5, f6⟩
  have F6 : Hid (Kp G w w9) := F5.out.trans f6
  clear h4 f6 F5 D4
  have d5 := own_read_no (D := s5) h5 0 (by rw [r5]; omega)
  rw [r5] at d5
  have D5 := hid d5
  clear d5
  go_wp2_with fail
  refine D5.out.mono ?_
  rintro e w10 ⟨rfl, hw⟩
  obtain rfl : w9 = w10 := hw.symm
  clear hw
  have d6 := own_start (D := s5) h5
  rw [u5] at d6
  have D6 := hid d6
  clear d6 D5
  go_wp2_with fail
  refine D6.out.mono ?_
  rintro e w10 ⟨rfl, h6, f7⟩
  have F7 : Hid (Kp G w w10) := F6.out.trans f7
  clear h5 f7 F6 D6
  go_wp2_with fail
  refine (own_read (D := s6) h6 0 u6.1 (by have := u6.2; omega)).mono ?_
  rintro e w11 ⟨rfl, rfl⟩
  rw [n60]
  have hA := Blk.new w10 59 (bs (fullB 1))
  have h6a := h6.more (.cells (bs (fullB 1)).toArray 59)
  have F8 : Hid (Kp G w (w10.alloc (.cells (bs (fullB 1)).toArray 59))) := Fr.alloc F7.out _
  generalize hA1 : w10.heap.size = A at *
  generalize hW : w10.alloc (.cells (bs (fullB 1)).toArray 59) = w11 at *
  have hAl : A < w11.heap.size := hA.lt
  clear hA1 hW h6 F7
  have HA : Hid (Blk w11 A 59 (bs (fullB 1))) := hA
  clear hA
  go_wp2_with fail
  refine (own_read (D := s6) h6a 1 u6.1 u6.2).mono ?_
  rintro e w12 ⟨rfl, rfl⟩
  rw [n61]
  have hB := Blk.new w11 59 (bs (fullB 2))
  have HA2 : Hid (Blk (w11.alloc (.cells (bs (fullB 2)).toArray 59)) A 59 (bs (fullB 1))) := HA.out.alloc _
  have h6b := h6a.more (.cells (bs (fullB 2)).toArray 59)
  have F9 : Hid (Kp G w (w11.alloc (.cells (bs (fullB 2)).toArray 59))) := Fr.alloc F8.out _
  generalize hB1 : w11.heap.size = Bb at *
  generalize hW : w11.alloc (.cells (bs (fullB 2)).toArray 59) = w12 at *
  clear hB1 hW h6a F8 HA
  have HB : Hid (Blk w12 Bb 59 (bs (fullB 2))) := hB
  clear hB hAl
  go_wp2_with fail
  refine (own_arm (D := s6) h6b 1 0 (by omega) (by omega)).mono ?_
  rintro e w13 ⟨rfl, h7, f10⟩
  have K10 : Hid (Kp (fun k => (G k ∨ k = A) ∨ k = Bb) w12 w13) := f10
  clear f10 h6b
  go_wp2_with fail
  refine (full_any _ 1 (by omega) (by omega)).mono ?_
  rintro e w14 ⟨rfl, rfl⟩
  have d8 := own_write_new (D := s7) h7 small7.1 small7.2 2 (fullB 1) 5 128 128 (fullB_length 1)
  rw [e8] at d8
  have D8 := hid d8
  clear d8
  go_wp2_with fail
  refine D8.out.mono ?_
  rintro e w14 ⟨rfl, h8, f11⟩
  have K11 : Hid (Kp (fun k => (G k ∨ k = A) ∨ k = Bb) w12 w14) := K10.out.trans f11
  clear f11 h7 K10 D8
  go_wp2_with fail
  refine (full_any _ 2 (by omega) (by omega)).mono ?_
  rintro e w15 ⟨rfl, rfl⟩
  have d9 := own_write_new (D := s8) h8 small8.1 small8.2 2 (fullB 2) 5 128 128 (fullB_length 2)
  rw [e9] at d9
  have D9 := hid d9
  clear d9
  go_wp2_with fail
  refine D9.out.mono ?_
  rintro e w15 ⟨rfl, h9, f12⟩
  have K12 : Hid (Kp (fun k => (G k ∨ k = A) ∨ k = Bb) w12 w15) := K11.out.trans f12
  clear f12 h8 K11 D9
  have FW : Hid (Kp G w w15) := F9.out.trans (Kp.less K12.out (fun _ hk => .inl (.inl hk)))
  have bA : Blk w15 A 59 (bs (fullB 1)) := Kp.blk K12.out HA2.out (.inl (.inr rfl))
  have bB : Blk w15 Bb 59 (bs (fullB 2)) := Kp.blk K12.out HB.out (.inr rfl)
  have cA0 := conv_blk (w := w15.drew) (fullB 1) bA 128 128 (fullB_length 1)
  have cA1 := conv_blk (w := (w15.alloc (.cells (bs (fullB 1)).toArray 5)).drew) (fullB 1) (bA.alloc _) 128 128 (fullB_length 1)
  have cF1 := conv_blk (w := (w15.alloc (.cells (bs (fullB 1)).toArray 5)).drew) (fullB 1) (Blk.new w15 5 (bs (fullB 1))) 128 128 (fullB_length 1)
  have cB0 := conv_blk (w := w15.drew) (fullB 2) bB 128 128 (fullB_length 2)
  have cA2 := conv_blk (w := ((w15.alloc (.cells (bs (fullB 1)).toArray 5)).alloc (.cells (bs (fullB 2)).toArray 5)).drew) (fullB 1) ((bA.alloc _).alloc _) 128 128 (fullB_length 1)
  have cB1 := conv_blk (w := (w15.alloc (.cells (bs (fullB 1)).toArray 5)).drew) (fullB 2) (bB.alloc _) 128 128 (fullB_length 2)
  have cB2 := conv_blk (w := ((w15.alloc (.cells (bs (fullB 1)).toArray 5)).alloc (.cells (bs (fullB 2)).toArray 5)).drew) (fullB 2) ((bB.alloc _).alloc _) 128 128 (fullB_length 2)
  have cF2 := conv_blk (w := ((w15.alloc (.cells (bs (fullB 1)).toArray 5)).alloc (.cells (bs (fullB 2)).toArray 5)).drew) (fullB 2) (Blk.new (w15.alloc (.cells (bs (fullB 1)).toArray 5)) 5 (bs (fullB 2))) 128 128 (fullB_length 2)
  have up9 := own_up (D := s9) ((h9.alloc (.cells (bs (fullB 1)).toArray 5)).alloc (.cells (bs (fullB 2)).toArray 5)).drew
  rw [u9] at up9
  have UP := hid up9
  have fu1 := hid (full_any w15.drew 1 (by omega) (by omega))
  have fu2 := hid (full_any (w15.alloc (.cells (bs (fullB 1)).toArray 5)).drew 2 (by omega) (by omega))
  clear up9 bA bB h9 K12 HA2 HB F9
  have e2 : (w15.alloc (.cells (bs (fullB 1)).toArray 5)).heap.size = w15.heap.size + 1 := by simp
  rw [e2] at cF2
  clear e2
  go_wp2_with fail
  refine wp_region_noPanic ?_
  refine wp_region_held_drew (S := fun w' => (convert 28 9 (.slice (some ⟨A, 0, none⟩) 128 128)).run Try.prog w' = .ok (.string (strB (fullB 1))) w' ∧ (convert 28 9 (.slice (some ⟨Bb, 0, none⟩) 128 128)).run Try.prog w' = .ok (.string (strB (fullB 2))) w') (by kernel_rfl) ⟨cA0, cB0⟩ (fun hHeld => ?_)
  refine takeH (i := 0) (d := some 55) (.int .i64 2) rfl (by kernel_rfl) (by kernel_rfl) (by kernel_rfl) (fun _ _ _ _ h => h) ⟨cA0, cB0⟩ (fun o ho => by cases ho; exact .inl ⟨by rfl, fun w hSw => by (obtain ⟨hs1, hs2⟩ := hSw; go_simp)⟩) ?_
  simp only [Act.put, List.setIfInBounds_toArray, List.set_cons_zero, List.set_cons_succ]
  refine takeH (i := 1) (d := some 56) (.bool true) rfl (by kernel_rfl) (by kernel_rfl) (by kernel_rfl) (fun _ _ _ _ h => h) ⟨cA0, cB0⟩ (fun o ho => by cases ho; exact .inl ⟨by rfl, fun w hSw => by (obtain ⟨hs1, hs2⟩ := hSw; go_simp)⟩) ?_
  simp only [Act.put, List.setIfInBounds_toArray, List.set_cons_zero, List.set_cons_succ]
  refine takeH (i := 2) (d := some 57) (.bool true) rfl (by kernel_rfl) (by kernel_rfl) (by kernel_rfl) (fun _ _ _ _ h => h) ⟨cA0, cB0⟩ (fun o ho => by cases ho; exact .inl ⟨by rfl, fun w hSw => by (obtain ⟨hs1, hs2⟩ := hSw; go_simp)⟩) ?_
  simp only [Act.put, List.setIfInBounds_toArray, List.set_cons_zero, List.set_cons_succ]
  refine takeH (i := 3) (d := some 58) (.int .i64 40) rfl (by kernel_rfl) (by kernel_rfl) (by kernel_rfl) (fun _ _ _ _ h => h) ⟨cA0, cB0⟩ (fun o ho => by cases ho; exact .inl ⟨by rfl, fun w hSw => by (obtain ⟨hs1, hs2⟩ := hSw; go_simp)⟩) ?_
  simp only [Act.put, List.setIfInBounds_toArray, List.set_cons_zero, List.set_cons_succ]
  refine takeH (i := 4) (d := some 59) (.bool true) rfl (by kernel_rfl) (by kernel_rfl) (by kernel_rfl) (fun _ _ _ _ h => h) ⟨cA0, cB0⟩ (fun o ho => by cases ho; exact .inl ⟨by rfl, fun w hSw => by (obtain ⟨hs1, hs2⟩ := hSw; go_simp)⟩) ?_
  simp only [Act.put, List.setIfInBounds_toArray, List.set_cons_zero, List.set_cons_succ]
  refine takeH (i := 5) (d := some 60) (.bool true) rfl (by kernel_rfl) (by kernel_rfl) (by kernel_rfl) (fun _ _ _ _ h => h) ⟨cA0, cB0⟩ (fun o ho => by cases ho; exact .inl ⟨by rfl, fun w hSw => by (obtain ⟨hs1, hs2⟩ := hSw; go_simp)⟩) ?_
  simp only [Act.put, List.setIfInBounds_toArray, List.set_cons_zero, List.set_cons_succ]
  refine takeH (i := 6) (d := some 61) (.bool true) rfl (by kernel_rfl) (by kernel_rfl) (by kernel_rfl) (fun _ _ _ _ h => h) ⟨cA0, cB0⟩ (fun o ho => by cases ho; exact .inl ⟨by rfl, fun w hSw => by (obtain ⟨hs1, hs2⟩ := hSw; go_simp)⟩) ?_
  simp only [Act.put, List.setIfInBounds_toArray, List.set_cons_zero, List.set_cons_succ]
  refine takeH (i := 7) (d := some 62) (.int .i64 0) rfl (by kernel_rfl) (by kernel_rfl) (by kernel_rfl) (fun _ _ _ _ h => h) ⟨cA0, cB0⟩ (fun o ho => by cases ho; exact .inl ⟨by rfl, fun w hSw => by (obtain ⟨hs1, hs2⟩ := hSw; go_simp)⟩) ?_
  simp only [Act.put, List.setIfInBounds_toArray, List.set_cons_zero, List.set_cons_succ]
  refine takeH (i := 8) (d := some 63) (.bool true) rfl (by kernel_rfl) (by kernel_rfl) (by kernel_rfl) (fun _ _ _ _ h => h) ⟨cA0, cB0⟩ (fun o ho => by cases ho; exact .inl ⟨by rfl, fun w hSw => by (obtain ⟨hs1, hs2⟩ := hSw; go_simp)⟩) ?_
  simp only [Act.put, List.setIfInBounds_toArray, List.set_cons_zero, List.set_cons_succ]
  refine takeH (i := 9) (d := some 64) (.bool true) rfl (by kernel_rfl) (by kernel_rfl) (by kernel_rfl) (fun _ _ _ _ h => h) ⟨cA0, cB0⟩ (fun o ho => by cases ho; exact .inl ⟨by rfl, fun w hSw => by (obtain ⟨hs1, hs2⟩ := hSw; go_simp)⟩) ?_
  simp only [Act.put, List.setIfInBounds_toArray, List.set_cons_zero, List.set_cons_succ]
  refine takeH (i := 10) (d := some 65) (.bool true) rfl (by kernel_rfl) (by kernel_rfl) (by kernel_rfl) (fun _ _ _ _ h => h) ⟨cA0, cB0⟩ (fun o ho => by cases ho; exact .inl ⟨by rfl, fun w hSw => by (obtain ⟨hs1, hs2⟩ := hSw; go_simp)⟩) ?_
  simp only [Act.put, List.setIfInBounds_toArray, List.set_cons_zero, List.set_cons_succ]
  refine takeH (i := 11) (d := some 66) (.slice (some ⟨A, 0, none⟩) 128 128) rfl (by kernel_rfl) (by kernel_rfl) (by kernel_rfl) (fun _ _ _ _ h => h) ⟨cA0, cB0⟩ (fun o ho => by cases ho; exact .inl ⟨by rfl, fun w hSw => by (obtain ⟨hs1, hs2⟩ := hSw; go_simp)⟩) ?_
  simp only [Act.put, List.setIfInBounds_toArray, List.set_cons_zero, List.set_cons_succ]
  refine takeH (i := 12) (d := some 67) (.string (strB (fullB 1))) rfl (by kernel_rfl) (by kernel_rfl) (by kernel_rfl) (fun _ _ _ _ h => h) ⟨cA0, cB0⟩ (fun o ho => by cases ho; exact .inl ⟨by rfl, fun w hSw => by (obtain ⟨hs1, hs2⟩ := hSw; go_simp)⟩) ?_
  simp only [Act.put, List.setIfInBounds_toArray, List.set_cons_zero, List.set_cons_succ]
  refine oneH (i := 13) (by kernel_rfl) (fun o ho K' hK => ?_) (by decide)
  cases ho
  rw [if_pos (by rfl)]
  go_simp
  refine fu1.out.mono ?_
  rintro e w' ⟨rfl, rfl⟩
  refine hK.out _ _ ⟨cA1, cB1⟩ ?_
  clear hK K'
  try simp only [Act.put, List.setIfInBounds_toArray, List.set_cons_zero, List.set_cons_succ]
  refine oneH (i := 14) (by kernel_rfl) (fun o ho K' hK => ?_) (by decide)
  cases ho
  rw [if_pos (by rfl)]
  go_simp
  refine hK.out _ _ ⟨cA1, cB1⟩ ?_
  clear hK K'
  try simp only [Act.put, List.setIfInBounds_toArray, List.set_cons_zero, List.set_cons_succ]
  refine takeH (i := 15) (d := some 70) (.bool true) rfl (by kernel_rfl) (by kernel_rfl) (by kernel_rfl) (fun _ _ _ _ h => h) ⟨cA1, cB1⟩ (fun o ho => by cases ho; exact .inl ⟨by rfl, fun w hSw => by (obtain ⟨hs1, hs2⟩ := hSw; go_simp)⟩) ?_
  simp only [Act.put, List.setIfInBounds_toArray, List.set_cons_zero, List.set_cons_succ]
  refine takeH (i := 16) (d := some 71) (.bool true) rfl (by kernel_rfl) (by kernel_rfl) (by kernel_rfl) (fun _ _ _ _ h => h) ⟨cA1, cB1⟩ (fun o ho => by cases ho; exact .inl ⟨by rfl, fun w hSw => by (obtain ⟨hs1, hs2⟩ := hSw; go_simp)⟩) ?_
  simp only [Act.put, List.setIfInBounds_toArray, List.set_cons_zero, List.set_cons_succ]
  refine takeH (i := 17) (d := some 72) (.bool true) rfl (by kernel_rfl) (by kernel_rfl) (by kernel_rfl) (fun _ _ _ _ h => h) ⟨cA1, cB1⟩ (fun o ho => by cases ho; exact .inl ⟨by rfl, fun w hSw => by (obtain ⟨hs1, hs2⟩ := hSw; go_simp)⟩) ?_
  simp only [Act.put, List.setIfInBounds_toArray, List.set_cons_zero, List.set_cons_succ]
  refine takeH (i := 18) (d := some 73) (.slice (some ⟨Bb, 0, none⟩) 128 128) rfl (by kernel_rfl) (by kernel_rfl) (by kernel_rfl) (fun _ _ _ _ h => h) ⟨cA1, cB1⟩ (fun o ho => by cases ho; exact .inl ⟨by rfl, fun w hSw => by (obtain ⟨hs1, hs2⟩ := hSw; go_simp)⟩) ?_
  simp only [Act.put, List.setIfInBounds_toArray, List.set_cons_zero, List.set_cons_succ]
  refine takeH (i := 19) (d := some 74) (.string (strB (fullB 2))) rfl (by kernel_rfl) (by kernel_rfl) (by kernel_rfl) (fun _ _ _ _ h => h) ⟨cA1, cB1⟩ (fun o ho => by cases ho; exact .inl ⟨by rfl, fun w hSw => by (obtain ⟨hs1, hs2⟩ := hSw; go_simp)⟩) ?_
  simp only [Act.put, List.setIfInBounds_toArray, List.set_cons_zero, List.set_cons_succ]
  refine oneH (i := 20) (by kernel_rfl) (fun o ho K' hK => ?_) (by decide)
  cases ho
  rw [if_pos (by rfl)]
  go_simp
  refine fu2.out.mono ?_
  rintro e w' ⟨rfl, rfl⟩
  refine hK.out _ _ ⟨cA2, cB2⟩ ?_
  clear hK K'
  try simp only [Act.put, List.setIfInBounds_toArray, List.set_cons_zero, List.set_cons_succ]
  refine oneH (i := 21) (by kernel_rfl) (fun o ho K' hK => ?_) (by decide)
  cases ho
  rw [if_pos (by rfl)]
  go_simp
  refine hK.out _ _ ⟨cA2, cB2⟩ ?_
  clear hK K'
  try simp only [Act.put, List.setIfInBounds_toArray, List.set_cons_zero, List.set_cons_succ]
  refine takeH (i := 22) (d := some 77) (.bool true) rfl (by kernel_rfl) (by kernel_rfl) (by kernel_rfl) (fun _ _ _ _ h => h) ⟨cA2, cB2⟩ (fun o ho => by cases ho; exact .inl ⟨by rfl, fun w hSw => by (obtain ⟨hs1, hs2⟩ := hSw; go_simp)⟩) ?_
  simp only [Act.put, List.setIfInBounds_toArray, List.set_cons_zero, List.set_cons_succ]
  refine takeH (i := 23) (d := some 78) (.bool true) rfl (by kernel_rfl) (by kernel_rfl) (by kernel_rfl) (fun _ _ _ _ h => h) ⟨cA2, cB2⟩ (fun o ho => by cases ho; exact .inl ⟨by rfl, fun w hSw => by (obtain ⟨hs1, hs2⟩ := hSw; go_simp)⟩) ?_
  simp only [Act.put, List.setIfInBounds_toArray, List.set_cons_zero, List.set_cons_succ]
  refine takeH (i := 24) (d := some 79) (.bool true) rfl (by kernel_rfl) (by kernel_rfl) (by kernel_rfl) (fun _ _ _ _ h => h) ⟨cA2, cB2⟩ (fun o ho => by cases ho; exact .inl ⟨by rfl, fun w hSw => by (obtain ⟨hs1, hs2⟩ := hSw; go_simp)⟩) ?_
  simp only [Act.put, List.setIfInBounds_toArray, List.set_cons_zero, List.set_cons_succ]
  refine takeH (i := 25) (d := some 80) (.int .i64 0) rfl (by kernel_rfl) (by kernel_rfl) (by kernel_rfl) (fun _ _ _ _ h => h) ⟨cA2, cB2⟩ (fun o ho => by cases ho; exact .inl ⟨by rfl, fun w hSw => by (obtain ⟨hs1, hs2⟩ := hSw; go_simp)⟩) ?_
  simp only [Act.put, List.setIfInBounds_toArray, List.set_cons_zero, List.set_cons_succ]
  refine takeH (i := 26) (d := some 81) (.bool true) rfl (by kernel_rfl) (by kernel_rfl) (by kernel_rfl) (fun _ _ _ _ h => h) ⟨cA2, cB2⟩ (fun o ho => by cases ho; exact .inl ⟨by rfl, fun w hSw => by (obtain ⟨hs1, hs2⟩ := hSw; go_simp)⟩) ?_
  simp only [Act.put, List.setIfInBounds_toArray, List.set_cons_zero, List.set_cons_succ]
  refine takeH (i := 27) (d := some 82) (.bool true) rfl (by kernel_rfl) (by kernel_rfl) (by kernel_rfl) (fun _ _ _ _ h => h) ⟨cA2, cB2⟩ (fun o ho => by cases ho; exact .inl ⟨by rfl, fun w hSw => by (obtain ⟨hs1, hs2⟩ := hSw; go_simp)⟩) ?_
  simp only [Act.put, List.setIfInBounds_toArray, List.set_cons_zero, List.set_cons_succ]
  refine takeH (i := 28) (d := some 83) (.bool true) rfl (by kernel_rfl) (by kernel_rfl) (by kernel_rfl) (fun _ _ _ _ h => h) ⟨cA2, cB2⟩ (fun o ho => by cases ho; exact .inl ⟨by rfl, fun w hSw => by (obtain ⟨hs1, hs2⟩ := hSw; go_simp)⟩) ?_
  simp only [Act.put, List.setIfInBounds_toArray, List.set_cons_zero, List.set_cons_succ]
  refine takeH (i := 29) (d := some 84) (.int .i64 41) rfl (by kernel_rfl) (by kernel_rfl) (by kernel_rfl) (fun _ _ _ _ h => h) ⟨cA2, cB2⟩ (fun o ho => by cases ho; exact .inl ⟨by rfl, fun w hSw => by (obtain ⟨hs1, hs2⟩ := hSw; go_simp)⟩) ?_
  simp only [Act.put, List.setIfInBounds_toArray, List.set_cons_zero, List.set_cons_succ]
  refine takeH (i := 30) (d := some 85) (.bool true) rfl (by kernel_rfl) (by kernel_rfl) (by kernel_rfl) (fun _ _ _ _ h => h) ⟨cA2, cB2⟩ (fun o ho => by cases ho; exact .inl ⟨by rfl, fun w hSw => by (obtain ⟨hs1, hs2⟩ := hSw; go_simp)⟩) ?_
  simp only [Act.put, List.setIfInBounds_toArray, List.set_cons_zero, List.set_cons_succ]
  refine takeH (i := 31) (d := some 86) (.bool true) rfl (by kernel_rfl) (by kernel_rfl) (by kernel_rfl) (fun _ _ _ _ h => h) ⟨cA2, cB2⟩ (fun o ho => by cases ho; exact .inl ⟨by rfl, fun w hSw => by (obtain ⟨hs1, hs2⟩ := hSw; go_simp)⟩) ?_
  simp only [Act.put, List.setIfInBounds_toArray, List.set_cons_zero, List.set_cons_succ]
  refine takeH (i := 32) (d := some 87) (.bool true) rfl (by kernel_rfl) (by kernel_rfl) (by kernel_rfl) (fun _ _ _ _ h => h) ⟨cA2, cB2⟩ (fun o ho => by cases ho; exact .inl ⟨by rfl, fun w hSw => by (obtain ⟨hs1, hs2⟩ := hSw; go_simp)⟩) ?_
  simp only [Act.put, List.setIfInBounds_toArray, List.set_cons_zero, List.set_cons_succ]
  refine takeH (i := 33) (d := some 88) (pv p) rfl (by kernel_rfl) (by kernel_rfl) (by kernel_rfl) (fun _ _ _ _ h => h) ⟨cA2, cB2⟩ (fun o ho => by cases ho; exact .inl ⟨by rfl, fun w hSw => by (obtain ⟨hs1, hs2⟩ := hSw; go_simp)⟩) ?_
  simp only [Act.put, List.setIfInBounds_toArray, List.set_cons_zero, List.set_cons_succ]
  refine oneH (i := 34) (by kernel_rfl) (fun o ho K' hK => ?_) (by decide)
  cases ho
  rw [if_pos (by rfl)]
  go_simp
  refine UP.out.mono ?_
  rintro e w' ⟨rfl, rfl⟩
  refine hK.out _ _ ⟨cA2, cB2⟩ ?_
  clear hK K'
  try simp only [Act.put, List.setIfInBounds_toArray, List.set_cons_zero, List.set_cons_succ]
  refine takeH (i := 35) (d := some 90) (.bool true) rfl (by kernel_rfl) (by kernel_rfl) (by kernel_rfl) (fun _ _ _ _ h => h) ⟨cA2, cB2⟩ (fun o ho => by cases ho; exact .inl ⟨by rfl, fun w hSw => by (obtain ⟨hs1, hs2⟩ := hSw; go_simp)⟩) ?_
  simp only [Act.put, List.setIfInBounds_toArray, List.set_cons_zero, List.set_cons_succ]
  refine takeH (i := 36) (d := some 91) (.bool true) rfl (by kernel_rfl) (by kernel_rfl) (by kernel_rfl) (fun _ _ _ _ h => h) ⟨cA2, cB2⟩ (fun o ho => by cases ho; exact .inl ⟨by rfl, fun w hSw => by (obtain ⟨hs1, hs2⟩ := hSw; go_simp)⟩) ?_
  simp only [Act.put, List.setIfInBounds_toArray, List.set_cons_zero, List.set_cons_succ]
  refine takeH (i := 37) (d := some 0) (.bool true) rfl (by kernel_rfl) (by kernel_rfl) (by kernel_rfl) (fun _ _ _ _ h => h) ⟨cA2, cB2⟩ (fun o ho => by cases ho; exact .inl ⟨by rfl, fun w hSw => by (obtain ⟨hs1, hs2⟩ := hSw; go_simp)⟩) ?_
  simp only [Act.put, List.setIfInBounds_toArray, List.set_cons_zero]
  refine wpAnyH_done (by kernel_rfl) (NoPanic.normal ?_) _
  go_wp2
  go_ret
  exact ⟨rfl, Fr.drew (Fr.alloc (Fr.alloc FW.out _) _)⟩

end Go.Proofs.Ytdempopelalafaa.Dk
