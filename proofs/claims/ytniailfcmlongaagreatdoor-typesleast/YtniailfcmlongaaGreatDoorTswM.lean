import Derived.Test.YtniailfcmlongaaGreatDoorTmgM
/- The contracts of text, shown. -/
namespace Go.Proofs.YtniailfcmlongaaGreatDoor.Tr
open Go.RowKit Go.Sort

set_option maxRecDepth 100000 in
set_option maxHeartbeats 1000000 in
theorem text_any (w : World) (t : List UInt8) : Calls Tryz.prog 20 #[.string ⟨t.toArray⟩] w fun e w' => e = .returned (vS t).v ∧ Fr (fun _ => False) w w' := by
  have HF := hid (vFr w (vS t))
  have hst := fun (W : World) (a : Addr) (m : Mode) (f : Nat) => run_store Tryz.prog W a (.float .f64 f) m rfl
  go_enter Tryz.func20, Tryz.ntmps20
  go_wp2
  exact bodyPost_ret (resV rfl rfl (vBlk w (vS t))) rfl ⟨rfl, HF.out⟩

theorem ds_two {W : World} {g : Nat} {d0 d1 : Dt} {y0 y1 : Dv} (hB : Blk W g 30 (y0.cs ++ y1.cs)) (h0 : DIn W d0 y0) (h1 : DIn W d1 y1) : DsIn W [d0, d1] (some ⟨g, 0, none⟩) := fun _ => ⟨g, 0, rfl, fun i hi => by
  match i, hi with
  | 0, _ => exact ⟨y0, ⟨hB.cell 0, hB.cell 1, hB.cell 2, hB.cell 3, hB.cell 4, hB.cell 5, hB.cell 6, hB.cell 7⟩, h0⟩
  | 1, _ => exact ⟨y1, ⟨hB.cell 8, hB.cell 9, hB.cell 10, hB.cell 11, hB.cell 12, hB.cell 13, hB.cell 14, hB.cell 15⟩, h1⟩⟩
theorem ds_one {W : World} {g : Nat} {d0 : Dt} {y0 : Dv} (hB : Blk W g 30 y0.cs) (h0 : DIn W d0 y0) : DsIn W [d0] (some ⟨g, 0, none⟩) := fun _ => ⟨g, 0, rfl, fun i hi => by
  match i, hi with
  | 0, _ => exact ⟨y0, ⟨hB.cell 0, hB.cell 1, hB.cell 2, hB.cell 3, hB.cell 4, hB.cell 5, hB.cell 6, hB.cell 7⟩, h0⟩⟩
theorem cnt_two (a b : Dt) (h : a.p = b.p) : cntF [a, b] = [a, b] := by
  unfold cntF leastP
  simp [lessP, h]
theorem cnt_one (a : Dt) : cntF [a] = [a] := by
  unfold cntF leastP
  simp
theorem insT_one (a : Dt) : insT [a] = [a] := by
  unfold insT Sort.insertionSort
  rw [Sort.insOuter, if_neg (by simp)]
theorem insT_two (a b : Dt) : insT [a, b] = if b.o < a.o then [b, a] else [a, b] := by
  unfold insT Sort.insertionSort
  rw [Sort.insOuter, if_pos (by simp), Sort.insOuter, if_neg (by simp)]
  unfold Sort.insInner
  have e : ltOf cfT [a, b].toArray[0 + 1]! [a, b].toArray[0]! = decide (b.o < a.o) := cmpInt_lt b.o a.o
  rw [e]
  by_cases h : b.o < a.o
  · rw [if_pos h, if_pos (by simp [h])]
    unfold Sort.insInner
    rfl
  · rw [if_neg h, if_neg (by simp [h])]
theorem vin_int (w : World) (n : Int) (h : I64 n) : VIn w (.mk 2 n 0 [] [] []) (vI n) := by
  rw [VIn]
  exact ⟨⟨rfl, rfl, rfl, rfl⟩, ⟨⟨by decide, by decide⟩, h, by simp, by simp⟩, ⟨rfl, by simp, by simp, fun e => absurd rfl e⟩, ⟨rfl, by simp, by simp⟩, by rw [IIn]; trivial⟩
theorem rt_int (n : Int) : rtB (.mk 2 n 0 [] [] []) 32 = true := by rw [rtB]; rfl

theorem merge_a (W : World) (hm : Mx W) (cap g : Nat) (hB : Blk W g 30 (Dv.cs ⟨vS [97], 0, 2⟩ ++ Dv.cs ⟨vS [98], 0, 1⟩)) : Calls Tryz.prog 17 #[.string ⟨#[108, 105, 110, 101, 115]⟩, .slice (some ⟨g, 0, none⟩) 2 cap] W fun e w' => MPost W (.inl (.mk 4 0 0 [98, 10, 97] [] [])) e w' := by
  have hcf : cntF [⟨.mk 4 0 0 [97] [] [], 0, 2⟩, ⟨.mk 4 0 0 [98] [] [], 0, 1⟩] = [⟨.mk 4 0 0 [97] [] [], 0, 2⟩, ⟨.mk 4 0 0 [98] [] [], 0, 1⟩] := cnt_two _ _ rfl
  have hc : cntV [⟨.mk 4 0 0 [97] [] [], 0, 2⟩, ⟨.mk 4 0 0 [98] [] [], 0, 1⟩] = [.mk 4 0 0 [98] [] [], .mk 4 0 0 [97] [] []] := by
    unfold cntV
    rw [hcf, insT_two, if_pos (by decide)]
    rfl
  have hr : ∀ c : UInt8, rtB (.mk 4 0 0 [c] [] []) 32 = true := fun c => by rw [rtB]; rfl
  refine Merge_of W sLines [⟨.mk 4 0 0 [97] [] [], 0, 2⟩, ⟨.mk 4 0 0 [98] [] [], 0, 1⟩] _ cap (by decide) hm (.bare sLines) rfl
    (ds_two hB ⟨vin_text W [97] (by decide), rfl, rfl, ⟨by decide, by decide⟩, ⟨by decide, by decide⟩⟩ ⟨vin_text W [98] (by decide), rfl, rfl, ⟨by decide, by decide⟩, ⟨by decide, by decide⟩⟩) (by decide) (by simp) (by rw [hcf]; decide) (by rw [hcf]; decide) (by simp [hr]) ?_ _ (fun v hv => by cases hv; exact ⟨rfl, rfl⟩) ?_ ?_
  · rw [hc]; intro v hv
    simp only [List.mem_cons, List.not_mem_nil, or_false] at hv
    rcases hv with rfl | rfl <;> exact hr _
  · rw [hc]; intro h; exact absurd h (by decide)
  · rw [hc]
    intro _ V b ia ic hK hI hic
    have h := mergeLines_any (vBox V vZ) [.mk 4 0 0 [98] [] [], .mk 4 0 0 [97] [] []] ia ic (IIn.env (Env.alloc V _) _ _ hI) (by decide) (by decide) (fun u hu => by
      simp only [List.mem_cons, List.not_mem_nil, or_false] at hu
      rcases hu with rfl | rfl <;> exact hr _)
    exact merge_lines V sLines rfl b ia 2 ic _ (fun v hv => by cases hv; exact ⟨rfl, rfl⟩) hK h

theorem merge_b (W : World) (hm : Mx W) (cap g : Nat) (hB : Blk W g 30 (Dv.cs ⟨vI 1, 0, 0⟩ ++ Dv.cs ⟨vI 2, 0, 0⟩)) : Calls Tryz.prog 17 #[.string ⟨#[105, 110, 116]⟩, .slice (some ⟨g, 0, none⟩) 2 cap] W fun e w' => MPost W (.inr 27) e w' := by
  have hcf : cntF [⟨.mk 2 1 0 [] [] [], 0, 0⟩, ⟨.mk 2 2 0 [] [] [], 0, 0⟩] = [⟨.mk 2 1 0 [] [] [], 0, 0⟩, ⟨.mk 2 2 0 [] [] [], 0, 0⟩] := cnt_two _ _ rfl
  have hc : cntV [⟨.mk 2 1 0 [] [] [], 0, 0⟩, ⟨.mk 2 2 0 [] [] [], 0, 0⟩] = [.mk 2 1 0 [] [] [], .mk 2 2 0 [] [] []] := by
    unfold cntV
    rw [hcf, insT_two, if_neg (by decide)]
    rfl
  have he : (eqV (.mk 2 1 0 [] [] []) (.mk 2 2 0 [] [] [])).1 = false := by
    rw [eqV_eq]
    rfl
  have hq : meq [.mk 2 1 0 [] [] [], .mk 2 2 0 [] [] []] = .inr 27 := by
    show (if ([Vt.mk 2 2 0 [] [] []].all fun u => (eqV (.mk 2 1 0 [] [] []) u).1) = true then Sum.inl (Vt.mk 2 1 0 [] [] []) else Sum.inr 27) = _
    rw [if_neg (by simp [he])]
  have hrr : ∀ v ∈ [Vt.mk 2 1 0 [] [] [], Vt.mk 2 2 0 [] [] []], rtB v 32 = true := fun v hv => by
    simp only [List.mem_cons, List.not_mem_nil, or_false] at hv
    rcases hv with rfl | rfl <;> exact rt_int _
  refine Merge_of W sInt [⟨.mk 2 1 0 [] [] [], 0, 0⟩, ⟨.mk 2 2 0 [] [] [], 0, 0⟩] _ cap (by decide) hm (.int (-9223372036854775808) 9223372036854775807) rfl
    (ds_two hB ⟨vin_int W 1 ⟨by decide, by decide⟩, rfl, rfl, ⟨by decide, by decide⟩, ⟨by decide, by decide⟩⟩ ⟨vin_int W 2 ⟨by decide, by decide⟩, rfl, rfl, ⟨by decide, by decide⟩, ⟨by decide, by decide⟩⟩) (by decide) (by simp) (by rw [hcf]; decide) (by rw [hcf]; decide) (by simp [rt_int]) ?_ _ (fun v hv => by cases hv) ?_ ?_
  · rw [hc]; exact hrr
  · rw [hc]; intro h; exact absurd h (by decide)
  · rw [hc]
    intro _ V b ia ic hK hI hic
    have h := mergeEqual_any (vBox V vZ) (.mk 2 1 0 [] [] []) [.mk 2 2 0 [] [] []] ia ic (IIn.env (Env.alloc V _) _ _ hI) hic (by decide) hrr rfl rfl
    rw [hq] at h
    exact merge_eq V sInt (.inr (.inr (.inl rfl))) b ia 2 ic _ (fun v hv => by cases hv) hK.1 h

theorem shown_r1 : (readT [97, 116, 116, 114, 115, 32, 108, 105, 115, 116, 32, 105, 110, 116, 32, 49, 32, 57]).isSome = true := by decide +kernel
theorem shown_r2 : (readT [108, 105, 115, 116]).isSome = false := by decide +kernel
end Go.Proofs.YtniailfcmlongaaGreatDoor.Tr
/- The contract of shown. -/
namespace Go.Proofs.YtniailfcmlongaaGreatDoor.Tr
open Go.RowKit

theorem size_box (w : World) (x : Vv) : (vBox w x).heap.size = w.heap.size + 1 := by simp

set_option maxRecDepth 100000 in
set_option maxHeartbeats 4000000 in
theorem shown_any (w : World) (hm : Mx w) : Calls Tryz.prog 10 #[] w fun e w' => e = .returned (.bool true) ∧ Fr (fun _ => False) w w' := by
  have hst := fun (W : World) (a : Addr) (m : Mode) (f : Nat) => run_store Tryz.prog W a (.float .f64 f) m rfl
  have HA := hid (fun W => text_any W [97])
  have HB := hid (fun W => text_any W [98])
  have HM1 : Hid (∀ W cap, Env w W → Calls Tryz.prog 17 #[.string ⟨#[108, 105, 110, 101, 115]⟩, .slice (some ⟨W.heap.size, 0, none⟩) 2 cap] (W.alloc (.cells #[.int .i64 4, .int .i64 0, .float .f64 0, .string ⟨#[97]⟩, .slice none 0 0, .slice none 0 0, .int .i64 0, .int .i64 2, .int .i64 4, .int .i64 0, .float .f64 0, .string ⟨#[98]⟩, .slice none 0 0, .slice none 0 0, .int .i64 0, .int .i64 1] 30)) fun e w' => MPost (W.alloc (.cells #[.int .i64 4, .int .i64 0, .float .f64 0, .string ⟨#[97]⟩, .slice none 0 0, .slice none 0 0, .int .i64 0, .int .i64 2, .int .i64 4, .int .i64 0, .float .f64 0, .string ⟨#[98]⟩, .slice none 0 0, .slice none 0 0, .int .i64 0, .int .i64 1] 30)) (.inl (.mk 4 0 0 [98, 10, 97] [] [])) e w') := fun W cap e => merge_a _ ((hm.env e).env (Env.alloc W _)) cap W.heap.size (Blk.new W _ (Dv.cs ⟨vS [97], 0, 2⟩ ++ Dv.cs ⟨vS [98], 0, 1⟩))
  have HM2 : Hid (∀ W g cap, g = W.heap.size → Env w W → Calls Tryz.prog 17 #[.string ⟨#[105, 110, 116]⟩, .slice (some ⟨g, 0, none⟩) 2 cap] (W.alloc (.cells #[.int .i64 2, .int .i64 1, .float .f64 0, .string ⟨#[]⟩, .slice none 0 0, .slice none 0 0, .int .i64 0, .int .i64 0, .int .i64 2, .int .i64 2, .float .f64 0, .string ⟨#[]⟩, .slice none 0 0, .slice none 0 0, .int .i64 0, .int .i64 0] 30)) fun e w' => MPost (W.alloc (.cells #[.int .i64 2, .int .i64 1, .float .f64 0, .string ⟨#[]⟩, .slice none 0 0, .slice none 0 0, .int .i64 0, .int .i64 0, .int .i64 2, .int .i64 2, .float .f64 0, .string ⟨#[]⟩, .slice none 0 0, .slice none 0 0, .int .i64 0, .int .i64 0] 30)) (.inr 27) e w') := fun W g cap hg e => hg ▸ merge_b _ ((hm.env e).env (Env.alloc W _)) cap W.heap.size (Blk.new W _ (Dv.cs ⟨vI 1, 0, 0⟩ ++ Dv.cs ⟨vI 2, 0, 0⟩))
  have HR1 : Hid (∀ W, Env w W → Calls Tryz.prog 12 #[.string ⟨#[97, 116, 116, 114, 115, 32, 108, 105, 115, 116, 32, 105, 110, 116, 32, 49, 32, 57]⟩] W fun e w' => e = .returned (.bool true) ∧ Fr (fun _ => False) W w') := fun W e => by
    have := tRight_any W [97, 116, 116, 114, 115, 32, 108, 105, 115, 116, 32, 105, 110, 116, 32, 49, 32, 57] (by decide) (hm.env e)
    rw [shown_r1] at this; exact this
  have HR2 : Hid (∀ W, Env w W → Calls Tryz.prog 12 #[.string ⟨#[108, 105, 115, 116]⟩] W fun e w' => e = .returned (.bool false) ∧ Fr (fun _ => False) W w') := fun W e => by
    have := tRight_any W [108, 105, 115, 116] (by decide) (hm.env e)
    rw [shown_r2] at this; exact this
  clear hm
  go_enter Tryz.func10, Tryz.ntmps10
  go_wp2_with fail
  refine (HA.out _).mono ?_
  rintro e w1 ⟨rfl, f1⟩
  have HF1 := hid f1
  clear f1
  go_wp2_with fail
  refine (HB.out _).mono ?_
  rintro e w2 ⟨rfl, f2⟩
  have HF2 := hid (HF1.out.trans f2 (fun _ h => h.elim))
  clear f2 HF1
  go_wp2_with fail
  refine (HM1.out w2 _ (Env.of HF2.out)).mono ?_
  rintro e w3 ⟨f3, ⟨er, h1, _⟩ | ⟨v1, x, h1, rfl, hv1⟩⟩
  · cases h1
  cases h1
  have hxt : x.t = [98, 10, 97] := hv1.parts.1.2.2.2
  have HF3 : Hid (Fr (fun _ => False) w w3) := (HF2.out.alloc _).trans f3 (fun _ h => h.elim)
  clear f3 HF2 hv1
  have HF4 := hid (HF3.out.trans (vFr w3 x) (fun _ h => h.elim))
  have HB4 := hid (vBlk w3 x)
  obtain ⟨k, n, f, t, na, nl, nc, ia, il, ic⟩ := x
  simp only at hxt
  subst hxt
  go_wp2_with fail
  refine (HM2.out (vBox w3 ⟨k, n, f, [98, 10, 97], na, nl, nc, ia, il, ic⟩) _ _ (size_box _ _).symm (Env.of HF4.out)).mono ?_
  rintro e w5 ⟨f5, ⟨er, h1, rfl⟩ | ⟨v1, x, h1, _⟩⟩
  case inr => cases h1
  cases h1
  have HF5 : Hid (Fr (fun _ => False) w w5) := (HF4.out.alloc _).trans f5 (fun _ h => h.elim)
  have HB5 := hid (f5.blk (HB4.out.alloc _) (fun h => h))
  clear f5 HF4 HB4
  have HF6 := hid (HF5.out.trans (vFr w5 vZ) (fun _ h => h.elim))
  obtain ⟨c0, c1, c2, c3, c4, c5⟩ := (HB5.out.alloc (.cells #[.int .i64 0, .int .i64 0, .float .f64 0, .string ⟨#[]⟩, .slice none 0 0, .slice none 0 0] 26)).six
  go_wp2_with fail
  refine (HR1.out _ (Env.of HF6.out)).mono ?_
  rintro e w7 ⟨rfl, f7⟩
  have HF7 := hid (HF6.out.trans f7 (fun _ h => h.elim))
  clear f7 c0 c1 c2 c3 c4 c5
  go_wp2_with fail
  refine (HR2.out _ (Env.of HF7.out)).mono ?_
  rintro e w8 ⟨rfl, f8⟩
  have HF8 := hid (HF7.out.trans f8 (fun _ h => h.elim))
  clear f8
  go_wp2_with fail
  go_ret
  exact ⟨rfl, HF8.out⟩
end Go.Proofs.YtniailfcmlongaaGreatDoor.Tr
