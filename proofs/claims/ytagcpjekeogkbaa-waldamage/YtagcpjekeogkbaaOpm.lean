/- Open, where the control is none. -/
import Derived.Test.YtagcpjekeogkbaaOpx
import Derived.Test.YtagcpjekeogkbaaShw
namespace Go.Proofs.Ytagcpjekeogkbaa.Wl
open Go.RowKit Dk

set_option maxRecDepth 100000 in
set_option maxHeartbeats 4000000 in
theorem Open_no {G : Nat → Prop} {w : World} {p : Nat} {D : Dsk} (h : Dk.Own G w p D) (f n : Nat) (hup : D.up = true) (hmb : mayBe (f : Int) (n : Int) (D.n : Int) = true) (hc : isCtl (sec D.N f) = false) :
    Calls Try.prog 20 #[pv p, .int .i64 (f : Int), .int .i64 (n : Int)] w (OpenNo G w p D 46) := by
  have hmb' := hmb
  simp only [mayBe, Bool.and_eq_true, decide_eq_true_eq] at hmb'
  have hn1 : 4 ≤ n ∧ n ≤ 255 ∧ f + n ≤ D.n := by omega
  have hz := zero66
  have HL := hid (own_size h)
  have HF1 : Hid (Nw w (w.alloc (.cells #[.int .i64 (f : Int), .int .i64 (n : Int), .int .i64 (D.n : Int)] 59))) := (Fr.refl _ w).alloc _
  have HM := hid (mayBe_any (w.alloc (.cells #[.int .i64 (f : Int), .int .i64 (n : Int), .int .i64 (D.n : Int)] 59)) (f : Int) (n : Int) D.n h.ok.n2)
  rw [hmb] at HM
  have HB8 := hid (Blk.new w 59 [.int .i64 (f : Int), .int .i64 (n : Int), .int .i64 (D.n : Int)])
  have H0 := hid h
  have Hlen : Hid ((sec D.N f).length = 128) := sec_length _ _ _ h.ok.lN (by omega)
  have HRd := hid (fun W (fW : Nw w W) => readSector_ok (own_nw h fW) f hup (by omega))
  have HCt := hid (fun W => controlOf_any W (sec D.N f) Hlen.out)
  have HCp : Hid (∀ W x w', CtlPost (sec D.N f) W x w' → x = .returned (.tuple #[cV 0 0 0, .bool false]) ∧ Nw W w') := fun W x w' hp => by
    obtain ⟨hx, hf⟩ := hp
    rw [hc, if_neg (by simp)] at hx
    exact ⟨hx, hf⟩
  have Hn1 := hid hn1
  unfold rgV at HM
  unfold cV at HCp
  generalize sec D.N f = s at *
  clear h hmb hmb' hc hn1
  go_enter Try.func20, Try.ntmps20
  go_wp2_with fail
  refine HL.out.mono ?_
  rintro x w1 ⟨rfl, rfl⟩
  clear HL
  go_wp2_with fail
  refine HM.out.mono ?_
  rintro x w2 ⟨rfl, f2⟩
  have HF2 := hid (Nw.tr HF1.out f2)
  have HB82 := hid (Fr.blk f2 HB8.out id)
  clear HM HF1 HB8 f2
  go_wp2_with fail
  refine (HRd.out w2 HF2.out).mono ?_
  rintro x w3 ⟨rfl, f3⟩
  have HF3 := hid ((Nw.tr HF2.out f3).alloc (.cells (bs s).toArray 66))
  have HB83 := hid ((Fr.blk f3 HB82.out id).alloc (.cells (bs s).toArray 66))
  have HB9 := hid (Blk.new w3 66 (bs s))
  clear HRd HF2 HB82 f3
  unfold arrV at HCt ⊢
  go_wp2_with (first
    | (refine store66n (by rfl) _ _ (by rfl) s Hlen.out zs66 (by rfl) (by rfl) ?_)
    | (refine wpList_load_mid (by rfl) 66 _ (by rfl) w3.heap.size 0 (by rfl) (bs s) _ (HB9.out.range 0 _ (by simp)) Try.underlying66 rfl (by rw [size66, bs_length, Hlen.out]) ?_))
  refine (HCt.out _).mono ?_
  intro x w4 hpost
  obtain ⟨rfl, f4⟩ := HCp.out _ _ _ hpost
  have HF4 := hid (Nw.tr HF3.out f4)
  have HB84 := hid (Fr.blk f4 HB83.out id)
  clear HCt HCp hpost f4 HF3 HB83 HB9
  go_wp2_with fail
  have hB85 := (HB84.out.alloc (.cells #[.int .u64 0, .int .i64 0, .int .u64 0] 61)).drew
  have hB11 := (Blk.new w4 61 [.int .u64 0, .int .i64 0, .int .u64 0]).drew
  have a0 : (w4.alloc (.cells #[.int .u64 0, .int .i64 0, .int .u64 0] 61)).drew.cell? ⟨w1.heap.size, 0, none⟩ = some (.int .i64 (f : Int)) := hB85.cell 0
  have a1 : (w4.alloc (.cells #[.int .u64 0, .int .i64 0, .int .u64 0] 61)).drew.cell? ⟨w1.heap.size, 1, none⟩ = some (.int .i64 (n : Int)) := hB85.cell 1
  have a2 : (w4.alloc (.cells #[.int .u64 0, .int .i64 0, .int .u64 0] 61)).drew.cell? ⟨w1.heap.size, 2, none⟩ = some (.int .i64 (D.n : Int)) := hB85.cell 2
  have a3 : (w4.alloc (.cells #[.int .u64 0, .int .i64 0, .int .u64 0] 61)).drew.cell? ⟨w4.heap.size, 1, none⟩ = some (.int .i64 0) := hB11.cell 1
  have HF5 : Hid (Nw w1 (w4.alloc (.cells #[.int .u64 0, .int .i64 0, .int .u64 0] 61)).drew) := (HF4.out.alloc _).drew
  clear HB84 HF4 hB85 hB11
  refine wp_region_noPanic ?_
  refine wp_region_held_drew (S := fun _ => True) (by kernel_rfl) trivial (fun _ => ?_)
  refine takeH (i := 0) (d := some 37) (.bool false) rfl (by kernel_rfl) (by kernel_rfl) (by kernel_rfl) (fun _ _ _ _ h => h) trivial (fun o ho => by cases ho; exact .inl ⟨by rfl, fun w _ => by go_simp⟩) ?_
  simp only [Act.put, List.setIfInBounds_toArray, List.set_cons_zero, List.set_cons_succ]
  refine takeH (i := 1) (d := some 38) (.bool true) rfl (by kernel_rfl) (by kernel_rfl) (by kernel_rfl) (fun _ _ _ _ h => h) trivial (fun o ho => by cases ho; exact .inl ⟨by rfl, fun w _ => by go_simp⟩) ?_
  simp only [Act.put, List.setIfInBounds_toArray, List.set_cons_zero, List.set_cons_succ]
  refine takeH (i := 2) (d := some 39) (.bool true) rfl (by kernel_rfl) (by kernel_rfl) (by kernel_rfl) (fun _ _ _ _ h => h) trivial (fun o ho => by cases ho; exact .inl ⟨by rfl, fun w _ => by go_simp⟩) ?_
  simp only [Act.put, List.setIfInBounds_toArray, List.set_cons_zero, List.set_cons_succ]
  refine takeH (i := 3) (d := some 40) undef rfl (by kernel_rfl) (by kernel_rfl) (by kernel_rfl) (fun _ _ _ _ h => h) trivial (fun o ho => by cases ho; exact .inr ⟨by rfl, rfl⟩) ?_
  simp only [Act.put, List.setIfInBounds_toArray, List.set_cons_zero, List.set_cons_succ]
  refine takeH (i := 4) (d := some 41) undef rfl (by kernel_rfl) (by kernel_rfl) (by kernel_rfl) (fun _ _ _ _ h => h) trivial (fun o ho => by cases ho; exact .inr ⟨by rfl, rfl⟩) ?_
  simp only [Act.put, List.setIfInBounds_toArray, List.set_cons_zero, List.set_cons_succ]
  refine takeH (i := 5) (d := some 42) undef rfl (by kernel_rfl) (by kernel_rfl) (by kernel_rfl) (fun _ _ _ _ h => h) trivial (fun o ho => by cases ho; exact .inr ⟨by rfl, rfl⟩) ?_
  simp only [Act.put, List.setIfInBounds_toArray, List.set_cons_zero, List.set_cons_succ]
  refine oneH (i := 6) (by kernel_rfl) (fun o ho K' hK => ?_) (by decide)
  cases ho
  rw [if_neg (Bool.eq_false_iff.1 (by rfl))]
  refine hK.out _ _ trivial ?_
  clear hK K'
  refine takeH (i := 7) (d := some 44) undef rfl (by kernel_rfl) (by kernel_rfl) (by kernel_rfl) (fun _ _ _ _ h => h) trivial (fun o ho => by cases ho; exact .inr ⟨by rfl, rfl⟩) ?_
  refine takeH (i := 8) (d := some 45) (.bool true) rfl (by kernel_rfl) (by kernel_rfl) (by kernel_rfl) (fun _ _ _ _ h => h) trivial (fun o ho => by cases ho; exact .inl ⟨by rfl, fun w _ => by go_simp⟩) ?_
  refine wpAnyH_done (by kernel_rfl) (NoPanic.normal ?_) _
  go_wp2
  go_ret2
  exact ⟨rfl, own_nw H0.out HF5.out, HF5.out.kp⟩

end Go.Proofs.Ytagcpjekeogkbaa.Wl
