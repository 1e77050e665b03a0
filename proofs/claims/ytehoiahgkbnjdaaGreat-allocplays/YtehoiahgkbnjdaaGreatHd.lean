
/- head: what stands in the sector 0. -/
import Derived.Test.YtehoiahgkbnjdaaGreatSps
import Derived.Test.YtehoiahgkbnjdaaGreatLd
namespace Go.Proofs.YtehoiahgkbnjdaaGreat.Al
open Go.RowKit Go.Shelf Dk Wl

def rdm : Sec := [114, 111, 111, 116, 100, 105, 115, 107]
def headB (n : Nat) : Sec := pad (rdm ++ le 4 n)
theorem headB_length (n : Nat) : (headB n).length = 128 := pad_length _ (by simp [rdm, le_length])
theorem size68 : (Tryz.prog.info? 92).map (·.size) = some 128 := by kernel_rfl
theorem results68 {fn : Func} {t : Tmp} (h : fn.results = #[.cell t 92]) {a : Act} {W : World} {b : Nat} {t' : TypeId} {s : Sec} (ha : a.tmps.getD t undef = .pointer (some ⟨b, 0, none⟩)) (hb : Blk W b t' (bs s)) (hl : s.length = 128) :
    (results fn a.tmps).run Tryz.prog W = .ok (arrV s) W :=
  results_cell_row h a.tmps W b t' (bs s).toArray (0, 0) _ ha hb Tryz.underlying92 rfl (by rw [size68]; simp [bs_length, hl])

structure HdMid (w wr : World) (y : Ly) (A : Sec) : Prop where
  b1 : Blk wr w.heap.size 38 y.cells
  b2 : Blk wr (w.heap.size + 1) 92 (bs zeros)
  b3 : Blk wr (w.heap.size + 1 + 1) 92 (bs (pad A))
  fr : Nw w wr
theorem HdMid.put {w wr : World} {y : Ly} {A : Sec} (h : HdMid w wr y A) (v : Sec) (o : Nat) (ho : o = A.length) (hl : A.length + v.length ≤ 128) : HdMid w (wr.setCells (w.heap.size + 1 + 1) o (bs v)) y (A ++ v) where
  b1 := h.b1.setCells_ne (by omega) _ _
  b2 := h.b2.setCells_ne (by omega) _ _
  b3 := by
    have := h.b3.setCells (bs v) o (by rw [bs_length, bs_length, pad_length _ (by omega)]; omega)
    rwa [bs_splice, splice_pad A v o ho hl] at this
  fr := h.fr.setCells (.inr (by omega)) _ _
theorem HdMid.new (w : World) (y : Ly) : HdMid w (((w.alloc (.cells y.cells.toArray 38)).alloc (.cells (bs zeros).toArray 92)).alloc (.cells (bs zeros).toArray 92)) y [] where
  b1 := ((Blk.new w 38 _).alloc _).alloc _
  b2 := (Blk.new1 w _ 92 (bs zeros)).alloc _
  b3 := by
    have := Blk.new1 (w.alloc (.cells y.cells.toArray 38)) (.cells (bs zeros).toArray 92) 92 (bs zeros)
    rw [pad_nil]
    rwa [World.size_alloc] at this
  fr := (((Fr.refl _ w).alloc _).alloc _).alloc _

set_option maxRecDepth 100000 in
set_option maxHeartbeats 2000000 in
theorem head_any (w : World) (y : Ly) : Calls Tryz.prog 46 #[y.v] w fun x w' => x = .returned (arrV (headB y.s)) ∧ Nw w w' := by
  have hz := zero68
  have S0 := HdMid.new w y
  obtain ⟨W0, hW0⟩ : ∃ W, ((w.alloc (.cells y.cells.toArray 38)).alloc (.cells (bs zeros).toArray 92)).alloc (.cells (bs zeros).toArray 92) = W := ⟨_, rfl⟩
  rw [hW0] at S0
  have hcp : (Builtin.copy_ #[49, 9] 3 #[.slice (some ⟨w.heap.size + 1 + 1, 0, none⟩) 128 128, .string { data := #[114, 111, 111, 116, 100, 105, 115, 107] }]).run Tryz.prog W0 = .ok (goInt 8) (W0.setCells (w.heap.size + 1 + 1) 0 (bs rdm)) := by
    have ht := S0.b3.there 0 8 (by rw [bs_length, pad_length _ (by simp)]; omega)
    exact run_copy_string W0 49 9 3 5 (w.heap.size + 1 + 1) 0 128 128 { data := #[114, 111, 111, 116, 100, 105, 115, 107] } Tryz.underlying49 (fun w => by kernel_rfl) (by decide) (fun j hj => (ht j hj).1) (fun j hj => (ht j hj).2)
  have HS1 := hid (S0.put rdm 0 rfl (by simp [rdm]))
  clear S0
  unfold Ly.v
  go_enter Tryz.func46, Tryz.ntmps46
  go_wp2_with fail
  clear hcp hW0 hz
  generalize W0.setCells (w.heap.size + 1 + 1) 0 (bs rdm) = W1 at *
  have HM0 : Hid (HdMid w W1 y (rdm ++ le 0 y.s)) := by
    have := HS1.out
    have e : rdm ++ le 0 y.s = [] ++ rdm := by simp [le]
    unfold Hid
    rw [e]
    exact this
  clear HS1
  go_loopw [8] (fun i wr => ∃ k : Nat, k ≤ 4 ∧ i = .int .i64 (k : Int) ∧ HdMid w wr y (rdm ++ le k y.s)) (fun i _ => 4 - (intOf i).toNat)
  case atStart => exact ⟨0, by omega, rfl, HM0.out⟩
  case round =>
    obtain ⟨k, hk, rfl, hM⟩ := hrel
    have HM := hid hM
    clear hM HM0
    by_cases hlt : k < 4
    · have hk1 : (k : Int) < 4 := by omega
      have hk0 : (0 : Int) ≤ (k : Int) := Int.natCast_nonneg _
      have c0 : wr.cell? ⟨w.heap.size, 0, none⟩ = some (.int .i64 (y.s : Int)) := HM.out.b1.cell 0
      have hlA : (rdm ++ le k y.s).length = 8 + k := by simp [rdm, le_length]; omega
      have ht := HM.out.b3.there (8 + k) 1 (by rw [bs_length, pad_length _ (by omega)]; omega)
      have hsome : (wr.cell? ⟨w.heap.size + 1 + 1, 8 + k, none⟩).isSome = true := (ht 0 (by omega)).1
      obtain ⟨u, hc1⟩ := Option.isSome_iff_exists.1 hsome
      have hc2 : wr.frozen? ⟨w.heap.size + 1 + 1, 8 + k, none⟩ = false := (ht 0 (by omega)).2
      clear hsome
      have HV : Hid (Value.int .u8 ((y.s : Int) / 2 ^ (8 * k) % 256) = bv (lb y.s k)) := lb_val y.s k
      have HN : Hid (HdMid w (wr.setCell ⟨w.heap.size + 1 + 1, 8 + k, none⟩ (bv (lb y.s k))) y (rdm ++ le (k + 1) y.s)) := by
        have := HM.out.put [lb y.s k] (8 + k) hlA.symm (by rw [hlA]; simp; omega)
        rw [List.append_assoc, ← le_succ] at this
        exact this
      clear HM ht hlA
      go_wp2_with fail
      rw [HV.out]
      exact ⟨⟨k + 1, by omega, by simp, HN.out⟩, by simp [intOf]; omega⟩
    · obtain rfl : k = 4 := by omega
      have Hhl := hid (headB_length y.s)
      have HM4 : Hid (HdMid w wr y (rdm ++ le 4 y.s)) := HM.out
      have HB3 : Hid (Blk wr (w.heap.size + 1 + 1) 92 (bs (headB y.s))) := HM.out.b3
      have HB2 := hid HM.out.b2
      have HF := hid HM.out.fr
      have hone : ∀ v ∈ bs (headB y.s), v.oneCell' = true := bs_one _
      have hlen : (bs (headB y.s)).length = 128 := by rw [bs_length, Hhl.out]
      have h68 : (Tryz.prog.info? 92).map (·.size) = some (bs (headB y.s)).length := by rw [hlen]; exact size68
      have hst := store_mid wr (w.heap.size + 1) 0 (bs (headB y.s)) 128 (by rw [bs_length, Hhl.out]) (HB2.out.there 0 128 (by rw [bs_length, zeros_length]; omega)) hone
      clear HM HM4
      generalize hhb : headB y.s = hb at *
      have Hhb := hid hhb
      clear hhb
      go_wp2_with (first
        | (refine wpList_load_mid (by rfl) 92 _ (by rfl) (w.heap.size + 1 + 1) 0 (by rfl) (bs hb) _ (HB3.out.range 0 _ (by simp)) Tryz.underlying92 rfl (by rw [size68, bs_length, Hhl.out]) ?_))
      exact bodyPost_ret (results68 rfl rfl (Blk.all HB2.out zeros_length Hhl.out) Hhl.out) rfl ⟨by rw [Hhb.out], HF.out.setCells (.inr (by omega)) _ _⟩

end Go.Proofs.YtehoiahgkbnjdaaGreat.Al
