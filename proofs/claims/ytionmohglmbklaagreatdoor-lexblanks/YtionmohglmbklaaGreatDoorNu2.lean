/- The contracts of integer, float, number and sign where the text is wrong, and of number over a whole number. -/
import Derived.Test.YtionmohglmbklaaGreatDoorNum
namespace Go.Proofs.YtionmohglmbklaaGreatDoor.Tr
open Go.RowKit


set_option maxRecDepth 100000 in
set_option maxHeartbeats 1000000 in
theorem integer_ok {w0 w : World} {s : List UInt8} {n : Int} (k : Nat) (hP : PIok w0 s n) (hE : Env w0 w) : Calls Tryz.prog 78 #[.string ⟨s.toArray⟩, .int .i64 (k : Int)] w fun e w' => e = .returned (.tuple #[tokV ⟨2, s, n, 0, k⟩, .nilIface]) ∧ Fr (fun _ => False) w w' := by
  have HA := hid (new_tok w)
  have HF := hid ((Fr.refl (fun _ => False) w).alloc (.cells #[.int .i64 0, .string ⟨#[]⟩, .int .i64 0, .float .f64 0, .int .i64 0] 37))
  have HC := hid (hP _ (hE.fr HF.out (fun _ h => h.elim)))
  clear hP hE
  generalize hn : w.heap.size = m at *
  go_enter Tryz.func78, Tryz.ntmps78
  go_wp2_with fail
  refine HC.out.mono ?_
  rintro e w2 ⟨rfl, f2⟩
  have HB2 := hid (f2.blk HA.out (fun h => h))
  have HF2 := hid (HF.out.same f2)
  clear f2 HA HF HC
  go_wp2_with (refine wpList_storeT ⟨2, s, n, 0, k⟩ (by rfl) _ _ (by rfl) HB2.out (by rfl) (by rfl) ?_; intro w3 b3 f3)
  have HE : Hid (Fr (fun _ => False) w w3) := HF2.out.trans f3 (fun i hi => .inr (by omega))
  have HB3 := hid b3
  clear f3 b3
  go_wp2_with fail
  exact bodyPost_ret (resultsT rfl rfl rfl HB3.out) rfl ⟨rfl, HE.out⟩

/-- What integer and float give where the number may not be. -/
def NoPost (w : World) (k : Nat) (r : Ending) (w' : World) : Prop := ∃ fb, r = .returned (.tuple #[tokV zeroT, fltV fb]) ∧ w.heap.size < fb ∧ Flt w' fb k 4 ∧ Fr (fun _ => False) w w'

set_option maxRecDepth 100000 in
set_option maxHeartbeats 1000000 in
theorem integer_no {w0 w : World} {s : List UInt8} (k : Nat) (hP : PIno w0 s) (hE : Env w0 w) : Calls Tryz.prog 78 #[.string ⟨s.toArray⟩, .int .i64 (k : Int)] w (NoPost w k) := by
  have HA := hid (new_tok w)
  have HF := hid ((Fr.refl (fun _ => False) w).alloc (.cells #[.int .i64 0, .string ⟨#[]⟩, .int .i64 0, .float .f64 0, .int .i64 0] 37))
  have HC := hid (hP _ (hE.fr HF.out (fun _ h => h.elim)))
  have HSz : Hid ((w.alloc (.cells #[.int .i64 0, .string ⟨#[]⟩, .int .i64 0, .float .f64 0, .int .i64 0] 37)).heap.size = w.heap.size + 1) := World.size_alloc _ _
  clear hP hE
  generalize hn : w.heap.size = m at *
  go_enter Tryz.func78, Tryz.ntmps78
  go_wp2_with fail
  refine HC.out.mono ?_
  rintro e w2 ⟨x, T, u, rfl, f2⟩
  have HB2 := hid (f2.blk HA.out (fun h => h))
  have HF2 := hid (HF.out.same f2)
  have HS2 : Hid (m + 1 ≤ w2.heap.size) := by have := f2.size; rw [HSz.out] at this; exact this
  clear f2 HA HF HC HSz
  go_wp2_with fail
  refine (fault_any w2 k 4).mono ?_
  rintro e w3 ⟨rfl, q3, f3⟩
  have HB3 := hid (f3.blk HB2.out (fun h => h))
  have HF3 := hid (HF2.out.same f3)
  have HQ3 := hid q3
  clear q3 f3 HB2 HF2
  go_wp2_with (refine wpList_storeT zeroT (by rfl) _ _ (by rfl) HB3.out (by rfl) (by rfl) ?_; intro w4 b4 f4)
  have HE : Hid (Flt w4 w2.heap.size k 4 ∧ Fr (fun _ => False) w w4) := ⟨f4.blk HQ3.out (by have := HS2.out; omega), HF3.out.trans f4 (fun i hi => .inr (by omega))⟩
  have HB4 := hid b4
  clear f4 b4
  go_wp2_with fail
  exact bodyPost_ret (resultsT rfl rfl rfl HB4.out) rfl ⟨w2.heap.size, rfl, by have := HS2.out; omega, HE.out⟩

set_option maxRecDepth 100000 in
set_option maxHeartbeats 1000000 in
theorem float_no {w0 w : World} {s : List UInt8} (k : Nat) (hP : PFno w0 s) (hE : Env w0 w) : Calls Tryz.prog 77 #[.string ⟨s.toArray⟩, .int .i64 (k : Int)] w (NoPost w k) := by
  have HA := hid (new_tok w)
  have HF := hid ((Fr.refl (fun _ => False) w).alloc (.cells #[.int .i64 0, .string ⟨#[]⟩, .int .i64 0, .float .f64 0, .int .i64 0] 37))
  have HC := hid (hP _ (hE.fr HF.out (fun _ h => h.elim)))
  have HSz : Hid ((w.alloc (.cells #[.int .i64 0, .string ⟨#[]⟩, .int .i64 0, .float .f64 0, .int .i64 0] 37)).heap.size = w.heap.size + 1) := World.size_alloc _ _
  clear hP hE
  generalize hn : w.heap.size = m at *
  go_enter Tryz.func77, Tryz.ntmps77
  go_wp2_with fail
  refine HC.out.mono ?_
  rintro e w2 ⟨x, T, u, rfl, f2⟩
  have HB2 := hid (f2.blk HA.out (fun h => h))
  have HF2 := hid (HF.out.same f2)
  have HS2 : Hid (m + 1 ≤ w2.heap.size) := by have := f2.size; rw [HSz.out] at this; exact this
  clear f2 HA HF HC HSz
  go_wp2_with fail
  refine (fault_any w2 k 4).mono ?_
  rintro e w3 ⟨rfl, q3, f3⟩
  have HB3 := hid (f3.blk HB2.out (fun h => h))
  have HF3 := hid (HF2.out.same f3)
  have HQ3 := hid q3
  clear q3 f3 HB2 HF2
  go_wp2_with (refine wpList_storeT zeroT (by rfl) _ _ (by rfl) HB3.out (by rfl) (by rfl) ?_; intro w4 b4 f4)
  have HE : Hid (Flt w4 w2.heap.size k 4 ∧ Fr (fun _ => False) w w4) := ⟨f4.blk HQ3.out (by have := HS2.out; omega), HF3.out.trans f4 (fun i hi => .inr (by omega))⟩
  have HB4 := hid b4
  clear f4 b4
  go_wp2_with fail
  exact bodyPost_ret (resultsT rfl rfl rfl HB4.out) rfl ⟨w2.heap.size, rfl, by have := HS2.out; omega, HE.out⟩

set_option maxRecDepth 100000 in
set_option maxHeartbeats 1000000 in
theorem sign_bad {w : World} {b : Nat} {t : List UInt8} {k : Nat} (h : Rd w b t k) (hk : k < t.length) (hs : signLen t k = 0) : Calls Tryz.prog 57 #[pv b] w (BadPost w b k 3) := by
  have HA := hid (new_tok w)
  have HF := hid ((Fr.refl (· = b) w).alloc (.cells #[.int .i64 0, .string ⟨#[]⟩, .int .i64 0, .float .f64 0, .int .i64 0] 37))
  have hR : Rd (w.alloc (.cells #[.int .i64 0, .string ⟨#[]⟩, .int .i64 0, .float .f64 0, .int .i64 0] 37)) b t k := ⟨h.blk.alloc _, h.le, h.len⟩
  have HR := hid hR
  have c1 := hR.c1
  have HB := hid h.blk.lt
  have HSz : Hid ((w.alloc (.cells #[.int .i64 0, .string ⟨#[]⟩, .int .i64 0, .float .f64 0, .int .i64 0] 37)).heap.size = w.heap.size + 1) := World.size_alloc _ _
  have HC := hid (signLen_any hR hk)
  rw [hs] at HC
  clear h hR hk hs
  generalize hn : w.heap.size = n at *
  go_enter Tryz.func57, Tryz.ntmps57
  go_wp2_with fail
  refine HC.out.mono ?_
  rintro e w2 ⟨rfl, m, rfl⟩
  clear HC c1
  have HW2 : Hid (Fr (· = b) w ((w.alloc (.cells #[.int .i64 0, .string ⟨#[]⟩, .int .i64 0, .float .f64 0, .int .i64 0] 37)).drewN m) ∧ Blk ((w.alloc (.cells #[.int .i64 0, .string ⟨#[]⟩, .int .i64 0, .float .f64 0, .int .i64 0] 37)).drewN m) n 37 (tokC zeroT) ∧ n + 1 ≤ ((w.alloc (.cells #[.int .i64 0, .string ⟨#[]⟩, .int .i64 0, .float .f64 0, .int .i64 0] 37)).drewN m).heap.size) := ⟨HF.out.drewN m, HA.out, Nat.le_of_eq HSz.out.symm⟩
  generalize (w.alloc (.cells #[.int .i64 0, .string ⟨#[]⟩, .int .i64 0, .float .f64 0, .int .i64 0] 37)).drewN m = w2 at *
  clear HA HF HR HSz
  go_wp2_with fail
  refine (fault_any w2 k 3).mono ?_
  rintro e w3 ⟨rfl, q3, f3⟩
  have HB3 := hid (f3.blk HW2.out.2.1 (fun h => h))
  have HF3 := hid (HW2.out.1.trans f3 (fun _ h => h.elim))
  have HQ3 := hid q3
  clear q3 f3
  go_wp2_with (refine wpList_storeT zeroT (by rfl) _ _ (by rfl) HB3.out (by rfl) (by rfl) ?_; intro w4 b4 f4)
  have HE : Hid (Flt w4 w2.heap.size k 3 ∧ Fr (· = b) w w4) := ⟨f4.blk HQ3.out (by have := HW2.out.2.2; omega), HF3.out.trans f4 (fun i hi => .inr (by omega))⟩
  have HB4 := hid b4
  clear f4 b4
  go_wp2_with fail
  exact bodyPost_ret (resultsT rfl rfl rfl HB4.out) rfl ⟨zeroT, w2.heap.size, rfl, by have := HW2.out.2.2; omega, HE.out⟩

end Go.Proofs.YtionmohglmbklaaGreatDoor.Tr
