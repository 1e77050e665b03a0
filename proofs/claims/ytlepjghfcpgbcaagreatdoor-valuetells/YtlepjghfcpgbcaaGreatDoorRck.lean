/- The contracts of what reckons with ints. -/
import Derived.Test.YtlepjghfcpgbcaaGreatDoorRgs
namespace Go.Proofs.YtlepjghfcpgbcaaGreatDoor.Tr
open Go.RowKit

theorem sizeV : (Tryz.prog.info? 26).map (·.size) = some 6 := by kernel_rfl
theorem resV {fn : Func} {p : Tmp} (h : fn.results = #[.cell p 26]) {a : Act} {W : World} {b : Nat} {t : TypeId} {x : Vv} (ha : a.tmps.getD p undef = .pointer (some ⟨b, 0, none⟩)) (hb : Blk W b t x.cs) :
    (results fn a.tmps).run Tryz.prog W = .ok x.v W :=
  results_cell_row h a.tmps W b t x.cs.toArray (0, 0) _ ha hb Tryz.underlying26 rfl (by kernel_rfl)
theorem resVE {fn : Func} {p u : Tmp} (h : fn.results = #[.cell p 26, .tmp u]) {a : Act} {W : World} {b : Nat} {t : TypeId} {x : Vv} (ha : a.tmps.getD p undef = .pointer (some ⟨b, 0, none⟩)) (hb : Blk W b t x.cs) :
    (results fn a.tmps).run Tryz.prog W = .ok (.tuple #[x.v, a.tmps.getD u undef]) W := by
  rw [results_cell_tmp h a.tmps Tryz.prog W, ha]
  have e := run_loadVar_mid (P := Tryz.prog) W b 0 26 x.cs _ (hb.range 0 _ (by simp)) Tryz.underlying26 rfl (by rw [sizeV]; rfl)
  simp [asAddr, e, Result.andThen]

set_option maxRecDepth 100000 in
set_option maxHeartbeats 1000000 in
theorem plus_any (w : World) (a b : Int) (ha : I64 a) (hb : I64 b) : Calls Tryz.prog 96 #[.int .i64 a, .int .i64 b] w fun e w' => e = .returned (.tuple #[.int .i64 (wrap64 (a + b)), .bool (decide (I64 (a + b)))]) ∧ w = w' := by
  have HE := hid (plus_fits ha hb)
  clear ha hb
  go_enter Tryz.func96, Tryz.ntmps96
  go_wp2
  go_ret2
  exact ⟨by rw [← HE.out]; rfl, rfl⟩
set_option maxRecDepth 100000 in
set_option maxHeartbeats 1000000 in
theorem minus_any (w : World) (a b : Int) (ha : I64 a) (hb : I64 b) : Calls Tryz.prog 97 #[.int .i64 a, .int .i64 b] w fun e w' => e = .returned (.tuple #[.int .i64 (wrap64 (a - b)), .bool (decide (I64 (a - b)))]) ∧ w = w' := by
  have HE := hid (minus_fits ha hb)
  clear ha hb
  go_enter Tryz.func97, Tryz.ntmps97
  go_wp2
  go_ret2
  exact ⟨by rw [← HE.out]; rfl, rfl⟩
set_option maxRecDepth 100000 in
set_option maxHeartbeats 1000000 in
theorem lowest_any (w : World) (a b : Int) : Calls Tryz.prog 99 #[.int .i64 a, .int .i64 b] w fun e w' => e = .returned (.bool (decide (a = -9223372036854775808) && decide (b = -1))) ∧ w = w' := by
  by_cases h1 : a = -9223372036854775808
  · have h1' : (a == -9223372036854775808) = true := by simpa using h1
    rw [decide_eq_true h1]
    clear h1
    have h2' : (b == -1) = decide (b = -1) := by
      by_cases h : b = -1
      · subst h; rfl
      · rw [decide_eq_false h]; simpa using h
    go_enter Tryz.func99, Tryz.ntmps99
    go_wp2
    go_ret
    exact ⟨by simp, rfl⟩
  · have h1' : (a == -9223372036854775808) = false := by simpa using h1
    rw [decide_eq_false h1]
    clear h1
    go_enter Tryz.func99, Tryz.ntmps99
    go_wp2
    go_ret
    exact ⟨rfl, rfl⟩
set_option maxRecDepth 100000 in
set_option maxHeartbeats 1000000 in
theorem times_any (w : World) (a b : Int) (ha : I64 a) (hb : I64 b) : Calls Tryz.prog 98 #[.int .i64 a, .int .i64 b] w fun e w' => e = .returned (.tuple #[.int .i64 (wrap64 (a * b)), .bool (decide (I64 (a * b)))]) ∧ w = w' := by
  by_cases h0 : b = 0
  · subst h0
    clear ha hb
    go_enter Tryz.func98, Tryz.ntmps98
    go_wp2
    go_ret2
    exact ⟨by rw [Int.mul_zero, show wrap64 0 = 0 by decide +kernel, show decide (I64 0) = true from rfl]; rfl, rfl⟩
  have HE := hid (times_fits ha hb h0)
  have h0' : (b == 0) = false := by simpa using h0
  have HL := hid (lowest_any w a b)
  generalize (decide (a = -9223372036854775808) && decide (b = -1)) = p at *
  clear ha hb
  by_cases hq : wrap64 ((wrap64 (a * b)).tdiv b) = a
  · rw [decide_eq_true hq] at HE
    have hq' : (wrap64 ((wrap64 (a * b)).tdiv b) == a) = true := by simpa using hq
    clear hq
    go_enter Tryz.func98, Tryz.ntmps98
    go_wp2_with fail
    refine HL.out.mono ?_
    rintro e w2 ⟨rfl, rfl⟩
    go_wp2_with fail
    go_ret2
    exact ⟨by rw [← HE.out]; rfl, rfl⟩
  · rw [decide_eq_false hq] at HE
    have hq' : (wrap64 ((wrap64 (a * b)).tdiv b) == a) = false := by simpa using hq
    clear hq
    go_enter Tryz.func98, Tryz.ntmps98
    go_wp2_with fail
    go_ret2
    exact ⟨by rw [← HE.out]; rfl, rfl⟩

set_option maxRecDepth 100000 in
set_option maxHeartbeats 1000000 in
theorem ofInt_any (w : World) (n : Int) : Calls Tryz.prog 100 #[.int .i64 n] w fun e w' => e = .returned (vI n).v ∧ Fr (fun _ => False) w w' := by
  have HF := hid (vFr w (vI n))
  have hst := fun (W : World) (a : Addr) (m : Mode) (f : Nat) => run_store Tryz.prog W a (.float .f64 f) m rfl
  go_enter Tryz.func100, Tryz.ntmps100
  go_wp2
  exact bodyPost_ret (resV rfl rfl (vBlk w (vI n))) rfl ⟨rfl, HF.out⟩
set_option maxRecDepth 100000 in
set_option maxHeartbeats 1000000 in
theorem whole_any (w : World) (n : Int) : Calls Tryz.prog 33 #[.int .i64 n] w fun e w' => e = .returned (vI n).v ∧ Fr (fun _ => False) w w' := by
  have HF := hid (vFr w (vI n))
  have hst := fun (W : World) (a : Addr) (m : Mode) (f : Nat) => run_store Tryz.prog W a (.float .f64 f) m rfl
  go_enter Tryz.func33, Tryz.ntmps33
  go_wp2
  exact bodyPost_ret (resV rfl rfl (vBlk w (vI n))) rfl ⟨rfl, HF.out⟩
set_option maxRecDepth 100000 in
set_option maxHeartbeats 1000000 in
theorem real_any (w : World) (f : Nat) : Calls Tryz.prog 37 #[.float .f64 f] w fun e w' => e = .returned (vF f).v ∧ Fr (fun _ => False) w w' := by
  have HF := hid (vFr w (vF f))
  have hst := fun (W : World) (a : Addr) (m : Mode) (f : Nat) => run_store Tryz.prog W a (.float .f64 f) m rfl
  go_enter Tryz.func37, Tryz.ntmps37
  go_wp2
  exact bodyPost_ret (resV rfl rfl (vBlk w (vF f))) rfl ⟨rfl, HF.out⟩
set_option maxRecDepth 100000 in
set_option maxHeartbeats 1000000 in
theorem ofText_any (w : World) (t : List UInt8) : Calls Tryz.prog 101 #[.string ⟨t.toArray⟩] w fun e w' => e = .returned (vS t).v ∧ Fr (fun _ => False) w w' := by
  have HF := hid (vFr w (vS t))
  have hst := fun (W : World) (a : Addr) (m : Mode) (f : Nat) => run_store Tryz.prog W a (.float .f64 f) m rfl
  go_enter Tryz.func101, Tryz.ntmps101
  go_wp2
  exact bodyPost_ret (resV rfl rfl (vBlk w (vS t))) rfl ⟨rfl, HF.out⟩
end Go.Proofs.YtlepjghfcpgbcaaGreatDoor.Tr
