/- The contract of reckonInts. -/
import Derived.Test.YtlepjghfcpgbcaaGreatDoorRck
import Derived.BigQuiet
import Derived.Deep.QuietTactic
namespace Go.Proofs.YtlepjghfcpgbcaaGreatDoor.Tr
open Go.RowKit

theorem vv_one (x : Vv) : ∀ v ∈ x.cs, v.oneCell' = true := by
  intro v hv
  simp only [Vv.cs, List.mem_cons, List.not_mem_nil, or_false] at hv
  rcases hv with rfl | rfl | rfl | rfl | rfl | rfl <;> rfl
/-- Storing a value. -/
theorem wpList_storeV {ops : Array Oper} {rest : List Oper} {op : Oper} {a : Act} {W : World} {Q : Exit → Act → World → Prop} (x0 : Vv) (hgd : op.guard = none) (x y : Operand) (ho : op.op = .store 26 x y) {b : Nat} {old : Vv} (hb : Blk W b 26 old.cs)
    (hx : a.eval x = .pointer (some ⟨b, 0, none⟩)) (hy : a.eval y = x0.v) (h : ∀ W', Blk W' b 26 x0.cs → Fr (· = b) W W' → wpList Tryz.prog ops Q rest (a.put op.dst undef) W') : wpList Tryz.prog ops Q (op :: rest) a W :=
  wpList_plain hgd fun K hK => by
    have hs : (Instr.storeAt 26 (.pointer (some ⟨b, 0, none⟩)) x0.v).run Tryz.prog W = .ok () (W.setCells b 0 x0.cs) := by
      have h := run_storeAt_mid (P := Tryz.prog) W b 0 26 x0.cs.toArray (hb.there 0 6 (Nat.le_refl 6)) sizeV (all_oneCell_toArray (vv_one x0))
      rw [show x0.v = .agg x0.cs.toArray from rfl]; simpa using h
    have hb' : Blk (W.setCells b 0 x0.cs) b 26 x0.cs := hb.setCells x0.cs 0 (Nat.le_refl 6)
    have hf : Fr (· = b) W (W.setCells b 0 x0.cs) := (Fr.refl (· = b) W).setCells (b := b) (.inl rfl) _ _
    unfold Oper.wp execOp
    simp only [ho, hx, hy, hs, Sem.run_bind, Sem.run_pure, Result.andThen_ok]
    exact hK _ _ (h _ hb' hf)

/-- An int that fits, or none. -/
def fitV (n : Int) (fits : Bool) : Value := .tuple #[(if fits then vI n else vZ).v, .int .i64 (if fits then 0 else 16)]

set_option maxRecDepth 100000 in
set_option maxHeartbeats 2000000 in
theorem rint_plus (w : World) (a b : Int) (ha : I64 a) (hb : I64 b) : Calls Tryz.prog 66 #[.string ⟨#[43]⟩, .int .i64 a, .int .i64 b] w fun e w' => e = .returned (fitV (a + b) (decide (I64 (a + b)))) ∧ Fr (fun _ => False) w w' := by
  have HC := hid (plus_any (vBox w vZ) a b ha hb)
  have HB := hid (vBlk w vZ)
  have HF := hid (vFr w vZ)
  have HS : Hid (I64 (a + b) → wrap64 (a + b) = a + b) := fun h => h.same
  clear ha hb
  by_cases hq : I64 (a + b)
  · have HE : Hid (fitV (a + b) (decide (I64 (a + b))) = .tuple #[(vI (a + b)).v, .int .i64 0]) := by
      unfold Hid fitV; rw [decide_eq_true hq]; rfl
    have HS2 := hid (HS.out hq)
    rw [decide_eq_true hq] at HC
    clear hq HS
    go_enter Tryz.func66, Tryz.ntmps66
    go_wp2_with fail
    refine HC.out.mono ?_
    rintro e w2 ⟨rfl, hw⟩
    rw [← hw, HS2.out]
    clear HC hw
    go_wp2_with fail
    refine (ofInt_any _ _).mono ?_
    rintro e w2 ⟨rfl, f2⟩
    have HB2 := hid (f2.blk HB.out (fun h => h))
    have HF2 := hid (HF.out.trans f2 (fun _ h => h.elim))
    clear f2 HB HF
    go_wp2_with (refine wpList_storeV (vI (a + b)) (by rfl) _ _ (by rfl) HB2.out (by rfl) (by rfl) ?_; intro w3 b3 f3)
    have HF3 := hid (HF2.out.trans f3 (fun i hi => .inr (by omega)))
    have HB3 := hid b3
    clear f3 b3 HB2 HF2
    go_wp2_with fail
    refine bodyPost_ret (resVE rfl rfl HB3.out) rfl ⟨?_, HF3.out⟩
    rw [HE.out]; rfl
  · have HE : Hid (fitV (a + b) (decide (I64 (a + b))) = .tuple #[vZ.v, .int .i64 16]) := by
      unfold Hid fitV; rw [decide_eq_false hq]; rfl
    rw [decide_eq_false hq] at HC
    clear hq HS
    go_enter Tryz.func66, Tryz.ntmps66
    go_wp2_with fail
    refine HC.out.mono ?_
    rintro e w2 ⟨rfl, hw⟩
    rw [← hw]
    clear HC hw
    go_wp2_with (refine wpList_storeV vZ (by rfl) _ _ (by rfl) HB.out (by rfl) (by rfl) ?_; intro w3 b3 f3)
    have HF3 := hid (HF.out.trans f3 (fun i hi => .inr (by omega)))
    have HB3 := hid b3
    clear f3 b3 HB HF
    go_wp2_with fail
    refine bodyPost_ret (resVE rfl rfl HB3.out) rfl ⟨?_, HF3.out⟩
    rw [HE.out]; rfl

set_option maxRecDepth 100000 in
set_option maxHeartbeats 2000000 in
theorem rint_minus (w : World) (a b : Int) (ha : I64 a) (hb : I64 b) : Calls Tryz.prog 66 #[.string ⟨#[45]⟩, .int .i64 a, .int .i64 b] w fun e w' => e = .returned (fitV (a - b) (decide (I64 (a - b)))) ∧ Fr (fun _ => False) w w' := by
  have HC := hid (minus_any (vBox w vZ) a b ha hb)
  have HB := hid (vBlk w vZ)
  have HF := hid (vFr w vZ)
  have HS : Hid (I64 (a - b) → wrap64 (a - b) = a - b) := fun h => h.same
  clear ha hb
  by_cases hq : I64 (a - b)
  · have HE : Hid (fitV (a - b) (decide (I64 (a - b))) = .tuple #[(vI (a - b)).v, .int .i64 0]) := by
      unfold Hid fitV; rw [decide_eq_true hq]; rfl
    have HS2 := hid (HS.out hq)
    rw [decide_eq_true hq] at HC
    clear hq HS
    go_enter Tryz.func66, Tryz.ntmps66
    go_wp2_with fail
    refine HC.out.mono ?_
    rintro e w2 ⟨rfl, hw⟩
    rw [← hw, HS2.out]
    clear HC hw
    go_wp2_with fail
    refine (ofInt_any _ _).mono ?_
    rintro e w2 ⟨rfl, f2⟩
    have HB2 := hid (f2.blk HB.out (fun h => h))
    have HF2 := hid (HF.out.trans f2 (fun _ h => h.elim))
    clear f2 HB HF
    go_wp2_with (refine wpList_storeV (vI (a - b)) (by rfl) _ _ (by rfl) HB2.out (by rfl) (by rfl) ?_; intro w3 b3 f3)
    have HF3 := hid (HF2.out.trans f3 (fun i hi => .inr (by omega)))
    have HB3 := hid b3
    clear f3 b3 HB2 HF2
    go_wp2_with fail
    refine bodyPost_ret (resVE rfl rfl HB3.out) rfl ⟨?_, HF3.out⟩
    rw [HE.out]; rfl
  · have HE : Hid (fitV (a - b) (decide (I64 (a - b))) = .tuple #[vZ.v, .int .i64 16]) := by
      unfold Hid fitV; rw [decide_eq_false hq]; rfl
    rw [decide_eq_false hq] at HC
    clear hq HS
    go_enter Tryz.func66, Tryz.ntmps66
    go_wp2_with fail
    refine HC.out.mono ?_
    rintro e w2 ⟨rfl, hw⟩
    rw [← hw]
    clear HC hw
    go_wp2_with (refine wpList_storeV vZ (by rfl) _ _ (by rfl) HB.out (by rfl) (by rfl) ?_; intro w3 b3 f3)
    have HF3 := hid (HF.out.trans f3 (fun i hi => .inr (by omega)))
    have HB3 := hid b3
    clear f3 b3 HB HF
    go_wp2_with fail
    refine bodyPost_ret (resVE rfl rfl HB3.out) rfl ⟨?_, HF3.out⟩
    rw [HE.out]; rfl

set_option maxRecDepth 100000 in
set_option maxHeartbeats 2000000 in
theorem rint_times (w : World) (a b : Int) (ha : I64 a) (hb : I64 b) : Calls Tryz.prog 66 #[.string ⟨#[42]⟩, .int .i64 a, .int .i64 b] w fun e w' => e = .returned (fitV (a * b) (decide (I64 (a * b)))) ∧ Fr (fun _ => False) w w' := by
  have HC := hid (times_any (vBox w vZ) a b ha hb)
  have HB := hid (vBlk w vZ)
  have HF := hid (vFr w vZ)
  have HS : Hid (I64 (a * b) → wrap64 (a * b) = a * b) := fun h => h.same
  clear ha hb
  by_cases hq : I64 (a * b)
  · have HE : Hid (fitV (a * b) (decide (I64 (a * b))) = .tuple #[(vI (a * b)).v, .int .i64 0]) := by
      unfold Hid fitV; rw [decide_eq_true hq]; rfl
    have HS2 := hid (HS.out hq)
    rw [decide_eq_true hq] at HC
    clear hq HS
    go_enter Tryz.func66, Tryz.ntmps66
    go_wp2_with fail
    refine HC.out.mono ?_
    rintro e w2 ⟨rfl, hw⟩
    rw [← hw, HS2.out]
    clear HC hw
    go_wp2_with fail
    refine (ofInt_any _ _).mono ?_
    rintro e w2 ⟨rfl, f2⟩
    have HB2 := hid (f2.blk HB.out (fun h => h))
    have HF2 := hid (HF.out.trans f2 (fun _ h => h.elim))
    clear f2 HB HF
    go_wp2_with (refine wpList_storeV (vI (a * b)) (by rfl) _ _ (by rfl) HB2.out (by rfl) (by rfl) ?_; intro w3 b3 f3)
    have HF3 := hid (HF2.out.trans f3 (fun i hi => .inr (by omega)))
    have HB3 := hid b3
    clear f3 b3 HB2 HF2
    go_wp2_with fail
    refine bodyPost_ret (resVE rfl rfl HB3.out) rfl ⟨?_, HF3.out⟩
    rw [HE.out]; rfl
  · have HE : Hid (fitV (a * b) (decide (I64 (a * b))) = .tuple #[vZ.v, .int .i64 16]) := by
      unfold Hid fitV; rw [decide_eq_false hq]; rfl
    rw [decide_eq_false hq] at HC
    clear hq HS
    go_enter Tryz.func66, Tryz.ntmps66
    go_wp2_with fail
    refine HC.out.mono ?_
    rintro e w2 ⟨rfl, hw⟩
    rw [← hw]
    clear HC hw
    go_wp2_with (refine wpList_storeV vZ (by rfl) _ _ (by rfl) HB.out (by rfl) (by rfl) ?_; intro w3 b3 f3)
    have HF3 := hid (HF.out.trans f3 (fun i hi => .inr (by omega)))
    have HB3 := hid b3
    clear f3 b3 HB HF
    go_wp2_with fail
    refine bodyPost_ret (resVE rfl rfl HB3.out) rfl ⟨?_, HF3.out⟩
    rw [HE.out]; rfl

set_option maxRecDepth 100000 in
set_option maxHeartbeats 2000000 in
theorem rint_zero (w : World) (a : Int) : Calls Tryz.prog 66 #[.string ⟨#[47]⟩, .int .i64 a, .int .i64 0] w fun e w' => e = .returned (.tuple #[vZ.v, .int .i64 17]) ∧ Fr (fun _ => False) w w' := by
  have HB := hid (vBlk w vZ)
  have HF := hid (vFr w vZ)
  go_enter Tryz.func66, Tryz.ntmps66
  go_wp2_with (refine wpList_storeV vZ (by rfl) _ _ (by rfl) HB.out (by rfl) (by rfl) ?_; intro w3 b3 f3)
  have HF3 := hid (HF.out.trans f3 (fun i hi => .inr (by omega)))
  have HB3 := hid b3
  clear f3 b3 HB HF
  go_wp2_with fail
  exact bodyPost_ret (resVE rfl rfl HB3.out) rfl ⟨rfl, HF3.out⟩

set_option maxRecDepth 100000 in
set_option maxHeartbeats 2000000 in
theorem rint_quo (w : World) (a b : Int) (ha : I64 a) (hb : I64 b) (h0 : b ≠ 0) : Calls Tryz.prog 66 #[.string ⟨#[47]⟩, .int .i64 a, .int .i64 b] w fun e w' => e = .returned (fitV (a.tdiv b) (!(decide (a = -9223372036854775808) && decide (b = -1)))) ∧ Fr (fun _ => False) w w' := by
  have HC : Hid (∀ n, Calls Tryz.prog 99 #[.int .i64 a, .int .i64 b] ((vBox w vZ).drewN n) fun e w' => e = .returned (.bool (decide (a = -9223372036854775808) && decide (b = -1))) ∧ w' = (vBox w vZ).drewN n) := fun n => (lowest_any _ a b).mono (fun e w' h => ⟨h.1, h.2.symm⟩)
  have HB := hid (fun n => (show Blk ((vBox w vZ).drewN n) w.heap.size 26 vZ.cs from vBlk w vZ))
  have HF := hid (fun n => (vFr w vZ).drewN n)
  have h0' : (b == 0) = false := by simpa using h0
  by_cases hq : a = -9223372036854775808 ∧ b = -1
  · have hqd : (decide (a = -9223372036854775808) && decide (b = -1)) = true := by simp [hq]
    have HE : Hid (fitV (a.tdiv b) (!(decide (a = -9223372036854775808) && decide (b = -1))) = .tuple #[vZ.v, .int .i64 16]) := by
      unfold Hid fitV; rw [hqd]; rfl
    rw [hqd] at HC
    clear hq hqd ha hb
    go_enter Tryz.func66, Tryz.ntmps66
    go_wp2_with fail
    go_quiet (first | (go_at_call 99; exact Calls.quiet_of_same (HC.out _)))
    go_wp2_with (refine wpList_storeV vZ (by rfl) _ _ (by rfl) (HB.out _) (by rfl) (by rfl) ?_; intro w3 b3 f3)
    have HF3 := hid ((HF.out _).trans f3 (fun i hi => .inr (by omega)))
    have HB3 := hid b3
    clear f3 b3 HB HF
    go_wp2_with fail
    refine bodyPost_ret (resVE rfl rfl HB3.out) rfl ⟨?_, HF3.out⟩
    rw [HE.out]; rfl
  · have hqd : (decide (a = -9223372036854775808) && decide (b = -1)) = false := by simpa using hq
    have HE : Hid (fitV (a.tdiv b) (!(decide (a = -9223372036854775808) && decide (b = -1))) = .tuple #[(vI (a.tdiv b)).v, .int .i64 0]) := by
      unfold Hid fitV; rw [hqd]; rfl
    have HS := hid (I64.same (I64.tdiv ha hb hq))
    rw [hqd] at HC
    clear hq hqd ha hb
    go_enter Tryz.func66, Tryz.ntmps66
    go_wp2_with fail
    go_quiet (first | (go_at_call 99; exact Calls.quiet_of_same (HC.out _)))
    go_wp2_with fail
    try rw [HS.out]
    refine (ofInt_any _ _).mono ?_
    rintro e w2 ⟨rfl, f2⟩
    have HB2 := hid (f2.blk (HB.out _) (fun h => h))
    have HF2 := hid ((HF.out _).trans f2 (fun _ h => h.elim))
    clear f2 HB HF
    go_wp2_with (refine wpList_storeV (vI (a.tdiv b)) (by rfl) _ _ (by rfl) HB2.out (by rfl) (by rfl) ?_; intro w3 b3 f3)
    have HF3 := hid (HF2.out.trans f3 (fun i hi => .inr (by omega)))
    have HB3 := hid b3
    clear f3 b3 HB2 HF2
    go_wp2_with fail
    refine bodyPost_ret (resVE rfl rfl HB3.out) rfl ⟨?_, HF3.out⟩
    rw [HE.out]; rfl
end Go.Proofs.YtlepjghfcpgbcaaGreatDoor.Tr
