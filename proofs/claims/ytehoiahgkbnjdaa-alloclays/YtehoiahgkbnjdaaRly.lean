/- The document's own layout. -/
import Derived.Test.YtehoiahgkbnjdaaShw
namespace Go.Proofs.Ytehoiahgkbnjdaa.Al
open Go.RowKit Go.Shelf Dk Wl

def rC (s ll mp nd tb no da : Int) : List Value := [.int .i64 s, .int .i64 ll, .int .i64 mp, .int .i64 nd, .int .i64 tb, .int .i64 no, .int .i64 da]
theorem size29 : (Try.prog.info? 29).map (·.size) = some 7 := by kernel_rfl
theorem resR {fn : Func} {p u : Tmp} (h : fn.results = #[.cell p 29, .tmp u]) {a : Act} {W : World} {b : Nat} {t : TypeId} {cs : List Value} (ha : a.tmps.getD p undef = .pointer (some ⟨b, 0, none⟩)) (hb : Blk W b t cs) (hl : cs.length = 7) :
    (results fn a.tmps).run Try.prog W = .ok (.tuple #[.agg cs.toArray, a.tmps.getD u undef]) W := by
  rw [results_cell_tmp h a.tmps Try.prog W, ha]
  have e := run_loadVar_mid (P := Try.prog) W b 0 29 cs _ (hb.range 0 _ (by simp)) Try.underlying29 rfl (by rw [size29, hl])
  simp [asAddr, e, Result.andThen]

set_option maxRecDepth 100000 in
set_option maxHeartbeats 1000000 in
theorem RLay_no (w : World) (n : Int) (h : n < 64 ∨ 1024 < n) : Calls Try.prog 7 #[.int .i64 n] w fun e w' => e = .returned (.tuple #[.agg (rC 0 0 0 0 0 0 0).toArray, .bool false]) ∧ Nw w w' := by
  have HF : Hid (Nw w (w.alloc (.cells (rC 0 0 0 0 0 0 0).toArray 29))) := (Fr.refl _ w).alloc _
  rcases Int.lt_or_le n 64 with h1 | h1
  · clear h
    go_enter Try.func7, Try.ntmps7
    go_wp2
    refine bodyPost_ret (resR (b := w.heap.size) (t := 29) rfl rfl (Blk.new w 29 _) rfl) rfl ⟨rfl, HF.out⟩
  · have h2 : ¬ n < 64 := by omega
    have h3 : n > 1024 := by omega
    clear h
    go_enter Try.func7, Try.ntmps7
    go_wp2
    refine bodyPost_ret (resR (b := w.heap.size) (t := 29) rfl rfl (Blk.new w 29 _) rfl) rfl ⟨rfl, HF.out⟩

theorem rC_eq {a b c d e f g a' b' c' d' e' f' g' : Int} (h1 : a = a') (h2 : b = b') (h3 : c = c') (h4 : d = d') (h5 : e = e') (h6 : f = f') (h7 : g = g') : (#[.int .i64 a, .int .i64 b, .int .i64 c, .int .i64 d, .int .i64 e, .int .i64 f, .int .i64 g] : Array Value) = #[.int .i64 a', .int .i64 b', .int .i64 c', .int .i64 d', .int .i64 e', .int .i64 f', .int .i64 g'] := by
  subst h1 h2 h3 h4 h5 h6 h7; rfl

set_option maxRecDepth 100000 in
set_option maxHeartbeats 4000000 in
theorem RLay_ok (w : World) (n : Nat) (h1 : 64 ≤ n) (h2 : n ≤ 1024) : Calls Try.prog 7 #[.int .i64 (n : Int)] w fun e w' => e = .returned (.tuple #[.agg (rC n (lay n).ll (lay n).mp (lay n).nd (lay n).tb (lay n).no (lay n).da).toArray, .bool true]) ∧ Nw w w' := by
  have hb1 : ¬ (n : Int) < 64 := by omega
  have hb2 : ¬ (n : Int) > 1024 := by omega
  obtain ⟨LL, NO, hLL, hNO, hca⟩ : ∃ LL NO : Nat, (lay n).ll = LL ∧ (lay n).no = NO ∧ ((LL = 16 ∧ NO = n / 4 ∧ n / 8 < 16 ∧ n / 4 ≤ 128) ∨ (LL = n / 8 ∧ NO = n / 4 ∧ 16 ≤ n / 8 ∧ n / 4 ≤ 128) ∨ (LL = n / 8 ∧ NO = 128 ∧ 16 ≤ n / 8 ∧ 128 < n / 4)) := ⟨_, _, rfl, rfl, by simp only [lay]; omega⟩
  have hy := lay_b n h1 h2
  have HY : Hid (rC n (lay n).ll (lay n).mp (lay n).nd (lay n).tb (lay n).no (lay n).da = rC n LL (1 + LL) (2 + LL) (3 + LL) NO (3 + LL + ((NO + 3) / 4 : Nat))) := by
    unfold Hid
    rw [← hLL, ← hNO]
    simp only [rC]
    rw [hy.1, hy.2.1, hy.2.2.1]
    have := hy.2.2.2.2.2.2.2
    have h3 := hy.2.2.1
    simp
    omega
  have HL1 : LL ≤ 128 := by omega
  have HN1 : NO ≤ 128 := by omega
  rw [HY.out]
  clear hLL hNO hy HY
  go_enter Try.func7, Try.ntmps7
  rcases hca with ⟨hA, hB, hC, hD⟩ | ⟨hA, hB, hC, hD⟩ | ⟨hA, hB, hC, hD⟩
  · have hc1 : (n : Int) / 8 < 16 := by omega
    have hc2 : ¬ (n : Int) / 4 > 128 := by omega
    go_wp2_with fail
    go_loopw [5] (fun i wr => ∃ j : Nat, j ≤ (NO + 3) / 4 ∧ i = .int .i64 (4 * j) ∧ wr = (w.alloc (.cells #[.int .i64 0, .int .i64 0, .int .i64 0, .int .i64 0, .int .i64 0, .int .i64 0, .int .i64 0] 29)).alloc (.cells #[.int .i64 n, .int .i64 LL, .int .i64 (1 + LL), .int .i64 (2 + LL), .int .i64 (3 + LL), .int .i64 NO, .int .i64 (3 + LL + j)] 29)) (fun i _ => (NO + 8 - intOf i).toNat)
    case atStart =>
      refine ⟨0, by omega, rfl, ?_⟩
      refine congrArg (fun q => World.alloc _ (.cells q 29)) (rC_eq ?_ ?_ ?_ ?_ ?_ ?_ ?_) <;> omega
    case round =>
      obtain ⟨j, hj, rfl, rfl⟩ := hrel
      clear hA hB hC hD hc1 hc2
      by_cases hlt : 4 * (j : Int) < NO
      · go_wp2
        exact ⟨⟨j + 1, by omega, by simp [Int.mul_add], congrArg (fun q => World.alloc _ (.cells q 29)) (rC_eq rfl rfl rfl rfl rfl rfl (by omega))⟩, by simp [intOf]; omega⟩
      · have HJ : Hid ((j : Int) = ((NO : Int) + 3) / 4) := by unfold Hid; omega
        go_wp2
        refine bodyPost_ret (resR (b := w.heap.size) (t := 29) rfl rfl ((Blk.new w 29 _).alloc _) rfl) rfl ⟨?_, ((Fr.refl _ w).alloc _).alloc _⟩
        rw [← HJ.out]
        rfl
  · have hc1 : ¬ (n : Int) / 8 < 16 := by omega
    have hc2 : ¬ (n : Int) / 4 > 128 := by omega
    go_wp2_with fail
    go_loopw [5] (fun i wr => ∃ j : Nat, j ≤ (NO + 3) / 4 ∧ i = .int .i64 (4 * j) ∧ wr = (w.alloc (.cells #[.int .i64 0, .int .i64 0, .int .i64 0, .int .i64 0, .int .i64 0, .int .i64 0, .int .i64 0] 29)).alloc (.cells #[.int .i64 n, .int .i64 LL, .int .i64 (1 + LL), .int .i64 (2 + LL), .int .i64 (3 + LL), .int .i64 NO, .int .i64 (3 + LL + j)] 29)) (fun i _ => (NO + 8 - intOf i).toNat)
    case atStart =>
      refine ⟨0, by omega, rfl, ?_⟩
      refine congrArg (fun q => World.alloc _ (.cells q 29)) (rC_eq ?_ ?_ ?_ ?_ ?_ ?_ ?_) <;> omega
    case round =>
      obtain ⟨j, hj, rfl, rfl⟩ := hrel
      clear hA hB hC hD hc1 hc2
      by_cases hlt : 4 * (j : Int) < NO
      · go_wp2
        exact ⟨⟨j + 1, by omega, by simp [Int.mul_add], congrArg (fun q => World.alloc _ (.cells q 29)) (rC_eq rfl rfl rfl rfl rfl rfl (by omega))⟩, by simp [intOf]; omega⟩
      · have HJ : Hid ((j : Int) = ((NO : Int) + 3) / 4) := by unfold Hid; omega
        go_wp2
        refine bodyPost_ret (resR (b := w.heap.size) (t := 29) rfl rfl ((Blk.new w 29 _).alloc _) rfl) rfl ⟨?_, ((Fr.refl _ w).alloc _).alloc _⟩
        rw [← HJ.out]
        rfl
  · have hc1 : ¬ (n : Int) / 8 < 16 := by omega
    have hc2 : (n : Int) / 4 > 128 := by omega
    go_wp2_with fail
    go_loopw [5] (fun i wr => ∃ j : Nat, j ≤ (NO + 3) / 4 ∧ i = .int .i64 (4 * j) ∧ wr = (w.alloc (.cells #[.int .i64 0, .int .i64 0, .int .i64 0, .int .i64 0, .int .i64 0, .int .i64 0, .int .i64 0] 29)).alloc (.cells #[.int .i64 n, .int .i64 LL, .int .i64 (1 + LL), .int .i64 (2 + LL), .int .i64 (3 + LL), .int .i64 NO, .int .i64 (3 + LL + j)] 29)) (fun i _ => (NO + 8 - intOf i).toNat)
    case atStart =>
      refine ⟨0, by omega, rfl, ?_⟩
      refine congrArg (fun q => World.alloc _ (.cells q 29)) (rC_eq ?_ ?_ ?_ ?_ ?_ ?_ ?_) <;> omega
    case round =>
      obtain ⟨j, hj, rfl, rfl⟩ := hrel
      clear hA hB hC hD hc1 hc2
      by_cases hlt : 4 * (j : Int) < NO
      · go_wp2
        exact ⟨⟨j + 1, by omega, by simp [Int.mul_add], congrArg (fun q => World.alloc _ (.cells q 29)) (rC_eq rfl rfl rfl rfl rfl rfl (by omega))⟩, by simp [intOf]; omega⟩
      · have HJ : Hid ((j : Int) = ((NO : Int) + 3) / 4) := by unfold Hid; omega
        go_wp2
        refine bodyPost_ret (resR (b := w.heap.size) (t := 29) rfl rfl ((Blk.new w 29 _).alloc _) rfl) rfl ⟨?_, ((Fr.refl _ w).alloc _).alloc _⟩
        rw [← HJ.out]
        rfl

end Go.Proofs.Ytehoiahgkbnjdaa.Al
