/- The contracts of has, first, ready, waiting. -/
import Derived.Test.YtcpeebkfnnkjnaaDoorUso
import Derived.Test.YtcpeebkfnnkjnaaDoorUtw
import Derived.Test.YtcpeebkfnnkjnaaDoorUwp
import Derived.Laws.BitsAllLaws
namespace Go.Proofs.YtcpeebkfnnkjnaaDoor.Tr
open Go.RowKit Go.Maps

set_option maxRecDepth 100000 in
set_option maxHeartbeats 1000000 in
theorem has_any (w : World) (g j : Nat) (hg : g < 4294967296) (hj : j < 32) : Calls Tryd.prog 53 #[.int .u32 (g : Int), .int .i64 (j : Int)] w fun e w' => e = .returned (.bool (g.testBit j)) ∧ w' = w := by
  have hj' : (0 : Int) ≤ (j : Int) := Int.natCast_nonneg _
  have hj2 : (j : Int) < 32 := by omega
  have HE : Hid ((bits BinOp.and IntKind.u32 ((g : Int) / 2 ^ j) 1 == 1) = g.testBit j) := by
    unfold Hid
    have e1 : ((g : Int) / 2 ^ j) = ((g / 2 ^ j : Nat) : Int) := by simp
    have hlt : g / 2 ^ j < 4294967296 := Nat.lt_of_le_of_lt (Nat.div_le_self _ _) hg
    rw [e1, show (1 : Int) = ((1 : Nat) : Int) from rfl, u32_and_nat _ 1 hlt (by omega), Nat.testBit_eq_decide_div_mod_eq, Nat.and_one_is_mod]
    by_cases h : g / 2 ^ j % 2 = 1
    · rw [h]; rfl
    · have h2 : g / 2 ^ j % 2 = 0 := by omega
      rw [h2]; rfl
  go_enter Tryd.func53, Tryd.ntmps53
  go_wp2_with fail
  go_ret
  exact ⟨by rw [← HE.out]; rfl, rfl⟩
set_option maxRecDepth 100000 in
set_option maxHeartbeats 1000000 in
theorem first_any (w : World) (g : Nat) (hg : g < 4294967296) (hT : TabAt 1 Lib.deBruijn32tab w) : Calls Tryd.prog 37 #[.int .u32 (g : Int)] w fun e w' => e = .returned (.int .i64 (Lib.ctz 32 g : Nat)) ∧ w' = w := by
  have HC := hid (tz_any g hg w (fun _ => hT))
  clear hT
  go_enter Tryd.func37, Tryd.ntmps37
  go_wp2_with fail
  refine HC.out.mono ?_
  rintro e w' ⟨rfl, rfl⟩
  go_wp2_with fail
  go_ret
  exact ⟨rfl, rfl⟩
/-- The cells of groups. -/
def grC (n : Nat) (M : Nat → Nat) : List Value := (List.range n).map (fun q => .int .u32 (M q : Int))
theorem grC_at {n q : Nat} (M : Nat → Nat) (h : q < n) : (grC n M)[q]? = some (.int .u32 (M q : Int)) := by simp [grC, h]
def upd (f : Nat → Nat) (a v : Nat) : Nat → Nat := fun b => if b = a then v else f b
theorem grC_set (n a v : Nat) (M : Nat → Nat) : (grC n M).set a (.int .u32 (v : Int)) = grC n (upd M a v) := by
  refine List.ext_getElem (by simp [grC]) (fun i h1 h2 => ?_)
  rw [List.getElem_set]
  simp only [grC, List.getElem_map, List.getElem_range, upd]
  by_cases e : a = i
  · rw [if_pos e, if_pos e.symm]
  · rw [if_neg e, if_neg (Ne.symm e)]

set_option maxRecDepth 100000 in
set_option maxHeartbeats 2000000 in
theorem ready_any (w : World) (ob n left : Nat) (M : Nat → Nat) (hB : Blk w ob 68 (grC n M)) (hn : n ≤ 24) (hl : left < 4294967296) (hM : ∀ q, M q < 4294967296) :
    Calls Tryd.prog 36 #[.slice (some ⟨ob, 0, none⟩) n n, .int .u32 (left : Int)] w fun e w' => e = .returned (.tuple #[.int .i64 (((rdyF n M left).getD 0 : Nat) : Int), .bool (rdyF n M left).isSome]) ∧ w = w' := by
  have HB := hid hB
  have HMm := hid hM
  have HC := hid (fun (W : World) (j : Nat) (hj : j < 32) => has_any W left j hl hj)
  have HL := hid hl
  clear hB hM hl
  go_enter Tryd.func36, Tryd.ntmps36
  go_wp2_with fail
  go_loopw [10] (fun iv wr => ∃ i : Nat, i ≤ n ∧ iv = .int .i64 (i : Int) ∧ (∀ j, j < i → rdB M left j = false) ∧ w = wr) (fun iv _ => n - (intOf iv).toNat)
  case atStart => exact ⟨0, Nat.zero_le _, rfl, fun j h => by omega, rfl⟩
  case round =>
    obtain ⟨i, hi, rfl, hno, hw⟩ := hrel
    have HNo := hid hno
    have HW := hid hw
    rw [hw] at HB
    clear hno hw
    by_cases hlt : i < n
    · have hi1 : (i : Int) < (n : Int) := by omega
      have q0 := HB.out.cell i
      rw [grC_at M hlt] at q0
      have HCi := hid (HC.out wr i (by omega))
      have HYes : Hid (rdB M left i = true → rdyF n M left = some i) := fun h => rdyF_some hlt h HNo.out
      have HNx : Hid (rdB M left i = false → ∀ j, j < i + 1 → rdB M left j = false) := fun h j hj => by
        rcases Nat.lt_or_eq_of_le (Nat.le_of_lt_succ hj) with h1 | h1
        · exact HNo.out j h1
        · rw [h1]; exact h
      unfold rdB at HYes HNx
      have HAnd : Hid (bits BinOp.and IntKind.u32 (M i : Int) (left : Int) = ((M i &&& left : Nat) : Int)) := u32_and_nat _ _ (HMm.out i) HL.out
      generalize M i = a at *
      cases ht : left.testBit i with
      | false =>
        rw [ht] at HCi HYes HNx
        have HN' := hid (HNx.out (by simp))
        clear HYes HNx ht HC HNo
        go_wp2_with fail
        refine HCi.out.mono ?_
        rintro e w1 ⟨rfl, rfl⟩
        go_wp2_with fail
        exact ⟨⟨i + 1, by omega, by go_num, HN'.out, HW.out⟩, by simp [intOf]; omega⟩
      | true =>
        rw [ht] at HCi HYes HNx
        by_cases hz : a &&& left = 0
        · have HR := hid (HYes.out (by simp [hz]))
          have hb : (bits BinOp.and IntKind.u32 (a : Int) (left : Int) == 0) = true := by rw [HAnd.out, hz]; rfl
          clear HYes HNx ht HC HNo
          go_wp2_with fail
          refine HCi.out.mono ?_
          rintro e w1 ⟨rfl, rfl⟩
          go_wp2_with fail
          go_ret2
          exact ⟨by rw [HR.out]; rfl, HW.out⟩
        · have HN' := hid (HNx.out (by simp [hz]))
          have hb : (bits BinOp.and IntKind.u32 (a : Int) (left : Int) == 0) = false := by rw [HAnd.out]; simpa using hz
          clear HYes HNx ht HC HNo
          go_wp2_with fail
          refine HCi.out.mono ?_
          rintro e w1 ⟨rfl, rfl⟩
          go_wp2_with fail
          exact ⟨⟨i + 1, by omega, by go_num, HN'.out, HW.out⟩, by simp [intOf]; omega⟩
    · have hi1 : ¬ ((i : Int) < (n : Int)) := by omega
      have HE : Hid (rdyF n M left = none) := rdyF_none (fun j hj => HNo.out j (by omega))
      go_wp2_with fail
      go_ret2
      exact ⟨by rw [HE.out]; rfl, HW.out⟩
end Go.Proofs.YtcpeebkfnnkjnaaDoor.Tr
