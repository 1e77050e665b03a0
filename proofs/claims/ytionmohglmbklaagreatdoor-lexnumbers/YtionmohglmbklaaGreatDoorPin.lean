/- ParseInt over digits. -/
import Derived.Test.YtionmohglmbklaaGreatDoorNum
import Derived.Test.YtionmohglmbklaaGreatDoorRfl
import Derived.Lib.ConvBytes
namespace Go.Proofs.YtionmohglmbklaaGreatDoor.Tr
open Go.RowKit

theorem conv_in (w : World) (s : List UInt8) : ∃ w1 c, (convert 9 60 (.string ⟨s.toArray⟩)).run Tryz.prog w = .ok (.slice (some ⟨w.heap.size, 0, none⟩) s.length c) w1 ∧ Src w1 (some ⟨w.heap.size, 0, none⟩) s ∧ Fr (fun _ => False) w w1 := by
  refine ⟨_, _, Lib.run_convert_string_bytes (P := Tryz.prog) w 9 60 5 ⟨s.toArray⟩ Tryz.underlying9 Tryz.underlying60 Tryz.underlying5, fun _ => ⟨w.heap.size, 0, rfl, fun j v hv => ?_⟩, ?_⟩
  · have hj : j < s.length := by
      rcases Nat.lt_or_ge j s.length with h | h
      · exact h
      · rw [List.getElem?_eq_none (by rw [bs_length]; exact h)] at hv; cases hv
    rw [Nat.zero_add, Lib.bytesWorld_cell w 5 ⟨s.toArray⟩ j hj, ← hv, bs_at s j hj]
    simp [bv, hj]
  · exact ⟨rfl, rfl, rfl, by rw [Lib.bytesWorld_size]; omega, fun k hk _ => Lib.bytesWorld_at_old w 5 _ k hk⟩

/-- What digits say. -/
def vstep (n : Nat) (c : UInt8) : Nat := n * 10 + (c.toNat - 48)
def val (s : List UInt8) : Nat := s.foldl vstep 0
theorem val_take (s : List UInt8) (k : Nat) (h : k < s.length) : val (s.take (k + 1)) = vstep (val (s.take k)) s[k] := by
  unfold val
  rw [List.take_succ_eq_append_getElem h, List.foldl_append]; rfl
theorem vfold_ge : ∀ (l : List UInt8) (n : Nat), n ≤ l.foldl vstep n
  | [], _ => Nat.le_refl _
  | c :: r, n => Nat.le_trans (by unfold vstep; omega) (vfold_ge r (vstep n c))
theorem val_le (s : List UInt8) (k : Nat) : val (s.take k) ≤ val s := by
  have h : val s = (s.drop k).foldl vstep (val (s.take k)) := by
    unfold val
    rw [← List.foldl_append, List.take_append_drop]
  rw [h]; exact vfold_ge _ _

set_option maxRecDepth 100000 in
set_option maxHeartbeats 4000000 in
theorem puint_ok (w : World) {s : List UInt8} (hd : s.all isDig = true) (hl : s.length ≤ 4096) (hne : 0 < s.length) (hv : val s < 18446744073709551616) : Calls Tryz.prog 154 #[.string ⟨s.toArray⟩, .int .i64 10, .int .i64 64] w fun e w' => e = .returned (.tuple #[.int .u64 (val s : Int), .nilIface]) ∧ Fr (fun _ => False) w w' := by
  have hnil : ¬ s = [] := fun e => by subst e; simp at hne
  have hnil2 : (s == []) = false := by simpa using hnil
  have hmax : IntKind.u64.wrap (IntKind.u64.wrap 18446744073709551616 - 1) = 18446744073709551615 := by decide +kernel
  obtain ⟨w1, cc, hcv, hsrc, hf1⟩ := conv_in w s
  have HSrc := hid hsrc
  have HF1 := hid hf1
  have HD := hid hd
  have HVl := hid (fun k => val_le s k)
  clear hsrc hf1 hd
  go_enter Tryz.func154, Tryz.ntmps154
  go_wp2_with fail
  go_loopw [6, 7, 12, 13, 101] (fun _ _ us nv iv wr => ∃ k : Nat, k ≤ s.length ∧ iv = .int .i64 (k : Int) ∧ us = .bool false ∧ nv = .int .u64 (val (s.take k) : Int) ∧ w1 = wr) (fun _ _ _ _ iv _ => s.length - (intOf iv).toNat)
  case atStart => exact ⟨0, Nat.zero_le _, rfl, rfl, rfl, rfl⟩
  case round =>
    obtain ⟨k, hk, rfl, rfl, rfl, rfl⟩ := hrel
    have hk0 : (0 : Int) ≤ (k : Int) := Int.natCast_nonneg _
    by_cases hlt : k < s.length
    · have hk1 : (k : Int) < (s.length : Int) := by omega
      obtain ⟨bb, bo, e1, hr⟩ := HSrc.out (by intro e; subst e; simp at hlt)
      cases e1
      have c0 := hr k _ (bs_at s k hlt)
      rw [Nat.zero_add] at c0
      have hdk : isDig s[k] = true := List.all_eq_true.1 HD.out _ (List.getElem_mem _)
      rw [dig_iff] at hdk
      have hv1 := HVl.out (k + 1)
      rw [val_take s k hlt] at hv1
      have HVt := hid (val_take s k hlt)
      unfold vstep at hv1
      unfold bv at c0
      generalize hcx : s[k].toNat = c at *
      generalize hnx : val (s.take k) = n at *
      have d48 : (48 : Int) ≤ (c : Int) := by omega
      have d57 : (c : Int) ≤ 57 := by omega
      have e95 : ((c : Int) == 95) = false := by simp; omega
      have hcut : ¬ ((n : Int) ≥ 1844674407370955162) := by omega
      have hcut' : decide ((n : Int) ≥ 1844674407370955162) = false := decide_eq_false hcut
      go_wp2_with fail
      refine ⟨⟨k + 1, hlt, rfl, rfl, ?_, by first | rfl | trivial⟩, by simp [intOf]; omega⟩
      rw [HVt.out]; unfold vstep; rw [hcx]; congr 1; omega
    · obtain rfl : k = s.length := by omega
      rw [List.take_length]
      go_wp2_with fail
      go_ret2
      exact ⟨rfl, HF1.out⟩

set_option maxRecDepth 100000 in
set_option maxHeartbeats 4000000 in
theorem puint_no (w : World) {s : List UInt8} (hd : s.all isDig = true) (hl : s.length ≤ 4096) (hne : 0 < s.length) (hv : 18446744073709551616 ≤ val s) : Calls Tryz.prog 154 #[.string ⟨s.toArray⟩, .int .i64 10, .int .i64 64] w fun e w' => e = .returned (.tuple #[.int .u64 18446744073709551615, .iface 145 (.int .i64 1)]) ∧ Fr (fun _ => False) w w' := by
  have hnil : ¬ s = [] := fun e => by subst e; simp at hne
  have hnil2 : (s == []) = false := by simpa using hnil
  have hmax : IntKind.u64.wrap (IntKind.u64.wrap 18446744073709551616 - 1) = 18446744073709551615 := by decide +kernel
  obtain ⟨w1, cc, hcv, hsrc, hf1⟩ := conv_in w s
  have HSrc := hid hsrc
  have HF1 := hid hf1
  have HD := hid hd
  clear hsrc hf1 hd
  go_enter Tryz.func154, Tryz.ntmps154
  go_wp2_with fail
  go_loopw [6, 7, 12, 13, 101] (fun _ _ us nv iv wr => ∃ k : Nat, k ≤ s.length ∧ iv = .int .i64 (k : Int) ∧ us = .bool false ∧ nv = .int .u64 (val (s.take k) : Int) ∧ val (s.take k) < 18446744073709551616 ∧ w1 = wr) (fun _ _ _ _ iv _ => s.length - (intOf iv).toNat)
  case atStart => exact ⟨0, Nat.zero_le _, rfl, rfl, rfl, by simp [val], rfl⟩
  case round =>
    obtain ⟨k, hk, rfl, rfl, rfl, hvk, rfl⟩ := hrel
    have hk0 : (0 : Int) ≤ (k : Int) := Int.natCast_nonneg _
    by_cases hlt : k < s.length
    · have hk1 : (k : Int) < (s.length : Int) := by omega
      obtain ⟨bb, bo, e1, hr⟩ := HSrc.out (by intro e; subst e; simp at hlt)
      cases e1
      have c0 := hr k _ (bs_at s k hlt)
      rw [Nat.zero_add] at c0
      have hdk : isDig s[k] = true := List.all_eq_true.1 HD.out _ (List.getElem_mem _)
      rw [dig_iff] at hdk
      have HVt := hid (val_take s k hlt)
      unfold bv at c0
      generalize hcx : s[k].toNat = c at *
      generalize hnx : val (s.take k) = n at *
      clear hv
      have d48 : (48 : Int) ≤ (c : Int) := by omega
      have d57 : (c : Int) ≤ 57 := by omega
      have e95 : ((c : Int) == 95) = false := by simp; omega
      by_cases hbig : 1844674407370955162 ≤ n
      · have hcut' : decide ((n : Int) ≥ 1844674407370955162) = true := decide_eq_true (by omega)
        go_wp2_with fail
        go_ret2
        exact ⟨rfl, HF1.out⟩
      · have hcut : ¬ ((n : Int) ≥ 1844674407370955162) := by omega
        have hcut' : decide ((n : Int) ≥ 1844674407370955162) = false := decide_eq_false hcut
        by_cases hov : n * 10 + (c - 48) < 18446744073709551616
        · go_wp2_with fail
          refine ⟨⟨k + 1, hlt, rfl, rfl, ?_, ?_, by first | rfl | trivial⟩, by simp [intOf]; omega⟩
          · rw [HVt.out]; unfold vstep; rw [hcx]; congr 1; omega
          · rw [HVt.out]; unfold vstep; rw [hcx]; exact hov
        · have hn1 : n = 1844674407370955161 := by omega
          clear hnx hbig hcut hcut'
          subst hn1
          have hw : IntKind.u64.wrap (18446744073709551610 + ((c : Int) - 48)) = (c : Int) - 54 := by
            unfold IntKind.wrap
            simp [IntKind.signed, IntKind.bits]
            omega
          have hlow : (c : Int) - 54 < 18446744073709551610 := by omega
          have hlow' : decide ((c : Int) - 54 < 18446744073709551610) = true := decide_eq_true hlow
          go_wp2_with fail
          go_ret2
          exact ⟨rfl, HF1.out⟩
    · exfalso
      obtain rfl : k = s.length := by omega
      rw [List.take_length] at hvk
      omega

set_option maxRecDepth 100000 in
set_option maxHeartbeats 4000000 in
theorem ipint_ok (w : World) {s : List UInt8} (hd : s.all isDig = true) (hl : s.length ≤ 4096) (hne : 0 < s.length) (hv : val s < 9223372036854775808) : Calls Tryz.prog 125 #[.string ⟨s.toArray⟩, .int .i64 10, .int .i64 64] w fun e w' => e = .returned (.tuple #[.int .i64 (val s : Int), .nilIface]) ∧ Fr (fun _ => False) w w' := by
  have hnil : ¬ s = [] := fun e => by subst e; simp at hne
  have hnil2 : (s == []) = false := by simpa using hnil
  have hd0 : isDig s[0] = true := List.all_eq_true.1 hd _ (List.getElem_mem _)
  rw [dig_iff] at hd0
  have e43 : ((((ByteArray.mk s.toArray)[0]'(by simpa [ByteArray.size] using hne)).toNat : Int) == 43) = false := by rw [str_at s 0 hne]; simp; omega
  have e45 : ((((ByteArray.mk s.toArray)[0]'(by simpa [ByteArray.size] using hne)).toNat : Int) == 45) = false := by rw [str_at s 0 hne]; simp; omega
  have h01 : (0 : Int) < (s.length : Int) := by omega
  have HC := hid (puint_ok w hd hl hne (by omega))
  generalize val s = v at *
  clear hd hd0
  go_enter Tryz.func125, Tryz.ntmps125
  go_wp2_with fail
  refine HC.out.mono ?_
  rintro e w2 ⟨rfl, f2⟩
  have HF := hid f2
  clear f2 HC
  have hge : ¬ ((v : Int) ≥ 9223372036854775808) := by omega
  have hge' : decide ((v : Int) ≥ 9223372036854775808) = false := decide_eq_false hge
  go_wp2_with fail
  go_ret2
  exact ⟨rfl, HF.out⟩

set_option maxRecDepth 100000 in
set_option maxHeartbeats 4000000 in
theorem pint_ok {w0 : World} {s : List UInt8} (hd : s.all isDig = true) (hl : s.length ≤ 4096) (hne : 0 < s.length) (hv : val s < 9223372036854775808) : PIok w0 s (val s : Int) := by
  intro w _
  have HC := hid (ipint_ok w hd hl hne hv)
  generalize val s = v at *
  clear hd
  go_enter Tryz.func101, Tryz.ntmps101
  go_wp2_with fail
  refine HC.out.mono ?_
  rintro e w2 ⟨rfl, f2⟩
  have HF := hid f2
  clear f2 HC
  go_wp2_with fail
  go_ret2
  exact ⟨rfl, HF.out⟩

end Go.Proofs.YtionmohglmbklaaGreatDoor.Tr
