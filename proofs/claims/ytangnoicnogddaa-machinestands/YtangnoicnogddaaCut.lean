/- Cut and CutPrefix at a slash. -/
import Derived.Test.YtangnoicnogddaaRpa
import Derived.Lib.Bytealg
import Derived.Laws.Externs
namespace Go.Proofs.Ytangnoicnogddaa.Tr
open Go.RowKit

/-- What stands ahead of the first slash, what behind it; is there one? -/
def cut1 : List UInt8 → List UInt8 × List UInt8 × Bool
  | [] => ([], [], false)
  | c :: r => if c = 47 then ([], r, true) else (c :: (cut1 r).1, (cut1 r).2.1, (cut1 r).2.2)
theorem cut1_index (s : List UInt8) : (Lib.indexByte s 47 = -1 ∧ cut1 s = (s, [], false)) ∨ ∃ i : Nat, i < s.length ∧ Lib.indexByte s 47 = (i : Int) ∧ cut1 s = (s.take i, s.drop (i + 1), true) := by
  induction s with
  | nil => exact .inl ⟨rfl, rfl⟩
  | cons c r ih =>
    unfold Lib.indexByte cut1
    by_cases hc : c = 47
    · subst hc
      exact .inr ⟨0, by simp, by simp, by simp⟩
    · have hb : (c == 47) = false := by simpa using hc
      rcases ih with ⟨h1, h2⟩ | ⟨i, hi, h1, h2⟩
      · exact .inl ⟨by simp [hb, h1], by simp [hc, h2]⟩
      · refine .inr ⟨i + 1, by simp; omega, ?_, by simp [hc, h2]⟩
        rw [h1]
        have : ((i : Int) == -1) = false := by rw [beq_eq_false_iff_ne]; omega
        simp [hb, this]
theorem cutS_cut1 (s cur : List UInt8) : cutS cur s = (cur ++ (cut1 s).1) :: (if (cut1 s).2.2 then cutS [] (cut1 s).2.1 else []) := by
  induction s generalizing cur with
  | nil => simp [cutS, cut1]
  | cons c r ih =>
    rw [cutS, cut1]
    by_cases hc : c = 47
    · rw [if_pos hc, if_pos hc]; simp
    · rw [if_neg hc, if_neg hc, ih]; simp
theorem cut1_shorter (s : List UInt8) (h : (cut1 s).2.2 = true) : (cut1 s).2.1.length < s.length := by
  rcases cut1_index s with ⟨_, h2⟩ | ⟨i, hi, _, h2⟩
  · rw [h2] at h; cases h
  · rw [h2]; simp; omega
theorem cut1_le (s : List UInt8) : (cut1 s).1.length ≤ s.length ∧ (cut1 s).2.1.length ≤ s.length := by
  rcases cut1_index s with ⟨_, h2⟩ | ⟨i, hi, _, h2⟩
  · rw [h2]; simp
  · rw [h2]; simp; omega

set_option maxRecDepth 100000 in
set_option maxHeartbeats 1000000 in
theorem ib_any (w : World) (s : List UInt8) (c : Int) : Calls Try.prog 99 #[.string ⟨s.toArray⟩, .int .u8 c] w fun e w' => e = .returned (.int .i64 (Lib.indexByte s c.toNat.toUInt8)) ∧ w' = w := by
  go_enter Try.func99, Try.ntmps99
  go_wp2
  rw [run_callFunc_extern Try.func103 (by kernel_rfl) (by kernel_rfl) (by kernel_rfl) (e := Extern.BytealgIndexByte.indexByte) (by kernel_rfl), Lib.run_indexByteString]
  simp only [Result.andThen]
  rw [Oper.upon_value]
  go_wp2
  go_ret
  exact ⟨rfl, rfl⟩

set_option maxRecDepth 100000 in
set_option maxHeartbeats 1000000 in
theorem idx_any (w : World) (s : List UInt8) : Calls Try.prog 98 #[.string ⟨s.toArray⟩, .string ⟨#[47]⟩] w fun e w' => e = .returned (.int .i64 (Lib.indexByte s 47)) ∧ w' = w := by
  have HI := hid (ib_any w s 47)
  by_cases h : s = [47]
  · subst h
    go_enter Try.func98, Try.ntmps98
    go_wp2_with fail
    go_ret
    exact ⟨rfl, rfl⟩
  · have h' : (([47] : List UInt8) == s) = false := by simpa using fun e => h e.symm
    clear h
    go_enter Try.func98, Try.ntmps98
    go_wp2_with fail
    refine HI.out.mono ?_
    rintro e w1 ⟨rfl, rfl⟩
    go_wp2_with fail
    go_ret
    exact ⟨rfl, rfl⟩

def cutV (x : List UInt8 × List UInt8 × Bool) : Value := .tuple #[.string ⟨x.1.toArray⟩, .string ⟨x.2.1.toArray⟩, .bool x.2.2]
set_option maxRecDepth 100000 in
set_option maxHeartbeats 1000000 in
theorem cutl_any (w : World) (s : List UInt8) (hs : s.length ≤ 140737488355328) : Calls Try.prog 97 #[.string ⟨s.toArray⟩, .string ⟨#[47]⟩] w fun e w' => e = .returned (cutV (cut1 s)) ∧ ∃ n, w' = w.drewN n := by
  have HI := hid (idx_any w s)
  rcases cut1_index s with ⟨h1, h2⟩ | ⟨i, hi, h1, h2⟩
  · rw [h1] at HI
    have H2 := hid h2
    clear h1 h2
    go_enter Try.func97, Try.ntmps97
    go_wp2_with fail
    refine HI.out.mono ?_
    rintro e w1 ⟨rfl, rfl⟩
    go_wp2_with fail
    exact bodyPost_ret (v := cutV (s, [], false)) (by simp [results, Try.results97, go_sem, cutV]) rfl ⟨by rw [H2.out], 0, rfl⟩
  · rw [h1] at HI
    have H2 := hid h2
    have hi0 : (0 : Int) ≤ (i : Int) := Int.natCast_nonneg _
    have hi1 : (i : Int) < (s.length : Int) := by omega
    have HX1 := hid (ext_sub s 0 i)
    have HX2 := hid (ext_sub s (i + 1) s.length)
    clear h1 h2
    go_enter Try.func97, Try.ntmps97
    go_wp2_with fail
    refine HI.out.mono ?_
    rintro e w1 ⟨rfl, rfl⟩
    go_wp2_with fail
    go_quiet (fail)
    go_wp2_with fail
    refine bodyPost_ret (v := cutV (s.take i, s.drop (i + 1), true)) ?_ rfl ⟨by rw [H2.out], nq, rfl⟩
    rw [HX1.out, HX2.out, sub_all]
    simp [results, Try.results97, go_sem, cutV, sub]

set_option maxRecDepth 100000 in
set_option maxHeartbeats 1000000 in
theorem cut_any (w : World) (s : List UInt8) (hs : s.length ≤ 140737488355328) : Calls Try.prog 96 #[.string ⟨s.toArray⟩, .string ⟨#[47]⟩] w fun e w' => e = .returned (cutV (cut1 s)) ∧ ∃ n, w' = w.drewN n := by
  have HI := hid (cutl_any w s hs)
  go_enter Try.func96, Try.ntmps96
  go_wp2_with fail
  refine HI.out.mono ?_
  rintro e w1 ⟨rfl, n, rfl⟩
  unfold cutV
  go_wp2_with fail
  exact bodyPost_ret (v := cutV (cut1 s)) (by simp [results, Try.results96, go_sem, cutV]) rfl ⟨rfl, n, rfl⟩

def hasSl (s : List UInt8) : Bool := s.head? == some 47
set_option maxRecDepth 100000 in
set_option maxHeartbeats 1000000 in
theorem hasp_any (w : World) (s : List UInt8) : Calls Try.prog 91 #[.string ⟨s.toArray⟩, .string ⟨#[47]⟩] w fun e w' => e = .returned (.bool (hasSl s)) ∧ w' = w := by
  cases s with
  | nil =>
    go_enter Try.func91, Try.ntmps91
    go_wp2
    go_ret
    exact ⟨rfl, rfl⟩
  | cons c r =>
    have hl : (1 : Int) ≤ (((c :: r).length : Nat) : Int) := by simp; omega
    have HX := hid (ext_sub (c :: r) 0 1)
    have HE : Hid ((sub (c :: r) 0 1 == [47]) = hasSl (c :: r)) := by
      unfold Hid sub hasSl
      rw [Bool.eq_iff_iff]
      simp
    generalize (c :: r) = t at *
    go_enter Try.func91, Try.ntmps91
    go_wp2
    go_ret
    rw [HX.out]
    exact ⟨congrArg (fun x => Ending.returned (.bool x)) (by rw [ByteArray.toList_mk]; exact HE.out), rfl⟩

set_option maxRecDepth 100000 in
set_option maxHeartbeats 1000000 in
theorem cutp_any (w : World) (s : List UInt8) : Calls Try.prog 94 #[.string ⟨s.toArray⟩, .string ⟨#[47]⟩] w fun e w' => e = .returned (.tuple #[.string ⟨(if hasSl s then s.drop 1 else s).toArray⟩, .bool (hasSl s)]) ∧ w' = w := by
  have HI := hid (hasp_any w s)
  cases hb : hasSl s with
  | false =>
    rw [hb] at HI
    go_enter Try.func94, Try.ntmps94
    go_wp2_with fail
    refine HI.out.mono ?_
    rintro e w1 ⟨rfl, rfl⟩
    go_wp2_with fail
    go_ret2
    exact ⟨rfl, rfl⟩
  | true =>
    rw [hb] at HI
    have h1 : (1 : Int) ≤ ((s.length : Nat) : Int) := by
      cases s with
      | nil => cases hb
      | cons c r => simp; omega
    have HX := hid (ext_sub s 1 s.length)
    go_enter Try.func94, Try.ntmps94
    go_wp2_with fail
    refine HI.out.mono ?_
    rintro e w1 ⟨rfl, rfl⟩
    go_wp2_with fail
    go_ret2
    refine ⟨?_, rfl⟩
    rw [HX.out, sub_all, List.drop_one]
    rfl

set_option maxRecDepth 100000 in
set_option maxHeartbeats 1000000 in
theorem cutpre_any (w : World) (s : List UInt8) : Calls Try.prog 89 #[.string ⟨s.toArray⟩, .string ⟨#[47]⟩] w fun e w' => e = .returned (.tuple #[.string ⟨(if hasSl s then s.drop 1 else s).toArray⟩, .bool (hasSl s)]) ∧ w' = w := by
  have HI := hid (cutp_any w s)
  go_enter Try.func89, Try.ntmps89
  generalize (if hasSl s then s.drop 1 else s) = t at *
  go_wp2_with fail
  refine HI.out.mono ?_
  rintro e w1 ⟨rfl, rfl⟩
  go_wp2_with fail
  go_ret2
  exact ⟨rfl, rfl⟩

end Go.Proofs.Ytangnoicnogddaa.Tr
