/- The contracts of read, Right. -/
import Derived.Test.YtniailfcmlongaaGreatDoorTrw
namespace Go.Proofs.YtniailfcmlongaaGreatDoor.Tr
open Go.RowKit

/-- The cell that strings.Index asks for. -/
def Mx (w : World) : Prop := ∃ m : Int, w.cell? ⟨1, 0, none⟩ = some (.int .i64 m)
theorem Mx.env {w W : World} (h : Mx w) (e : Env w W) : Mx W := by
  obtain ⟨m, hm⟩ := h
  exact ⟨m, e.cell hm⟩

theorem words_short : ∀ (t : List UInt8), ∀ s ∈ spl t, s.length ≤ t.length
  | [], s, h => by simp [spl] at h; subst h; simp
  | c :: r, s, h => by
    rw [spl] at h
    split at h
    · rcases List.mem_cons.1 h with rfl | h
      · simp
      · have := words_short r s h
        simp; omega
    · cases e : spl r with
      | nil => exact absurd e (spl_ne r)
      | cons a l =>
        rw [e] at h
        simp only at h
        rcases List.mem_cons.1 h with rfl | h
        · have := words_short r a (by rw [e]; simp)
          simp; omega
        · have := words_short r s (by rw [e]; simp [h])
          simp; omega
theorem split_any (w : World) (t : List UInt8) (ht : t.length ≤ 64) (hm : Mx w) : Calls Tryz.prog 38 #[.string ⟨t.toArray⟩, .string ⟨#[32]⟩] w fun e w' => e = .returned (.slice (some ⟨w.heap.size, 0, none⟩) (spl t).length (spl t).length) ∧ Fr (fun _ => False) w w' ∧ Wds w' (some ⟨w.heap.size, 0, none⟩) (spl t) := by
  obtain ⟨m, hm⟩ := hm
  have hd : (Lib.splitB ⟨#[32]⟩ 0 (Lib.countB ⟨t.toArray⟩ ⟨#[32]⟩) ⟨t.toArray⟩).map (·.data.toList) = spl t := by
    rw [Lib.splitB_data]
    refine splitK_spl _ _ ?_
    show t.count 32 ≤ Lib.count t [32]
    rw [Lib.count_one]
    exact Nat.le_refl _
  have hl : Lib.countB ⟨t.toArray⟩ ⟨#[32]⟩ + 1 = (spl t).length := by
    rw [spl_len]
    show Lib.count t [32] + 1 = _
    rw [Lib.count_one]
  refine (Tryz.strings_Split ⟨t.toArray⟩ ⟨#[32]⟩ m w (by simp [ByteArray.size]; omega) hm (by decide)).mono ?_
  rintro e w' ⟨rfl, rfl⟩
  refine ⟨by rw [hl], (Fr.refl _ w).alloc _, ⟨fun _ => ⟨w.heap.size, 0, rfl, fun i hi => ?_⟩, ?_, fun s hs => Nat.le_trans (words_short t s hs) ht⟩⟩
  · have hb := Blk.new w 9 ((Lib.splitB ⟨#[32]⟩ 0 (Lib.countB ⟨t.toArray⟩ ⟨#[32]⟩) ⟨t.toArray⟩).map Value.string)
    rw [Nat.zero_add, hb.cell i, List.getElem?_map]
    have he : (Lib.splitB ⟨#[32]⟩ 0 (Lib.countB ⟨t.toArray⟩ ⟨#[32]⟩) ⟨t.toArray⟩)[i]?.map (·.data.toList) = some (spl t)[i] := by
      rw [← List.getElem?_map, hd, List.getElem?_eq_getElem hi]
    cases e : (Lib.splitB ⟨#[32]⟩ 0 (Lib.countB ⟨t.toArray⟩ ⟨#[32]⟩) ⟨t.toArray⟩)[i]? with
    | none => rw [e] at he; cases he
    | some x =>
      rw [e] at he
      simp only [Option.map_some, Option.some.injEq] at he ⊢
      rw [← he]
  · rw [spl_len]
    have := List.count_le_length (a := (32 : UInt8)) (l := t)
    omega

set_option maxRecDepth 100000 in
set_option maxHeartbeats 4000000 in
theorem read_any (w : World) (t : List UInt8) (hl : t.length ≤ 140737488355328) (hm : Mx w) : Calls Tryz.prog 23 #[.string ⟨t.toArray⟩] w fun e w' => KPost w (readT t) e w' := by
  by_cases h64 : 64 < t.length
  · have h64' : decide ((64 : Int) < ((t.length : Nat) : Int)) = true := by simpa using (show (64 : Int) < ((t.length : Nat) : Int) by omega)
    have HT : Hid (readT t = none) := by unfold Hid readT; rw [if_neg (by omega)]
    generalize readT t = T at *
    clear h64
    go_enter Tryz.func23, Tryz.ntmps23
    go_wp2_with fail
    go_ret
    exact ⟨Fr.refl _ _, .inl ⟨HT.out, rfl⟩⟩
  · have h64' : decide ((64 : Int) < ((t.length : Nat) : Int)) = false := by simpa using (show ((t.length : Nat) : Int) ≤ 64 by omega)
    have HS := hid (split_any w t (by omega) hm)
    have HT : Hid (readT t = if (spl t).length ≤ 8 then tyOf (spl t) else none) := by
      unfold Hid readT
      by_cases h : (spl t).length ≤ 8
      · rw [if_pos ⟨by omega, h⟩, if_pos h]
      · rw [if_neg (fun e => h e.2), if_neg h]
    have HR := hid (readWords_any (spl t))
    generalize spl t = ws at *
    generalize readT t = T at *
    clear h64 hm
    go_enter Tryz.func23, Tryz.ntmps23
    go_wp2_with fail
    refine HS.out.mono ?_
    rintro e w1 ⟨rfl, f1, hw⟩
    have HF := hid f1
    have HW := hid hw
    clear f1 hw HS
    by_cases h8 : 8 < ws.length
    · have h8' : decide ((8 : Int) < ((ws.length : Nat) : Int)) = true := by simpa using (show (8 : Int) < ((ws.length : Nat) : Int) by omega)
      have HT2 : Hid (T = none) := by unfold Hid; rw [HT.out, if_neg (by omega)]
      clear h8
      go_wp2_with fail
      go_ret
      exact ⟨HF.out, .inl ⟨HT2.out, rfl⟩⟩
    · have h8' : decide ((8 : Int) < ((ws.length : Nat) : Int)) = false := by simpa using (show ((ws.length : Nat) : Int) ≤ 8 by omega)
      have HT2 : Hid (T = tyOf ws) := by unfold Hid; rw [HT.out, if_pos (by omega)]
      have HC := hid (HR.out w1 _ _ HW.out (Nat.le_refl _))
      rw [← HT2.out] at HC
      clear h8 HT HT2
      go_wp2_with fail
      refine HC.out.mono ?_
      rintro e w2 hP
      obtain ⟨f2, ⟨e2, rfl⟩ | ⟨t2, b2, e2, rfl, k2⟩⟩ := hP
      · have HQ : Hid (KPost w T (.returned (.pointer none)) w2) := ⟨HF.out.trans f2 (fun _ h => h.elim), .inl ⟨e2, rfl⟩⟩
        clear f2 e2
        go_wp2_with fail
        go_ret
        exact HQ.out
      · have HQ : Hid (KPost w T (.returned (pv b2)) w2) := ⟨HF.out.trans f2 (fun _ h => h.elim), .inr ⟨t2, b2, e2, rfl, k2⟩⟩
        clear f2 e2 k2
        go_wp2_with fail
        go_ret
        exact HQ.out

set_option maxRecDepth 100000 in
set_option maxHeartbeats 4000000 in
theorem tRight_any (w : World) (t : List UInt8) (hl : t.length ≤ 140737488355328) (hm : Mx w) : Calls Tryz.prog 12 #[.string ⟨t.toArray⟩] w fun e w' => e = .returned (.bool (readT t).isSome) ∧ Fr (fun _ => False) w w' := by
  have HC := hid (read_any w t hl hm)
  generalize readT t = T at *
  clear hm
  go_enter Tryz.func12, Tryz.ntmps12
  go_wp2_with fail
  refine HC.out.mono ?_
  rintro e w2 ⟨f2, ⟨rfl, rfl⟩ | ⟨t2, b2, rfl, rfl, k2⟩⟩
  · have HF := hid f2
    clear f2
    go_wp2_with fail
    go_ret
    exact ⟨rfl, HF.out⟩
  · have HF := hid f2
    clear f2 k2
    go_wp2_with fail
    go_ret
    exact ⟨rfl, HF.out⟩
end Go.Proofs.YtniailfcmlongaaGreatDoor.Tr
