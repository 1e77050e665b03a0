import Derived.Test.YtniailfcmlongaaGreatDoorTenM
/- The contracts of readOuter, readWords, read. -/
namespace Go.Proofs.YtniailfcmlongaaGreatDoor.Tr
open Go.RowKit

/-- What readWords tells of words. -/
def RwOf (ws : List (List UInt8)) : Prop := ∀ (w : World) (ad : Option Addr) (cap : Nat), Wds w ad ws → ws.length ≤ cap → Calls Tryz.prog 39 #[.slice ad ws.length cap] w fun e w' => KPost w (tyOf ws) e w'

set_option maxRecDepth 100000 in
set_option maxHeartbeats 4000000 in
theorem readOuter_of (s : List UInt8) (k : Ty → Ty) (hs : (s = sList ∧ k = .list) ∨ (s = sAttrs ∧ k = .attrs)) (ws : List (List UInt8)) (hR : RwOf ws) (w : World) (ad : Option Addr) (cap : Nat) (h : Wds w ad ws) (hcap : ws.length ≤ cap) :
    Calls Tryz.prog 63 #[.string ⟨s.toArray⟩, .slice ad ws.length cap] w fun e w' => KPost w ((tyOf ws).map k) e w' := by
  have HC := hid (hR w ad cap h hcap)
  have HS := hid hs
  generalize tyOf ws = T at *
  clear hR h hs
  go_enter Tryz.func63, Tryz.ntmps63
  go_wp2_with fail
  refine HC.out.mono ?_
  rintro e w1 ⟨f1, ⟨rfl, rfl⟩ | ⟨t, b, rfl, rfl, hk⟩⟩
  · have HF := hid f1
    clear f1
    go_wp2_with fail
    go_ret
    exact ⟨HF.out, .inl ⟨rfl, rfl⟩⟩
  · have HF := hid f1
    have HK := hid hk
    have HFk : Hid (Fr (fun _ => False) w (kBox w1 s 0 0 none 0 0 (some ⟨b, 0, none⟩))) := f1.alloc _
    have HE : Hid (Env w1 (kBox w1 s 0 0 none 0 0 (some ⟨b, 0, none⟩))) := Env.alloc w1 _
    have HB := hid (kBlk w1 s 0 0 none 0 0 (some ⟨b, 0, none⟩))
    clear f1 hk
    go_wp2_with fail
    go_ret
    refine ⟨HFk.out, .inr ⟨k t, w1.heap.size, rfl, rfl, ?_⟩⟩
    rcases HS.out with ⟨rfl, rfl⟩ | ⟨rfl, rfl⟩
    · exact ⟨HB.out.cell 0, b, HB.out.cell 4, KIn.env HE.out _ _ HK.out⟩
    · exact ⟨HB.out.cell 0, b, HB.out.cell 4, KIn.env HE.out _ _ HK.out⟩

set_option maxRecDepth 100000 in
set_option maxHeartbeats 4000000 in
theorem readWords_step (s : List UInt8) (ws : List (List UInt8)) (hR : RwOf ws) : RwOf (s :: ws) := by
  intro w ad cap h hcap
  obtain ⟨rb, ro, rfl, hc⟩ := h.at_ (by simp)
  have c0 : w.cell? ⟨rb, ro, none⟩ = some (.string ⟨s.toArray⟩) := hc 0 (by simp)
  have hfew : ws.length + 1 ≤ 100 := by simpa using h.few
  have hcap' : ws.length + 1 ≤ cap := by simpa using hcap
  have HW : Hid (∀ ad', (ws ≠ [] → ad' = some ⟨rb, ro + 1, none⟩) → Wds w ad' ws) := fun ad' e => ⟨fun hne => ⟨rb, ro + 1, e hne, fun i hi => by
    have := hc (i + 1) (by simpa using hi)
    rw [show ro + 1 + i = ro + (i + 1) by omega]
    simpa using this⟩, by omega, fun t ht => h.short t (by simp [ht])⟩
  have HR := hid hR
  clear h hc hR hcap
  have hlen : ((s :: ws).length : Nat) = ws.length + 1 := rfl
  rw [hlen]
  clear hlen
  by_cases hb : s = sBool ∨ s = sFloat ∨ s = sString ∨ s = sLines ∨ s = sUnit
  · have HT : Hid (tyOf (s :: ws) = if ws.length = 0 then some (.bare s) else none) := by
      unfold Hid; rw [tyOf, if_pos hb]
      by_cases e : ws = []
      · subst e; rfl
      · rw [if_neg e, if_neg (by simpa using e)]
    generalize tyOf (s :: ws) = T at *
    have HC' : Hid (∀ W ad' cap', Calls Tryz.prog 60 #[.string ⟨s.toArray⟩, .slice ad' ws.length cap'] W fun e w' => KPost W T e w') := fun W ad' cap' => by rw [HT.out]; exact readBare_any W s ad' ws.length cap'
    clear HT
    rcases hb with rfl | rfl | rfl | rfl | rfl
    all_goals
      go_enter Tryz.func39, Tryz.ntmps39
      go_wp2_with fail
      go_quiet (fail)
      have HE : Hid (Fr (fun _ => False) w (w.drewN nq)) := (Fr.refl _ w).drewN nq
      have HD : Hid (∀ e W, KPost (w.drewN nq) T e W → KPost w T e W) := fun e W h => ⟨HE.out.trans h.1 (fun _ h => h.elim), h.2⟩
      go_wp2_with fail
      all_goals
        refine (HC'.out _ _ _).mono ?_
        intro e w1 hP
        have HP := hid (HD.out _ _ hP)
        clear hP
        obtain ⟨f1, ⟨e1, rfl⟩ | ⟨t1, b1, e1, rfl, k1⟩⟩ := HP.out
        · have HQ : Hid (KPost w T (.returned (.pointer none)) w1) := HP.out
          clear f1 e1 HP
          go_wp2_with fail
          go_ret
          exact HQ.out
        · have HQ : Hid (KPost w T (.returned (pv b1)) w1) := HP.out
          clear f1 e1 k1 HP
          go_wp2_with fail
          go_ret
          exact HQ.out
  have q1 : (s == sBool) = false := by simp; exact fun h => hb (.inl h)
  have q2 : (s == sFloat) = false := by simp; exact fun h => hb (.inr (.inl h))
  have q3 : (s == sString) = false := by simp; exact fun h => hb (.inr (.inr (.inl h)))
  have q4 : (s == sLines) = false := by simp; exact fun h => hb (.inr (.inr (.inr (.inl h))))
  have q5 : (s == sUnit) = false := by simp; exact fun h => hb (.inr (.inr (.inr (.inr h))))
  by_cases hi : s = sInt
  · subst hi
    clear q1 q2 q3 q4 q5
    have HT : Hid (tyOf (sInt :: ws) = intTy ws) := by unfold Hid; rw [tyOf, if_neg hb, if_pos rfl]
    generalize tyOf (sInt :: ws) = T at *
    have HC' : Hid (∀ W ad' cap', Fr (fun _ => False) w W → (ws ≠ [] → ad' = some ⟨rb, ro + 1, none⟩) → Calls Tryz.prog 61 #[.slice ad' ws.length cap'] W fun e w' => KPost W T e w') := fun W ad' cap' f e => by rw [HT.out]; exact readInt_any W ad' cap' ws ((HW.out ad' e).env (Env.of f))
    clear HT hb
    go_enter Tryz.func39, Tryz.ntmps39
    go_wp2_with fail
    go_quiet (fail)
    have HE : Hid (Fr (fun _ => False) w (w.drewN nq)) := (Fr.refl _ w).drewN nq
    have HD : Hid (∀ e W, KPost (w.drewN nq) T e W → KPost w T e W) := fun e W h => ⟨HE.out.trans h.1 (fun _ h => h.elim), h.2⟩
    go_wp2_with fail
    all_goals
      refine (HC'.out _ _ _ HE.out (by first | exact fun _ => rfl | (intro hne; exfalso; have := List.length_pos_iff.2 hne; omega))).mono ?_
      intro e w1 hP
      have HP := hid (HD.out _ _ hP)
      clear hP
      obtain ⟨f1, ⟨e1, rfl⟩ | ⟨t1, b1, e1, rfl, k1⟩⟩ := HP.out
      · have HQ : Hid (KPost w T (.returned (.pointer none)) w1) := HP.out
        clear f1 e1 HP
        go_wp2_with fail
        go_ret
        exact HQ.out
      · have HQ : Hid (KPost w T (.returned (pv b1)) w1) := HP.out
        clear f1 e1 k1 HP
        go_wp2_with fail
        go_ret
        exact HQ.out
  by_cases he : s = sEnum
  · subst he
    clear q1 q2 q3 q4 q5
    have HT : Hid (tyOf (sEnum :: ws) = enumTy ws) := by unfold Hid enumTy; rw [tyOf, if_neg hb, if_neg hi, if_pos rfl]
    generalize tyOf (sEnum :: ws) = T at *
    have HC' : Hid (∀ W ad' cap', Fr (fun _ => False) w W → (ws ≠ [] → ad' = some ⟨rb, ro + 1, none⟩) → ws.length ≤ cap' → Calls Tryz.prog 62 #[.slice ad' ws.length cap'] W fun e w' => KPost W T e w') := fun W ad' cap' f e hl => by rw [HT.out]; exact readEnum_any W ad' cap' ws ((HW.out ad' e).env (Env.of f)) hl
    clear HT hb hi
    go_enter Tryz.func39, Tryz.ntmps39
    go_wp2_with fail
    go_quiet (fail)
    have HE : Hid (Fr (fun _ => False) w (w.drewN nq)) := (Fr.refl _ w).drewN nq
    have HD : Hid (∀ e W, KPost (w.drewN nq) T e W → KPost w T e W) := fun e W h => ⟨HE.out.trans h.1 (fun _ h => h.elim), h.2⟩
    go_wp2_with fail
    all_goals
      refine (HC'.out _ _ _ HE.out (by first | exact fun _ => rfl | (intro hne; exfalso; have := List.length_pos_iff.2 hne; omega)) (by omega)).mono ?_
      intro e w1 hP
      have HP := hid (HD.out _ _ hP)
      clear hP
      obtain ⟨f1, ⟨e1, rfl⟩ | ⟨t1, b1, e1, rfl, k1⟩⟩ := HP.out
      · have HQ : Hid (KPost w T (.returned (.pointer none)) w1) := HP.out
        clear f1 e1 HP
        go_wp2_with fail
        go_ret
        exact HQ.out
      · have HQ : Hid (KPost w T (.returned (pv b1)) w1) := HP.out
        clear f1 e1 k1 HP
        go_wp2_with fail
        go_ret
        exact HQ.out
  by_cases hl : s = sList
  · subst hl
    clear q1 q2 q3 q4 q5
    have HT : Hid (tyOf (sList :: ws) = (tyOf ws).map .list) := by unfold Hid; rw [tyOf, if_neg hb, if_neg hi, if_neg he, if_pos rfl]
    generalize tyOf (sList :: ws) = T at *
    have HC' : Hid (∀ W ad' cap', Fr (fun _ => False) w W → (ws ≠ [] → ad' = some ⟨rb, ro + 1, none⟩) → ws.length ≤ cap' → Calls Tryz.prog 63 #[.string ⟨(sList : List UInt8).toArray⟩, .slice ad' ws.length cap'] W fun e w' => KPost W T e w') := fun W ad' cap' f e hl => by rw [HT.out]; exact readOuter_of sList .list (.inl ⟨rfl, rfl⟩) ws HR.out W ad' cap' ((HW.out ad' e).env (Env.of f)) hl
    clear HT hb hi he
    go_enter Tryz.func39, Tryz.ntmps39
    go_wp2_with fail
    go_quiet (fail)
    have HE : Hid (Fr (fun _ => False) w (w.drewN nq)) := (Fr.refl _ w).drewN nq
    have HD : Hid (∀ e W, KPost (w.drewN nq) T e W → KPost w T e W) := fun e W h => ⟨HE.out.trans h.1 (fun _ h => h.elim), h.2⟩
    go_wp2_with fail
    all_goals
      refine (HC'.out _ _ _ HE.out (by first | exact fun _ => rfl | (intro hne; exfalso; have := List.length_pos_iff.2 hne; omega)) (by omega)).mono ?_
      intro e w1 hP
      have HP := hid (HD.out _ _ hP)
      clear hP
      obtain ⟨f1, ⟨e1, rfl⟩ | ⟨t1, b1, e1, rfl, k1⟩⟩ := HP.out
      · have HQ : Hid (KPost w T (.returned (.pointer none)) w1) := HP.out
        clear f1 e1 HP
        go_wp2_with fail
        go_ret
        exact HQ.out
      · have HQ : Hid (KPost w T (.returned (pv b1)) w1) := HP.out
        clear f1 e1 k1 HP
        go_wp2_with fail
        go_ret
        exact HQ.out
  by_cases ha : s = sAttrs
  · subst ha
    clear q1 q2 q3 q4 q5
    have HT : Hid (tyOf (sAttrs :: ws) = (tyOf ws).map .attrs) := by unfold Hid; rw [tyOf, if_neg hb, if_neg hi, if_neg he, if_neg hl, if_pos rfl]
    generalize tyOf (sAttrs :: ws) = T at *
    have HC' : Hid (∀ W ad' cap', Fr (fun _ => False) w W → (ws ≠ [] → ad' = some ⟨rb, ro + 1, none⟩) → ws.length ≤ cap' → Calls Tryz.prog 63 #[.string ⟨(sAttrs : List UInt8).toArray⟩, .slice ad' ws.length cap'] W fun e w' => KPost W T e w') := fun W ad' cap' f e hl => by rw [HT.out]; exact readOuter_of sAttrs .attrs (.inr ⟨rfl, rfl⟩) ws HR.out W ad' cap' ((HW.out ad' e).env (Env.of f)) hl
    clear HT hb hi he hl
    go_enter Tryz.func39, Tryz.ntmps39
    go_wp2_with fail
    go_quiet (fail)
    have HE : Hid (Fr (fun _ => False) w (w.drewN nq)) := (Fr.refl _ w).drewN nq
    have HD : Hid (∀ e W, KPost (w.drewN nq) T e W → KPost w T e W) := fun e W h => ⟨HE.out.trans h.1 (fun _ h => h.elim), h.2⟩
    go_wp2_with fail
    all_goals
      refine (HC'.out _ _ _ HE.out (by first | exact fun _ => rfl | (intro hne; exfalso; have := List.length_pos_iff.2 hne; omega)) (by omega)).mono ?_
      intro e w1 hP
      have HP := hid (HD.out _ _ hP)
      clear hP
      obtain ⟨f1, ⟨e1, rfl⟩ | ⟨t1, b1, e1, rfl, k1⟩⟩ := HP.out
      · have HQ : Hid (KPost w T (.returned (.pointer none)) w1) := HP.out
        clear f1 e1 HP
        go_wp2_with fail
        go_ret
        exact HQ.out
      · have HQ : Hid (KPost w T (.returned (pv b1)) w1) := HP.out
        clear f1 e1 k1 HP
        go_wp2_with fail
        go_ret
        exact HQ.out
  have q6 : (s == sInt) = false := by simpa using hi
  have q7 : (s == sEnum) = false := by simpa using he
  have q8 : (s == sList) = false := by simpa using hl
  have q9 : (s == sAttrs) = false := by simpa using ha
  have HT : Hid (tyOf (s :: ws) = none) := by unfold Hid; rw [tyOf, if_neg hb, if_neg hi, if_neg he, if_neg hl, if_neg ha]
  generalize tyOf (s :: ws) = T at *
  clear hb hi he hl ha
  go_enter Tryz.func39, Tryz.ntmps39
  go_wp2_with fail
  go_quiet (fail)
  have HE : Hid (Fr (fun _ => False) w (w.drewN nq)) := (Fr.refl _ w).drewN nq
  go_wp2_with fail
  all_goals
    go_ret
    exact ⟨HE.out, .inl ⟨HT.out, rfl⟩⟩

set_option maxRecDepth 100000 in
set_option maxHeartbeats 4000000 in
theorem readWords_nil : RwOf [] := by
  intro w ad cap h _
  go_enter Tryz.func39, Tryz.ntmps39
  go_wp2_with fail
  go_ret
  exact ⟨Fr.refl _ _, .inl ⟨rfl, rfl⟩⟩
theorem readWords_any : ∀ ws, RwOf ws
  | [] => readWords_nil
  | s :: ws => readWords_step s ws (readWords_any ws)
end Go.Proofs.YtniailfcmlongaaGreatDoor.Tr
/- The contracts of read, Right. -/
namespace Go.Proofs.YtniailfcmlongaaGreatDoor.Tr
open Go.RowKit

/-- The cell that strings.Index asks for. -/
def Mx (w : World) : Prop := ∃ m : Int, w.cell? ⟨1, 0, none⟩ = some (.int .i64 m)
theorem Mx.env {w W : World} (h : Mx w) (e : Env w W) : Mx W := by
  obtain ⟨m, hm⟩ := h
  exact ⟨m, e.cell hm⟩

theorem words_short : ∀ (t : List UInt8), ∀ s ∈ spl t, s.length ≤ t.length
  | [], s, h => by simp [spl] at h; subst h; simp
  | c :: r, s, h => by
    rw [spl] at h
    split at h
    · rcases List.mem_cons.1 h with rfl | h
      · simp
      · have := words_short r s h
        simp; omega
    · cases e : spl r with
      | nil => exact absurd e (spl_ne r)
      | cons a l =>
        rw [e] at h
        simp only at h
        rcases List.mem_cons.1 h with rfl | h
        · have := words_short r a (by rw [e]; simp)
          simp; omega
        · have := words_short r s (by rw [e]; simp [h])
          simp; omega
theorem split_any (w : World) (t : List UInt8) (ht : t.length ≤ 64) (hm : Mx w) : Calls Tryz.prog 38 #[.string ⟨t.toArray⟩, .string ⟨#[32]⟩] w fun e w' => e = .returned (.slice (some ⟨w.heap.size, 0, none⟩) (spl t).length (spl t).length) ∧ Fr (fun _ => False) w w' ∧ Wds w' (some ⟨w.heap.size, 0, none⟩) (spl t) := by
  obtain ⟨m, hm⟩ := hm
  have hd : (Lib.splitB ⟨#[32]⟩ 0 (Lib.countB ⟨t.toArray⟩ ⟨#[32]⟩) ⟨t.toArray⟩).map (·.data.toList) = spl t := by
    rw [Lib.splitB_data]
    refine splitK_spl _ _ ?_
    show t.count 32 ≤ Lib.count t [32]
    rw [Lib.count_one]
    exact Nat.le_refl _
  have hl : Lib.countB ⟨t.toArray⟩ ⟨#[32]⟩ + 1 = (spl t).length := by
    rw [spl_len]
    show Lib.count t [32] + 1 = _
    rw [Lib.count_one]
  refine (Tryz.strings_Split ⟨t.toArray⟩ ⟨#[32]⟩ m w (by simp [ByteArray.size]; omega) hm (by decide)).mono ?_
  rintro e w' ⟨rfl, rfl⟩
  refine ⟨by rw [hl], (Fr.refl _ w).alloc _, ⟨fun _ => ⟨w.heap.size, 0, rfl, fun i hi => ?_⟩, ?_, fun s hs => Nat.le_trans (words_short t s hs) ht⟩⟩
  · have hb := Blk.new w 9 ((Lib.splitB ⟨#[32]⟩ 0 (Lib.countB ⟨t.toArray⟩ ⟨#[32]⟩) ⟨t.toArray⟩).map Value.string)
    rw [Nat.zero_add, hb.cell i, List.getElem?_map]
    have he : (Lib.splitB ⟨#[32]⟩ 0 (Lib.countB ⟨t.toArray⟩ ⟨#[32]⟩) ⟨t.toArray⟩)[i]?.map (·.data.toList) = some (spl t)[i] := by
      rw [← List.getElem?_map, hd, List.getElem?_eq_getElem hi]
    cases e : (Lib.splitB ⟨#[32]⟩ 0 (Lib.countB ⟨t.toArray⟩ ⟨#[32]⟩) ⟨t.toArray⟩)[i]? with
    | none => rw [e] at he; cases he
    | some x =>
      rw [e] at he
      simp only [Option.map_some, Option.some.injEq] at he ⊢
      rw [← he]
  · rw [spl_len]
    have := List.count_le_length (a := (32 : UInt8)) (l := t)
    omega

set_option maxRecDepth 100000 in
set_option maxHeartbeats 4000000 in
theorem read_any (w : World) (t : List UInt8) (hl : t.length ≤ 140737488355328) (hm : Mx w) : Calls Tryz.prog 23 #[.string ⟨t.toArray⟩] w fun e w' => KPost w (readT t) e w' := by
  by_cases h64 : 64 < t.length
  · have h64' : decide ((64 : Int) < ((t.length : Nat) : Int)) = true := by simpa using (show (64 : Int) < ((t.length : Nat) : Int) by omega)
    have HT : Hid (readT t = none) := by unfold Hid readT; rw [if_neg (by omega)]
    generalize readT t = T at *
    clear h64
    go_enter Tryz.func23, Tryz.ntmps23
    go_wp2_with fail
    go_ret
    exact ⟨Fr.refl _ _, .inl ⟨HT.out, rfl⟩⟩
  · have h64' : decide ((64 : Int) < ((t.length : Nat) : Int)) = false := by simpa using (show ((t.length : Nat) : Int) ≤ 64 by omega)
    have HS := hid (split_any w t (by omega) hm)
    have HT : Hid (readT t = if (spl t).length ≤ 8 then tyOf (spl t) else none) := by
      unfold Hid readT
      by_cases h : (spl t).length ≤ 8
      · rw [if_pos ⟨by omega, h⟩, if_pos h]
      · rw [if_neg (fun e => h e.2), if_neg h]
    have HR := hid (readWords_any (spl t))
    generalize spl t = ws at *
    generalize readT t = T at *
    clear h64 hm
    go_enter Tryz.func23, Tryz.ntmps23
    go_wp2_with fail
    refine HS.out.mono ?_
    rintro e w1 ⟨rfl, f1, hw⟩
    have HF := hid f1
    have HW := hid hw
    clear f1 hw HS
    by_cases h8 : 8 < ws.length
    · have h8' : decide ((8 : Int) < ((ws.length : Nat) : Int)) = true := by simpa using (show (8 : Int) < ((ws.length : Nat) : Int) by omega)
      have HT2 : Hid (T = none) := by unfold Hid; rw [HT.out, if_neg (by omega)]
      clear h8
      go_wp2_with fail
      go_ret
      exact ⟨HF.out, .inl ⟨HT2.out, rfl⟩⟩
    · have h8' : decide ((8 : Int) < ((ws.length : Nat) : Int)) = false := by simpa using (show ((ws.length : Nat) : Int) ≤ 8 by omega)
      have HT2 : Hid (T = tyOf ws) := by unfold Hid; rw [HT.out, if_pos (by omega)]
      have HC := hid (HR.out w1 _ _ HW.out (Nat.le_refl _))
      rw [← HT2.out] at HC
      clear h8 HT HT2
      go_wp2_with fail
      refine HC.out.mono ?_
      rintro e w2 hP
      obtain ⟨f2, ⟨e2, rfl⟩ | ⟨t2, b2, e2, rfl, k2⟩⟩ := hP
      · have HQ : Hid (KPost w T (.returned (.pointer none)) w2) := ⟨HF.out.trans f2 (fun _ h => h.elim), .inl ⟨e2, rfl⟩⟩
        clear f2 e2
        go_wp2_with fail
        go_ret
        exact HQ.out
      · have HQ : Hid (KPost w T (.returned (pv b2)) w2) := ⟨HF.out.trans f2 (fun _ h => h.elim), .inr ⟨t2, b2, e2, rfl, k2⟩⟩
        clear f2 e2 k2
        go_wp2_with fail
        go_ret
        exact HQ.out

set_option maxRecDepth 100000 in
set_option maxHeartbeats 4000000 in
theorem tRight_any (w : World) (t : List UInt8) (hl : t.length ≤ 140737488355328) (hm : Mx w) : Calls Tryz.prog 12 #[.string ⟨t.toArray⟩] w fun e w' => e = .returned (.bool (readT t).isSome) ∧ Fr (fun _ => False) w w' := by
  have HC := hid (read_any w t hl hm)
  generalize readT t = T at *
  clear hm
  go_enter Tryz.func12, Tryz.ntmps12
  go_wp2_with fail
  refine HC.out.mono ?_
  rintro e w2 ⟨f2, ⟨rfl, rfl⟩ | ⟨t2, b2, rfl, rfl, k2⟩⟩
  · have HF := hid f2
    clear f2
    go_wp2_with fail
    go_ret
    exact ⟨rfl, HF.out⟩
  · have HF := hid f2
    clear f2 k2
    go_wp2_with fail
    go_ret
    exact ⟨rfl, HF.out⟩
end Go.Proofs.YtniailfcmlongaaGreatDoor.Tr
