/- A reader in hand; the contracts of ended, peek, run, pass. -/
import Derived.Test.YtionmohglmbklaaGreatDoorByt
import Derived.Laws.BitsAllLaws
import Derived.Laws.IdiomStrings
import Derived.Laws.Concat
import Derived.Laws.Strings2
import Derived.Laws.DeepStrings4
import Derived.BigQuiet
import Derived.Deep.QuietTactic
namespace Go.Proofs.YtionmohglmbklaaGreatDoor.Tr
open Go.RowKit

theorem str_at (l : List UInt8) (k : Nat) (h : k < l.length) : (ByteArray.mk l.toArray)[k]'(by simpa [ByteArray.size] using h) = l[k] := rfl

abbrev pv (b : Nat) : Value := .pointer (some ⟨b, 0, none⟩)
/-- A reader lies in block b, reads t and stands at k. -/
structure Rd (w : World) (b : Nat) (t : List UInt8) (k : Nat) : Prop where
  blk : Blk w b 70 [.string ⟨t.toArray⟩, .int .i64 (k : Int)]
  le : k ≤ t.length
  len : t.length ≤ 4096
theorem Rd.c0 {w : World} {b : Nat} {t : List UInt8} {k : Nat} (h : Rd w b t k) : w.cell? ⟨b, 0, none⟩ = some (.string ⟨t.toArray⟩) := by rw [h.blk.cell]; rfl
theorem Rd.c1 {w : World} {b : Nat} {t : List UInt8} {k : Nat} (h : Rd w b t k) : w.cell? ⟨b, 1, none⟩ = some (.int .i64 (k : Int)) := by rw [h.blk.cell]; rfl
theorem Rd.fr {w w' : World} {b : Nat} {t : List UInt8} {k : Nat} (h : Rd w b t k) {F : Nat → Prop} (f : Fr F w w') (hn : ¬ F b) : Rd w' b t k := ⟨f.blk h.blk hn, h.le, h.len⟩
theorem Rd.drewN {w : World} {b : Nat} {t : List UInt8} {k : Nat} (h : Rd w b t k) (n : Nat) : Rd (w.drewN n) b t k := ⟨h.blk, h.le, h.len⟩
theorem Rd.set {w : World} {b : Nat} {t : List UInt8} {k : Nat} (h : Rd w b t k) (k' : Nat) (hk : k' ≤ t.length) : Rd (w.setCell ⟨b, 1, none⟩ (.int .i64 (k' : Int))) b t k' := ⟨h.blk.setCell 1 _, hk, h.len⟩

set_option maxRecDepth 100000 in
set_option maxHeartbeats 1000000 in
theorem ended_any {w : World} {b : Nat} {t : List UInt8} {k : Nat} (h : Rd w b t k) : Calls Tryz.prog 51 #[pv b] w fun e w' => e = .returned (.bool (k == t.length)) ∧ ∃ m, w' = w.drewN m := by
  have c0 := h.c0
  have c1 := h.c1
  have hl := h.len
  have hk := h.le
  clear h
  go_enter Tryz.func51, Tryz.ntmps51
  go_wp2_with fail
  go_quiet (fail)
  go_wp2
  go_ret
  refine ⟨congrArg (fun x => Ending.returned (.bool x)) ?_, _, rfl⟩
  rw [Bool.eq_iff_iff]; simp; omega

set_option maxRecDepth 100000 in
set_option maxHeartbeats 1000000 in
theorem peek_any {w : World} {b : Nat} {t : List UInt8} {k : Nat} (h : Rd w b t k) (nv : Int) (n : Nat) (e : nv = (n : Int)) (hn : n ≤ 2) : Calls Tryz.prog 50 #[pv b, .int .i64 nv] w fun e w' => e = .returned (.int .u8 ((at0 t (k + n)).toNat : Int)) ∧ ∃ m, w' = w.drewN m := by
  subst e
  have c0 := h.c0
  have c1 := h.c1
  have hl := h.len
  have hk := h.le
  clear h
  by_cases hlt : k + n < t.length
  · have HA := hid (at0_lt hlt)
    rw [HA.out]
    have HS := hid (str_at t (k + n) hlt)
    have h1 : ¬ ((k : Int) + (n : Int) ≥ (t.length : Int)) := by omega
    have h2 : decide ((k : Int) + (n : Int) ≥ (t.length : Int)) = false := by simp; omega
    have h3 : (k : Int) + (n : Int) < (t.length : Int) := by omega
    have h4 : (0 : Int) ≤ (k : Int) + (n : Int) := by omega
    go_enter Tryz.func50, Tryz.ntmps50
    go_wp2_with fail
    go_quiet (fail)
    go_wp2_with fail
    go_quiet (fail)
    go_wp2
    go_ret
    exact ⟨rfl, _, World.drewN_drewN _ _ _⟩
  · rw [at0_ge (by omega)]
    have h2 : decide ((k : Int) + (n : Int) ≥ (t.length : Int)) = true := by simp; omega
    go_enter Tryz.func50, Tryz.ntmps50
    go_wp2_with fail
    go_quiet (fail)
    go_wp2
    go_ret
    exact ⟨rfl, _, rfl⟩

set_option maxRecDepth 100000 in
set_option maxHeartbeats 1000000 in
theorem pass_any {w : World} {b : Nat} {t : List UInt8} {k : Nat} (h : Rd w b t k) (nv : Int) (n : Nat) (e : nv = (n : Int)) (hn : k + n ≤ t.length) : Calls Tryz.prog 79 #[pv b, .int .i64 nv] w fun e w' => e = .returned (.string ⟨(sub t k (k + n)).toArray⟩) ∧ Fr (· = b) w w' ∧ Rd w' b t (k + n) := by
  subst e
  have c0 := h.c0
  have c1 := h.c1
  have hl := h.len
  have hk := h.le
  have hw : ((k + n : Nat) : Int) = (k : Int) + (n : Int) := by omega
  have HR := h.set (k + n) hn
  have HF := (Fr.refl (· = b) w).setCell (p := ⟨b, 1, none⟩) (.inl rfl) (.int .i64 ((k + n : Nat) : Int))
  have hfz := h.blk.frozen 1
  have c2 := HR.c0
  have c3 := HR.c1
  rw [hw] at HR HF c2 c3
  clear h hw
  have HE := hid (And.intro HR HF)
  clear HR HF
  have h5 : (k : Int) + (n : Int) ≤ (t.length : Int) := by omega
  have h6 : (k : Int) ≤ (k : Int) + (n : Int) := by omega
  have h7 : (0 : Int) ≤ (k : Int) + (n : Int) := by omega
  have HX := hid (ext_sub t k (k + n))
  go_enter Tryz.func79, Tryz.ntmps79
  go_wp2_with fail
  generalize w.setCell ⟨b, 1, none⟩ (.int .i64 ((k : Int) + (n : Int))) = W at *
  go_quiet (fail)
  go_wp2
  go_ret
  refine ⟨?_, HE.out.2.drewN _, HE.out.1.drewN _⟩
  rw [← HX.out]
  rfl

/-- Where the reader in block b stands. -/
def curK (w : World) (b : Nat) : Nat := match w.cell? ⟨b, 1, none⟩ with
  | some (.int _ z) => z.toNat
  | _ => 0
theorem Rd.cur {w : World} {b : Nat} {t : List UInt8} {k : Nat} (h : Rd w b t k) : curK w b = k := by
  unfold curK; rw [h.c1]; simp
abbrev fnv (n : Nat) : Value := .func (.func n) #[] #[]

set_option maxRecDepth 100000 in
set_option maxHeartbeats 1000000 in
theorem run_blank {w : World} {b : Nat} {t : List UInt8} {k : Nat} (h : Rd w b t k) : Calls Tryz.prog 71 #[pv b, fnv 72] w fun e w' => e = .returned (.string ⟨(sub t k (upto isBlank t k)).toArray⟩) ∧ Fr (· = b) w w' ∧ Rd w' b t (upto isBlank t k) := by
  have HR := hid h
  have c1 := h.c1
  have hl := h.len
  have hk := h.le
  clear h
  go_enter Tryz.func71, Tryz.ntmps71
  go_wp2_with fail
  go_loopw [] (fun wr => ∃ i : Nat, Rd wr b t i ∧ k ≤ i ∧ upto isBlank t i = upto isBlank t k ∧ Fr (· = b) w wr) (fun wr => t.length - curK wr b)
  case atStart => exact ⟨k, HR.out, Nat.le_refl _, rfl, Fr.refl _ _⟩
  case round =>
    obtain ⟨i, hR, hki, hu, hF⟩ := hrel
    have HE : Hid (∀ n, Calls Tryz.prog 51 #[pv b] (wr.drewN n) fun e w' => e = .returned (.bool (i == t.length)) ∧ ∃ m, w' = (wr.drewN n).drewN m) := fun n => ended_any (hR.drewN n)
    have HU := hid (And.intro hR (And.intro hu hF))
    have d0 := hR.c0
    have d1 := hR.c1
    have hfz := hR.blk.frozen 1
    have hil := hR.le
    have HX := hid (ext_sub t k i)
    have hki' : (k : Int) ≤ (i : Int) := by omega
    have hil' : (i : Int) ≤ (t.length : Int) := by omega
    have hi0 : (0 : Int) ≤ (i : Int) := Int.natCast_nonneg _
    clear hR hu hF HR c1
    by_cases hlt : i < t.length
    · have he : (i == t.length) = false := by simp; omega
      have HS := hid (str_at t i hlt)
      have hi1 : (i : Int) < (t.length : Int) := by omega
      rw [he] at HE
      have HP : Hid (∀ n, Calls Tryz.prog 72 #[.int .u8 (t[i].toNat : Int)] (wr.drewN n) fun e w' => e = .returned (.bool (isBlank t[i])) ∧ w' = wr.drewN n) := fun n => blank_any (wr.drewN n) t[i]
      have HN := hid (fun e => upto_step (p := isBlank) (t := t) (k := i) hlt e)
      have HM := hid (fun e => upto_stop (p := isBlank) (t := t) (k := i) hlt e)
      cases hp : isBlank t[i] with
      | true =>
        rw [hp] at HP
        go_wp2_with fail
        go_quiet (first | (go_at_call 51; exact Calls.quiet_of (HE.out _)) | (go_at_call 72; exact Calls.quiet_of_same (HP.out _)))
        go_wp2
        have hR' := (HU.out.1.drewN nq).set (i + 1) (by omega)
        refine ⟨⟨i + 1, hR', by omega, (HN.out hp).symm.trans HU.out.2.1, (HU.out.2.2.drewN _).setCell (.inl rfl) _⟩, ?_⟩
        have e1 := hR'.cur
        have e2 := HU.out.1.cur
        rw [e2]
        refine Nat.lt_of_le_of_lt (Nat.le_of_eq (congrArg (t.length - ·) e1)) (by omega)
      | false =>
        rw [hp] at HP
        go_wp2_with fail
        go_quiet (first | (go_at_call 51; exact Calls.quiet_of (HE.out _)) | (go_at_call 72; exact Calls.quiet_of_same (HP.out _)))
        go_wp2_with fail
        go_quiet (fail)
        go_wp2
        go_ret
        rw [← HU.out.2.1, HM.out hp]
        refine ⟨?_, (HU.out.2.2.drewN _).drewN _, (HU.out.1.drewN _).drewN _⟩
        rw [← HX.out]
        rfl
    · have he : (i == t.length) = true := by simp; omega
      rw [he] at HE
      have HM := hid (upto_end (p := isBlank) (t := t) (k := i) (by omega))
      go_wp2_with fail
      go_quiet (first | (go_at_call 51; exact Calls.quiet_of (HE.out _)))
      go_wp2_with fail
      go_quiet (fail)
      go_wp2
      go_ret
      rw [← HU.out.2.1, HM.out]
      refine ⟨?_, (HU.out.2.2.drewN _).drewN _, (HU.out.1.drewN _).drewN _⟩
      rw [← HX.out]
      rfl

set_option maxRecDepth 100000 in
set_option maxHeartbeats 1000000 in
theorem run_line {w : World} {b : Nat} {t : List UInt8} {k : Nat} (h : Rd w b t k) : Calls Tryz.prog 71 #[pv b, fnv 73] w fun e w' => e = .returned (.string ⟨(sub t k (upto inLine t k)).toArray⟩) ∧ Fr (· = b) w w' ∧ Rd w' b t (upto inLine t k) := by
  have HR := hid h
  have c1 := h.c1
  have hl := h.len
  have hk := h.le
  clear h
  go_enter Tryz.func71, Tryz.ntmps71
  go_wp2_with fail
  go_loopw [] (fun wr => ∃ i : Nat, Rd wr b t i ∧ k ≤ i ∧ upto inLine t i = upto inLine t k ∧ Fr (· = b) w wr) (fun wr => t.length - curK wr b)
  case atStart => exact ⟨k, HR.out, Nat.le_refl _, rfl, Fr.refl _ _⟩
  case round =>
    obtain ⟨i, hR, hki, hu, hF⟩ := hrel
    have HE : Hid (∀ n, Calls Tryz.prog 51 #[pv b] (wr.drewN n) fun e w' => e = .returned (.bool (i == t.length)) ∧ ∃ m, w' = (wr.drewN n).drewN m) := fun n => ended_any (hR.drewN n)
    have HU := hid (And.intro hR (And.intro hu hF))
    have d0 := hR.c0
    have d1 := hR.c1
    have hfz := hR.blk.frozen 1
    have hil := hR.le
    have HX := hid (ext_sub t k i)
    have hki' : (k : Int) ≤ (i : Int) := by omega
    have hil' : (i : Int) ≤ (t.length : Int) := by omega
    have hi0 : (0 : Int) ≤ (i : Int) := Int.natCast_nonneg _
    clear hR hu hF HR c1
    by_cases hlt : i < t.length
    · have he : (i == t.length) = false := by simp; omega
      have HS := hid (str_at t i hlt)
      have hi1 : (i : Int) < (t.length : Int) := by omega
      rw [he] at HE
      have HP : Hid (∀ n, Calls Tryz.prog 73 #[.int .u8 (t[i].toNat : Int)] (wr.drewN n) fun e w' => e = .returned (.bool (inLine t[i])) ∧ w' = wr.drewN n) := fun n => line_any (wr.drewN n) t[i]
      have HN := hid (fun e => upto_step (p := inLine) (t := t) (k := i) hlt e)
      have HM := hid (fun e => upto_stop (p := inLine) (t := t) (k := i) hlt e)
      cases hp : inLine t[i] with
      | true =>
        rw [hp] at HP
        go_wp2_with fail
        go_quiet (first | (go_at_call 51; exact Calls.quiet_of (HE.out _)) | (go_at_call 73; exact Calls.quiet_of_same (HP.out _)))
        go_wp2
        have hR' := (HU.out.1.drewN nq).set (i + 1) (by omega)
        refine ⟨⟨i + 1, hR', by omega, (HN.out hp).symm.trans HU.out.2.1, (HU.out.2.2.drewN _).setCell (.inl rfl) _⟩, ?_⟩
        have e1 := hR'.cur
        have e2 := HU.out.1.cur
        rw [e2]
        refine Nat.lt_of_le_of_lt (Nat.le_of_eq (congrArg (t.length - ·) e1)) (by omega)
      | false =>
        rw [hp] at HP
        go_wp2_with fail
        go_quiet (first | (go_at_call 51; exact Calls.quiet_of (HE.out _)) | (go_at_call 73; exact Calls.quiet_of_same (HP.out _)))
        go_wp2_with fail
        go_quiet (fail)
        go_wp2
        go_ret
        rw [← HU.out.2.1, HM.out hp]
        refine ⟨?_, (HU.out.2.2.drewN _).drewN _, (HU.out.1.drewN _).drewN _⟩
        rw [← HX.out]
        rfl
    · have he : (i == t.length) = true := by simp; omega
      rw [he] at HE
      have HM := hid (upto_end (p := inLine) (t := t) (k := i) (by omega))
      go_wp2_with fail
      go_quiet (first | (go_at_call 51; exact Calls.quiet_of (HE.out _)))
      go_wp2_with fail
      go_quiet (fail)
      go_wp2
      go_ret
      rw [← HU.out.2.1, HM.out]
      refine ⟨?_, (HU.out.2.2.drewN _).drewN _, (HU.out.1.drewN _).drewN _⟩
      rw [← HX.out]
      rfl

set_option maxRecDepth 100000 in
set_option maxHeartbeats 1000000 in
theorem run_digit {w : World} {b : Nat} {t : List UInt8} {k : Nat} (h : Rd w b t k) : Calls Tryz.prog 71 #[pv b, fnv 54] w fun e w' => e = .returned (.string ⟨(sub t k (upto isDig t k)).toArray⟩) ∧ Fr (· = b) w w' ∧ Rd w' b t (upto isDig t k) := by
  have HR := hid h
  have c1 := h.c1
  have hl := h.len
  have hk := h.le
  clear h
  go_enter Tryz.func71, Tryz.ntmps71
  go_wp2_with fail
  go_loopw [] (fun wr => ∃ i : Nat, Rd wr b t i ∧ k ≤ i ∧ upto isDig t i = upto isDig t k ∧ Fr (· = b) w wr) (fun wr => t.length - curK wr b)
  case atStart => exact ⟨k, HR.out, Nat.le_refl _, rfl, Fr.refl _ _⟩
  case round =>
    obtain ⟨i, hR, hki, hu, hF⟩ := hrel
    have HE : Hid (∀ n, Calls Tryz.prog 51 #[pv b] (wr.drewN n) fun e w' => e = .returned (.bool (i == t.length)) ∧ ∃ m, w' = (wr.drewN n).drewN m) := fun n => ended_any (hR.drewN n)
    have HU := hid (And.intro hR (And.intro hu hF))
    have d0 := hR.c0
    have d1 := hR.c1
    have hfz := hR.blk.frozen 1
    have hil := hR.le
    have HX := hid (ext_sub t k i)
    have hki' : (k : Int) ≤ (i : Int) := by omega
    have hil' : (i : Int) ≤ (t.length : Int) := by omega
    have hi0 : (0 : Int) ≤ (i : Int) := Int.natCast_nonneg _
    clear hR hu hF HR c1
    by_cases hlt : i < t.length
    · have he : (i == t.length) = false := by simp; omega
      have HS := hid (str_at t i hlt)
      have hi1 : (i : Int) < (t.length : Int) := by omega
      rw [he] at HE
      have HP : Hid (∀ n, Calls Tryz.prog 54 #[.int .u8 (t[i].toNat : Int)] (wr.drewN n) fun e w' => e = .returned (.bool (isDig t[i])) ∧ w' = wr.drewN n) := fun n => digit_any (wr.drewN n) t[i]
      have HN := hid (fun e => upto_step (p := isDig) (t := t) (k := i) hlt e)
      have HM := hid (fun e => upto_stop (p := isDig) (t := t) (k := i) hlt e)
      cases hp : isDig t[i] with
      | true =>
        rw [hp] at HP
        go_wp2_with fail
        go_quiet (first | (go_at_call 51; exact Calls.quiet_of (HE.out _)) | (go_at_call 54; exact Calls.quiet_of_same (HP.out _)))
        go_wp2
        have hR' := (HU.out.1.drewN nq).set (i + 1) (by omega)
        refine ⟨⟨i + 1, hR', by omega, (HN.out hp).symm.trans HU.out.2.1, (HU.out.2.2.drewN _).setCell (.inl rfl) _⟩, ?_⟩
        have e1 := hR'.cur
        have e2 := HU.out.1.cur
        rw [e2]
        refine Nat.lt_of_le_of_lt (Nat.le_of_eq (congrArg (t.length - ·) e1)) (by omega)
      | false =>
        rw [hp] at HP
        go_wp2_with fail
        go_quiet (first | (go_at_call 51; exact Calls.quiet_of (HE.out _)) | (go_at_call 54; exact Calls.quiet_of_same (HP.out _)))
        go_wp2_with fail
        go_quiet (fail)
        go_wp2
        go_ret
        rw [← HU.out.2.1, HM.out hp]
        refine ⟨?_, (HU.out.2.2.drewN _).drewN _, (HU.out.1.drewN _).drewN _⟩
        rw [← HX.out]
        rfl
    · have he : (i == t.length) = true := by simp; omega
      rw [he] at HE
      have HM := hid (upto_end (p := isDig) (t := t) (k := i) (by omega))
      go_wp2_with fail
      go_quiet (first | (go_at_call 51; exact Calls.quiet_of (HE.out _)))
      go_wp2_with fail
      go_quiet (fail)
      go_wp2
      go_ret
      rw [← HU.out.2.1, HM.out]
      refine ⟨?_, (HU.out.2.2.drewN _).drewN _, (HU.out.1.drewN _).drewN _⟩
      rw [← HX.out]
      rfl

set_option maxRecDepth 100000 in
set_option maxHeartbeats 1000000 in
theorem run_name {w : World} {b : Nat} {t : List UInt8} {k : Nat} (h : Rd w b t k) : Calls Tryz.prog 71 #[pv b, fnv 75] w fun e w' => e = .returned (.string ⟨(sub t k (upto inN t k)).toArray⟩) ∧ Fr (· = b) w w' ∧ Rd w' b t (upto inN t k) := by
  have HR := hid h
  have c1 := h.c1
  have hl := h.len
  have hk := h.le
  clear h
  go_enter Tryz.func71, Tryz.ntmps71
  go_wp2_with fail
  go_loopw [] (fun wr => ∃ i : Nat, Rd wr b t i ∧ k ≤ i ∧ upto inN t i = upto inN t k ∧ Fr (· = b) w wr) (fun wr => t.length - curK wr b)
  case atStart => exact ⟨k, HR.out, Nat.le_refl _, rfl, Fr.refl _ _⟩
  case round =>
    obtain ⟨i, hR, hki, hu, hF⟩ := hrel
    have HE : Hid (∀ n, Calls Tryz.prog 51 #[pv b] (wr.drewN n) fun e w' => e = .returned (.bool (i == t.length)) ∧ ∃ m, w' = (wr.drewN n).drewN m) := fun n => ended_any (hR.drewN n)
    have HU := hid (And.intro hR (And.intro hu hF))
    have d0 := hR.c0
    have d1 := hR.c1
    have hfz := hR.blk.frozen 1
    have hil := hR.le
    have HX := hid (ext_sub t k i)
    have hki' : (k : Int) ≤ (i : Int) := by omega
    have hil' : (i : Int) ≤ (t.length : Int) := by omega
    have hi0 : (0 : Int) ≤ (i : Int) := Int.natCast_nonneg _
    clear hR hu hF HR c1
    by_cases hlt : i < t.length
    · have he : (i == t.length) = false := by simp; omega
      have HS := hid (str_at t i hlt)
      have hi1 : (i : Int) < (t.length : Int) := by omega
      rw [he] at HE
      have HP : Hid (∀ n, Calls Tryz.prog 75 #[.int .u8 (t[i].toNat : Int)] (wr.drewN n) fun e w' => e = .returned (.bool (inN t[i])) ∧ w' = wr.drewN n) := fun n => within_any (wr.drewN n) t[i]
      have HN := hid (fun e => upto_step (p := inN) (t := t) (k := i) hlt e)
      have HM := hid (fun e => upto_stop (p := inN) (t := t) (k := i) hlt e)
      cases hp : inN t[i] with
      | true =>
        rw [hp] at HP
        go_wp2_with fail
        go_quiet (first | (go_at_call 51; exact Calls.quiet_of (HE.out _)) | (go_at_call 75; exact Calls.quiet_of_same (HP.out _)))
        go_wp2
        have hR' := (HU.out.1.drewN nq).set (i + 1) (by omega)
        refine ⟨⟨i + 1, hR', by omega, (HN.out hp).symm.trans HU.out.2.1, (HU.out.2.2.drewN _).setCell (.inl rfl) _⟩, ?_⟩
        have e1 := hR'.cur
        have e2 := HU.out.1.cur
        rw [e2]
        refine Nat.lt_of_le_of_lt (Nat.le_of_eq (congrArg (t.length - ·) e1)) (by omega)
      | false =>
        rw [hp] at HP
        go_wp2_with fail
        go_quiet (first | (go_at_call 51; exact Calls.quiet_of (HE.out _)) | (go_at_call 75; exact Calls.quiet_of_same (HP.out _)))
        go_wp2_with fail
        go_quiet (fail)
        go_wp2
        go_ret
        rw [← HU.out.2.1, HM.out hp]
        refine ⟨?_, (HU.out.2.2.drewN _).drewN _, (HU.out.1.drewN _).drewN _⟩
        rw [← HX.out]
        rfl
    · have he : (i == t.length) = true := by simp; omega
      rw [he] at HE
      have HM := hid (upto_end (p := inN) (t := t) (k := i) (by omega))
      go_wp2_with fail
      go_quiet (first | (go_at_call 51; exact Calls.quiet_of (HE.out _)))
      go_wp2_with fail
      go_quiet (fail)
      go_wp2
      go_ret
      rw [← HU.out.2.1, HM.out]
      refine ⟨?_, (HU.out.2.2.drewN _).drewN _, (HU.out.1.drewN _).drewN _⟩
      rw [← HX.out]
      rfl

set_option maxRecDepth 100000 in
set_option maxHeartbeats 1000000 in
theorem run_plain {w : World} {b : Nat} {t : List UInt8} {k : Nat} (h : Rd w b t k) : Calls Tryz.prog 71 #[pv b, fnv 80] w fun e w' => e = .returned (.string ⟨(sub t k (upto isPl t k)).toArray⟩) ∧ Fr (· = b) w w' ∧ Rd w' b t (upto isPl t k) := by
  have HR := hid h
  have c1 := h.c1
  have hl := h.len
  have hk := h.le
  clear h
  go_enter Tryz.func71, Tryz.ntmps71
  go_wp2_with fail
  go_loopw [] (fun wr => ∃ i : Nat, Rd wr b t i ∧ k ≤ i ∧ upto isPl t i = upto isPl t k ∧ Fr (· = b) w wr) (fun wr => t.length - curK wr b)
  case atStart => exact ⟨k, HR.out, Nat.le_refl _, rfl, Fr.refl _ _⟩
  case round =>
    obtain ⟨i, hR, hki, hu, hF⟩ := hrel
    have HE : Hid (∀ n, Calls Tryz.prog 51 #[pv b] (wr.drewN n) fun e w' => e = .returned (.bool (i == t.length)) ∧ ∃ m, w' = (wr.drewN n).drewN m) := fun n => ended_any (hR.drewN n)
    have HU := hid (And.intro hR (And.intro hu hF))
    have d0 := hR.c0
    have d1 := hR.c1
    have hfz := hR.blk.frozen 1
    have hil := hR.le
    have HX := hid (ext_sub t k i)
    have hki' : (k : Int) ≤ (i : Int) := by omega
    have hil' : (i : Int) ≤ (t.length : Int) := by omega
    have hi0 : (0 : Int) ≤ (i : Int) := Int.natCast_nonneg _
    clear hR hu hF HR c1
    by_cases hlt : i < t.length
    · have he : (i == t.length) = false := by simp; omega
      have HS := hid (str_at t i hlt)
      have hi1 : (i : Int) < (t.length : Int) := by omega
      rw [he] at HE
      have HP : Hid (∀ n, Calls Tryz.prog 80 #[.int .u8 (t[i].toNat : Int)] (wr.drewN n) fun e w' => e = .returned (.bool (isPl t[i])) ∧ w' = wr.drewN n) := fun n => plain_any (wr.drewN n) t[i]
      have HN := hid (fun e => upto_step (p := isPl) (t := t) (k := i) hlt e)
      have HM := hid (fun e => upto_stop (p := isPl) (t := t) (k := i) hlt e)
      cases hp : isPl t[i] with
      | true =>
        rw [hp] at HP
        go_wp2_with fail
        go_quiet (first | (go_at_call 51; exact Calls.quiet_of (HE.out _)) | (go_at_call 80; exact Calls.quiet_of_same (HP.out _)))
        go_wp2
        have hR' := (HU.out.1.drewN nq).set (i + 1) (by omega)
        refine ⟨⟨i + 1, hR', by omega, (HN.out hp).symm.trans HU.out.2.1, (HU.out.2.2.drewN _).setCell (.inl rfl) _⟩, ?_⟩
        have e1 := hR'.cur
        have e2 := HU.out.1.cur
        rw [e2]
        refine Nat.lt_of_le_of_lt (Nat.le_of_eq (congrArg (t.length - ·) e1)) (by omega)
      | false =>
        rw [hp] at HP
        go_wp2_with fail
        go_quiet (first | (go_at_call 51; exact Calls.quiet_of (HE.out _)) | (go_at_call 80; exact Calls.quiet_of_same (HP.out _)))
        go_wp2_with fail
        go_quiet (fail)
        go_wp2
        go_ret
        rw [← HU.out.2.1, HM.out hp]
        refine ⟨?_, (HU.out.2.2.drewN _).drewN _, (HU.out.1.drewN _).drewN _⟩
        rw [← HX.out]
        rfl
    · have he : (i == t.length) = true := by simp; omega
      rw [he] at HE
      have HM := hid (upto_end (p := isPl) (t := t) (k := i) (by omega))
      go_wp2_with fail
      go_quiet (first | (go_at_call 51; exact Calls.quiet_of (HE.out _)))
      go_wp2_with fail
      go_quiet (fail)
      go_wp2
      go_ret
      rw [← HU.out.2.1, HM.out]
      refine ⟨?_, (HU.out.2.2.drewN _).drewN _, (HU.out.1.drewN _).drewN _⟩
      rw [← HX.out]
      rfl

end Go.Proofs.YtionmohglmbklaaGreatDoor.Tr
