/- The contract of rightWithin over a value that is no list and no set. -/
import Derived.Test.YtlepjghfcpgbcaaGreatDoorSca
namespace Go.Proofs.YtlepjghfcpgbcaaGreatDoor.Tr
open Go.RowKit

/-- Is a value right, that is no list and no set? -/
def rightS (x : Vv) : Bool :=
  if x.k = 0 ∨ x.k = 7 then bareB x
  else if x.k = 1 then decide (x.n = 0 ∨ x.n = 1) && bareB { x with n := 0 }
  else if x.k = 2 then bareB { x with n := 0 }
  else if x.k = 3 then bareB { x with f := 0 }
  else if x.k = 4 then decide (x.t.length ≤ 1024) && bareB { x with t := [] }
  else false

theorem vBlk (w : World) (x : Vv) : Blk (vBox w x) w.heap.size 26 x.cs := Blk.new w 26 x.cs
theorem vFr (w : World) (x : Vv) : Fr (fun _ => False) w (vBox w x) := (Fr.refl _ w).alloc _

set_option maxRecDepth 100000 in
set_option maxHeartbeats 2000000 in
theorem rightWithin_sca (w : World) (x : Vv) (room : Int) (h5 : x.k ≠ 5) (h6 : x.k ≠ 6) : Calls Tryz.prog 47 #[x.v, .int .i64 room] w fun e w' => e = .returned (.bool (rightS x)) ∧ Fr (fun _ => False) w w' := by
  have HB := hid (vBlk w x)
  have HF := hid (vFr w x)
  have HR := hid (show rightS x = rightS x from rfl)
  generalize hr : rightS x = r at HR ⊢
  clear HR
  have HR := hid hr
  clear hr
  have z0 : ∀ j, (vBox w x).frozen? ⟨w.heap.size, j, none⟩ = false := fun j => (vBlk w x).frozen j
  obtain ⟨k, n, f, t, na, nl, nc, ia, il, ic⟩ := x
  simp only [Vv.v, vBox] at *
  have q5 : (k == 5) = false := by simpa using h5
  have q6 : (k == 6) = false := by simpa using h6
  by_cases h0 : k = 0 ∨ k = 7
  · have e : Hid (r = bareB ⟨k, n, f, t, na, nl, nc, ia, il, ic⟩) := by
      unfold Hid; rw [← HR.out]; unfold rightS; rw [if_pos h0]
    clear HR
    have hq : (k == 0) = true ∨ (k == 0) = false ∧ (k == 7) = true := by
      rcases h0 with h | h
      · left; simpa using h
      · right; subst h; decide
    clear h0 h5 h6
    rcases hq with q | ⟨q, q'⟩
    all_goals
      go_enter Tryz.func47, Tryz.ntmps47
      go_wp2_with fail
      refine (isBare_any _ ⟨k, n, f, t, na, nl, nc, ia, il, ic⟩).mono ?_
      rintro e1 w1 ⟨rfl, f1⟩
      have HF1 := hid (HF.out.trans f1 (fun _ h => h.elim))
      clear f1
      go_wp2_with fail
      go_ret
      exact ⟨by rw [e.out]; rfl, HF1.out⟩
  have q0 : (k == 0) = false := by simp; exact fun h => h0 (.inl h)
  have q7 : (k == 7) = false := by simp; exact fun h => h0 (.inr h)
  by_cases h1 : k = 1
  · subst h1
    have e : Hid (r = (decide (n = 0 ∨ n = 1) && bareB ⟨1, 0, f, t, na, nl, nc, ia, il, ic⟩)) := by
      unfold Hid; rw [← HR.out]; rfl
    clear HR h0 h5 h6 q0 q5 q6 q7
    have HFs := hid (vFr w ⟨1, 0, f, t, na, nl, nc, ia, il, ic⟩)
    by_cases hn : n = 0 ∨ n = 1
    · have e2 : Hid (r = bareB ⟨1, 0, f, t, na, nl, nc, ia, il, ic⟩) := by
        unfold Hid; rw [e.out, decide_eq_true hn]; rfl
      have hq : (n == 0) = true ∨ (n == 0) = false ∧ (n == 1) = true := by
        rcases hn with h | h
        · left; simpa using h
        · right; subst h; decide
      clear hn e
      rcases hq with q | ⟨q, q'⟩
      all_goals
        go_enter Tryz.func47, Tryz.ntmps47
        go_wp2_with fail
        refine (isBare_any _ ⟨1, 0, f, t, na, nl, nc, ia, il, ic⟩).mono ?_
        rintro e1 w1 ⟨rfl, f1⟩
        have HF1 := hid (HFs.out.trans f1 (fun _ h => h.elim))
        clear f1
        go_wp2_with fail
        go_ret
        exact ⟨by rw [e2.out]; rfl, HF1.out⟩
    · have e2 : Hid (r = false) := by
        unfold Hid; rw [e.out, decide_eq_false hn]; rfl
      have q1 : (n == 0) = false := by simp; exact fun h => hn (.inl h)
      have q2 : (n == 1) = false := by simp; exact fun h => hn (.inr h)
      clear hn e
      go_enter Tryz.func47, Tryz.ntmps47
      go_wp2_with fail
      go_ret
      exact ⟨by rw [e2.out]; rfl, HFs.out⟩
  have q1 : (k == 1) = false := by simpa using h1
  by_cases h2 : k = 2
  · subst h2
    have e : Hid (r = bareB ⟨2, 0, f, t, na, nl, nc, ia, il, ic⟩) := by
      unfold Hid; rw [← HR.out]; rfl
    clear HR h0 h5 h6 q0 q5 q6 q7 q1 h1
    have HFs := hid (vFr w ⟨2, 0, f, t, na, nl, nc, ia, il, ic⟩)
    go_enter Tryz.func47, Tryz.ntmps47
    go_wp2_with fail
    refine (isBare_any _ ⟨2, 0, f, t, na, nl, nc, ia, il, ic⟩).mono ?_
    rintro e1 w1 ⟨rfl, f1⟩
    have HF1 := hid (HFs.out.trans f1 (fun _ h => h.elim))
    clear f1
    go_wp2_with fail
    go_ret
    exact ⟨by rw [e.out]; rfl, HF1.out⟩
  have q2 : (k == 2) = false := by simpa using h2
  by_cases h3 : k = 3
  · subst h3
    have e : Hid (r = bareB ⟨3, n, 0, t, na, nl, nc, ia, il, ic⟩) := by
      unfold Hid; rw [← HR.out]; rfl
    clear HR h0 h5 h6 q0 q5 q6 q7 q1 h1 h2 q2
    have HFs := hid (vFr w ⟨3, n, 0, t, na, nl, nc, ia, il, ic⟩)
    have hst := fun (W : World) (a : Addr) (m : Mode) => run_store Tryz.prog W a (.float .f64 0) m rfl
    go_enter Tryz.func47, Tryz.ntmps47
    go_wp2_with fail
    refine (isBare_any _ ⟨3, n, 0, t, na, nl, nc, ia, il, ic⟩).mono ?_
    rintro e1 w1 ⟨rfl, f1⟩
    have HF1 := hid (HFs.out.trans f1 (fun _ h => h.elim))
    clear f1
    go_wp2_with fail
    go_ret
    exact ⟨by rw [e.out]; rfl, HF1.out⟩
  have q3 : (k == 3) = false := by simpa using h3
  by_cases h4 : k = 4
  · subst h4
    have e : Hid (r = (decide (t.length ≤ 1024) && bareB ⟨4, n, f, [], na, nl, nc, ia, il, ic⟩)) := by
      unfold Hid; rw [← HR.out]; rfl
    clear HR h0 h5 h6 q0 q5 q6 q7 q1 h1 h2 q2 h3 q3
    have HFs := hid (vFr w ⟨4, n, f, [], na, nl, nc, ia, il, ic⟩)
    by_cases hn : t.length ≤ 1024
    · have e2 : Hid (r = bareB ⟨4, n, f, [], na, nl, nc, ia, il, ic⟩) := by
        unfold Hid; rw [e.out, decide_eq_true hn]; rfl
      have hn' : ((t.length : Nat) : Int) ≤ 1024 := by omega
      clear e
      go_enter Tryz.func47, Tryz.ntmps47
      go_wp2_with fail
      refine (isBare_any _ ⟨4, n, f, [], na, nl, nc, ia, il, ic⟩).mono ?_
      rintro e1 w1 ⟨rfl, f1⟩
      have HF1 := hid (HFs.out.trans f1 (fun _ h => h.elim))
      clear f1
      go_wp2_with fail
      go_ret
      exact ⟨by rw [e2.out]; rfl, HF1.out⟩
    · have e2 : Hid (r = false) := by
        unfold Hid; rw [e.out, decide_eq_false hn]; rfl
      have hn' : ¬ ((t.length : Nat) : Int) ≤ 1024 := by omega
      clear e
      go_enter Tryz.func47, Tryz.ntmps47
      go_wp2_with fail
      go_ret
      exact ⟨by rw [e2.out]; rfl, HFs.out⟩
  have q4 : (k == 4) = false := by simpa using h4
  have e2 : Hid (r = false) := by
    unfold Hid; rw [← HR.out]; unfold rightS
    rw [if_neg h0, if_neg h1, if_neg h2, if_neg h3, if_neg h4]
  clear HR h0 h1 h2 h3 h4 h5 h6
  go_enter Tryz.func47, Tryz.ntmps47
  go_wp2_with fail
  go_ret
  exact ⟨by rw [e2.out]; rfl, HF.out⟩

set_option maxRecDepth 100000 in
set_option maxHeartbeats 2000000 in
theorem right_sca (w : World) (x : Vv) (h5 : x.k ≠ 5) (h6 : x.k ≠ 6) : Calls Tryz.prog 21 #[x.v] w fun e w' => e = .returned (.bool (rightS x)) ∧ Fr (fun _ => False) w w' := by
  have HF := hid (vFr w x)
  have HR := hid (fun W => rightWithin_sca W x 32 h5 h6)
  simp only [Vv.v] at *
  clear h5 h6
  go_enter Tryz.func21, Tryz.ntmps21
  go_wp2_with fail
  refine (HR.out _).mono ?_
  rintro e1 w1 ⟨rfl, f1⟩
  have HF1 := hid (HF.out.trans f1 (fun _ h => h.elim))
  clear f1
  go_wp2_with fail
  go_ret
  exact ⟨rfl, HF1.out⟩
end Go.Proofs.YtlepjghfcpgbcaaGreatDoor.Tr
