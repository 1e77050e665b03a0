import Derived.Test.YtniailfcmlongaaGreatDoorAriM
import Derived.BigQuiet
import Derived.Deep.QuietTactic
/- Values in memory; the contracts of the small functions that take one. -/
namespace Go.Proofs.YtniailfcmlongaaGreatDoor.Tr
open Go.RowKit

theorem str_at (l : List UInt8) (k : Nat) (h : k < l.length) : (ByteArray.mk l.toArray)[k]'(by simpa [ByteArray.size] using h) = l[k] := rfl
abbrev pv (b : Nat) : Value := .pointer (some ⟨b, 0, none⟩)

/-- A value's six fields: of names and items where they lie, how many, and how much room there is. -/
structure Vv where
  k : Int
  n : Int
  f : Nat
  t : List UInt8
  na : Option Addr
  nl : Nat
  nc : Nat
  ia : Option Addr
  il : Nat
  ic : Nat
abbrev Vv.cs (x : Vv) : List Value := [.int .i64 x.k, .int .i64 x.n, .float .f64 x.f, .string ⟨x.t.toArray⟩, .slice x.na x.nl x.nc, .slice x.ia x.il x.ic]
abbrev Vv.v (x : Vv) : Value := .agg #[.int .i64 x.k, .int .i64 x.n, .float .f64 x.f, .string ⟨x.t.toArray⟩, .slice x.na x.nl x.nc, .slice x.ia x.il x.ic]
abbrev vZ : Vv := ⟨0, 0, 0, [], none, 0, 0, none, 0, 0⟩
abbrev vI (n : Int) : Vv := ⟨2, n, 0, [], none, 0, 0, none, 0, 0⟩
abbrev vF (f : Nat) : Vv := ⟨3, 0, f, [], none, 0, 0, none, 0, 0⟩
abbrev vS (t : List UInt8) : Vv := ⟨4, 0, 0, t, none, 0, 0, none, 0, 0⟩

theorem fbits_any (w : World) (f : Nat) : (callFunc 35 #[.float .f64 f]).run Tryz.prog w = .ok (.value (.int .u64 (f : Int))) w := by
  rw [run_callFunc_extern Tryz.func35 (by kernel_rfl) (by kernel_rfl) (by kernel_rfl) (e := Extern.MathFloatBits.float64bits) (by kernel_rfl)]
  rfl

/-- Are all fields but the kind nought or empty? -/
def bareB (x : Vv) : Bool := decide (x.n = 0) && decide (x.f = 0) && decide (x.t = []) && decide (x.nl = 0) && decide (x.il = 0)

set_option maxRecDepth 100000 in
set_option maxHeartbeats 1000000 in
theorem isBare_any (w : World) (x : Vv) : Calls Tryz.prog 64 #[x.v] w fun e w' => e = .returned (.bool (bareB x)) ∧ Fr (fun _ => False) w w' := by
  have HF : Hid (Fr (fun _ => False) w (w.alloc (.cells #[.int .i64 x.k, .int .i64 x.n, .float .f64 x.f, .string ⟨x.t.toArray⟩, .slice x.na x.nl x.nc, .slice x.ia x.il x.ic] 26))) := (Fr.refl _ w).alloc _
  have hfb := fun W => fbits_any W x.f
  unfold bareB
  obtain ⟨k, n, f, t, na, nl, nc, ia, il, ic⟩ := x
  simp only [Vv.v] at *
  by_cases h1 : n = 0
  · subst h1
    by_cases h2 : f = 0
    · subst h2
      by_cases h3 : t = []
      · subst h3
        by_cases h4 : nl = 0
        · subst h4
          have h5' : (((il : Nat) : Int) == 0) = decide (il = 0) := by
            by_cases h : il = 0
            · subst h; rfl
            · rw [decide_eq_false h]; simp; exact h
          go_enter Tryz.func64, Tryz.ntmps64
          go_wp2
          go_ret
          exact ⟨by simp, HF.out⟩
        · have h4' : (((nl : Nat) : Int) == 0) = false := by simp; exact h4
          go_enter Tryz.func64, Tryz.ntmps64
          go_wp2
          go_ret
          exact ⟨by simp [h4], HF.out⟩
      · have h3' : (t == []) = false := by simp; exact h3
        go_enter Tryz.func64, Tryz.ntmps64
        go_wp2
        go_ret
        exact ⟨by simp [h3], HF.out⟩
    · have h2' : (((f : Nat) : Int) == 0) = false := by simp; exact h2
      go_enter Tryz.func64, Tryz.ntmps64
      go_wp2
      go_ret
      exact ⟨by simp [h2], HF.out⟩
  · have h1' : (n == 0) = false := by simp; exact h1
    go_enter Tryz.func64, Tryz.ntmps64
    go_wp2
    go_ret
    exact ⟨by simp [h1], HF.out⟩

abbrev vBox (w : World) (x : Vv) : World := w.alloc (.cells #[.int .i64 x.k, .int .i64 x.n, .float .f64 x.f, .string ⟨x.t.toArray⟩, .slice x.na x.nl x.nc, .slice x.ia x.il x.ic] 26)

set_option maxRecDepth 100000 in
set_option maxHeartbeats 1000000 in
theorem areBoth_any (w : World) (k : Int) (x y : Vv) : Calls Tryz.prog 135 #[.int .i64 k, x.v, y.v] w fun e w' => e = .returned (.bool (decide (x.k = k) && decide (y.k = k))) ∧ Fr (fun _ => False) w w' := by
  have HF : Hid (Fr (fun _ => False) w (vBox (vBox w x) y)) := ((Fr.refl _ w).alloc _).alloc _
  simp only [Vv.v] at *
  by_cases h1 : x.k = k
  · have h1' : (x.k == k) = true := by simpa using h1
    by_cases h2 : y.k = k
    · have h2' : (y.k == k) = true := by simpa using h2
      rw [decide_eq_true h1, decide_eq_true h2]
      clear h1 h2
      go_enter Tryz.func135, Tryz.ntmps135
      go_wp2
      go_ret
      exact ⟨rfl, HF.out⟩
    · have h2' : (y.k == k) = false := by simpa using h2
      rw [decide_eq_true h1, decide_eq_false h2]
      clear h1 h2
      go_enter Tryz.func135, Tryz.ntmps135
      go_wp2
      go_ret
      exact ⟨rfl, HF.out⟩
  · have h1' : (x.k == k) = false := by simpa using h1
    rw [decide_eq_false h1]
    clear h1
    go_enter Tryz.func135, Tryz.ntmps135
    go_wp2
    go_ret
    exact ⟨rfl, HF.out⟩

def numB (x : Vv) : Bool := decide (x.k = 2) || decide (x.k = 3)
set_option maxRecDepth 100000 in
set_option maxHeartbeats 1000000 in
theorem isNumber_any (w : World) (x : Vv) : Calls Tryz.prog 134 #[x.v] w fun e w' => e = .returned (.bool (numB x)) ∧ Fr (fun _ => False) w w' := by
  have HF : Hid (Fr (fun _ => False) w (vBox w x)) := (Fr.refl _ w).alloc _
  simp only [Vv.v] at *
  unfold numB
  by_cases h1 : x.k = 2
  · have h1' : (x.k == 2) = true := by simpa using h1
    rw [decide_eq_true h1]
    clear h1
    go_enter Tryz.func134, Tryz.ntmps134
    go_wp2
    go_ret
    exact ⟨rfl, HF.out⟩
  · have h1' : (x.k == 2) = false := by simpa using h1
    rw [decide_eq_false h1]
    clear h1
    by_cases h2 : x.k = 3
    · have h2' : (x.k == 3) = true := by simpa using h2
      rw [decide_eq_true h2]
      clear h2
      go_enter Tryz.func134, Tryz.ntmps134
      go_wp2
      go_ret
      exact ⟨rfl, HF.out⟩
    · have h2' : (x.k == 3) = false := by simpa using h2
      rw [decide_eq_false h2]
      clear h2
      go_enter Tryz.func134, Tryz.ntmps134
      go_wp2
      go_ret
      exact ⟨rfl, HF.out⟩

set_option maxRecDepth 100000 in
set_option maxHeartbeats 1000000 in
theorem areNumbers_any (w : World) (x y : Vv) : Calls Tryz.prog 115 #[x.v, y.v] w fun e w' => e = .returned (.bool (numB x && numB y)) ∧ Fr (fun _ => False) w w' := by
  have HF : Hid (Fr (fun _ => False) w (vBox (vBox w x) y)) := ((Fr.refl _ w).alloc _).alloc _
  have HB : Hid (Blk (vBox (vBox w x) y) (w.heap.size + 1) 26 y.cs) := by
    have := Blk.new (vBox w x) 26 y.cs
    simpa [Hid] using this
  simp only [Vv.v] at *
  go_enter Tryz.func115, Tryz.ntmps115
  go_wp2_with fail
  refine (isNumber_any _ x).mono ?_
  rintro e w1 ⟨rfl, f1⟩
  have b1 := f1.blk HB.out (fun h => h)
  have HF1 := hid (HF.out.trans f1 (fun _ h => h.elim))
  clear HF HB f1
  cases hq : numB x with
  | false =>
    go_wp2
    go_ret
    exact ⟨by rw [hq]; rfl, HF1.out⟩
  | true =>
    have d0 := b1.cell 0
    have d1 := b1.cell 1
    have d2 := b1.cell 2
    have d3 := b1.cell 3
    have d4 := b1.cell 4
    have d5 := b1.cell 5
    simp only [List.getElem?_cons_zero, List.getElem?_cons_succ] at d0 d1 d2 d3 d4 d5
    clear b1
    go_wp2_with fail
    refine (isNumber_any _ y).mono ?_
    rintro e w2 ⟨rfl, f2⟩
    have HF2 := hid (HF1.out.trans f2 (fun _ h => h.elim))
    clear f2 HF1
    go_wp2
    go_ret
    exact ⟨by rw [hq]; rfl, HF2.out⟩

/-- A number as a float. -/
def asF (x : Vv) : Nat := if x.k = 2 then floatOfInt .f64 x.n else x.f
set_option maxRecDepth 100000 in
set_option maxHeartbeats 1000000 in
theorem asFloat_any (w : World) (x : Vv) : Calls Tryz.prog 136 #[x.v] w fun e w' => e = .returned (.float .f64 (asF x)) ∧ Fr (fun _ => False) w w' := by
  have HF : Hid (Fr (fun _ => False) w (vBox w x)) := (Fr.refl _ w).alloc _
  simp only [Vv.v] at *
  unfold asF
  by_cases h1 : x.k = 2
  · have h1' : (x.k == 2) = true := by simpa using h1
    rw [if_pos h1]
    clear h1
    go_enter Tryz.func136, Tryz.ntmps136
    go_wp2
    go_ret
    exact ⟨rfl, HF.out⟩
  · have h1' : (x.k == 2) = false := by simpa using h1
    rw [if_neg h1]
    clear h1
    go_enter Tryz.func136, Tryz.ntmps136
    go_wp2
    go_ret
    exact ⟨rfl, HF.out⟩
end Go.Proofs.YtniailfcmlongaaGreatDoor.Tr
/- The contract of rightWithin over a value that is no list and no set. -/
namespace Go.Proofs.YtniailfcmlongaaGreatDoor.Tr
open Go.RowKit

/-- Is a value right, that is no list and no set? -/
def rightS (x : Vv) : Bool :=
  if x.k = 0 ∨ x.k = 7 then bareB x
  else if x.k = 1 then decide (x.n = 0 ∨ x.n = 1) && bareB { x with n := 0 }
  else if x.k = 2 then bareB { x with n := 0 }
  else if x.k = 3 then bareB { x with f := 0 }
  else if x.k = 4 then decide (x.t.length ≤ 1024) && bareB { x with t := [] }
  else false

theorem vBlk (w : World) (x : Vv) : Blk (vBox w x) w.heap.size 26 x.cs := Blk.new w 26 x.cs
theorem vFr (w : World) (x : Vv) : Fr (fun _ => False) w (vBox w x) := (Fr.refl _ w).alloc _

set_option maxRecDepth 100000 in
set_option maxHeartbeats 2000000 in
theorem rightWithin_sca (w : World) (x : Vv) (room : Int) (h5 : x.k ≠ 5) (h6 : x.k ≠ 6) : Calls Tryz.prog 42 #[x.v, .int .i64 room] w fun e w' => e = .returned (.bool (rightS x)) ∧ Fr (fun _ => False) w w' := by
  have HB := hid (vBlk w x)
  have HF := hid (vFr w x)
  have HR := hid (show rightS x = rightS x from rfl)
  generalize hr : rightS x = r at HR ⊢
  clear HR
  have HR := hid hr
  clear hr
  have z0 : ∀ j, (vBox w x).frozen? ⟨w.heap.size, j, none⟩ = false := fun j => (vBlk w x).frozen j
  obtain ⟨k, n, f, t, na, nl, nc, ia, il, ic⟩ := x
  simp only [Vv.v, vBox] at *
  have q5 : (k == 5) = false := by simpa using h5
  have q6 : (k == 6) = false := by simpa using h6
  by_cases h0 : k = 0 ∨ k = 7
  · have e : Hid (r = bareB ⟨k, n, f, t, na, nl, nc, ia, il, ic⟩) := by
      unfold Hid; rw [← HR.out]; unfold rightS; rw [if_pos h0]
    clear HR
    have hq : (k == 0) = true ∨ (k == 0) = false ∧ (k == 7) = true := by
      rcases h0 with h | h
      · left; simpa using h
      · right; subst h; decide
    clear h0 h5 h6
    rcases hq with q | ⟨q, q'⟩
    all_goals
      go_enter Tryz.func42, Tryz.ntmps42
      go_wp2_with fail
      refine (isBare_any _ ⟨k, n, f, t, na, nl, nc, ia, il, ic⟩).mono ?_
      rintro e1 w1 ⟨rfl, f1⟩
      have HF1 := hid (HF.out.trans f1 (fun _ h => h.elim))
      clear f1
      go_wp2_with fail
      go_ret
      exact ⟨by rw [e.out]; rfl, HF1.out⟩
  have q0 : (k == 0) = false := by simp; exact fun h => h0 (.inl h)
  have q7 : (k == 7) = false := by simp; exact fun h => h0 (.inr h)
  by_cases h1 : k = 1
  · subst h1
    have e : Hid (r = (decide (n = 0 ∨ n = 1) && bareB ⟨1, 0, f, t, na, nl, nc, ia, il, ic⟩)) := by
      unfold Hid; rw [← HR.out]; rfl
    clear HR h0 h5 h6 q0 q5 q6 q7
    have HFs := hid (vFr w ⟨1, 0, f, t, na, nl, nc, ia, il, ic⟩)
    by_cases hn : n = 0 ∨ n = 1
    · have e2 : Hid (r = bareB ⟨1, 0, f, t, na, nl, nc, ia, il, ic⟩) := by
        unfold Hid; rw [e.out, decide_eq_true hn]; rfl
      have hq : (n == 0) = true ∨ (n == 0) = false ∧ (n == 1) = true := by
        rcases hn with h | h
        · left; simpa using h
        · right; subst h; decide
      clear hn e
      rcases hq with q | ⟨q, q'⟩
      all_goals
        go_enter Tryz.func42, Tryz.ntmps42
        go_wp2_with fail
        refine (isBare_any _ ⟨1, 0, f, t, na, nl, nc, ia, il, ic⟩).mono ?_
        rintro e1 w1 ⟨rfl, f1⟩
        have HF1 := hid (HFs.out.trans f1 (fun _ h => h.elim))
        clear f1
        go_wp2_with fail
        go_ret
        exact ⟨by rw [e2.out]; rfl, HF1.out⟩
    · have e2 : Hid (r = false) := by
        unfold Hid; rw [e.out, decide_eq_false hn]; rfl
      have q1 : (n == 0) = false := by simp; exact fun h => hn (.inl h)
      have q2 : (n == 1) = false := by simp; exact fun h => hn (.inr h)
      clear hn e
      go_enter Tryz.func42, Tryz.ntmps42
      go_wp2_with fail
      go_ret
      exact ⟨by rw [e2.out]; rfl, HFs.out⟩
  have q1 : (k == 1) = false := by simpa using h1
  by_cases h2 : k = 2
  · subst h2
    have e : Hid (r = bareB ⟨2, 0, f, t, na, nl, nc, ia, il, ic⟩) := by
      unfold Hid; rw [← HR.out]; rfl
    clear HR h0 h5 h6 q0 q5 q6 q7 q1 h1
    have HFs := hid (vFr w ⟨2, 0, f, t, na, nl, nc, ia, il, ic⟩)
    go_enter Tryz.func42, Tryz.ntmps42
    go_wp2_with fail
    refine (isBare_any _ ⟨2, 0, f, t, na, nl, nc, ia, il, ic⟩).mono ?_
    rintro e1 w1 ⟨rfl, f1⟩
    have HF1 := hid (HFs.out.trans f1 (fun _ h => h.elim))
    clear f1
    go_wp2_with fail
    go_ret
    exact ⟨by rw [e.out]; rfl, HF1.out⟩
  have q2 : (k == 2) = false := by simpa using h2
  by_cases h3 : k = 3
  · subst h3
    have e : Hid (r = bareB ⟨3, n, 0, t, na, nl, nc, ia, il, ic⟩) := by
      unfold Hid; rw [← HR.out]; rfl
    clear HR h0 h5 h6 q0 q5 q6 q7 q1 h1 h2 q2
    have HFs := hid (vFr w ⟨3, n, 0, t, na, nl, nc, ia, il, ic⟩)
    have hst := fun (W : World) (a : Addr) (m : Mode) => run_store Tryz.prog W a (.float .f64 0) m rfl
    go_enter Tryz.func42, Tryz.ntmps42
    go_wp2_with fail
    refine (isBare_any _ ⟨3, n, 0, t, na, nl, nc, ia, il, ic⟩).mono ?_
    rintro e1 w1 ⟨rfl, f1⟩
    have HF1 := hid (HFs.out.trans f1 (fun _ h => h.elim))
    clear f1
    go_wp2_with fail
    go_ret
    exact ⟨by rw [e.out]; rfl, HF1.out⟩
  have q3 : (k == 3) = false := by simpa using h3
  by_cases h4 : k = 4
  · subst h4
    have e : Hid (r = (decide (t.length ≤ 1024) && bareB ⟨4, n, f, [], na, nl, nc, ia, il, ic⟩)) := by
      unfold Hid; rw [← HR.out]; rfl
    clear HR h0 h5 h6 q0 q5 q6 q7 q1 h1 h2 q2 h3 q3
    have HFs := hid (vFr w ⟨4, n, f, [], na, nl, nc, ia, il, ic⟩)
    by_cases hn : t.length ≤ 1024
    · have e2 : Hid (r = bareB ⟨4, n, f, [], na, nl, nc, ia, il, ic⟩) := by
        unfold Hid; rw [e.out, decide_eq_true hn]; rfl
      have hn' : ((t.length : Nat) : Int) ≤ 1024 := by omega
      clear e
      go_enter Tryz.func42, Tryz.ntmps42
      go_wp2_with fail
      refine (isBare_any _ ⟨4, n, f, [], na, nl, nc, ia, il, ic⟩).mono ?_
      rintro e1 w1 ⟨rfl, f1⟩
      have HF1 := hid (HFs.out.trans f1 (fun _ h => h.elim))
      clear f1
      go_wp2_with fail
      go_ret
      exact ⟨by rw [e2.out]; rfl, HF1.out⟩
    · have e2 : Hid (r = false) := by
        unfold Hid; rw [e.out, decide_eq_false hn]; rfl
      have hn' : ¬ ((t.length : Nat) : Int) ≤ 1024 := by omega
      clear e
      go_enter Tryz.func42, Tryz.ntmps42
      go_wp2_with fail
      go_ret
      exact ⟨by rw [e2.out]; rfl, HFs.out⟩
  have q4 : (k == 4) = false := by simpa using h4
  have e2 : Hid (r = false) := by
    unfold Hid; rw [← HR.out]; unfold rightS
    rw [if_neg h0, if_neg h1, if_neg h2, if_neg h3, if_neg h4]
  clear HR h0 h1 h2 h3 h4 h5 h6
  go_enter Tryz.func42, Tryz.ntmps42
  go_wp2_with fail
  go_ret
  exact ⟨by rw [e2.out]; rfl, HF.out⟩

set_option maxRecDepth 100000 in
set_option maxHeartbeats 2000000 in
theorem right_sca (w : World) (x : Vv) (h5 : x.k ≠ 5) (h6 : x.k ≠ 6) : Calls Tryz.prog 26 #[x.v] w fun e w' => e = .returned (.bool (rightS x)) ∧ Fr (fun _ => False) w w' := by
  have HF := hid (vFr w x)
  have HR := hid (fun W => rightWithin_sca W x 32 h5 h6)
  simp only [Vv.v] at *
  clear h5 h6
  go_enter Tryz.func26, Tryz.ntmps26
  go_wp2_with fail
  refine (HR.out _).mono ?_
  rintro e1 w1 ⟨rfl, f1⟩
  have HF1 := hid (HF.out.trans f1 (fun _ h => h.elim))
  clear f1
  go_wp2_with fail
  go_ret
  exact ⟨rfl, HF1.out⟩
end Go.Proofs.YtniailfcmlongaaGreatDoor.Tr
/- The contracts of what reckons with ints. -/
namespace Go.Proofs.YtniailfcmlongaaGreatDoor.Tr
open Go.RowKit

theorem sizeV : (Tryz.prog.info? 26).map (·.size) = some 6 := by kernel_rfl
theorem resV {fn : Func} {p : Tmp} (h : fn.results = #[.cell p 26]) {a : Act} {W : World} {b : Nat} {t : TypeId} {x : Vv} (ha : a.tmps.getD p undef = .pointer (some ⟨b, 0, none⟩)) (hb : Blk W b t x.cs) :
    (results fn a.tmps).run Tryz.prog W = .ok x.v W :=
  results_cell_row h a.tmps W b t x.cs.toArray (0, 0) _ ha hb Tryz.underlying26 rfl (by kernel_rfl)
theorem resVE {fn : Func} {p u : Tmp} (h : fn.results = #[.cell p 26, .tmp u]) {a : Act} {W : World} {b : Nat} {t : TypeId} {x : Vv} (ha : a.tmps.getD p undef = .pointer (some ⟨b, 0, none⟩)) (hb : Blk W b t x.cs) :
    (results fn a.tmps).run Tryz.prog W = .ok (.tuple #[x.v, a.tmps.getD u undef]) W := by
  rw [results_cell_tmp h a.tmps Tryz.prog W, ha]
  have e := run_loadVar_mid (P := Tryz.prog) W b 0 26 x.cs _ (hb.range 0 _ (by simp)) Tryz.underlying26 rfl (by rw [sizeV]; rfl)
  simp [asAddr, e, Result.andThen]

end Go.Proofs.YtniailfcmlongaaGreatDoor.Tr
/- The contract of reckonInts. -/
namespace Go.Proofs.YtniailfcmlongaaGreatDoor.Tr
open Go.RowKit

theorem vv_one (x : Vv) : ∀ v ∈ x.cs, v.oneCell' = true := by
  intro v hv
  simp only [Vv.cs, List.mem_cons, List.not_mem_nil, or_false] at hv
  rcases hv with rfl | rfl | rfl | rfl | rfl | rfl <;> rfl
/-- Storing a value. -/
theorem wpList_storeV {ops : Array Oper} {rest : List Oper} {op : Oper} {a : Act} {W : World} {Q : Exit → Act → World → Prop} (x0 : Vv) (hgd : op.guard = none) (x y : Operand) (ho : op.op = .store 26 x y) {b : Nat} {old : Vv} (hb : Blk W b 26 old.cs)
    (hx : a.eval x = .pointer (some ⟨b, 0, none⟩)) (hy : a.eval y = x0.v) (h : ∀ W', Blk W' b 26 x0.cs → Fr (· = b) W W' → wpList Tryz.prog ops Q rest (a.put op.dst undef) W') : wpList Tryz.prog ops Q (op :: rest) a W :=
  wpList_plain hgd fun K hK => by
    have hs : (Instr.storeAt 26 (.pointer (some ⟨b, 0, none⟩)) x0.v).run Tryz.prog W = .ok () (W.setCells b 0 x0.cs) := by
      have h := run_storeAt_mid (P := Tryz.prog) W b 0 26 x0.cs.toArray (hb.there 0 6 (Nat.le_refl 6)) sizeV (all_oneCell_toArray (vv_one x0))
      rw [show x0.v = .agg x0.cs.toArray from rfl]; simpa using h
    have hb' : Blk (W.setCells b 0 x0.cs) b 26 x0.cs := hb.setCells x0.cs 0 (Nat.le_refl 6)
    have hf : Fr (· = b) W (W.setCells b 0 x0.cs) := (Fr.refl (· = b) W).setCells (b := b) (.inl rfl) _ _
    unfold Oper.wp execOp
    simp only [ho, hx, hy, hs, Sem.run_bind, Sem.run_pure, Result.andThen_ok]
    exact hK _ _ (h _ hb' hf)

/-- An int that fits, or none. -/
def fitV (n : Int) (fits : Bool) : Value := .tuple #[(if fits then vI n else vZ).v, .int .i64 (if fits then 0 else 16)]

end Go.Proofs.YtniailfcmlongaaGreatDoor.Tr
/- What lies in memory from the beginning. Nothing here speaks of the Go text. -/
namespace Go.Proofs.YtniailfcmlongaaGreatDoor.Tr
open Go.RowKit

/-- What lay in memory at the beginning is there as it was. -/
def Env (w0 W : World) : Prop := w0.heap.size ≤ W.heap.size ∧ ∀ j, j < w0.heap.size → W.heap[j]? = w0.heap[j]?
theorem Env.refl (w : World) : Env w w := ⟨Nat.le_refl _, fun _ _ => rfl⟩
theorem Env.fr {w0 W W' : World} (h : Env w0 W) {F : Nat → Prop} (f : Fr F W W') (hF : ∀ j, F j → w0.heap.size ≤ j) : Env w0 W' :=
  ⟨Nat.le_trans h.1 f.size, fun j hj => (f.block j (Nat.lt_of_lt_of_le hj h.1) (fun hf => absurd (hF j hf) (by omega))).trans (h.2 j hj)⟩

theorem Env.cell {w0 W : World} (h : Env w0 W) {a : Addr} {v : Value} (hc : w0.cell? a = some v) : W.cell? a = some v := by
  have hb : a.block < w0.heap.size := by
    rcases Nat.lt_or_ge a.block w0.heap.size with hl | hl
    · exact hl
    · exfalso
      unfold World.cell? at hc
      rw [Array.getElem?_eq_none hl] at hc
      simp at hc
  have e := h.2 a.block hb
  unfold World.cell? at hc ⊢
  rw [e]; exact hc
theorem Env.trans {a b c : World} (h : Env a b) (k : Env b c) : Env a c :=
  ⟨Nat.le_trans h.1 k.1, fun j hj => (k.2 j (Nat.lt_of_lt_of_le hj h.1)).trans (h.2 j hj)⟩
theorem Env.alloc (w : World) (o : Obj) : Env w (w.alloc o) := (Env.refl w).fr ((Fr.refl (fun _ => False) w).alloc o) (fun _ h => h.elim)
theorem Env.of {w W : World} (f : Fr (fun _ => False) w W) : Env w W := (Env.refl w).fr f (fun _ h => h.elim)

end Go.Proofs.YtniailfcmlongaaGreatDoor.Tr
/- A drawn region by hand: which operation is taken first. Nothing here speaks of the Go text. -/
namespace Go.Proofs.YtniailfcmlongaaGreatDoor.Tr
open Go.RowKit

section
variable {P : Program} {ops : Array Oper} {Q : Exit → Act → World → Prop} {md : Region.Mode} {S : World → Prop}
/-- Operation number i is taken first: its value is v in every world that meets S. -/
theorem takeH {i : Nat} {d : Option Tmp} {fuel : Nat} {listed : Array Bool} {a : Act} {w : World} (v : Value) (hd : (ops[i]?).map (·.dst) = some d) (hs : Region.noSelect ops = true) (hf : Region.free md ops listed i = true)
    (hr : (Region.ready md ops listed).contains i = true) (hQ : ∀ (o : Oper) c a w, Q (.panic c) (a.put o.dst v) w → Q (.panic c) a w) (hS : S w) (hy : ∀ o, ops[i]? = some o → YieldsIf P ops S o v a)
    (h : wpAnyH P md ops Q S fuel (listed.setIfInBounds i true) (a.put d v) w) : wpAnyH P md ops Q S (fuel + 1) listed a w := by
  cases ho : ops[i]? with
  | none => simp [ho] at hd
  | some o =>
    have e : o.dst = d := by simpa [ho] using hd
    subst e
    exact wpAnyH_take ho hs hf hr (hQ o) (hy o ho) hS h
/-- Operation number i alone can come up. -/
theorem oneH {i : Nat} {fuel : Nat} {listed : Array Bool} {a : Act} {w : World} (hr : Region.ready md ops listed = [i])
    (h : ∀ o, ops[i]? = some o → ∀ K' : Act → World → Prop, Hid (∀ a w, S w → wpAnyH P md ops Q S fuel (listed.setIfInBounds i true) a w → K' a w) → if Region.wanted o (yielded ops a.tmps) = true then Oper.wp P o a w K' Q else K' (a.put o.dst undef) w)
    (hi : i < ops.size) : wpAnyH P md ops Q S (fuel + 1) listed a w := by
  have ho : ops[i]? = some ops[i] := Array.getElem?_eq_getElem hi
  exact wpAnyH_ready hr (by simp) (AllReadyH.cons ho (fun K' hK => h _ ho K' (fun a w hS hW => hK a w hS (fun _ => hW))) AllReadyH.nil)
/-- Two operations can come up. -/
theorem twoH {i j : Nat} {fuel : Nat} {listed : Array Bool} {a : Act} {w : World} (hr : Region.ready md ops listed = [i, j])
    (h1 : ∀ o, ops[i]? = some o → ∀ K' : Act → World → Prop, Hid (∀ a w, S w → wpAnyH P md ops Q S fuel (listed.setIfInBounds i true) a w → K' a w) → if Region.wanted o (yielded ops a.tmps) = true then Oper.wp P o a w K' Q else K' (a.put o.dst undef) w)
    (h2 : ∀ o, ops[j]? = some o → ∀ K' : Act → World → Prop, Hid (∀ a w, S w → wpAnyH P md ops Q S fuel (listed.setIfInBounds j true) a w → K' a w) → if Region.wanted o (yielded ops a.tmps) = true then Oper.wp P o a w K' Q else K' (a.put o.dst undef) w)
    (hi : i < ops.size) (hj : j < ops.size) : wpAnyH P md ops Q S (fuel + 1) listed a w := by
  have ho : ops[i]? = some ops[i] := Array.getElem?_eq_getElem hi
  have hp : ops[j]? = some ops[j] := Array.getElem?_eq_getElem hj
  exact wpAnyH_ready hr (by simp) (AllReadyH.cons ho (fun K' hK => h1 _ ho K' (fun a w hS hW => hK a w hS (fun _ => hW))) (AllReadyH.cons hp (fun K' hK => h2 _ hp K' (fun a w hS hW => hK a w hS (fun _ => hW))) AllReadyH.nil))
end

/-- Storing a value, at the operation. -/
theorem wp_storeV {op : Oper} {a : Act} {W : World} {K : Act → World → Prop} {Q : Exit → Act → World → Prop} (x0 : Vv) (x y : Operand) (ho : op.op = .store 26 x y) {b : Nat} {old : Vv} (hb : Blk W b 26 old.cs)
    (hx : a.eval x = .pointer (some ⟨b, 0, none⟩)) (hy : a.eval y = x0.v) (hd : op.dst = none) (h : ∀ W', Blk W' b 26 x0.cs → Fr (· = b) W W' → K a W') : op.wp Tryz.prog a W K Q := by
  have hs : (Instr.storeAt 26 (.pointer (some ⟨b, 0, none⟩)) x0.v).run Tryz.prog W = .ok () (W.setCells b 0 x0.cs) := by
    have h := run_storeAt_mid (P := Tryz.prog) W b 0 26 x0.cs.toArray (hb.there 0 6 (Nat.le_refl 6)) sizeV (all_oneCell_toArray (vv_one x0))
    rw [show x0.v = .agg x0.cs.toArray from rfl]; simpa using h
  have hb' : Blk (W.setCells b 0 x0.cs) b 26 x0.cs := hb.setCells x0.cs 0 (Nat.le_refl 6)
  have hf : Fr (· = b) W (W.setCells b 0 x0.cs) := (Fr.refl (· = b) W).setCells (b := b) (.inl rfl) _ _
  unfold Oper.wp execOp
  simp only [ho, hx, hy, hs, Sem.run_bind, Sem.run_pure, Result.andThen_ok]
  have e : a.put op.dst undef = a := by rw [hd]; rfl
  first | exact h _ hb' hf | (have := h _ hb' hf; rw [← e] at this; exact this)

end Go.Proofs.YtniailfcmlongaaGreatDoor.Tr
/- Values as trees in memory. -/
namespace Go.Proofs.YtniailfcmlongaaGreatDoor.Tr
open Go.RowKit

/-- A value: its kind, its number, its float's bits, its text, its names, its items. -/
inductive Vt where
  | mk (k n : Int) (f : Nat) (t : List UInt8) (ns : List (List UInt8)) (its : List Vt)
def Vt.k : Vt → Int | .mk k .. => k
def Vt.n : Vt → Int | .mk _ n .. => n
def Vt.f : Vt → Nat | .mk _ _ f .. => f
def Vt.t : Vt → List UInt8 | .mk _ _ _ t .. => t
def Vt.ns : Vt → List (List UInt8) | .mk _ _ _ _ ns _ => ns
def Vt.its : Vt → List Vt | .mk _ _ _ _ _ its => its
theorem Vt.its_lt {v u : Vt} (h : u ∈ v.its) : SizeOf.sizeOf u < SizeOf.sizeOf v := by
  cases v with
  | mk k n f t ns its =>
    have : SizeOf.sizeOf u < SizeOf.sizeOf its := List.sizeOf_lt_of_mem h
    simp only [Vt.mk.sizeOf_spec]
    omega

/-- A value's six cells, wherever they lie. -/
def sixO (W : World) (b o : Nat) (x : Vv) : Prop := ∀ j v, x.cs[j]? = some v → W.cell? ⟨b, o + j, none⟩ = some v
def lim : Nat := 140737488351232
/-- Texts that lie in a row. -/
def Strs (w : World) (ad : Option Addr) (ns : List (List UInt8)) : Prop := ns ≠ [] → ∃ b o, ad = some ⟨b, o, none⟩ ∧ ∀ i (h : i < ns.length), w.cell? ⟨b, o + i, none⟩ = some (.string ⟨ns[i].toArray⟩)
mutual
/-- The fields x are the value v. -/
def VIn (w : World) : Vt → Vv → Prop
  | .mk k n f t ns its, x => (x.k = k ∧ x.n = n ∧ x.f = f ∧ x.t = t) ∧ (I64 k ∧ I64 n ∧ t.length ≤ lim ∧ (∀ s ∈ ns, s.length ≤ lim)) ∧ (x.nl = ns.length ∧ ns.length ≤ x.nc ∧ ns.length ≤ lim ∧ Strs w x.na ns) ∧ (x.il = its.length ∧ its.length ≤ x.ic ∧ its.length ≤ lim) ∧ IIn w its x.ia
/-- At ad lie these values. -/
def IIn (w : World) : List Vt → Option Addr → Prop
  | [], _ => True
  | v :: r, ad => ∃ b o x, ad = some ⟨b, o, none⟩ ∧ sixO w b o x ∧ VIn w v x ∧ IIn w r (some ⟨b, o + 6, none⟩)
end
theorem sixO.env {w W : World} {b o : Nat} {x : Vv} (h : sixO w b o x) (e : Env w W) : sixO W b o x := fun j v hv => e.cell (h j v hv)
theorem Strs.env {w W : World} {ad : Option Addr} {ns : List (List UInt8)} (h : Strs w ad ns) (e : Env w W) : Strs W ad ns := fun hne => by
  obtain ⟨b, o, h1, h2⟩ := h hne
  exact ⟨b, o, h1, fun i hi => e.cell (h2 i hi)⟩
mutual
theorem VIn.env {w W : World} (e : Env w W) : ∀ (v : Vt) (x : Vv), VIn w v x → VIn W v x
  | .mk k n f t ns its, x, h => by
    rw [VIn] at h ⊢
    exact ⟨h.1, h.2.1, ⟨h.2.2.1.1, h.2.2.1.2.1, h.2.2.1.2.2.1, h.2.2.1.2.2.2.env e⟩, h.2.2.2.1, IIn.env e its x.ia h.2.2.2.2⟩
theorem IIn.env {w W : World} (e : Env w W) : ∀ (l : List Vt) (ad : Option Addr), IIn w l ad → IIn W l ad
  | [], _, _ => by rw [IIn]; trivial
  | v :: r, ad, h => by
    rw [IIn] at h ⊢
    obtain ⟨b, o, x, h1, h2, h3, h4⟩ := h
    exact ⟨b, o, x, h1, h2.env e, VIn.env e v x h3, IIn.env e r _ h4⟩
end
theorem IIn.get {w : World} : ∀ {l : List Vt} {b o : Nat}, IIn w l (some ⟨b, o, none⟩) → ∀ i (h : i < l.length), ∃ x, sixO w b (o + i * 6) x ∧ VIn w l[i] x
  | [], _, _, _, i, h => absurd h (by simp)
  | v :: r, b, o, h, i, hi => by
    rw [IIn] at h
    obtain ⟨b', o', x, h1, h2, h3, h4⟩ := h
    simp only [Option.some.injEq, Addr.mk.injEq, and_true] at h1
    obtain ⟨rfl, rfl⟩ := h1
    cases i with
    | zero => exact ⟨x, h2, h3⟩
    | succ i =>
      obtain ⟨y, y1, y2⟩ := IIn.get h4 i (by simpa using hi)
      refine ⟨y, ?_, by simpa using y2⟩
      rw [show o + (i + 1) * 6 = o + 6 + i * 6 by omega]
      exact y1
theorem IIn.some {w : World} {l : List Vt} {ad : Option Addr} (h : IIn w l ad) (hne : l ≠ []) : ∃ b o, ad = .some ⟨b, o, none⟩ := by
  cases l with
  | nil => exact absurd rfl hne
  | cons v r =>
    rw [IIn] at h
    obtain ⟨b, o, x, h1, _⟩ := h
    exact ⟨b, o, h1⟩
theorem sixO.six {W : World} {b o : Nat} {x : Vv} (h : sixO W b o x) : W.cell? ⟨b, o, none⟩ = some (.int .i64 x.k) ∧ W.cell? ⟨b, o + 1, none⟩ = some (.int .i64 x.n) ∧ W.cell? ⟨b, o + 2, none⟩ = some (.float .f64 x.f) ∧ W.cell? ⟨b, o + 3, none⟩ = some (.string ⟨x.t.toArray⟩) ∧ W.cell? ⟨b, o + 4, none⟩ = some (.slice x.na x.nl x.nc) ∧ W.cell? ⟨b, o + 5, none⟩ = some (.slice x.ia x.il x.ic) :=
  ⟨h 0 _ rfl, h 1 _ rfl, h 2 _ rfl, h 3 _ rfl, h 4 _ rfl, h 5 _ rfl⟩
/-- The parts of a value in memory. -/
theorem VIn.parts {w : World} {v : Vt} {x : Vv} (h : VIn w v x) : (x.k = v.k ∧ x.n = v.n ∧ x.f = v.f ∧ x.t = v.t) ∧ (I64 v.k ∧ I64 v.n ∧ v.t.length ≤ lim ∧ (∀ s ∈ v.ns, s.length ≤ lim)) ∧ (x.nl = v.ns.length ∧ v.ns.length ≤ x.nc ∧ v.ns.length ≤ lim ∧ Strs w x.na v.ns) ∧ (x.il = v.its.length ∧ v.its.length ≤ x.ic ∧ v.its.length ≤ lim) ∧ IIn w v.its x.ia := by
  cases v; rw [VIn] at h; exact h
theorem VIn.item {w : World} {v : Vt} {x : Vv} (h : VIn w v x) (i : Nat) (hi : i < v.its.length) : ∃ b o y, x.ia = some ⟨b, o, none⟩ ∧ sixO w b (o + i * 6) y ∧ VIn w v.its[i] y := by
  have hp := h.parts.2.2.2.2
  obtain ⟨b, o, e⟩ := hp.some (by intro e; rw [e] at hi; simp at hi)
  rw [e] at hp
  obtain ⟨y, y1, y2⟩ := hp.get i hi
  exact ⟨b, o, y, e, y1, y2⟩

mutual
/-- What 'small' tells. -/
def smF : Vt → Int → Int
  | .mk _ _ _ _ _ its, left => if left ≤ 0 then 0 else smL its (left - 1)
def smL : List Vt → Int → Int
  | [], left => left
  | v :: r, left => if left ≤ 0 then left else smL r (smF v left)
end
mutual
theorem smF_le : ∀ (v : Vt) (left : Int), 0 ≤ left → 0 ≤ smF v left ∧ smF v left ≤ left
  | .mk _ _ _ _ _ its, left, h => by
    rw [smF]
    split
    · omega
    · have := smL_le its (left - 1) (by omega); omega
theorem smL_le : ∀ (l : List Vt) (left : Int), 0 ≤ left → 0 ≤ smL l left ∧ smL l left ≤ left
  | [], left, h => by rw [smL]; omega
  | v :: r, left, h => by
    rw [smL]
    split
    · omega
    · have h1 := smF_le v left h
      have := smL_le r (smF v left) h1.1
      omega
end
theorem smL_zero (l : List Vt) : smL l 0 = 0 := by cases l <;> rw [smL]; rfl
theorem smF_eq (v : Vt) (left : Int) : smF v left = if left ≤ 0 then 0 else smL v.its (left - 1) := by
  cases v; rw [smF]; rfl
theorem smL_cons (v : Vt) (r : List Vt) (left : Int) (h : 0 < left) : smL (v :: r) left = smL r (smF v left) := by
  rw [smL, if_neg (by omega)]
end Go.Proofs.YtniailfcmlongaaGreatDoor.Tr
