/- Values in memory; the contracts of the small functions that take one. -/
import Derived.Test.YtlepjghfcpgbcaaGreatDoorFOr
import Derived.Test.YtlepjghfcpgbcaaGreatDoorAri
namespace Go.Proofs.YtlepjghfcpgbcaaGreatDoor.Tr
open Go.RowKit

theorem str_at (l : List UInt8) (k : Nat) (h : k < l.length) : (ByteArray.mk l.toArray)[k]'(by simpa [ByteArray.size] using h) = l[k] := rfl
abbrev pv (b : Nat) : Value := .pointer (some ⟨b, 0, none⟩)

/-- A value's six fields: of names and items where they lie, how many, and how much room there is. -/
structure Vv where
  k : Int
  n : Int
  f : Nat
  t : List UInt8
  na : Option Addr
  nl : Nat
  nc : Nat
  ia : Option Addr
  il : Nat
  ic : Nat
abbrev Vv.cs (x : Vv) : List Value := [.int .i64 x.k, .int .i64 x.n, .float .f64 x.f, .string ⟨x.t.toArray⟩, .slice x.na x.nl x.nc, .slice x.ia x.il x.ic]
abbrev Vv.v (x : Vv) : Value := .agg #[.int .i64 x.k, .int .i64 x.n, .float .f64 x.f, .string ⟨x.t.toArray⟩, .slice x.na x.nl x.nc, .slice x.ia x.il x.ic]
abbrev vZ : Vv := ⟨0, 0, 0, [], none, 0, 0, none, 0, 0⟩
abbrev vI (n : Int) : Vv := ⟨2, n, 0, [], none, 0, 0, none, 0, 0⟩
abbrev vF (f : Nat) : Vv := ⟨3, 0, f, [], none, 0, 0, none, 0, 0⟩
abbrev vS (t : List UInt8) : Vv := ⟨4, 0, 0, t, none, 0, 0, none, 0, 0⟩

theorem fbits_any (w : World) (f : Nat) : (callFunc 38 #[.float .f64 f]).run Tryz.prog w = .ok (.value (.int .u64 (f : Int))) w := by
  rw [run_callFunc_extern Tryz.func38 (by kernel_rfl) (by kernel_rfl) (by kernel_rfl) (e := Extern.MathFloatBits.float64bits) (by kernel_rfl)]
  rfl

/-- Are all fields but the kind nought or empty? -/
def bareB (x : Vv) : Bool := decide (x.n = 0) && decide (x.f = 0) && decide (x.t = []) && decide (x.nl = 0) && decide (x.il = 0)

set_option maxRecDepth 100000 in
set_option maxHeartbeats 1000000 in
theorem isBare_any (w : World) (x : Vv) : Calls Tryz.prog 86 #[x.v] w fun e w' => e = .returned (.bool (bareB x)) ∧ Fr (fun _ => False) w w' := by
  have HF : Hid (Fr (fun _ => False) w (w.alloc (.cells #[.int .i64 x.k, .int .i64 x.n, .float .f64 x.f, .string ⟨x.t.toArray⟩, .slice x.na x.nl x.nc, .slice x.ia x.il x.ic] 26))) := (Fr.refl _ w).alloc _
  have hfb := fun W => fbits_any W x.f
  unfold bareB
  obtain ⟨k, n, f, t, na, nl, nc, ia, il, ic⟩ := x
  simp only [Vv.v] at *
  by_cases h1 : n = 0
  · subst h1
    by_cases h2 : f = 0
    · subst h2
      by_cases h3 : t = []
      · subst h3
        by_cases h4 : nl = 0
        · subst h4
          have h5' : (((il : Nat) : Int) == 0) = decide (il = 0) := by
            by_cases h : il = 0
            · subst h; rfl
            · rw [decide_eq_false h]; simp; exact h
          go_enter Tryz.func86, Tryz.ntmps86
          go_wp2
          go_ret
          exact ⟨by simp, HF.out⟩
        · have h4' : (((nl : Nat) : Int) == 0) = false := by simp; exact h4
          go_enter Tryz.func86, Tryz.ntmps86
          go_wp2
          go_ret
          exact ⟨by simp [h4], HF.out⟩
      · have h3' : (t == []) = false := by simp; exact h3
        go_enter Tryz.func86, Tryz.ntmps86
        go_wp2
        go_ret
        exact ⟨by simp [h3], HF.out⟩
    · have h2' : (((f : Nat) : Int) == 0) = false := by simp; exact h2
      go_enter Tryz.func86, Tryz.ntmps86
      go_wp2
      go_ret
      exact ⟨by simp [h2], HF.out⟩
  · have h1' : (n == 0) = false := by simp; exact h1
    go_enter Tryz.func86, Tryz.ntmps86
    go_wp2
    go_ret
    exact ⟨by simp [h1], HF.out⟩

abbrev vBox (w : World) (x : Vv) : World := w.alloc (.cells #[.int .i64 x.k, .int .i64 x.n, .float .f64 x.f, .string ⟨x.t.toArray⟩, .slice x.na x.nl x.nc, .slice x.ia x.il x.ic] 26)

set_option maxRecDepth 100000 in
set_option maxHeartbeats 1000000 in
theorem areBoth_any (w : World) (k : Int) (x y : Vv) : Calls Tryz.prog 56 #[.int .i64 k, x.v, y.v] w fun e w' => e = .returned (.bool (decide (x.k = k) && decide (y.k = k))) ∧ Fr (fun _ => False) w w' := by
  have HF : Hid (Fr (fun _ => False) w (vBox (vBox w x) y)) := ((Fr.refl _ w).alloc _).alloc _
  simp only [Vv.v] at *
  by_cases h1 : x.k = k
  · have h1' : (x.k == k) = true := by simpa using h1
    by_cases h2 : y.k = k
    · have h2' : (y.k == k) = true := by simpa using h2
      rw [decide_eq_true h1, decide_eq_true h2]
      clear h1 h2
      go_enter Tryz.func56, Tryz.ntmps56
      go_wp2
      go_ret
      exact ⟨rfl, HF.out⟩
    · have h2' : (y.k == k) = false := by simpa using h2
      rw [decide_eq_true h1, decide_eq_false h2]
      clear h1 h2
      go_enter Tryz.func56, Tryz.ntmps56
      go_wp2
      go_ret
      exact ⟨rfl, HF.out⟩
  · have h1' : (x.k == k) = false := by simpa using h1
    rw [decide_eq_false h1]
    clear h1
    go_enter Tryz.func56, Tryz.ntmps56
    go_wp2
    go_ret
    exact ⟨rfl, HF.out⟩

def numB (x : Vv) : Bool := decide (x.k = 2) || decide (x.k = 3)
set_option maxRecDepth 100000 in
set_option maxHeartbeats 1000000 in
theorem isNumber_any (w : World) (x : Vv) : Calls Tryz.prog 92 #[x.v] w fun e w' => e = .returned (.bool (numB x)) ∧ Fr (fun _ => False) w w' := by
  have HF : Hid (Fr (fun _ => False) w (vBox w x)) := (Fr.refl _ w).alloc _
  simp only [Vv.v] at *
  unfold numB
  by_cases h1 : x.k = 2
  · have h1' : (x.k == 2) = true := by simpa using h1
    rw [decide_eq_true h1]
    clear h1
    go_enter Tryz.func92, Tryz.ntmps92
    go_wp2
    go_ret
    exact ⟨rfl, HF.out⟩
  · have h1' : (x.k == 2) = false := by simpa using h1
    rw [decide_eq_false h1]
    clear h1
    by_cases h2 : x.k = 3
    · have h2' : (x.k == 3) = true := by simpa using h2
      rw [decide_eq_true h2]
      clear h2
      go_enter Tryz.func92, Tryz.ntmps92
      go_wp2
      go_ret
      exact ⟨rfl, HF.out⟩
    · have h2' : (x.k == 3) = false := by simpa using h2
      rw [decide_eq_false h2]
      clear h2
      go_enter Tryz.func92, Tryz.ntmps92
      go_wp2
      go_ret
      exact ⟨rfl, HF.out⟩

set_option maxRecDepth 100000 in
set_option maxHeartbeats 1000000 in
theorem areNumbers_any (w : World) (x y : Vv) : Calls Tryz.prog 57 #[x.v, y.v] w fun e w' => e = .returned (.bool (numB x && numB y)) ∧ Fr (fun _ => False) w w' := by
  have HF : Hid (Fr (fun _ => False) w (vBox (vBox w x) y)) := ((Fr.refl _ w).alloc _).alloc _
  have HB : Hid (Blk (vBox (vBox w x) y) (w.heap.size + 1) 26 y.cs) := by
    have := Blk.new (vBox w x) 26 y.cs
    simpa [Hid] using this
  simp only [Vv.v] at *
  go_enter Tryz.func57, Tryz.ntmps57
  go_wp2_with fail
  refine (isNumber_any _ x).mono ?_
  rintro e w1 ⟨rfl, f1⟩
  have b1 := f1.blk HB.out (fun h => h)
  have HF1 := hid (HF.out.trans f1 (fun _ h => h.elim))
  clear HF HB f1
  cases hq : numB x with
  | false =>
    go_wp2
    go_ret
    exact ⟨by rw [hq]; rfl, HF1.out⟩
  | true =>
    have d0 := b1.cell 0
    have d1 := b1.cell 1
    have d2 := b1.cell 2
    have d3 := b1.cell 3
    have d4 := b1.cell 4
    have d5 := b1.cell 5
    simp only [List.getElem?_cons_zero, List.getElem?_cons_succ] at d0 d1 d2 d3 d4 d5
    clear b1
    go_wp2_with fail
    refine (isNumber_any _ y).mono ?_
    rintro e w2 ⟨rfl, f2⟩
    have HF2 := hid (HF1.out.trans f2 (fun _ h => h.elim))
    clear f2 HF1
    go_wp2
    go_ret
    exact ⟨by rw [hq]; rfl, HF2.out⟩

/-- A number as a float. -/
def asF (x : Vv) : Nat := if x.k = 2 then floatOfInt .f64 x.n else x.f
set_option maxRecDepth 100000 in
set_option maxHeartbeats 1000000 in
theorem asFloat_any (w : World) (x : Vv) : Calls Tryz.prog 58 #[x.v] w fun e w' => e = .returned (.float .f64 (asF x)) ∧ Fr (fun _ => False) w w' := by
  have HF : Hid (Fr (fun _ => False) w (vBox w x)) := (Fr.refl _ w).alloc _
  simp only [Vv.v] at *
  unfold asF
  by_cases h1 : x.k = 2
  · have h1' : (x.k == 2) = true := by simpa using h1
    rw [if_pos h1]
    clear h1
    go_enter Tryz.func58, Tryz.ntmps58
    go_wp2
    go_ret
    exact ⟨rfl, HF.out⟩
  · have h1' : (x.k == 2) = false := by simpa using h1
    rw [if_neg h1]
    clear h1
    go_enter Tryz.func58, Tryz.ntmps58
    go_wp2
    go_ret
    exact ⟨rfl, HF.out⟩
end Go.Proofs.YtlepjghfcpgbcaaGreatDoor.Tr
