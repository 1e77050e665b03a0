
/- The contracts of the disk's small functions: those that only read or store its fields. -/
import Derived.Test.YtehoiahgkbnjdaaGreatBase
namespace Go.Proofs.YtehoiahgkbnjdaaGreat.Dk
open Go.RowKit

section
variable {B : Nat} {w : World} {p bl bn : Nat} {lv : Value} {D : Dsk}
theorem Rep.c0 (h : Rep B w p bl bn lv D) : w.cell? ⟨p, 0, none⟩ = some (.slice (some ⟨bl, 0, none⟩) D.n D.cl) := h.hp.cell 0
theorem Rep.c1 (h : Rep B w p bl bn lv D) : w.cell? ⟨p, 1, none⟩ = some (.slice (some ⟨bn, 0, none⟩) D.n D.cn) := h.hp.cell 1
theorem Rep.c2 (h : Rep B w p bl bn lv D) : w.cell? ⟨p, 2, none⟩ = some lv := h.hp.cell 2
theorem Rep.c3 (h : Rep B w p bl bn lv D) : w.cell? ⟨p, 3, none⟩ = some (.bool D.up) := h.hp.cell 3
theorem Rep.c4 (h : Rep B w p bl bn lv D) : w.cell? ⟨p, 4, none⟩ = some (.int .i64 (D.deeds : Int)) := h.hp.cell 4
theorem Rep.c5 (h : Rep B w p bl bn lv D) : w.cell? ⟨p, 5, none⟩ = some (.bool D.bound) := h.hp.cell 5
theorem Rep.c6 (h : Rep B w p bl bn lv D) : w.cell? ⟨p, 6, none⟩ = some (.int .i64 D.after) := h.hp.cell 6
theorem Rep.c7 (h : Rep B w p bl bn lv D) : w.cell? ⟨p, 7, none⟩ = some (.int .u64 (D.keep : Int)) := h.hp.cell 7
theorem Rep.fz (h : Rep B w p bl bn lv D) (j : Nat) : w.frozen? ⟨p, j, none⟩ = false := h.hp.frozen j
end

abbrev pv (p : Nat) : Value := .pointer (some ⟨p, 0, none⟩)

set_option maxHeartbeats 400000 in
theorem up_any {B : Nat} {w : World} {p bl bn : Nat} {lv : Value} {D : Dsk} (h : Rep B w p bl bn lv D) :
    Calls Tryz.prog 52 #[pv p] w fun e w' => e = .returned (.bool D.up) ∧ w' = w := by
  have c := h.c3
  go_enter Tryz.func52, Tryz.ntmps52
  go_wp2
  go_ret
  exact ⟨rfl, rfl⟩

set_option maxHeartbeats 400000 in
theorem len_any {B : Nat} {w : World} {p bl bn : Nat} {lv : Value} {D : Dsk} (h : Rep B w p bl bn lv D) :
    Calls Tryz.prog 40 #[pv p] w fun e w' => e = .returned (.int .i64 (D.n : Int)) ∧ w' = w := by
  have c := h.c1
  go_enter Tryz.func40, Tryz.ntmps40
  go_wp2
  go_ret
  exact ⟨rfl, rfl⟩

theorem own_len {B : Nat} {w : World} {e : TypeId} {s : Nat} {v : Value} {n : Nat} {xs : List Value} (h : w.ownsRow B e s v n xs) : ∃ a cap, v = .slice a n cap := by
  rcases h.2 with ⟨h0, h1⟩ | ⟨g, cap, _, hv, _⟩
  · exact ⟨none, 0, by rw [h0, h1]⟩
  · exact ⟨_, cap, hv⟩

def Dsk.reach (D : Dsk) (i : Int) : Int := if D.up = false then 40 else if i < 0 ∨ (D.n : Int) ≤ i then 43 else 0

set_option maxHeartbeats 400000 in
theorem reach_any {B : Nat} {w : World} {p bl bn : Nat} {lv : Value} {D : Dsk} (h : Rep B w p bl bn lv D) (i : Int) :
    Calls Tryz.prog 76 #[pv p, .int .i64 i] w fun e w' => e = .returned (.int .i64 (D.reach i)) ∧ w' = w := by
  have c3 := h.c3
  have c1 := h.c1
  unfold Dsk.reach
  clear h
  cases hu : D.up
  · rw [hu] at c3
    clear hu
    go_enter Tryz.func76, Tryz.ntmps76
    go_wp2
    go_ret
    exact ⟨rfl, rfl⟩
  · rw [hu] at c3
    clear hu
    generalize D.n = n at *
    by_cases h0 : i < 0
    · go_enter Tryz.func76, Tryz.ntmps76
      go_wp2
      go_ret
      simp
    · by_cases h1 : (n : Int) ≤ i
      · go_enter Tryz.func76, Tryz.ntmps76
        go_wp2
        go_ret
        simp
      · go_enter Tryz.func76, Tryz.ntmps76
        go_wp2
        go_ret
        simp

def noTuple : Ending := .returned (.tuple #[])

def Dsk.disarm (D : Dsk) : Dsk := { D with bound := false, after := 0, keep := 0 }
def Dsk.armed (D : Dsk) (a : Int) (k : Nat) : Dsk := { D with bound := true, after := a, keep := k }

theorem Rep.arm3 {B : Nat} {w : World} {p bl bn : Nat} {lv : Value} {D : Dsk} (h : Rep B w p bl bn lv D) (b : Bool) (a : Int) (k : Nat) (a0 : 0 ≤ a) (a1 : a ≤ 9223372036854775807) (hk : k < 18446744073709551616) :
    Rep B (((w.setCell ⟨p, 5, none⟩ (.bool b)).setCell ⟨p, 6, none⟩ (.int .i64 a)).setCell ⟨p, 7, none⟩ (.int .u64 (k : Int))) p bl bn lv { D with bound := b, after := a, keep := k } := by
  have h1 : Rep B (w.setCell ⟨p, 5, none⟩ (.bool b)) p bl bn lv { D with bound := b } := h.field 5 _ rfl rfl rfl rfl { h.ok with }
  have h2 : Rep B ((w.setCell ⟨p, 5, none⟩ (.bool b)).setCell ⟨p, 6, none⟩ (.int .i64 a)) p bl bn lv { D with bound := b, after := a } := h1.field 6 _ rfl rfl rfl rfl { h1.ok with a0 := a0, a1 := a1 }
  exact h2.field 7 _ rfl rfl rfl rfl { h2.ok with k := hk }
theorem Fr.arm3 {w : World} {p bl bn : Nat} {lv : Value} (u v x : Value) :
    Fr (foot p bl bn lv) w (((w.setCell ⟨p, 5, none⟩ u).setCell ⟨p, 6, none⟩ v).setCell ⟨p, 7, none⟩ x) :=
  (((Fr.refl _ w).setCell (.inl (.inl rfl)) _).setCell (.inl (.inl rfl)) _).setCell (.inl (.inl rfl)) _

set_option maxHeartbeats 400000 in
theorem disarm_walk (w : World) (p : Nat) (x5 x6 x7 : Value) (c5 : w.cell? ⟨p, 5, none⟩ = some x5) (c6 : w.cell? ⟨p, 6, none⟩ = some x6) (c7 : w.cell? ⟨p, 7, none⟩ = some x7) (fz : ∀ j, w.frozen? ⟨p, j, none⟩ = false) :
    Calls Tryz.prog 100 #[pv p] w fun e w' => e = .returned (.tuple #[]) ∧ w' = ((w.setCell ⟨p, 5, none⟩ (.bool false)).setCell ⟨p, 6, none⟩ (.int .i64 0)).setCell ⟨p, 7, none⟩ (.int .u64 0) := by
  go_enter Tryz.func100, Tryz.ntmps100
  go_wp2
  go_end0
  exact ⟨rfl, rfl⟩

theorem disarm_any {B : Nat} {w : World} {p bl bn : Nat} {lv : Value} {D : Dsk} (h : Rep B w p bl bn lv D) :
    Calls Tryz.prog 100 #[pv p] w fun e w' => e = .returned (.tuple #[]) ∧ Rep B w' p bl bn lv D.disarm ∧ Fr (foot p bl bn lv) w w' := by
  refine (disarm_walk w p _ _ _ h.c5 h.c6 h.c7 h.fz).mono ?_
  rintro e w' ⟨rfl, rfl⟩
  exact ⟨rfl, h.arm3 false 0 0 (by omega) (by omega) (by omega), Fr.arm3 _ _ _⟩

def Dsk.arm (D : Dsk) (a : Int) (k : Nat) : Dsk := if D.up = false then D else if a < 0 then D.disarm else D.armed a k

end Go.Proofs.YtehoiahgkbnjdaaGreat.Dk
