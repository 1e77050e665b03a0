
/- The region: mayBe, isHome, room, place, cost, emptied. -/
import Derived.Test.YtehoiahgkbnjdaaGreatCtl2
namespace Go.Proofs.YtehoiahgkbnjdaaGreat.Wl
open Go.RowKit Dk

def rgV (f n z : Int) : Value := .agg #[.int .i64 f, .int .i64 n, .int .i64 z]
def mayBe (f n z : Int) : Bool := decide (4 ≤ n) && decide (n ≤ 255) && decide (0 ≤ f) && decide (f ≤ z - n)

set_option maxRecDepth 100000 in
set_option maxHeartbeats 400000 in
theorem mayBe_any (w : World) (f n : Int) (z : Nat) (hz : z ≤ 1024) :
    Calls Tryz.prog 41 #[rgV f n z] w fun e w' => e = .returned (.bool (mayBe f n z)) ∧ Nw w w' := by
  have HF : Hid (Nw w (w.alloc (.cells #[.int .i64 f, .int .i64 n, .int .i64 (z : Int)] 79))) := (Fr.refl _ w).alloc _
  unfold rgV
  by_cases h1 : 4 ≤ n
  · by_cases h2 : n ≤ 255
    · by_cases h3 : 0 ≤ f
      · have hw : IntKind.i64.wrap ((z : Int) - n) = (z : Int) - n := by simp [IntKind.wrap, IntKind.bits, IntKind.signed]; omega
        by_cases h4 : f ≤ (z : Int) - n
        · have HE : Hid (mayBe f n z = true) := by simp [Hid, mayBe, h1, h2, h3, h4]
          go_enter Tryz.func41, Tryz.ntmps41
          go_wp2
          go_ret
          exact ⟨by rw [HE.out]; rfl, HF.out⟩
        · have HE : Hid (mayBe f n z = false) := by simp [Hid, mayBe, h4]
          go_enter Tryz.func41, Tryz.ntmps41
          go_wp2
          go_ret
          exact ⟨by rw [HE.out]; rfl, HF.out⟩
      · have HE : Hid (mayBe f n z = false) := by simp [Hid, mayBe, h3]
        go_enter Tryz.func41, Tryz.ntmps41
        go_wp2
        go_ret
        exact ⟨by rw [HE.out]; rfl, HF.out⟩
    · have HE : Hid (mayBe f n z = false) := by simp [Hid, mayBe, h2]
      go_enter Tryz.func41, Tryz.ntmps41
      go_wp2
      go_ret
      exact ⟨by rw [HE.out]; rfl, HF.out⟩
  · have HE : Hid (mayBe f n z = false) := by simp [Hid, mayBe, h1]
    go_enter Tryz.func41, Tryz.ntmps41
    go_wp2
    go_ret
    exact ⟨by rw [HE.out]; rfl, HF.out⟩

set_option maxRecDepth 100000 in
set_option maxHeartbeats 400000 in
theorem room_any (w : World) (f n : Nat) (z : Nat) (hn : 1 ≤ n) (hn2 : n ≤ 255) :
    Calls Tryz.prog 44 #[rgV f n z] w fun e w' => e = .returned (.int .i64 ((n - 1 : Nat) : Int)) ∧ Nw w w' := by
  have HF : Hid (Nw w (w.alloc (.cells #[.int .i64 (f : Int), .int .i64 (n : Int), .int .i64 (z : Int)] 79))) := (Fr.refl _ w).alloc _
  have hw : IntKind.i64.wrap ((n : Int) - 1) = ((n - 1 : Nat) : Int) := by simp [IntKind.wrap, IntKind.bits, IntKind.signed]; omega
  unfold rgV
  go_enter Tryz.func44, Tryz.ntmps44
  go_wp2
  go_ret
  exact ⟨rfl, HF.out⟩

set_option maxRecDepth 100000 in
set_option maxHeartbeats 400000 in
theorem place_any (w : World) (f n k : Nat) (z : Nat) (hf : f ≤ 1024) (hk : k ≤ 1000000) :
    Calls Tryz.prog 69 #[rgV f n z, .int .i64 (k : Int)] w fun e w' => e = .returned (.int .i64 ((f + 1 + k : Nat) : Int)) ∧ Nw w w' := by
  have HF : Hid (Nw w (w.alloc (.cells #[.int .i64 (f : Int), .int .i64 (n : Int), .int .i64 (z : Int)] 79))) := (Fr.refl _ w).alloc _
  unfold rgV
  go_enter Tryz.func69, Tryz.ntmps69
  go_wp2
  go_ret
  exact ⟨by show Ending.returned (.int .i64 ((f : Int) + 1 + (k : Int))) = _; simp, HF.out⟩

def isHome (f n z : Nat) (i : Int) : Bool := decide (0 ≤ i) && decide (i < z) && (decide (i < f) || decide ((f + n : Nat) ≤ i))

set_option maxRecDepth 100000 in
set_option maxHeartbeats 400000 in
theorem isHome_any (w : World) (f n z : Nat) (i : Int) (hf : f ≤ 1024) (hn : n ≤ 255) :
    Calls Tryz.prog 75 #[rgV f n z, .int .i64 i] w fun e w' => e = .returned (.bool (isHome f n z i)) ∧ Nw w w' := by
  have HF : Hid (Nw w (w.alloc (.cells #[.int .i64 (f : Int), .int .i64 (n : Int), .int .i64 (z : Int)] 79))) := (Fr.refl _ w).alloc _
  have hw : IntKind.i64.wrap ((f : Int) + (n : Int)) = (f : Int) + (n : Int) := by simp [IntKind.wrap, IntKind.bits, IntKind.signed]; omega
  unfold rgV
  by_cases h1 : 0 ≤ i
  · by_cases h2 : i < z
    · by_cases h3 : i < f
      · have HE : Hid (isHome f n z i = true) := by simp [Hid, isHome, h1, h2, h3]
        go_enter Tryz.func75, Tryz.ntmps75
        go_wp2
        go_ret
        exact ⟨by rw [HE.out]; rfl, HF.out⟩
      · by_cases h4 : (f : Int) + (n : Int) ≤ i
        · have HE : Hid (isHome f n z i = true) := by simp [Hid, isHome, h1, h2, h4]
          go_enter Tryz.func75, Tryz.ntmps75
          go_wp2
          go_ret
          exact ⟨by rw [HE.out]; rfl, HF.out⟩
        · have HE : Hid (isHome f n z i = false) := by simp [Hid, isHome, h3]; omega
          go_enter Tryz.func75, Tryz.ntmps75
          go_wp2
          go_ret
          exact ⟨by rw [HE.out]; rfl, HF.out⟩
    · have HE : Hid (isHome f n z i = false) := by simp [Hid, isHome, h2]
      go_enter Tryz.func75, Tryz.ntmps75
      go_wp2
      go_ret
      exact ⟨by rw [HE.out]; rfl, HF.out⟩
  · have HE : Hid (isHome f n z i = false) := by simp [Hid, isHome, h1]
    go_enter Tryz.func75, Tryz.ntmps75
    go_wp2
    go_ret
    exact ⟨by rw [HE.out]; rfl, HF.out⟩

def cost (m : Nat) : Nat := m + (m + 59) / 60
set_option maxRecDepth 100000 in
set_option maxHeartbeats 400000 in
theorem cost_any (w : World) (m : Nat) (hm : m ≤ 100000) :
    Calls Tryz.prog 55 #[.int .i64 (m : Int)] w fun e w' => e = .returned (.int .i64 ((cost m : Nat) : Int)) ∧ w' = w := by
  go_enter Tryz.func55, Tryz.ntmps55
  go_wp2
  go_ret
  exact ⟨by
    show Ending.returned (.int .i64 ((m : Int) + ((m : Int) + 60 - 1) / 60)) = _
    have e : (m : Int) + ((m : Int) + 60 - 1) / 60 = ((cost m : Nat) : Int) := by unfold cost; omega
    rw [e], rfl⟩

theorem results61 {fn : Func} {p : Tmp} (h : fn.results = #[.cell p 86]) {a : Act} {W : World} {b : Nat} {t : TypeId} {x y z : Value} (ha : a.tmps.getD p undef = .pointer (some ⟨b, 0, none⟩)) (hb : Blk W b t [x, y, z]) :
    (results fn a.tmps).run Tryz.prog W = .ok (.agg #[x, y, z]) W :=
  results_cell_row h a.tmps W b t [x, y, z].toArray (0, 0) _ ha hb Tryz.underlying86 rfl (by kernel_rfl)

set_option maxRecDepth 100000 in
set_option maxHeartbeats 400000 in
theorem emptied_any (w : World) (e : Nat) :
    Calls Tryz.prog 62 #[.int .u64 (e : Int)] w fun x w' => x = .returned (cV e 0 beg) ∧ Nw w w' := by
  have HC := hid (sum_any (w.alloc (.cells #[.int .u64 0, .int .i64 0, .int .u64 0] 86)) none [] 0 (by simp) (Src.nil _ _))
  go_enter Tryz.func62, Tryz.ntmps62
  go_wp2_with fail
  refine HC.out.mono ?_
  rintro x w1 ⟨rfl, rfl⟩
  go_wp2
  exact bodyPost_ret (results61 rfl rfl (Blk.new w 86 _)) rfl ⟨rfl, (Fr.refl _ w).alloc _⟩

end Go.Proofs.YtehoiahgkbnjdaaGreat.Wl
