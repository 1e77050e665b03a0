/- ParseFloat at one text. -/
import Derived.Test.YtionmohglmbklaaGreatDoorNum
import Derived.Test.YtionmohglmbklaaGreatDoorRfl
import Derived.WalkLawsBesides
namespace Go.Proofs.YtionmohglmbklaaGreatDoor.Tr
open Go.RowKit

/-- What the tables hold that ParseFloat asks. -/
structure Tabs (w : World) : Prop where
  opt : w.cell? ⟨5, 0, none⟩ = some (.bool true)
  mb : w.cell? ⟨6, 0, none⟩ = some (.int .u64 52)
  pow : ∃ a cap, w.cell? ⟨9, 0, none⟩ = some (.slice (some a) 23 cap) ∧ w.cell? ⟨a.block, a.off + 2, none⟩ = some (.float .f64 4636737291354636288)

theorem Env.cell {w0 W : World} (h : Env w0 W) {a : Addr} {v : Value} (hc : w0.cell? a = some v) : W.cell? a = some v := by
  have hb : a.block < w0.heap.size := by
    rcases Nat.lt_or_ge a.block w0.heap.size with hl | hl
    · exact hl
    · exfalso
      unfold World.cell? at hc
      rw [Array.getElem?_eq_none hl] at hc
      simp at hc
  have e := h.2 a.block hb
  unfold World.cell? at hc ⊢
  rw [e]; exact hc
theorem Tabs.env {w0 W : World} (h : Tabs w0) (e : Env w0 W) : Tabs W := by
  obtain ⟨h1, h2, a, cap, h3, h4⟩ := h
  exact ⟨e.cell h1, e.cell h2, a, cap, e.cell h3, e.cell h4⟩

theorem cv15 (w : World) : (convert 73 35 (.int .u64 15)).run Tryz.prog w = .ok (.float .f64 4624633867356078080) w := by kernel_rfl
theorem mul15 (w : World) : (binOp BinOp.mul 35 (.float .f64 4624633867356078080) (.float .f64 4636737291354636288)).run Tryz.prog w = .ok (.float .f64 4654311885213007872) w := by kernel_rfl
theorem or15 : (FloatKind.f64.format.order 4624633867356078080 4831355200913801216 == some Ordering.gt) = false := by decide +kernel
theorem or15' : ¬ FloatKind.f64.format.order 4624633867356078080 4831355200913801216 = some Ordering.gt := by decide +kernel
theorem or16 : (FloatKind.f64.format.order 4624633867356078080 14054727237768577024 == some Ordering.lt) = false := by decide +kernel

set_option maxRecDepth 100000 in
set_option maxHeartbeats 1000000 in
theorem exact_15 {w : World} (h : Tabs w) : Calls Tryz.prog 151 #[.int .u64 15, .int .i64 2, .bool false] w fun e w' => e = .returned (.tuple #[.float .f64 4654311885213007872, .bool true]) ∧ w' = w := by
  obtain ⟨h1, h2, a, cap, h3, h4⟩ := h
  have hcv := cv15 w
  have hmul := mul15 w
  have o1 := or15
  have o2 := or15'
  have o3 := or16
  go_enter Tryz.func151, Tryz.ntmps151
  go_wp2
  go_ret2
  exact ⟨rfl, rfl⟩

set_option maxRecDepth 100000 in
set_option maxHeartbeats 1000000 in
theorem special_digit (w : World) {t : List UInt8} (h0 : 0 < t.length) (hd : isDig t[0] = true) : Calls Tryz.prog 140 #[.string ⟨t.toArray⟩] w fun e w' => e = .returned (.tuple #[.float .f64 0, .int .i64 0, .bool false]) ∧ w = w' := by
  rw [dig_iff] at hd
  have hs := str_at t 0 h0
  have h01 : (0 : Int) < (t.length : Int) := by omega
  have hz : ((t.length : Int) == 0) = false := by simp; intro e; subst e; simp at h0
  have hz' : ¬ t = [] := fun e => by subst e; simp at h0
  have hz2 : ¬ t.length = 0 := by omega
  have e1 : ((((ByteArray.mk t.toArray)[0]'(by simpa [ByteArray.size] using h0)).toNat : Int) == 43) = false := by rw [hs]; simp; omega
  have e2 : ((((ByteArray.mk t.toArray)[0]'(by simpa [ByteArray.size] using h0)).toNat : Int) == 45) = false := by rw [hs]; simp; omega
  have e3 : ((((ByteArray.mk t.toArray)[0]'(by simpa [ByteArray.size] using h0)).toNat : Int) == 105) = false := by rw [hs]; simp; omega
  have e4 : ((((ByteArray.mk t.toArray)[0]'(by simpa [ByteArray.size] using h0)).toNat : Int) == 73) = false := by rw [hs]; simp; omega
  have e5 : ((((ByteArray.mk t.toArray)[0]'(by simpa [ByteArray.size] using h0)).toNat : Int) == 110) = false := by rw [hs]; simp; omega
  have e6 : ((((ByteArray.mk t.toArray)[0]'(by simpa [ByteArray.size] using h0)).toNat : Int) == 78) = false := by rw [hs]; simp; omega
  clear hs hd
  go_enter Tryz.func140, Tryz.ntmps140
  go_wp2
  go_ret3
  exact ⟨rfl, rfl⟩

end Go.Proofs.YtionmohglmbklaaGreatDoor.Tr
