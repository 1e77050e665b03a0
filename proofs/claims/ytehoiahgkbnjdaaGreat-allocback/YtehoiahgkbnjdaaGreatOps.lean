/- What an argument '[]Op' is: its cells, read off the row's own reading. -/
import Derived.Test.YtehoiahgkbnjdaaGreatPic
import Derived.ProofKit
import Derived.OpenShut
import Derived.ShutString
import Derived.ChangeOld
import Derived.Deep.Slices
namespace Go.Proofs.YtehoiahgkbnjdaaGreat.Al
open Go.ChangeShapes Go.WideShapes Go.ChangeAt Go.RowKit Go.Deep Dk Wl

structure OpR where
  kind : Int
  n : Int

structure OpAt (w : World) (lb o : Nat) (x : OpR) : Prop where
  lt : lb < w.heap.size
  kind : w.cell? ⟨lb, o, none⟩ = some (.int .i64 x.kind)
  n : w.cell? ⟨lb, o + 1, none⟩ = some (.int .i64 x.n)
  kind0 : -9223372036854775808 ≤ x.kind ∧ x.kind ≤ 9223372036854775807
  n0 : -9223372036854775808 ≤ x.n ∧ x.n ≤ 9223372036854775807

/-- The blocks of an argument are some that are kept. -/
def ArgOps (G : Nat → Prop) (w : World) (ad : Option Addr) (len : Nat) : Prop := ∀ k, k < len → ∃ lb lo x, ad = some ⟨lb, lo, none⟩ ∧ OpAt w lb (lo + k * 2) x ∧ G lb
theorem OpAt.kp {G : Nat → Prop} {w w' : World} {lb o : Nat} {x : OpR} (h : OpAt w lb o x) (k : Kp G w w') (hg : G lb) : OpAt w' lb o x := by
  have e : ∀ j, w'.cell? ⟨lb, j, none⟩ = w.cell? ⟨lb, j, none⟩ := fun j => by
    have := k.block lb h.lt (fun hn => hn hg)
    simp only [World.cell?, this]
  exact ⟨Nat.lt_of_lt_of_le h.lt k.size, by rw [e]; exact h.kind, by rw [e]; exact h.n, h.kind0, h.n0⟩
theorem ArgOps.kp {G : Nat → Prop} {w w' : World} {ad : Option Addr} {len : Nat} (h : ArgOps G w ad len) (k : Kp G w w') : ArgOps G w' ad len := fun j hj => by
  obtain ⟨lb, lo, x, e, o, g⟩ := h j hj
  exact ⟨lb, lo, x, e, o.kp k g, g⟩

theorem cells36 : Tryz.prog.cellsOf 36 = 2 := by kernel_rfl
theorem cells3 : Tryz.prog.cellsOf 3 = 1 := by kernel_rfl

set_option maxRecDepth 100000 in
theorem open_ops {H : Type} {enc : TypeId × Value → H} {W : World} {ad : Option Addr} {len cap : Nat} {d : DataW H} {ps : List MemPlace}
    (h : DataW.Trod enc Tryz.prog W 0 (fun _ => true) true 22 (.slice ad len cap) d ps) : ArgOps (fun k => k < W.heap.size) W ad len ∧ len ≤ 9223372036854775807 := by
  obtain ⟨fuel, hf⟩ := h
  rcases open_slice Tryz.underlying22 hf with ⟨hcs, _⟩ | ⟨a, l, c, m, n, D, Pl, hcs, hb, hl, hm, hmm, hx, hall⟩
  · simp [Value.cells] at hcs
    obtain ⟨rfl, rfl, rfl⟩ := hcs
    exact ⟨fun k hk => by omega, by omega⟩
  · simp [Value.cells] at hcs
    obtain ⟨rfl, rfl, rfl⟩ := hcs
    refine ⟨fun k hk => ?_, by unfold maxLen at hm; omega⟩
    obtain ⟨cs, h1, h2⟩ := hall k (by simp at hmm; omega)
    rw [cells36] at h1
    obtain ⟨_, hlen, hc⟩ := World.cells?_some h1
    obtain ⟨xs, n', _, _, _, hxl, hf⟩ := DataW.trod_struct Tryz.underlying36 h2
    match cs, hlen with
    | [u0, u1], _ =>
      have f0 := hf 0 _ rfl
      have f1 := hf 1 _ rfl
      match xs, hxl with
      | [y0, y1], _ =>
        simp [cells3] at f0 f1
        obtain ⟨x0, e0, _, b0⟩ := DataW.trod_int Tryz.underlying3 f0
        obtain ⟨x1, e1, _, b1⟩ := DataW.trod_int Tryz.underlying3 f1
        simp only [List.cons.injEq, and_true] at e0 e1
        subst e0 e1
        obtain ⟨lb, lo, spot⟩ := a
        have hspot : spot = none := by
          obtain ⟨cs0, g1, _⟩ := hall 0 (by simp at hmm; omega)
          rw [cells36] at g1
          obtain ⟨_, hlen0, hc0⟩ := World.cells?_some g1
          have hg := hc0 0 (by omega)
          rw [List.getElem?_eq_getElem (show 0 < cs0.length by omega)] at hg
          have := World.cell?_spot hg
          simpa [Addr.add] using this
        subst hspot
        simp only [Addr.add_mid] at hc
        have hlt : lb < W.heap.size := World.block_lt_of_cell? W ⟨lb, lo + k * 2 + 0, none⟩ (hc 0 (by omega))
        exact ⟨lb, lo, ⟨x0, x1⟩, rfl, ⟨hlt, hc 0 (by omega), hc 1 (by omega), bounds_i64 b0, bounds_i64 b1⟩, hlt⟩

end Go.Proofs.YtehoiahgkbnjdaaGreat.Al
