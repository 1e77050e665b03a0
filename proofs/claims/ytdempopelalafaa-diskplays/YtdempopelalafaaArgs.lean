/- What an argument '[]Op' is: its cells, read off the row's own reading. -/
import Derived.Test.YtdempopelalafaaMadeNil
import Derived.ProofKit
import Derived.OpenShut
import Derived.ShutString
import Derived.ChangeOld
import Derived.Deep.Slices
namespace Go.Proofs.Ytdempopelalafaa.Dk
open Go.ChangeShapes Go.WideShapes Go.ChangeAt Go.RowKit Go.Deep

structure OpR where
  kind : Int
  a : Int
  ad : Option Addr
  bytes : List UInt8
  cap : Nat
  c : Int
  fit : Bool
  keep : Nat

structure OpAt (w : World) (lb o : Nat) (x : OpR) : Prop where
  lt : lb < w.heap.size
  kind : w.cell? ⟨lb, o, none⟩ = some (.int .i64 x.kind)
  a : w.cell? ⟨lb, o + 1, none⟩ = some (.int .i64 x.a)
  b : w.cell? ⟨lb, o + 2, none⟩ = some (.slice x.ad x.bytes.length x.cap)
  c : w.cell? ⟨lb, o + 3, none⟩ = some (.int .u8 x.c)
  fit : w.cell? ⟨lb, o + 4, none⟩ = some (.bool x.fit)
  keep : w.cell? ⟨lb, o + 5, none⟩ = some (.int .u64 (x.keep : Int))
  kind0 : -9223372036854775808 ≤ x.kind ∧ x.kind ≤ 9223372036854775807
  a0 : -9223372036854775808 ≤ x.a ∧ x.a ≤ 9223372036854775807
  c0 : 0 ≤ x.c ∧ x.c ≤ 255
  k0 : x.keep < 18446744073709551616
  src : x.bytes ≠ [] → ∃ bb bo, x.ad = some ⟨bb, bo, none⟩ ∧ w.rangeAt bb bo (bs x.bytes) ∧ bb < w.heap.size
  fin : x.bytes.length ≤ 9223372036854775807

def ArgOps (w : World) (ad : Option Addr) (len : Nat) : Prop := ∀ k, k < len → ∃ lb lo x, ad = some ⟨lb, lo, none⟩ ∧ OpAt w lb (lo + k * 6) x

theorem cells31 : Try.prog.cellsOf 31 = 6 := by kernel_rfl
theorem cells3 : Try.prog.cellsOf 3 = 1 := by kernel_rfl
theorem cells28 : Try.prog.cellsOf 28 = 1 := by kernel_rfl
theorem cells5 : Try.prog.cellsOf 5 = 1 := by kernel_rfl
theorem cells4 : Try.prog.cellsOf 4 = 1 := by kernel_rfl
theorem cells29 : Try.prog.cellsOf 29 = 1 := by kernel_rfl

theorem bs_of_nums (zs : List Int) (h : ∀ n ∈ zs, (Lit.int .u8 n).wf = true) : bs (zs.map byteOf) = zs.map (Value.int .u8) := by
  simp only [bs, List.map_map]
  apply List.map_congr_left
  intro n hn
  have hb := bounds_u8 (h n hn)
  exact bv_byteOf n hb.1 hb.2

theorem open_ops {H : Type} {enc : TypeId × Value → H} {W : World} {ad : Option Addr} {len cap : Nat} {d : DataW H} {ps : List MemPlace}
    (h : DataW.Trod enc Try.prog W 0 (fun _ => true) true 22 (.slice ad len cap) d ps) : ArgOps W ad len := by
  obtain ⟨fuel, hf⟩ := h
  rcases open_slice Try.underlying22 hf with ⟨hcs, _⟩ | ⟨a, l, c, m, n, D, Pl, hcs, hb, hl, hm, hmm, hx, hall⟩
  · simp [Value.cells] at hcs
    obtain ⟨rfl, rfl, rfl⟩ := hcs
    intro k hk; omega
  · simp [Value.cells] at hcs
    obtain ⟨rfl, rfl, rfl⟩ := hcs
    intro k hk
    obtain ⟨cs, h1, h2⟩ := hall k (by simp at hmm; omega)
    rw [cells31] at h1
    obtain ⟨_, hlen, hc⟩ := World.cells?_some h1
    obtain ⟨xs, n', _, _, _, hxl, hf⟩ := DataW.trod_struct Try.underlying31 h2
    match cs, hlen with
    | [u0, u1, u2, u3, u4, u5], _ =>
      have f0 := hf 0 _ rfl
      have f1 := hf 1 _ rfl
      have f2 := hf 2 _ rfl
      have f3 := hf 3 _ rfl
      have f4 := hf 4 _ rfl
      have f5 := hf 5 _ rfl
      match xs, hxl with
      | [y0, y1, y2, y3, y4, y5], _ =>
        simp [cells3, cells28, cells5, cells4, cells29] at f0 f1 f2 f3 f4 f5
        obtain ⟨x0, e0, _, b0⟩ := DataW.trod_int Try.underlying3 f0
        obtain ⟨x1, e1, _, b1⟩ := DataW.trod_int Try.underlying3 f1
        obtain ⟨x3, e3, _, b3⟩ := DataW.trod_int Try.underlying5 f3
        obtain ⟨x4, e4, _⟩ := DataW.trod_bool Try.underlying4 f4
        obtain ⟨x5, e5, _, b5⟩ := DataW.trod_int Try.underlying29 f5
        simp only [List.cons.injEq, and_true] at e0 e1 e3 e4 e5
        subst e0 e1 e3 e4 e5
        obtain ⟨lb, lo, spot⟩ := a
        have hspot : spot = none := by
          obtain ⟨cs0, g1, _⟩ := hall 0 (by simp at hmm; omega)
          rw [cells31] at g1
          obtain ⟨_, hlen0, hc0⟩ := World.cells?_some g1
          have hg := hc0 0 (by omega)
          rw [List.getElem?_eq_getElem (show 0 < cs0.length by omega)] at hg
          have := World.cell?_spot hg
          simpa [Addr.add] using this
        subst hspot
        simp only [Addr.add_mid] at hc
        have h5 := bounds_u64 b5
        obtain ⟨kp, rfl⟩ := Int.eq_ofNat_of_zero_le h5.1
        have hlt : lb < W.heap.size := World.block_lt_of_cell? W ⟨lb, lo + k * 6 + 0, none⟩ (hc 0 (by omega))
        obtain ⟨bad, bytes, bcap, hu2, hsrc, hfin⟩ : ∃ bad bytes bcap, u2 = .slice bad (List.length (α := UInt8) bytes) bcap ∧ (bytes ≠ [] → ∃ bb bo, bad = some ⟨bb, bo, none⟩ ∧ W.rangeAt bb bo (bs bytes) ∧ bb < W.heap.size) ∧ bytes.length ≤ 9223372036854775807 := by
          rcases open_ints Try.underlying28 Try.underlying5 (by kernel_rfl) f2 with ⟨hcs, _⟩ | ⟨x, l', c', zs, hcs, _, hl', hm', hz', _, hcell, hwz⟩
          · simp at hcs
            exact ⟨none, [], 0, by simpa using hcs, fun h => absurd rfl h, by simp⟩
          · simp at hcs
            have hzl : zs.length = c' := by simpa using hz'
            have hwt : ∀ q ∈ zs.take l', (Lit.int .u8 q).wf = true := fun q hq => hwz q (List.mem_of_mem_take hq)
            have hln : ((zs.take l').map byteOf).length = l' := by simp [hzl, hl']
            refine ⟨some x, (zs.take l').map byteOf, c', by rw [hln]; exact hcs, fun hne => ?_, by rw [hln]; unfold maxLen at hm'; omega⟩
            have hl0 : 0 < l' := by
              rcases Nat.eq_zero_or_pos l' with h | h
              · subst h; simp at hne
              · exact h
            have hq0 := hcell 0 (by omega)
            obtain ⟨bb, bo, sp⟩ := x
            have hsp : sp = none := by
              have := World.cell?_spot hq0
              simpa [Addr.add] using this
            subst hsp
            refine ⟨bb, bo, rfl, ?_, ?_⟩
            · rw [bs_of_nums _ hwt]
              intro j v hv
              have hj : j < l' := by
                have := (List.getElem?_eq_some_iff.1 hv).1
                simp at this; omega
              have := hcell j (by omega)
              rw [Addr.add_mid] at this
              rw [this, ← hv]
              simp [hj, List.getElem?_eq_getElem (show j < zs.length by omega)]
            · rw [Addr.add_mid] at hq0
              exact World.block_lt_of_cell? W _ hq0
        subst hu2
        exact ⟨lb, lo, ⟨x0, x1, bad, bytes, bcap, x3, x4, kp⟩, rfl, ⟨hlt, hc 0 (by omega), hc 1 (by omega), hc 2 (by omega), hc 3 (by omega), hc 4 (by omega), hc 5 (by omega), bounds_i64 b0, bounds_i64 b1, bounds_u8 b3, by have := h5.2; show kp < _; omega, hsrc, hfin⟩⟩

theorem ArgOps.argL {w : World} {ad : Option Addr} {len : Nat} (h : ArgOps w ad len) : ArgL w ad len := fun k hk => by
  obtain ⟨lb, lo, x, e, o⟩ := h k hk
  exact ⟨lb, lo, x.kind, x.c, e, o.lt, o.kind, o.c, o.c0.1, o.c0.2⟩

end Go.Proofs.Ytdempopelalafaa.Dk
