
/- slices.Chunk. -/
import Derived.RangeFuncNested
import Derived.RangeFuncBound
import Derived.RangeFuncCalls
import Derived.RangeFuncLeaves
import Derived.Shelf.Abstract
import Derived.Shelf.RegionOpen
import Derived.OwnWalkIn
import Derived.TacticsInMore
import Derived.LoopNIn
import Derived.LoopIn
import Derived.Test.YtehoiahgkbnjdaaGreatCpy
namespace Go.Proofs.YtehoiahgkbnjdaaGreat.Wl
open Go.RowKit Go.Shelf Dk

attribute [local go_sem] Oper.semAt_some

def cnt (len : Nat) : Nat := (len + 59) / 60
def ln (len j : Nat) : Nat := min 60 (len - 60 * j)
theorem lt_cnt {len k : Nat} : k < cnt len ↔ 60 * k < len := by unfold cnt; omega
theorem range_pre {a b : Nat} (h : a ≤ b) : List.range a <+: List.range b := by
  obtain ⟨c, rfl⟩ := Nat.exists_eq_add_of_le h
  rw [List.range_add]
  exact List.prefix_append _ _
/-- The iterator's own two cells stay. -/
def KpC (c1 c2 : Nat) (A B : World) : Prop := B.heap[c1]? = A.heap[c1]? ∧ B.heap[c2]? = A.heap[c2]?

set_option maxRecDepth 100000 in
set_option maxHeartbeats 2000000 in
theorem chunk1_in (F : Fence) (n : Nat) (h7 : F.fn 90) (hro : F.round = none) (hn : 1 ≤ n) (l c1 c2 g len cap : Nat) (hlen : len ≤ 1048576) (hcap : len ≤ cap) (J Jx : List Nat → World → Prop) (hJd : ∀ s W, J s W → J s W.drew)
    (hY : ∀ pre x W, J pre W → pre.length < cnt len → YieldAt F (n - 1) Tryz.prog l #[.slice (some ⟨g, 60 * x, none⟩) (ln len x) (ln len x)] W fun e W' =>
      (e = .returned (.bool true) ∧ J (pre ++ [x]) W' ∧ KpC c1 c2 W W') ∨ (e = .returned (.bool false) ∧ Jx (pre ++ [x]) W'))
    (W : World) (hc1 : Blk W c1 47 [.slice (some ⟨g, 0, none⟩) len cap]) (hc2 : Blk W c2 3 [.int .i64 60]) (h0 : J [] W) :
    CallsIn F n Tryz.prog 90 #[.func (.yield l) #[] #[], .pointer (some ⟨c1, 0, none⟩), .pointer (some ⟨c2, 0, none⟩)] W fun e W' => (∃ v, e = .returned v) ∧
      ((∃ ys, ys = List.range (cnt len) ∧ J ys W') ∨ (∃ pre, (pre <+: List.range (cnt len)) ∧ Jx pre W')) := by
  refine callsIn_of_wp Tryz.func90 rfl h7 ?_ hro
  simp only [Tryz.ntmps90, List.size_toArray, List.length_cons, List.length_nil, Nat.reduceAdd, Nat.reduceSub, Array.replicate_succ, Array.replicate_zero, List.push_toArray, List.append_toArray, List.nil_append, List.cons_append]
  have HC1 := hid hc1
  have HC2 := hid hc2
  clear hc1 hc2
  gi_wp2
  gi_loopw [4] (fun i wr => ∃ k : Nat, k ≤ cnt len ∧ i = .int .i64 ((60 * k : Nat) : Int) ∧ J (List.range k) wr ∧ Blk wr c1 47 [.slice (some ⟨g, 0, none⟩) len cap] ∧ Blk wr c2 3 [.int .i64 60])
    (fun i _ => len + 60 - (intOf i).toNat)
  case atStart => exact ⟨0, Nat.zero_le _, rfl, h0, HC1.out, HC2.out⟩
  case round =>
    obtain ⟨k, hk, rfl, hJs, hb1, hb2⟩ := hrel
    have d1 := hb1.cell 0
    have d2 := hb2.cell 0
    simp only [List.getElem?_cons_zero] at d1 d2
    by_cases hlt : k < cnt len
    · have hkl := lt_cnt.1 hlt
      have hk0 : (0 : Int) ≤ ((60 * k : Nat) : Int) := Int.natCast_nonneg _
      have hk1 : ((60 * k : Nat) : Int) < (len : Int) := by omega
      have HJ := hid (hJd _ _ hJs)
      have HB1 := hid hb1.drew
      have HB2 := hid hb2.drew
      clear hb1 hb2 hJs
      have hne : ¬ cap = 60 * k := by omega
      have hmin : min 60 ((len - 60 * k : Nat) : Int) = ((ln len k : Nat) : Int) := by unfold ln; omega
      have hlk : 60 * k + ln len k ≤ len := by unfold ln; omega
      have hl1 : 1 ≤ ln len k := by unfold ln; omega
      obtain ⟨fn, tmps, assign, body, hy, hR⟩ := hY _ k wr.drew HJ.out (by rw [List.length_range]; exact hlt)
      have hne2 : ¬ 60 * k + ln len k = 60 * k := by omega
      have hJk : List.range k ++ [k] = List.range (k + 1) := List.range_succ.symm
      have hsub : 60 * k + ln len k - 60 * k = ln len k := by omega
      have HPre : Hid (List.range k ++ [k] <+: List.range (cnt len)) := by
        unfold Hid
        rw [hJk]
        exact range_pre (by omega)
      have HN : Hid (len + 60 - (60 * (k + 1)) < len + 60 - 60 * k) := by unfold Hid; omega
      have HR := hid hR
      have Hlk := hid hlk
      clear hR hY HJ
      generalize ln len k = N at *
      gi_wp2_with fail
      gi_region
      all_goals
        gi_wp2_with fail
        refine HR.out.mono ?_
        rintro e W3 (⟨rfl, hJ3, hk3⟩ | ⟨rfl, hJx3⟩)
        · have HB13 := hid (HB1.out.of_eq hk3.1)
          have HB23 := hid (HB2.out.of_eq hk3.2)
          have e2 := HB23.out.cell 0
          simp only [List.getElem?_cons_zero] at e2
          have HJ3 := hid hJ3
          clear hJ3 hk3 d1 d2 HR HB1 HB2 hy
          gi_wp2
          go_roundw
          case rel => exact ⟨k + 1, by omega, by simp; omega, by rw [← hJk]; exact HJ3.out, HB13.out, HB23.out⟩
          case measure => simp [intOf]; omega
        · have HJx := hid hJx3
          clear hJx3 HR hy
          gi_wp2
          refine bodyPost_ret (results_none rfl _ _ _) rfl ?_
          exact ⟨⟨_, rfl⟩, .inr ⟨_, HPre.out, HJx.out⟩⟩
    · obtain rfl : k = cnt len := by omega
      have hk1 : ¬ ((60 * cnt len : Nat) : Int) < (len : Int) := by have := (not_congr (lt_cnt (len := len) (k := cnt len))).1 hlt; omega
      gi_wp2
      go_end0
      exact ⟨⟨_, rfl⟩, .inl hJs⟩

theorem chunk_stops (F : Fence) (n : Nat) (h7 : F.fn 90) (hro : F.round = none) (hn : 1 ≤ n) (c1 c2 g len cap : Nat) (hlen : len ≤ 1048576) (hcap : len ≤ cap) (w : World) (hc1 : Blk w c1 47 [.slice (some ⟨g, 0, none⟩) len cap]) (hc2 : Blk w c2 3 [.int .i64 60]) :
    SeqStopsK F n Tryz.prog 90 #[.pointer (some ⟨c1, 0, none⟩), .pointer (some ⟨c2, 0, none⟩)] (fun x : Nat => #[.slice (some ⟨g, 60 * x, none⟩) (ln len x) (ln len x)]) (KpC c1 c2) (fun ys => ys = List.range (cnt len)) (fun pre => pre <+: List.range (cnt len)) (cnt len) w := fun l J Jx W hW hJ _ hY h0 => by
  have e1 : W.heap[c1]? = w.heap[c1]? := by
    obtain ⟨_, _, _, _, a5⟩ := hW
    exact a5 c1 hc1.lt
  have e2 : W.heap[c2]? = w.heap[c2]? := by
    obtain ⟨_, _, _, _, a5⟩ := hW
    exact a5 c2 hc2.lt
  exact chunk1_in F n h7 hro hn l c1 c2 g len cap hlen hcap J Jx (fun s W1 h => hJ s W1 W1.drew none h ⟨rfl, rfl, rfl, Nat.le_refl _, fun _ _ _ => rfl⟩ (fun r e => by cases e)) hY W (hc1.of_eq e1) (hc2.of_eq e2) h0

set_option maxHeartbeats 1000000 in
theorem chunk_in (F : Fence) (n : Nat) (h5 : F.fn 78) (hro : F.round = none) (a : Option Addr) (len cap : Nat) (w : World) :
    CallsIn F n Tryz.prog 78 #[.slice a len cap, .int .i64 60] w fun e w' => e = .returned (.func (.func 90) #[] #[.pointer (some ⟨w.heap.size, 0, none⟩), .pointer (some ⟨w.heap.size + 1, 0, none⟩)]) ∧ w' = (w.alloc (.cells #[.slice a len cap] 47)).alloc (.cells #[.int .i64 60] 3) := by
  refine callsIn_of_wp Tryz.func78 rfl h5 ?_ hro
  simp only [Tryz.ntmps78, List.size_toArray, List.length_cons, List.length_nil, Nat.reduceAdd, Nat.reduceSub, Array.replicate_succ, Array.replicate_zero, List.push_toArray, List.append_toArray, List.nil_append, List.cons_append]
  gi_wp2
  go_ret
  exact ⟨rfl, rfl⟩

end Go.Proofs.YtehoiahgkbnjdaaGreat.Wl
