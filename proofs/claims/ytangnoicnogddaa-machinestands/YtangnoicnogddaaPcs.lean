/- The pieces of a path, one by one. -/
import Derived.RangeFuncNested
import Derived.RangeFuncBound
import Derived.RangeFuncCalls
import Derived.RangeFuncLeaves
import Derived.Shelf.Abstract
import Derived.Shelf.RegionOpen
import Derived.OwnWalkIn
import Derived.TacticsInMore
import Derived.LoopNIn
import Derived.LoopIn
import Derived.Test.YtangnoicnogddaaCut
namespace Go.Proofs.Ytangnoicnogddaa.Tr
open Go.RowKit Go.Shelf

attribute [local go_sem] Oper.semAt_some

/-- How much is left to be cut. -/
def msr : Value → Value → Nat
  | .string r, .bool true => r.size + 1
  | _, _ => 0

set_option maxRecDepth 100000 in
set_option maxHeartbeats 2000000 in
theorem pieces1_in (n : Nat) (hn : 1 ≤ n) (l c1 : Nat) (s : List UInt8) (hs : s.length ≤ 140737488355328) (J Jx : List (List UInt8) → World → Prop) (hJd : ∀ p W n, J p W → J p (W.drewN n))
    (hY : ∀ pre x W, J pre W → pre.length < (cutS [] s).length → YieldAt Fence.wide (n - 1) Try.prog l #[.string ⟨x.toArray⟩] W fun e W' =>
      (e = .returned (.bool true) ∧ J (pre ++ [x]) W' ∧ True) ∨ (e = .returned (.bool false) ∧ Jx (pre ++ [x]) W'))
    (W : World) (hc1 : Blk W c1 9 [.string ⟨s.toArray⟩]) (h0 : J [] W) :
    CallsIn Fence.wide n Try.prog 95 #[.func (.yield l) #[] #[], .pointer (some ⟨c1, 0, none⟩)] W fun e W' => (∃ v, e = .returned v) ∧
      ((∃ ys, ys = cutS [] s ∧ J ys W') ∨ (∃ pre, (pre <+: cutS [] s) ∧ Jx pre W')) := by
  refine callsIn_of_wp Try.func95 rfl trivial ?_ rfl
  simp only [Try.ntmps95, List.size_toArray, List.length_cons, List.length_nil, Nat.reduceAdd, Nat.reduceSub, Array.replicate_succ, Array.replicate_zero, List.push_toArray, List.append_toArray, List.nil_append, List.cons_append]
  have d1 := hc1.cell 0
  simp only [List.getElem?_cons_zero] at d1
  have hf47 : Fence.wide.fn 96 := trivial
  have HCu := hid (cut_any W s hs)
  have HC0 := hid (cutS_cut1 s [])
  have HL0 := hid (Nat.le_trans (cut1_le s).2 hs)
  unfold cutV at HCu
  generalize cut1 s = c at *
  obtain ⟨p0, r0, m0⟩ := c
  gi_wp2_with fail
  refine (callsIn_wide.2 HCu.out).mono ?_
  rintro e w1 ⟨rfl, nd, rfl⟩
  have HJ1 := hid (hJd [] W nd h0)
  clear HCu h0 d1 hc1
  gi_wp2_with fail
  gi_loopw [3, 4, 5] (fun pv rv mv wr => ∃ (pre : List (List UInt8)) (p r : List UInt8) (m : Bool), pv = .string ⟨p.toArray⟩ ∧ rv = .string ⟨r.toArray⟩ ∧ mv = .bool m ∧ r.length ≤ 140737488355328 ∧ J pre wr ∧ cutS [] s = pre ++ p :: (if m then cutS [] r else [])) (fun _ rv mv _ => msr rv mv)
  case atStart => exact ⟨[], p0, r0, m0, rfl, rfl, rfl, HL0.out, HJ1.out, by simpa using HC0.out⟩
  case round =>
    obtain ⟨pre, p, r, m, rfl, rfl, rfl, hrl, hJ, hcs⟩ := hrel
    have hlt : pre.length < (cutS [] s).length := by rw [hcs]; simp
    obtain ⟨fn, tmps, assign, body, hy, hR⟩ := hY pre p wr hJ hlt
    have HR := hid hR
    have HCs := hid hcs
    clear hR hY hJ hcs hlt HJ1
    cases m with
    | false =>
      gi_wp2_with fail
      refine HR.out.mono ?_
      rintro e W3 (⟨rfl, hJ3, _⟩ | ⟨rfl, hJx3⟩)
      · have HJ3 := hid hJ3
        clear hJ3 HR hy
        gi_wp2
        go_end0
        exact ⟨⟨_, rfl⟩, .inl ⟨_, by rw [HCs.out]; simp, HJ3.out⟩⟩
      · have HJ3 := hid hJx3
        clear hJx3 HR hy
        gi_wp2
        go_end0
        exact ⟨⟨_, rfl⟩, .inr ⟨_, by rw [HCs.out]; simp, HJ3.out⟩⟩
    | true =>
      gi_wp2_with fail
      refine HR.out.mono ?_
      rintro e W3 (⟨rfl, hJ3, _⟩ | ⟨rfl, hJx3⟩)
      · have HJ3 := hid hJ3
        have HCu := hid (cut_any W3 r hrl)
        have HC1 := hid (cutS_cut1 r [])
        have HL1 := hid (Nat.le_trans (cut1_le r).2 hrl)
        have HSh := hid (cut1_shorter r)
        unfold cutV at HCu
        clear hJ3 HR hy
        generalize cut1 r = c at *
        obtain ⟨p1, r1, m1⟩ := c
        gi_wp2_with fail
        refine (callsIn_wide.2 HCu.out).mono ?_
        rintro e w4 ⟨rfl, nd2, rfl⟩
        clear HCu
        gi_wp2
        refine ⟨⟨pre ++ [p], p1, r1, m1, rfl, rfl, rfl, HL1.out, hJd _ _ _ HJ3.out, ?_⟩, ?_⟩
        · have h1 := HCs.out
          have h2 := HC1.out
          simp only [if_true] at h1
          rw [h1, h2]
          simp
        · cases m1 with
          | false => simp [msr]
          | true =>
            have := HSh.out rfl
            simp [msr, ByteArray.size]; omega
      · have HJ3 := hid hJx3
        clear hJx3 HR hy
        gi_wp2
        go_end0
        exact ⟨⟨_, rfl⟩, .inr ⟨_, by rw [HCs.out]; simp, HJ3.out⟩⟩

theorem pieces_stops (n : Nat) (hn : 1 ≤ n) (c1 : Nat) (s : List UInt8) (hs : s.length ≤ 140737488355328) (w : World) (hc1 : Blk w c1 9 [.string ⟨s.toArray⟩]) :
    SeqStopsK Fence.wide n Try.prog 95 #[.pointer (some ⟨c1, 0, none⟩)] (fun x : List UInt8 => #[.string ⟨x.toArray⟩]) (fun _ _ => True) (fun ys => ys = cutS [] s) (fun pre => pre <+: cutS [] s) (cutS [] s).length w := fun l J Jx W hW hJ _ hY h0 => by
  have e1 : W.heap[c1]? = w.heap[c1]? := by
    obtain ⟨_, _, _, _, a5⟩ := hW
    exact a5 c1 hc1.lt
  exact pieces1_in n hn l c1 s hs J Jx (fun p W1 k h => hJ p W1 (W1.drewN k) none h ⟨rfl, rfl, rfl, Nat.le_refl _, fun _ _ _ => rfl⟩ (fun r e => by cases e)) hY W (hc1.of_eq e1) h0

set_option maxHeartbeats 1000000 in
theorem pieces_any (w : World) (s : List UInt8) :
    Calls Try.prog 90 #[.string ⟨s.toArray⟩] w fun e w' => e = .returned (.func (.func 95) #[] #[.pointer (some ⟨w.heap.size, 0, none⟩)]) ∧ w' = w.alloc (.cells #[.string ⟨s.toArray⟩] 9) := by
  go_enter Try.func90, Try.ntmps90
  go_wp2
  go_ret
  exact ⟨rfl, rfl⟩

end Go.Proofs.Ytangnoicnogddaa.Tr
