/- Going through units from behind: the iterator. -/
import Derived.RangeFuncNested
import Derived.RangeFuncBound
import Derived.RangeFuncCalls
import Derived.RangeFuncLeaves
import Derived.Shelf.Abstract
import Derived.Shelf.RegionOpen
import Derived.OwnWalkIn
import Derived.TacticsInMore
import Derived.LoopNIn
import Derived.LoopIn
import Derived.Test.YtcpeebkfnnkjnaaDoorUap
namespace Go.Proofs.YtcpeebkfnnkjnaaDoor.Tr
open Go.RowKit Go.Shelf

attribute [local go_sem] Oper.semAt_some

/-- What a round is handed: a place, and a unit. -/
abbrev Pr := { p : Nat × Uv // p.1 ≤ lim ∧ p.2.n.length ≤ lim }
abbrev encP (p : Pr) : Array Value := #[.int .i64 (p.1.1 : Int), p.1.2.v]
/-- Two blocks lie as they lay. -/
def Kp2 (b c : Nat) (W W' : World) : Prop := W'.heap[b]? = W.heap[b]? ∧ W'.heap[c]? = W.heap[c]?
theorem four_of_eq {w W : World} {b o : Nat} {x : Uv} (h : four w b o x) (e : W.heap[b]? = w.heap[b]?) : four W b o x := fun j v hv => by
  have := h j v hv
  unfold World.cell? at this ⊢
  simp only [e]
  exact this
def upto (g : Nat → Pr) (k : Nat) : List Pr := (List.range k).map g
theorem upto_succ (g : Nat → Pr) (k : Nat) : upto g (k + 1) = upto g k ++ [g k] := by simp [upto, List.range_succ]
theorem upto_len (g : Nat → Pr) (k : Nat) : (upto g k).length = k := by simp [upto]

set_option maxRecDepth 100000 in
set_option maxHeartbeats 2000000 in
theorem behind1_in (n : Nat) (hn : 1 ≤ n) (l c1 b o N cap : Nat) (ad : Option Addr) (g : Nat → Pr) (J Jx : List Pr → World → Prop)
    (hY : ∀ pre x W, J pre W → pre.length < N → YieldAt Fence.wide (n - 1) Tryd.prog l (encP x) W fun e W' =>
      (e = .returned (.bool true) ∧ J (pre ++ [x]) W' ∧ Kp2 b c1 W W') ∨ (e = .returned (.bool false) ∧ Jx (pre ++ [x]) W'))
    (hNl : N ≤ lim) (W : World) (hc1 : Blk W c1 22 [.slice ad N cap]) (hg : ∀ i k, i + 1 + k = N → (g k).1.1 = i ∧ ad = some ⟨b, o, none⟩ ∧ four W b (o + i * 4) (g k).1.2) (h0 : J [] W) :
    CallsIn Fence.wide n Tryd.prog 41 #[.func (.yield l) #[] #[], .pointer (some ⟨c1, 0, none⟩)] W fun e W' => (∃ v, e = .returned v) ∧
      ((∃ ys, ys = upto g N ∧ J ys W') ∨ (∃ pre, True ∧ Jx pre W')) := by
  refine callsIn_of_wp Tryd.func41 rfl trivial ?_ rfl
  simp only [Tryd.ntmps41, List.size_toArray, List.length_cons, List.length_nil, Nat.reduceAdd, Nat.reduceSub, Array.replicate_succ, Array.replicate_zero, List.push_toArray, List.append_toArray, List.nil_append, List.cons_append]
  have d1 := hc1.cell 0
  simp only [List.getElem?_cons_zero] at d1
  have hN' : N ≤ 140737488351232 := hNl
  have HG := hid hg
  have HB := hid hc1
  have HY := hid hY
  have HJ0 := hid h0
  clear hg hc1 hNl hY h0
  gi_wp2_with fail
  clear d1
  gi_loopw [3] (fun iv wr => (∃ i k : Nat, i + 1 + k = N ∧ iv = .int .i64 (i : Int) ∧ J (upto g k) wr ∧ Kp2 b c1 W wr) ∨ (iv = .int .i64 (-1) ∧ J (upto g N) wr)) (fun iv _ => (intOf iv + 1).toNat)
  case atStart =>
    cases N with
    | zero => exact .inr ⟨rfl, HJ0.out⟩
    | succ m => exact .inl ⟨m, 0, by omega, by congr 1; omega, HJ0.out, rfl, rfl⟩
  case round =>
    rcases hrel with ⟨i, k, hik, rfl, hJ, hK⟩ | ⟨rfl, hJ⟩
    · have HJ := hid hJ
      have HK := hid hK
      clear hJ hK HJ0
      obtain ⟨g1, g2, g3⟩ := HG.out i k hik
      have hi0 : (0 : Int) ≤ (i : Int) := Int.natCast_nonneg _
      have hin : (i : Int) < (N : Int) := by omega
      have hib : i < N := by omega
      have HUs := hid (upto_succ g k)
      have d1 := (Blk.of_eq HB.out HK.out.2).cell 0
      simp only [List.getElem?_cons_zero] at d1
      obtain ⟨k0, k1, k2, k3⟩ := (four_of_eq g3 HK.out.1).all
      obtain ⟨fn, tmps, assign, body, hy, hR⟩ := HY.out (upto g k) (g k) wr HJ.out (by rw [upto_len]; omega)
      subst g2
      simp only [encP, Uv.v, Uv.cs, g1] at hy hR
      generalize (g k).1.2 = x at *
      have HR := hid hR
      clear hR g3 HY
      gi_wp2_with fail
      refine HR.out.mono ?_
      rintro e W3 (⟨rfl, hJ3, hK3⟩ | ⟨rfl, hJx3⟩)
      · have HJ3 := hid hJ3
        have HK3 : Hid (Kp2 b c1 W W3) := ⟨hK3.1.trans HK.out.1, hK3.2.trans HK.out.2⟩
        clear hJ3 hK3 HR hy
        rw [← HUs.out] at HJ3
        gi_wp2
        cases i with
        | zero => exact ⟨.inr ⟨by first | rfl | go_num, by rw [show N = k + 1 by omega]; exact HJ3.out⟩, by simp [intOf]⟩
        | succ m => exact ⟨.inl ⟨m, k + 1, by omega, by go_num, HJ3.out, HK3.out⟩, by simp [intOf]; omega⟩
      · have HJ3 := hid hJx3
        clear hJx3 HR hy
        gi_wp2
        refine bodyPost_ret (results_none rfl _ _ _) rfl ?_
        exact ⟨⟨_, rfl⟩, .inr ⟨_, trivial, HJ3.out⟩⟩
    · have HJ := hid hJ
      clear hJ HJ0
      gi_wp2
      go_end0
      exact ⟨⟨_, rfl⟩, .inl ⟨_, rfl, HJ.out⟩⟩

theorem behind_stops (n : Nat) (hn : 1 ≤ n) (c1 b o N cap : Nat) (ad : Option Addr) (g : Nat → Pr) (hNl : N ≤ lim) (w : World) (hc1 : Blk w c1 22 [.slice ad N cap]) (hb : b < w.heap.size) (hg : ∀ i k, i + 1 + k = N → (g k).1.1 = i ∧ ad = some ⟨b, o, none⟩ ∧ four w b (o + i * 4) (g k).1.2) :
    SeqStopsK Fence.wide n Tryd.prog 41 #[.pointer (some ⟨c1, 0, none⟩)] encP (Kp2 b c1) (fun ys => ys = upto g N) (fun _ => True) N w := fun l J Jx W hW hJ _ hY h0 => by
  obtain ⟨_, _, _, _, a5⟩ := hW
  have e1 : W.heap[c1]? = w.heap[c1]? := a5 c1 hc1.lt
  have e2 : W.heap[b]? = w.heap[b]? := a5 b hb
  exact behind1_in n hn l c1 b o N cap ad g J Jx hY hNl W (hc1.of_eq e1) (fun i k h => ⟨(hg i k h).1, (hg i k h).2.1, four_of_eq (hg i k h).2.2 e2⟩) h0

set_option maxHeartbeats 1000000 in
theorem behind_any (w : World) (ad : Option Addr) (N cap : Nat) :
    Calls Tryd.prog 29 #[.slice ad N cap] w fun e w' => e = .returned (.func (.func 41) #[] #[.pointer (some ⟨w.heap.size, 0, none⟩)]) ∧ w' = w.alloc (.cells #[.slice ad N cap] 22) := by
  go_enter Tryd.func29, Tryd.ntmps29
  go_wp2
  go_ret
  exact ⟨rfl, rfl⟩
end Go.Proofs.YtcpeebkfnnkjnaaDoor.Tr
