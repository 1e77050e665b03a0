/- What follows for the document's order, in plain words; rows of words in memory. -/
import Derived.Test.YtcpeebkfnnkjnaaDoorUrq
namespace Go.Proofs.YtcpeebkfnnkjnaaDoor.Tr
open Go.RowKit

theorem boC_cong {n : Nat} {B B' : Nat → Bool} (h : ∀ q, q < n → B q = B' q) : boC n B = boC n B' := by
  unfold boC
  exact List.map_congr_left (fun q hq => by rw [h q (List.mem_range.1 hq)])
theorem boC_put (n i : Nat) (v : Bool) (B B' : Nat → Bool) (h : ∀ q, q < n → B' q = if q = i then v else B q) : (boC n B).set i (.bool v) = boC n B' := by
  unfold boC
  refine List.ext_getElem (by simp) (fun q h1 h2 => ?_)
  have hq : q < n := by simpa using h2
  rw [List.getElem_set]
  simp only [List.getElem_map, List.getElem_range, h q hq]
  by_cases e : i = q
  · rw [if_pos e, if_pos e.symm]
  · rw [if_neg e, if_neg (Ne.symm e)]
theorem bo_put {W : World} {lb n i : Nat} {v : Bool} {B B' : Nat → Bool} (h : Blk W lb 4 (boC n B)) (hb : ∀ q, q < n → B' q = if q = i then v else B q) : Blk (W.setCell ⟨lb, i, none⟩ (.bool v)) lb 4 (boC n B') := by
  have := h.setCell i (.bool v)
  rwa [boC_put n i v B B' hb] at this
theorem mk_bools (w : World) (m : Nat) (hm : m ≤ 1000000) : (Instr.makeSlice 40 (.int .i64 (m : Int)) (.int .i64 (m : Int))).run Tryd.prog w = .ok (.slice (some ⟨w.heap.size, 0, none⟩) m m) (w.alloc (.cells (boC m (fun _ => false)).toArray 4)) := by
  obtain ⟨i, hi⟩ := Option.isSome_iff_exists.1 (by kernel_rfl : (Tryd.prog.info? 4).isSome = true)
  have hz : (Tryd.prog.info? 4).bind (·.zero) = some (.bool false) := by kernel_rfl
  have hs : (Tryd.prog.info? 4).map (·.size) = some 1 := by kernel_rfl
  have hb : (Tryd.prog.info? 4).map (·.bytes) = some 1 := by kernel_rfl
  rw [hi] at hz hs hb
  simp only [Option.bind_some, Option.map_some, Option.some.injEq] at hz hs hb
  have h := run_make (P := Tryd.prog) w 40 4 i (.bool false) Tryd.underlying40 hi hz .i64 .i64 m m (by omega) (Int.le_refl _) (by rw [hb]; omega) (by omega)
  rw [h, hs]
  simp only [Int.toNat_natCast, Nat.mul_one]
  have e : madeCells (Value.bool false).cells m = (boC m (fun _ => false)).toArray := by
    apply Array.toList_inj.1
    have e2 := toList_madeCells_one (.bool false) m
    refine Eq.trans e2 ?_
    simp only [boC]
    exact (List.eq_replicate_iff.2 ⟨by simp, fun b hb => by
      obtain ⟨_, _, h⟩ := List.mem_map.1 hb
      exact h.symm⟩).symm
  rw [e]

theorem ord_lack {l : List Ut} (h24 : ¬ 24 < l.length) (hn : (l.map (·.n)).Nodup) {c : Nat} (h : Bst l (fun j => lkB l (l[j]?.getD default)) l.length (some c)) : ordF l = ([], (l[c]?.getD default).n, 28) := by
  have e : lkF (srt l) (srt l) = some (l[c]?.getD default).n := by unfold lkF; rw [lkB_srt, bst_find hn h]; rfl
  unfold ordF
  rw [if_neg h24, twF_of_nodup hn]
  simp only
  rw [e]
theorem ord_run {l : List Ut} (h24 : ¬ 24 < l.length) (hn : (l.map (·.n)).Nodup) (h : Bst l (fun j => lkB l (l[j]?.getD default)) l.length none) :
    (∀ out, runF (srt l).length (srt l) [] = (out, none) → ordF l = (out, [], 0)) ∧ ∀ out n, runF (srt l).length (srt l) [] = (out, some n) → ordF l = ([], n, 29) := by
  have e : lkF (srt l) (srt l) = none := by unfold lkF; rw [lkB_srt, bst_find hn h]; rfl
  unfold ordF
  rw [if_neg h24, twF_of_nodup hn]
  simp only
  rw [e]
  simp only
  exact ⟨fun out h => by rw [h], fun out n h => by rw [h]⟩
theorem lft_nodup {l : List Ut} (hn : (l.map (·.n)).Nodup) (B : Nat → Bool) : ((lft l B).map (·.n)).Nodup := by
  unfold lft
  exact nodup_filter ((((srt_perm l).map (·.n)).nodup_iff).2 hn) _
theorem run_go {l : List Ut} (hn : (l.map (·.n)).Nodup) {B : Nat → Bool} {f d : Nat} {out : List Ut} (h : Bst l (fun j => B j && !wtB l B (l[j]?.getD default)) l.length (some d)) (hs : (lft l B).length ≤ f) :
    ∃ f', runF f (lft l B) out = runF f' (lft l (updB B d)) (out ++ [l[d]?.getD default]) ∧ (lft l (updB B d)).length ≤ f' ∧ (lft l (updB B d)).length + 1 = (lft l B).length := by
  have hx := lft_next hn h
  rw [Option.map_some] at hx
  have hm := List.mem_of_find?_eq_some hx
  have hp := (perm_pick (lft_nodup hn B) hm).length_eq
  rw [List.length_cons, ← lft_upd hn B d h.2.1] at hp
  cases f with
  | zero => omega
  | succ f' =>
    refine ⟨f', ?_, by omega, hp⟩
    rw [runF]
    cases hh : (lft l B).head? with
    | none => rw [List.head?_eq_none_iff.1 hh] at hm; simp at hm
    | some v =>
      simp only
      rw [hx]
      simp only
      rw [lft_upd hn B d h.2.1]
theorem run_end {l : List Ut} (hn : (l.map (·.n)).Nodup) {B : Nat → Bool} {f c : Nat} {out : List Ut} (hc : Bst l B l.length (some c)) (h : Bst l (fun j => B j && !wtB l B (l[j]?.getD default)) l.length none) (hs : (lft l B).length ≤ f) :
    runF f (lft l B) out = ([], some (l[c]?.getD default).n) := by
  have hx := lft_next hn h
  have hd := lft_head hn hc
  rw [Option.map_none] at hx
  rw [Option.map_some] at hd
  cases f with
  | zero =>
    rw [List.eq_nil_of_length_eq_zero (Nat.le_zero.1 hs)] at hd
    cases hd
  | succ f' =>
    rw [runF, hd]
    simp only
    rw [hx]
theorem lft_none {l : List Ut} (hn : (l.map (·.n)).Nodup) {B : Nat → Bool} (h : Bst l B l.length none) : (lft l B).length = 0 := by
  have := lft_head hn h
  rw [Option.map_none] at this
  rw [List.head?_eq_none_iff.1 this]
  rfl
end Go.Proofs.YtcpeebkfnnkjnaaDoor.Tr
