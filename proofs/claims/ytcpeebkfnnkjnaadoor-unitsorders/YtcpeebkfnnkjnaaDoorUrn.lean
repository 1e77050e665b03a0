/- How units start, one by one, in plain words. -/
import Derived.Test.YtcpeebkfnnkjnaaDoorUwg
namespace Go.Proofs.YtcpeebkfnnkjnaaDoor.Tr
open Go.RowKit

theorem find_congr {α : Type} {l : List α} {p q : α → Bool} (h : ∀ x ∈ l, p x = q x) : l.find? p = l.find? q := by
  induction l with
  | nil => rfl
  | cons a r ih =>
    rw [List.find?_cons, List.find?_cons, h a (List.mem_cons_self ..), ih (fun x hx => h x (List.mem_cons_of_mem _ hx))]
/-- The units that are left. -/
def sel (R : List Ut) (left : Nat) : List Ut := (ix R.length left).map (fun i => R[i]?.getD default)
/-- Does a unit wait for one of L? -/
def wts (L : List Ut) (u : Ut) : Bool := (u.r ++ u.a).any (fun x => L.any (fun v => decide (v.n = x)))
def runF : Nat → List Ut → List Ut → List Ut × Option Nm
  | 0, _, out => (out, none)
  | f + 1, L, out => match L.head? with
    | none => (out, none)
    | some v => match L.find? (fun u => !wts L u) with
      | none => ([], some v.n)
      | some u => runF f (L.filter (fun v => decide (v.n ≠ u.n))) (out ++ [u])
theorem runF_nil (f : Nat) (out : List Ut) : runF f [] out = (out, none) := by cases f <;> rfl
theorem fi_iff {R : List Ut} (hn : (R.map (·.n)).Nodup) {x : Nm} {j : Nat} : fi R x = some j ↔ ∃ h : j < R.length, R[j].n = x := by
  constructor
  · intro h
    obtain ⟨h1, h2, _⟩ := fi_some.1 h
    exact ⟨h1, h2⟩
  · rintro ⟨h, rfl⟩
    exact fi_self hn h
theorem sel_all (R : List Ut) : sel R (2 ^ R.length - 1) = R := by
  unfold sel
  rw [ix_all]
  refine List.ext_getElem (by simp) (fun i h1 h2 => ?_)
  simp [List.getElem?_eq_getElem h2]
theorem ix_mem {n left i : Nat} : i ∈ ix n left ↔ i < n ∧ left.testBit i = true := by
  unfold ix; rw [List.mem_filter, List.mem_range]
theorem wts_bit {R : List Ut} (hn : (R.map (·.n)).Nodup) (left : Nat) (u : Ut) : wts (sel R left) u = decide (mk R (u.r ++ u.a) &&& left ≠ 0) := by
  rw [Bool.eq_iff_iff, decide_eq_true_eq]
  unfold wts
  rw [List.any_eq_true]
  constructor
  · rintro ⟨x, hx, hv⟩
    obtain ⟨v, hv1, hv2⟩ := List.any_eq_true.1 hv
    obtain ⟨j, hj, rfl⟩ := List.mem_map.1 hv1
    obtain ⟨hj1, hj2⟩ := ix_mem.1 hj
    rw [List.getElem?_eq_getElem hj1] at hv2
    simp only [Option.getD_some, decide_eq_true_eq] at hv2
    intro h0
    have hb : (mk R (u.r ++ u.a) &&& left).testBit j = true := by
      rw [Nat.testBit_and, hj2, Bool.and_true]
      exact (mk_bit R _ j).2 ⟨x, hx, (fi_iff hn).2 ⟨hj1, hv2⟩⟩
    rw [h0] at hb
    simp at hb
  · intro h0
    obtain ⟨j, hj⟩ := Nat.exists_testBit_of_ne_zero h0
    rw [Nat.testBit_and, Bool.and_eq_true] at hj
    obtain ⟨x, hx, hf⟩ := (mk_bit R _ j).1 hj.1
    obtain ⟨hj1, hj2⟩ := (fi_iff hn).1 hf
    refine ⟨x, hx, List.any_eq_true.2 ⟨R[j], List.mem_map.2 ⟨j, ix_mem.2 ⟨hj1, hj.2⟩, by rw [List.getElem?_eq_getElem hj1]; rfl⟩, by simpa using hj2⟩⟩
theorem find_sel {R : List Ut} (hn : (R.map (·.n)).Nodup) (left : Nat) : (sel R left).find? (fun u => !wts (sel R left) u) = (rdyF R.length (wgF R R) left).map (fun i => R[i]?.getD default) := by
  have e : ∀ (p : Ut → Bool), (sel R left).find? p = ((List.range R.length).find? (fun i => left.testBit i && p (R[i]?.getD default))).map (fun i => R[i]?.getD default) := fun p => by
    unfold sel ix
    rw [List.find?_map, List.find?_filter]
    congr 1
    refine find_congr (fun i _ => ?_)
    simp only [Function.comp]
    cases left.testBit i <;> simp
  rw [e]
  congr 1
  refine find_congr (fun i hi => ?_)
  rw [wts_bit hn]
  unfold rdB wgF
  congr 1
  generalize mk R ((R[i]?.getD default).r ++ (R[i]?.getD default).a) &&& left = k
  by_cases h : k = 0 <;> simp [h]
theorem sel_drp {R : List Ut} (hn : (R.map (·.n)).Nodup) (left i : Nat) (hi : i < R.length) (hR : R.length ≤ 24) (hl : left < 4294967296) : sel R (drp left i) = (sel R left).filter (fun v => decide (v.n ≠ (R[i]?.getD default).n)) := by
  unfold sel
  rw [ix_drp _ _ _ (by omega) hl, List.filter_map]
  congr 1
  refine List.filter_congr (fun q hq => ?_)
  obtain ⟨hq1, _⟩ := ix_mem.1 hq
  simp only [Function.comp, List.getElem?_eq_getElem hq1, List.getElem?_eq_getElem hi, Option.getD_some]
  by_cases h : q = i
  · subst h; simp
  · have : R[q].n ≠ R[i].n := fun e => by
      have h1 := fi_self hn hq1
      have h2 := fi_self hn hi
      rw [e, h2] at h1
      injection h1 with h1
      exact h h1.symm
    simp [h, this]
theorem sel_head {R : List Ut} {left : Nat} (h0 : left ≠ 0) (hl : left < 4294967296) (hn : left < 2 ^ R.length) : (sel R left).head? = some (R[Lib.ctz 32 left]?.getD default) ∧ Lib.ctz 32 left < R.length := by
  obtain ⟨h1, h2⟩ := ix_head (n := R.length) h0 hl hn
  refine ⟨?_, h2⟩
  unfold sel
  rw [List.head?_map, h1]
  rfl
theorem sel_zero (R : List Ut) : sel R 0 = [] := by
  unfold sel
  rw [(ix_nil (Nat.two_pow_pos _)).2 rfl]
  rfl
theorem sel_len (R : List Ut) (left i : Nat) (hR : R.length ≤ 24) (hl : left < 4294967296) (hi : i < R.length) (hb : left.testBit i = true) : (sel R (drp left i)).length + 1 ≤ (sel R left).length := by
  unfold sel
  rw [List.length_map, List.length_map, ix_drp _ _ _ (by omega) hl]
  have := (List.length_filter_lt_length_iff_exists (l := ix R.length left) (p := fun q => decide (q ≠ i))).2 ⟨i, ix_mem.2 ⟨hi, hb⟩, by simp⟩
  omega
/-- One unit more has started. -/
theorem run_step {R : List Ut} (hn : (R.map (·.n)).Nodup) (hR : R.length ≤ 24) {f left i : Nat} {out : List Ut} (h0 : left ≠ 0) (hl : left < 2 ^ R.length) (hs : (sel R left).length ≤ f) (hr : rdyF R.length (wgF R R) left = some i) :
    ∃ f', f = f' + 1 ∧ runF f (sel R left) out = runF f' (sel R (drp left i)) (out ++ [R[i]?.getD default]) ∧ (sel R (drp left i)).length ≤ f' ∧ (sel R (drp left i)).length + 1 ≤ (sel R left).length ∧ drp left i < left := by
  have h24 : 2 ^ R.length ≤ 2 ^ 24 := Nat.pow_le_pow_right (by omega) hR
  have hl' : left < 4294967296 := by omega
  obtain ⟨hi, hb, _⟩ := rdyF_is hr
  have hlen := sel_len R left i hR hl' hi hb
  cases f with
  | zero => omega
  | succ f' =>
    refine ⟨f', rfl, ?_, by omega, hlen, drp_lt (by omega) hl' hb⟩
    rw [runF, (sel_head h0 hl' hl).1]
    simp only
    rw [find_sel hn, hr]
    simp only [Option.map_some]
    rw [sel_drp hn left i hi hR hl']
theorem run_stop {R : List Ut} (hn : (R.map (·.n)).Nodup) (hR : R.length ≤ 24) {f left : Nat} {out : List Ut} (h0 : left ≠ 0) (hl : left < 2 ^ R.length) (hs : (sel R left).length ≤ f) (hr : rdyF R.length (wgF R R) left = none) :
    runF f (sel R left) out = ([], some (R[Lib.ctz 32 left]?.getD default).n) := by
  have h24 : 2 ^ R.length ≤ 2 ^ 24 := Nat.pow_le_pow_right (by omega) hR
  have hl' : left < 4294967296 := by omega
  have hne : (sel R left).length ≠ 0 := by
    have := (sel_head h0 hl' hl).1
    intro e
    rw [List.eq_nil_of_length_eq_zero e] at this
    cases this
  cases f with
  | zero => omega
  | succ f' =>
    rw [runF, (sel_head h0 hl' hl).1]
    simp only
    rw [find_sel hn, hr]
    rfl
end Go.Proofs.YtcpeebkfnnkjnaaDoor.Tr
