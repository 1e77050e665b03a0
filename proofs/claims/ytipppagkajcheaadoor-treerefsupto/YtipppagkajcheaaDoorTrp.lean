/- A store path made of a number and an ending: plain facts. -/
import Derived.Test.YtipppagkajcheaaDoorRefs
import Derived.Test.YtipppagkajcheaaDoorSTx
import Derived.Test.YtipppagkajcheaaDoorSrt
namespace Go.Proofs.YtipppagkajcheaaDoor.Tr

def alphL : List UInt8 := [97, 98, 99, 88, 89, 90, 48, 49, 57, 46, 95, 45, 43]
def alph (d : Nat) : UInt8 := alphL.getD d 0
theorem alph_may : ∀ d, d < 13 → mayB (alph d) = true := by
  intro d h
  match d, h with
  | 0, _ => decide | 1, _ => decide | 2, _ => decide | 3, _ => decide | 4, _ => decide | 5, _ => decide | 6, _ => decide
  | 7, _ => decide | 8, _ => decide | 9, _ => decide | 10, _ => decide | 11, _ => decide | 12, _ => decide
  | n + 13, h => exact absurd h (by omega)
theorem alph_at : ∀ (d : Nat) (h : d < 13), ((ByteArray.mk #[97, 98, 99, 88, 89, 90, 48, 49, 57, 46, 95, 45, 43])[d]'(by simpa [ByteArray.size] using h)) = alph d := by
  intro d h
  match d, h with
  | 0, _ => rfl | 1, _ => rfl | 2, _ => rfl | 3, _ => rfl | 4, _ => rfl | 5, _ => rfl | 6, _ => rfl
  | 7, _ => rfl | 8, _ => rfl | 9, _ => rfl | 10, _ => rfl | 11, _ => rfl | 12, _ => rfl
  | n + 13, h => exact absurd h (by omega)
/-- The letter at i. -/
def tch (e : List UInt8) (i : Nat) : UInt8 := if h : i < e.length then alph (e[i].toNat % 13) else 101
def tailL (e : List UInt8) (j : Nat) : List UInt8 := (List.range j).map (tch e)
theorem tailL_len (e : List UInt8) (j : Nat) : (tailL e j).length = j := by simp [tailL]
theorem tailL_succ (e : List UInt8) (j : Nat) : tailL e (j + 1) = tailL e j ++ [tch e j] := by simp [tailL, List.range_succ]
theorem tch_may (e : List UInt8) (i : Nat) : mayB (tch e i) = true := by
  unfold tch
  split
  · exact alph_may _ (Nat.mod_lt _ (by decide))
  · decide
def tailN' (e : List UInt8) : Nat := max 1 (min 19 e.length)
def preL (n : Nat) : List UInt8 := storeL ++ low n 16 ++ [45]
theorem preL_len (n : Nat) : (preL n).length = 24 := by simp [preL, storeL, low_length]
def pathL (n : Nat) (e : List UInt8) : List UInt8 := preL n ++ tailL e (tailN' e)
theorem hexd_hex : ∀ d, d < 16 → hexB (hexd d) = true := by
  intro d h
  match d, h with
  | 0, _ => decide | 1, _ => decide | 2, _ => decide | 3, _ => decide | 4, _ => decide | 5, _ => decide | 6, _ => decide | 7, _ => decide
  | 8, _ => decide | 9, _ => decide | 10, _ => decide | 11, _ => decide | 12, _ => decide | 13, _ => decide | 14, _ => decide | 15, _ => decide
  | n + 16, h => exact absurd h (by omega)
theorem low_hex (n : Nat) : ∀ k, (low n k).all hexB = true
  | 0 => rfl
  | k + 1 => by rw [low, List.all_cons, hexd_hex _ (Nat.mod_lt _ (by decide)), low_hex n k]; rfl
theorem pathL_len (n : Nat) (e : List UInt8) : 25 ≤ (pathL n e).length ∧ (pathL n e).length ≤ 43 := by
  unfold pathL tailN'
  rw [List.length_append, preL_len, tailL_len]; omega
theorem pathL_is (n : Nat) (e : List UInt8) : isPathB (pathL n e) = true := by
  obtain ⟨h1, h2⟩ := pathL_len n e
  unfold isPathB headAt
  have e1 : (pathL n e).take 7 = storeL := by
    unfold pathL preL
    rw [List.append_assoc, List.append_assoc]
    rfl
  have e2 : ((pathL n e).drop 7).take 16 = low n 16 := by
    unfold pathL preL
    rw [List.append_assoc, List.append_assoc]
    have : (storeL ++ (low n 16 ++ ([45] ++ tailL e (tailN' e)))).drop 7 = low n 16 ++ ([45] ++ tailL e (tailN' e)) := rfl
    rw [this, List.take_append_of_le_length (by rw [low_length]; omega), List.take_of_length_le (by rw [low_length]; omega)]
  have e3 : (pathL n e)[23]? = some 45 := by
    unfold pathL preL
    rw [List.getElem?_append_left (by simp [storeL, low_length]), List.getElem?_append_right (by simp [storeL, low_length])]
    simp [storeL, low_length]
  have e4 : (pathL n e).drop 24 = tailL e (tailN' e) := by
    unfold pathL
    have := preL_len n
    rw [← this]
    exact List.drop_left
  rw [e1, e2, e3, e4, low_hex, decide_eq_true h1, decide_eq_true h2, decide_eq_true (show 24 ≤ (pathL n e).length by omega)]
  have : (tailL e (tailN' e)).all mayB = true := by
    rw [List.all_eq_true]
    intro c hc
    simp only [tailL, List.mem_map] at hc
    obtain ⟨i, _, rfl⟩ := hc
    exact tch_may e i
  rw [this]; rfl
/-- The path, a blank behind it, among other bytes. -/
def dataL (a b : List UInt8) (P : List UInt8) : List UInt8 := [] ++ a ++ P ++ [32] ++ b
theorem path_ref (a b : List UInt8) (P : List UInt8) (h : isPathB P = true) : RefIn (dataL a b P) P := by
  refine ⟨a.length, ?_, ?_⟩
  · have e : (dataL a b P).drop a.length = P ++ ([32] ++ b) := by
      unfold dataL
      rw [List.nil_append, List.append_assoc, List.append_assoc]
      exact List.drop_left
    rw [e, refAt_here P ([32] ++ b) h]
    intro c hc
    simp at hc
    subst hc
    decide
  · rintro rfl
    cases h
def oneL (d : List UInt8) : List Ent := [⟨[120], 1, d⟩]
theorem oneL_mem (d x : List UInt8) : x ∈ refsB (oneL d) ↔ RefIn d x := by
  rw [(refsB_spec (oneL d)).2 x]
  simp [oneL]
theorem oneL_bulk (d : List UInt8) : bulkD (oneL d) = d.length := by simp [bulkD, oneL]
/-- A store path stands in the bytes, and is one. -/
theorem ref_in {d x : List UInt8} (h : RefIn d x) : isPathB x = true ∧ ∃ j, j + x.length ≤ d.length ∧ (d.drop j).take x.length = x := by
  obtain ⟨j, h1, h2⟩ := h
  obtain ⟨h3, h4⟩ := refAt_isPath (d.drop j) (by rw [← h1]; exact h2)
  rw [← h1] at h3 h4
  refine ⟨h3, j, ?_, ?_⟩
  · have := h4.length_le
    rw [List.length_drop] at this
    have hx : 0 < x.length := List.length_pos_iff.2 h2
    omega
  · exact (List.prefix_iff_eq_take.1 h4).symm
theorem ref_rise (d : List UInt8) (i : Nat) (h : i + 1 < (refsB (oneL d)).length) : Op.bytesLess (refsB (oneL d))[i] (refsB (oneL d))[i + 1] = true := by
  rw [less_eq, decide_eq_true_eq]
  have := (refsB_spec (oneL d)).1
  unfold Rise at this
  rw [List.pairwise_iff_getElem] at this
  exact this i (i + 1) (by omega) h (by omega)
/-- Met among the first k places. -/
def metB (d x : List UInt8) (k : Nat) : Bool := (List.range k).any (fun j => (d.drop j).take x.length == x)
theorem metB_succ (d x : List UInt8) (k : Nat) : metB d x (k + 1) = (metB d x k || ((d.drop k).take x.length == x)) := by
  unfold metB; rw [List.range_succ, List.any_append]; simp
theorem metB_all {d x : List UInt8} (h : RefIn d x) (k : Nat) (hk : d.length < k + x.length) : metB d x k = true := by
  obtain ⟨_, j, h1, h2⟩ := ref_in h
  unfold metB
  rw [List.any_eq_true]
  exact ⟨j, List.mem_range.2 (by omega), by rw [h2]; simp⟩
def hasB (R : List (List UInt8)) (P : List UInt8) (i : Nat) : Bool := (R.take i).any (fun x => x == P)
theorem hasB_succ (R : List (List UInt8)) (P : List UInt8) (i : Nat) (h : i < R.length) : hasB R P (i + 1) = (hasB R P i || (R[i] == P)) := by
  unfold hasB; rw [List.take_succ_eq_append_getElem h, List.any_append]; simp
theorem hasB_all {R : List (List UInt8)} {P : List UInt8} (h : P ∈ R) : hasB R P R.length = true := by
  unfold hasB
  rw [List.take_length, List.any_eq_true]
  exact ⟨P, h, by simp⟩

end Go.Proofs.YtipppagkajcheaaDoor.Tr
