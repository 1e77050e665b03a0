/- Plain facts for lists: a value is the same as itself, and equal to itself unless it is odd. -/
import Derived.Test.YtniailfcmlongaaGreatDoorVeq
namespace Go.Proofs.YtniailfcmlongaaGreatDoor.Tr
open Go.RowKit

mutual
theorem sam_refl : ∀ v : Vt, samB v v = true
  | .mk k n f t ns its => by
    rw [samB]
    simp only [Vt.k, Vt.n, Vt.f, Vt.t, Vt.ns, Vt.its, decide_true, Bool.true_and, samF, Bool.true_or]
    exact samL_refl its
theorem samL_refl : ∀ l : List Vt, samL l l = true
  | [] => by rw [samL]
  | v :: r => by rw [samL, sam_refl v, samL_refl r]; rfl
end
mutual
/-- Does a value hold a function, or what is no number? -/
def oddB : Vt → Bool
  | .mk k _ f _ _ its => decide (k = 7) || nanF f || oddL its
def oddL : List Vt → Bool
  | [] => false
  | v :: r => oddB v || oddL r
end
theorem oddB_eq (v : Vt) : oddB v = (decide (v.k = 7) || nanF v.f || oddL v.its) := by cases v; rw [oddB]; rfl
theorem oddL_step (l : List Vt) (i : Nat) (h : i < l.length) : oddL (l.drop i) = (oddB l[i] || oddL (l.drop (i + 1))) := by rw [drop_cons l i h, oddL]
theorem nan_eq (f : Nat) (h : nanF f = false) : (FloatKind.f64.format.order f f == some Ordering.eq) = true := by
  unfold nanF at h
  simpa using h
mutual
theorem eq_self : ∀ v : Vt, oddB v = false → eqV v v = (true, 0)
  | .mk k n f t ns its, h => by
    rw [oddB] at h
    simp only [Bool.or_eq_false_iff, decide_eq_false_iff_not] at h
    obtain ⟨⟨h7, hn⟩, hi⟩ := h
    rw [eqV]
    simp only [Vt.nv, Vt.k, Vt.n, Vt.f, Vt.ns, Vt.its, ne_eq, not_true_eq_false, if_false, if_true]
    rw [eqI_self its hi, sam_refl]
    by_cases h2 : k = 2
    · subst h2; simp [numB, eqN]
    by_cases h3 : k = 3
    · subst h3; simp [numB, eqN, asF, nan_eq f hn]
    have hb : numB ⟨k, n, f, [], none, 0, 0, none, 0, 0⟩ = false := by simp [numB, h2, h3]
    rw [hb]
    simp [h7]
theorem eqI_self : ∀ l : List Vt, oddL l = false → eqI l l = (true, 0)
  | [], _ => by rw [eqI]
  | v :: r, h => by
    rw [oddL] at h
    simp only [Bool.or_eq_false_iff] at h
    rw [eqI, eq_self v h.1, eqI_self r h.2]
    rfl
end
/-- A value is equal to itself, unless it is odd. -/
theorem eq_or_odd (v : Vt) : eqV v v = (true, 0) ∨ oddB v = true := by
  cases h : oddB v
  · exact .inl (eq_self v h)
  · exact .inr rfl

/-- A row of values in memory, one behind the other. -/
theorem IIn.rows {w : World} : ∀ {l : List Vt} {b o : Nat}, IIn w l (.some ⟨b, o, none⟩) → ∃ xs : List Vv, xs.length = l.length ∧ ∀ i (h : i < l.length) (h' : i < xs.length), sixO w b (o + i * 6) xs[i] ∧ VIn w l[i] xs[i]
  | [], b, o, _ => ⟨[], rfl, fun i h => absurd h (by simp)⟩
  | v :: r, b, o, h => by
    rw [IIn] at h
    obtain ⟨b', o', x, h1, h2, h3, h4⟩ := h
    simp only [Option.some.injEq, Addr.mk.injEq, and_true] at h1
    obtain ⟨rfl, rfl⟩ := h1
    obtain ⟨xs, g1, g2⟩ := IIn.rows h4
    refine ⟨x :: xs, by simp [g1], fun i hi hi' => ?_⟩
    cases i with
    | zero => exact ⟨h2, h3⟩
    | succ i =>
      have := g2 i (by simpa using hi) (by simpa using hi')
      rw [show o + (i + 1) * 6 = o + 6 + i * 6 by omega]
      exact this
/-- The cells of a row of values. -/
def flatV (xs : List Vv) : List Value := xs.flatMap Vv.cs
theorem flatV_nil : flatV [] = [] := rfl
theorem flatV_cons (x : Vv) (xs : List Vv) : flatV (x :: xs) = x.cs ++ flatV xs := rfl
theorem flatV_app (xs ys : List Vv) : flatV (xs ++ ys) = flatV xs ++ flatV ys := List.flatMap_append
theorem csLen (x : Vv) : x.cs.length = 6 := rfl
theorem flatV_len : ∀ xs : List Vv, (flatV xs).length = xs.length * 6
  | [] => rfl
  | x :: xs => by rw [flatV_cons, List.length_append, flatV_len xs, csLen, List.length_cons]; omega
theorem flatV_at : ∀ (xs : List Vv) (i j : Nat) (h : i < xs.length), j < 6 → (flatV xs)[i * 6 + j]? = xs[i].cs[j]?
  | x :: xs, 0, j, _, hj => by
    rw [flatV_cons, Nat.zero_mul, Nat.zero_add, List.getElem?_append_left (by rw [csLen]; exact hj)]; rfl
  | x :: xs, i + 1, j, h, hj => by
    rw [flatV_cons, List.getElem?_append_right (by rw [csLen]; omega), csLen, show (i + 1) * 6 + j - 6 = i * 6 + j by omega, flatV_at xs i j (by simpa using h) hj]
    rfl
theorem flatV_inv (xs : List Vv) (q : Nat) (u : Value) (h : (flatV xs)[q]? = some u) : ∃ i j, ∃ hi : i < xs.length, j < 6 ∧ q = i * 6 + j ∧ xs[i].cs[j]? = some u := by
  have hq : q < (flatV xs).length := (List.getElem?_eq_some_iff.1 h).1
  rw [flatV_len] at hq
  have hi : q / 6 < xs.length := by omega
  refine ⟨q / 6, q % 6, hi, by omega, by omega, ?_⟩
  rw [← flatV_at xs (q / 6) (q % 6) hi (by omega), show q / 6 * 6 + q % 6 = q by omega]
  exact h
/-- A row of values that lies somewhere, as its cells. -/
theorem rows_cells {w : World} {l : List Vt} {b o : Nat} {xs : List Vv} (hl : xs.length = l.length) (h : ∀ i (h : i < l.length) (h' : i < xs.length), sixO w b (o + i * 6) xs[i] ∧ VIn w l[i] xs[i]) : ∀ q u, (flatV xs)[q]? = some u → w.cell? ⟨b, o + q, none⟩ = some u := fun q u hq => by
  obtain ⟨i, j, hi, hj, rfl, hu⟩ := flatV_inv xs q u hq
  have := (h i (by omega) hi).1 j u hu
  rw [show o + (i * 6 + j) = o + i * 6 + j by omega]
  exact this
/-- Cells that lie one behind the other are a row of values. -/
theorem IIn_mk {w : World} {b o : Nat} (l : List Vt) (xs : List Vv) (hl : xs.length = l.length) (hc : ∀ q u, (flatV xs)[q]? = some u → w.cell? ⟨b, o + q, none⟩ = some u) (hv : ∀ i (h : i < l.length) (h' : i < xs.length), VIn w l[i] xs[i]) : IIn w l (some ⟨b, o, none⟩) := by
  induction l generalizing xs o with
  | nil => rw [IIn]; trivial
  | cons v r ih =>
    cases xs with
    | nil => simp at hl
    | cons x xs =>
      rw [IIn]
      refine ⟨b, o, x, rfl, fun j u hu => hc j u (by rw [flatV_cons, List.getElem?_append_left (List.getElem?_eq_some_iff.1 hu).1]; exact hu), hv 0 (by simp) (by simp), ih xs (by simpa using hl) (fun q u hq => ?_) (fun i h h' => ?_)⟩
      · rw [show o + 6 + q = o + (q + 6) by omega]
        refine hc (q + 6) u ?_
        rw [flatV_cons, List.getElem?_append_right (by rw [csLen]; omega), csLen, Nat.add_sub_cancel]
        exact hq
      · exact hv (i + 1) (by simpa using h) (by simpa using h')
end Go.Proofs.YtniailfcmlongaaGreatDoor.Tr
