/- Maps from names to places. Nothing here speaks of the Go text but its types. -/
import Derived.Test.YtcpeebkfnnkjnaaDoorUpo
import Derived.Maps.OwnSet
import Derived.Maps.OwnOps
import Derived.Maps.OwnIn
import Derived.Maps.Views
namespace Go.Proofs.YtcpeebkfnnkjnaaDoor.Tr
open Go.RowKit Go.Maps

/-- What was said last of a name. -/
def lastP (pre : List (Nat × Nm)) (x : Nm) : Option Nat := (pre.reverse.find? (fun p => decide (p.2 = x))).map (·.1)
theorem lastP_snoc (pre : List (Nat × Nm)) (i : Nat) (n x : Nm) : lastP (pre ++ [(i, n)]) x = if n = x then some i else lastP pre x := by
  unfold lastP
  rw [List.reverse_append, List.reverse_singleton, List.singleton_append, List.find?_cons]
  by_cases h : n = x
  · simp [h]
  · simp [h]
/-- What a map tells of a name. -/
def Tells (D : DataW Unit) (x : Nm) (o : Option Nat) : Prop := match o with
  | some i => has D (.string x) = true ∧ D.atKey (.string x) (.lit (.int .i64 0)) = .lit (.int .i64 (i : Int))
  | none => has D (.string x) = false
def Mof (D : DataW Unit) (pre : List (Nat × Nm)) : Prop := IsMap D ∧ ∀ x, Tells D x (lastP pre x)
theorem keyLit (x : Nm) : WideAt.IsKeyLit (.string x) := by simp [WideAt.IsKeyLit]
theorem Mof.zero : Mof (.map []) [] := ⟨isMap_empty, fun _ => rfl⟩
theorem Mof.step {D : DataW Unit} {pre : List (Nat × Nm)} (h : Mof D pre) (i : Nat) (n : Nm) : Mof (D.put (.string n) (.lit (.int .i64 (i : Int)))) (pre ++ [(i, n)]) := by
  refine ⟨h.1.put _ _, fun x => ?_⟩
  rw [lastP_snoc]
  by_cases e : n = x
  · subst e
    rw [if_pos rfl]
    exact ⟨has_put_same h.1 (keyLit n) _, atKey_put_same h.1 (keyLit n) _ _⟩
  · rw [if_neg e]
    have hx := h.2 x
    have hne : (Lit.string x) ≠ .string n := fun e2 => e (by injection e2 with e2; exact e2.symm)
    generalize lastP pre x = o at hx ⊢
    unfold Tells at hx ⊢
    cases o with
    | none => simp only at hx ⊢; rw [has_put_other hne]; exact hx
    | some j => simp only at hx ⊢; rw [has_put_other hne, atKey_put_other hne]; exact hx
/-- The places of the names of l, from behind. -/
def bhd (l : List Ut) : List (Nat × Nm) := ((List.range l.length).reverse).map (fun i => (i, (l[i]?.getD default).n))
theorem lastP_bhd (l : List Ut) (x : Nm) : lastP (bhd l) x = fi l x := by
  unfold lastP bhd
  rw [← List.map_reverse, List.reverse_reverse]
  cases h : fi l x with
  | none =>
    rw [fi_none] at h
    simp only [Option.map_eq_none_iff, List.find?_eq_none]
    intro p hp
    obtain ⟨i, hi, rfl⟩ := List.mem_map.1 hp
    have hi' : i < l.length := List.mem_range.1 hi
    simp only [List.getElem?_eq_getElem hi', Option.getD_some, decide_eq_true_eq]
    exact h i hi'
  | some i =>
    rw [fi_some] at h
    obtain ⟨hi, h1, h2⟩ := h
    have hf : (List.map (fun i => (i, (l[i]?.getD default).n)) (List.range l.length)).find? (fun p => decide (p.2 = x)) = some (i, (l[i]?.getD default).n) := by
      rw [List.find?_eq_some_iff_getElem]
      refine ⟨by simp [List.getElem?_eq_getElem hi, h1], i, by simpa using hi, by simp, fun j hj => ?_⟩
      simp only [List.getElem_map, List.getElem_range, List.getElem?_eq_getElem (show j < l.length by omega), Option.getD_some, Bool.not_eq_true', decide_eq_false_iff_not]
      exact h2 j hj
    rw [hf]
    rfl
/-- The map at m tells where each name of l stands first. -/
def Pm (W : World) (m : Nat) (l : List Ut) : Prop := ∃ (n : Nat) (D : DataW Unit), n ≤ l.length ∧ W.ownsMap Tryd.prog 9 (plainElem Tryd.prog 3) m n D ∧ ∀ x, Tells D x (fi l x)
theorem Pm.lt {W : World} {m : Nat} {l : List Ut} (h : Pm W m l) : m < W.heap.size := by
  obtain ⟨n, D, _, h, _⟩ := h
  exact h.lt
theorem Pm.fr {W W' : World} {m : Nat} {l : List Ut} {F : Nat → Prop} (h : Pm W m l) (f : Fr F W W') (hF : ¬ F m) : Pm W' m l := by
  obtain ⟨n, D, hn, hM, hT⟩ := h
  have hlt := hM.lt
  obtain ⟨es, clock, g1, g2⟩ := hM
  exact ⟨n, D, hn, ⟨es, clock, (f.block m hlt hF).trans g1, g2⟩, hT⟩
theorem keyS {t : Nm} (h : t.length ≤ lim) : keyOf Tryd.prog 9 (.string ⟨t.toArray⟩) = some (.string t) := by
  have := WideMaps.keyOf_string_mk (P := Tryd.prog) (k := 9) Tryd.underlying9 (s := ⟨t.toArray⟩) (by unfold maxLen; unfold lim at h; simp [ByteArray.size]; omega)
  simpa using this
theorem lawS : Go.Maps.Keyed Tryd.prog 9 := string_keyed Tryd.underlying9
end Go.Proofs.YtcpeebkfnnkjnaaDoor.Tr
