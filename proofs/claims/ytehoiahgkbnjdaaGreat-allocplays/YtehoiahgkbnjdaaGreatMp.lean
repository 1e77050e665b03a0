
/- Maps from numbers to sectors: sorted rows of pairs, and a block that holds one. Nothing here speaks of the Go text. -/
import Derived.Test.YtehoiahgkbnjdaaGreatBase
import Derived.Maps.OwnSet
import Derived.Maps.Views
import Derived.Maps.Range
namespace Go.Proofs.YtehoiahgkbnjdaaGreat.Wl
open Go.RowKit Dk

abbrev Sec := List UInt8
abbrev SMap := List (Nat × Sec)
def arrV (s : Sec) : Value := .agg (bs s).toArray

def unb : Value → Option UInt8
  | .int .u8 n => if 0 ≤ n ∧ n < 256 then some (UInt8.ofNat n.toNat) else none
  | _ => none
def secR (v : Value) : Option (DataW Unit × List MemPlace) :=
  match v with
  | .agg cs => if cs.size = 128 then (cs.toList.mapM unb).map fun s => (.lit (.string s), []) else none
  | _ => none
theorem unb_bv (x : UInt8) : unb (bv x) = some x := by
  have := UInt8.toNat_lt x
  simp [unb, bv]
  omega
theorem unb_inv {v : Value} {x : UInt8} (h : unb v = some x) : v = bv x := by
  unfold unb at h
  split at h
  · split at h
    · rename_i n hn
      cases h
      simp only [bv, Value.int.injEq, true_and]
      have e : (UInt8.ofNat n.toNat).toNat = n.toNat := by simp; omega
      rw [e]
      omega
    · cases h
  · cases h
theorem mapM_bs (s : Sec) : (bs s).mapM unb = some s := by
  induction s with
  | nil => rfl
  | cons x r ih =>
    have e : bs (x :: r) = bv x :: bs r := rfl
    rw [e, List.mapM_cons, unb_bv, ih]
    rfl
theorem mapM_inv : ∀ (l : List Value) (s : Sec), l.mapM unb = some s → l = bs s
  | [], s, h => by cases h; rfl
  | v :: r, s, h => by
    rw [List.mapM_cons] at h
    cases hv : unb v with
    | none => rw [hv] at h; cases h
    | some x =>
      cases hr : r.mapM unb with
      | none => rw [hv, hr] at h; cases h
      | some s' =>
        rw [hv, hr] at h
        cases h
        rw [unb_inv hv, mapM_inv r s' hr]
        rfl
theorem secR_arr (s : Sec) (h : s.length = 128) : secR (arrV s) = some (.lit (.string s), []) := by
  simp [secR, arrV, bs_length, h, mapM_bs]
theorem secR_inv {v : Value} {z : DataW Unit × List MemPlace} (h : secR v = some z) : ∃ s : Sec, s.length = 128 ∧ v = arrV s ∧ z = (.lit (.string s), []) := by
  unfold secR at h
  split at h
  · rename_i cs
    split at h
    · rename_i hc
      cases hm : cs.toList.mapM unb with
      | none => rw [hm] at h; cases h
      | some s =>
        rw [hm] at h
        cases h
        have e := mapM_inv _ _ hm
        refine ⟨s, ?_, ?_, rfl⟩
        · rw [← bs_length, ← e]; simpa using hc
        · simp [arrV, ← e]
    · cases h
  · cases h
theorem arrV_inj {a b : Sec} (h : arrV a = arrV b) (ha : a.length = 128) (hb : b.length = 128) : a = b := by
  have h1 := secR_arr a ha
  rw [h, secR_arr b hb] at h1
  simpa using h1.symm

/-- The pairs, rising. -/
def Srt (m : SMap) : Prop := m.Pairwise (fun p q => p.1 < q.1)
def get : SMap → Nat → Option Sec
  | [], _ => none
  | p :: r, k => if p.1 = k then some p.2 else get r k
def ins (k : Nat) (s : Sec) : SMap → SMap
  | [] => [(k, s)]
  | p :: r => if k < p.1 then (k, s) :: p :: r else if k = p.1 then (k, s) :: r else p :: ins k s r

theorem get_ins (k : Nat) (s : Sec) (j : Nat) : ∀ m : SMap, Srt m → get (ins k s m) j = if j = k then some s else get m j
  | [], _ => by
    by_cases h : j = k
    · simp [ins, get, h]
    · simp [ins, get, h, Ne.symm h]
  | p :: r, hs => by
    have hr := List.pairwise_cons.1 hs
    unfold ins
    split
    · by_cases h : j = k
      · simp [get, h]
      · simp [get, h, Ne.symm h]
    · split
      · rename_i h1 h2
        by_cases h : j = k
        · simp [get, h]
        · have : ¬ p.1 = j := by omega
          simp [get, h, Ne.symm h, this]
      · rename_i h1 h2
        simp only [get, get_ins k s j r hr.2]
        by_cases h : j = k
        · have : ¬ p.1 = k := by omega
          simp [h, this]
        · simp [h]
theorem ins_mem (k : Nat) (s : Sec) : ∀ (m : SMap) (q : Nat × Sec), q ∈ ins k s m → q = (k, s) ∨ q ∈ m
  | [], q, h => by simp [ins] at h; exact .inl h
  | p :: r, q, h => by
    unfold ins at h
    split at h
    · simpa using h
    · split at h
      · simp at h
        rcases h with h | h
        · exact .inl h
        · exact .inr (.tail _ h)
      · simp at h
        rcases h with h | h
        · exact .inr (by simp [h])
        · rcases ins_mem k s r q h with h | h
          · exact .inl h
          · exact .inr (.tail _ h)
theorem ins_srt (k : Nat) (s : Sec) : ∀ m : SMap, Srt m → Srt (ins k s m)
  | [], _ => by simp [ins, Srt]
  | p :: r, hs => by
    have hr := List.pairwise_cons.1 hs
    unfold ins
    split
    · rename_i h1
      refine List.pairwise_cons.2 ⟨fun q hq => ?_, hs⟩
      rcases List.mem_cons.1 hq with rfl | hq
      · exact h1
      · have := hr.1 q hq; show k < q.1; omega
    · split
      · rename_i h1 h2
        exact List.pairwise_cons.2 ⟨fun q hq => by have := hr.1 q hq; show k < q.1; omega, hr.2⟩
      · rename_i h1 h2
        refine List.pairwise_cons.2 ⟨fun q hq => ?_, ins_srt k s r hr.2⟩
        rcases ins_mem k s r q hq with rfl | hq
        · show p.1 < k; omega
        · exact hr.1 q hq
theorem get_none_of_lt {k : Nat} : ∀ m : SMap, (∀ q ∈ m, k < q.1) → get m k = none
  | [], _ => rfl
  | p :: r, h => by
    have h1 := h p (by simp)
    have : ¬ p.1 = k := by omega
    simp [get, this, get_none_of_lt r (fun q hq => h q (.tail _ hq))]
theorem length_ins (k : Nat) (s : Sec) : ∀ m : SMap, Srt m → (ins k s m).length = if (get m k).isSome then m.length else m.length + 1
  | [], _ => by simp [ins, get]
  | p :: r, hs => by
    have hr := List.pairwise_cons.1 hs
    unfold ins
    split
    · rename_i h1
      have e : get (p :: r) k = none := get_none_of_lt _ (fun q hq => by
        rcases List.mem_cons.1 hq with rfl | hq
        · exact h1
        · have := hr.1 q hq; omega)
      simp [e]
    · split
      · rename_i h1 h2
        simp [get, h2]
      · rename_i h1 h2
        have : ¬ p.1 = k := by omega
        simp only [List.length_cons, length_ins k s r hr.2, get, this, if_false]
        split <;> rfl
theorem get_mem : ∀ {m : SMap} {k : Nat} {s : Sec}, get m k = some s → (k, s) ∈ m
  | [], _, _, h => by cases h
  | p :: r, k, s, h => by
    unfold get at h
    split at h
    · rename_i e
      cases h
      subst e
      exact .head _
    · exact .tail _ (get_mem h)
theorem get_of_mem : ∀ {m : SMap}, Srt m → ∀ {k : Nat} {s : Sec}, (k, s) ∈ m → get m k = some s
  | p :: r, hs, k, s, h => by
    have hr := List.pairwise_cons.1 hs
    rcases List.mem_cons.1 h with h | h
    · subst h; simp [get]
    · have := hr.1 _ h
      have : ¬ p.1 = k := by show ¬ p.1 = (k, s).1; omega
      simp [get, this, get_of_mem hr.2 h]

/-! ### As a datum -/
def encP (p : Nat × Sec) : Lit × DataW Unit := (.int .i64 (p.1 : Int), .lit (.string p.2))
def encM (m : SMap) : DataW Unit := .map (m.map encP)
theorem same_int (a b : Nat) : (Lit.int .i64 (a : Int)).sameKey (.int .i64 (b : Int)) = decide (a = b) := by
  by_cases h : a = b
  · simp [Lit.sameKey, h]
  · have h' : ¬ (a : Int) = (b : Int) := by omega
    simp [Lit.sameKey, h, h']
theorem has_encM (k : Nat) : ∀ m : SMap, Maps.has (encM m) (.int .i64 (k : Int)) = (get m k).isSome
  | [] => rfl
  | p :: r => by
    have ih := has_encM k r
    simp only [encM, Maps.has, List.map_cons, List.any_cons, encP, same_int] at ih ⊢
    rw [ih]
    by_cases h : p.1 = k <;> simp [get, h]
theorem atKey_encM (k : Nat) (z : DataW Unit) : ∀ m : SMap, (encM m).atKey (.int .i64 (k : Int)) z = match get m k with | some s => .lit (.string s) | none => z
  | [] => rfl
  | p :: r => by
    have ih := atKey_encM k z r
    simp only [encM, DataW.atKey, List.map_cons, List.find?_cons, encP, same_int] at ih ⊢
    by_cases h : p.1 = k
    · simp [get, h]
    · simp only [h, decide_false, get, if_false]
      exact ih
theorem size_encM (m : SMap) : Maps.size (encM m) = m.length := by simp [encM, Maps.size]
theorem filter_id (k : Nat) (m : SMap) (h : ∀ q ∈ m, q.1 ≠ k) : (m.map encP).filter (fun p => !p.1.sameKey (.int .i64 (k : Int))) = m.map encP := by
  rw [List.filter_eq_self]
  intro a ha
  obtain ⟨q, hq, rfl⟩ := List.mem_map.1 ha
  simp [encP, same_int, h q hq]
theorem put_encM (k : Nat) (s : Sec) : ∀ m : SMap, Srt m → (encM m).put (.int .i64 (k : Int)) (.lit (.string s)) = encM (ins k s m)
  | [], _ => rfl
  | p :: r, hs => by
    have hr := List.pairwise_cons.1 hs
    have ih := put_encM k s r hr.2
    simp only [encM, DataW.put, DataW.map.injEq] at ih ⊢
    rw [List.map_cons, List.filter_cons]
    have e1 : (!(encP p).1.sameKey (.int .i64 (k : Int))) = decide (p.1 ≠ k) := by simp [encP, same_int]
    rw [e1]
    by_cases h : p.1 = k
    · have hf := filter_id k r (fun q hq => by have := hr.1 q hq; omega)
      simp only [h, ne_eq, not_true_eq_false, decide_false, Bool.false_eq_true, if_false, hf, ins, Nat.lt_irrefl]
      simp only [if_true, List.map_cons]
      cases r with
      | nil => rfl
      | cons q r' =>
        have := hr.1 q (by simp)
        have hb : (Lit.int .i64 (k : Int)).before (.int .i64 (q.1 : Int)) = true := by simp [Lit.before]; omega
        simp [DataW.insert, hb, encP]
    · simp only [ne_eq, h, not_false_eq_true, decide_true, if_true, DataW.insert, ins]
      by_cases hlt : k < p.1
      · have hb : (Lit.int .i64 (k : Int)).before (.int .i64 (p.1 : Int)) = true := by simp [Lit.before]; omega
        have hf := filter_id k r (fun q hq => by have := hr.1 q hq; omega)
        simp only [encP] at hf ⊢
        simp only [hb, if_true, hlt, hf, List.map_cons]
        rfl
      · have hb : (Lit.int .i64 (k : Int)).before (encP p).1 = false := by simp [encP, Lit.before]; omega
        have h' : ¬ k = p.1 := fun e => h e.symm
        simp only [hb, Bool.false_eq_true, if_false, hlt, h', List.map_cons, ih]
theorem encM_inj {a b : SMap} (h : encM a = encM b) : a = b := by
  simp only [encM, DataW.map.injEq] at h
  induction a generalizing b with
  | nil => cases b with
    | nil => rfl
    | cons q r => cases h
  | cons p r ih =>
    cases b with
    | nil => cases h
    | cons q r' =>
      simp only [List.map_cons, List.cons.injEq, encP, Prod.mk.injEq, Lit.int.injEq, true_and, DataW.lit.injEq, Lit.string.injEq] at h
      obtain ⟨⟨h1, h2⟩, h3⟩ := h
      rw [ih h3]
      congr 1
      exact Prod.ext (by omega) h2

/-! ### A block that holds one -/
section
variable {P : Program} {K : TypeId} {w : World} {b : Nat} {m : SMap}
/-- Block b of w is a map that holds m. -/
def Mp (P : Program) (K : TypeId) (w : World) (b : Nat) (m : SMap) : Prop := w.ownsMap P K secR b m.length (encM m) ∧ Srt m ∧ ∀ q ∈ m, q.2.length = 128
theorem tight {n : Nat} {D : DataW Unit} (h : w.ownsMap P K secR b n D) : w.ownsMap P K secR b (Maps.size D) D := by
  obtain ⟨es, clock, hb, F, hs, rfl⟩ := h
  exact ⟨es, clock, hb, F, by simp [Maps.size, length_sorted], rfl⟩
theorem Mp.lt (h : Mp P K w b m) : b < w.heap.size := h.1.lt
theorem Mp.of_eq {w' : World} (h : Mp P K w b m) (e : w'.heap[b]? = w.heap[b]?) : Mp P K w' b m := by
  obtain ⟨⟨es, clock, hb, F, hs, hD⟩, h2⟩ := h
  exact ⟨⟨es, clock, e.trans hb, F, hs, hD⟩, h2⟩
theorem Mp.alloc (h : Mp P K w b m) (o : Obj) : Mp P K (w.alloc o) b m := h.of_eq (Below.heap_alloc w o b h.lt)
theorem Mp.made (w : World) (P : Program) (K : TypeId) : Mp P K (w.alloc (.map #[] 0)) w.heap.size [] := ⟨World.ownsMap_made w P K secR, List.Pairwise.nil, by simp⟩
theorem Mp.notcells (h : Mp P K w b m) : ∀ cs t fz, w.heap[b]? ≠ some (.cells cs t fz) := by
  obtain ⟨⟨es, clock, hb, _⟩, _⟩ := h
  intro cs t fz e
  rw [hb] at e
  cases e
theorem Mp.frame {F : Nat → Prop} {w' : World} (h : Mp P K w b m) (hf : Fr F w w') (hn : ¬ F b) : Mp P K w' b m := h.of_eq (hf.block b h.lt hn)
theorem Mp.sec (h : Mp P K w b m) {k : Nat} {s : Sec} (hg : get m k = some s) : s.length = 128 := h.2.2 _ (get_mem hg)
end

end Go.Proofs.YtehoiahgkbnjdaaGreat.Wl
