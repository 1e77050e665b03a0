/- How the document strikes what does not stay, in plain words. -/
import Derived.Test.YtcpeebkfnnkjnaaDoorUpt
import Derived.Test.YtcpeebkfnnkjnaaDoorUwa
namespace Go.Proofs.YtcpeebkfnnkjnaaDoor.Tr
open Go.RowKit

def updB (B : Nat → Bool) (i : Nat) (v : Bool) : Nat → Bool := fun q => if q = i then v else B q
theorem boC_set (n i : Nat) (v : Bool) (B : Nat → Bool) : (boC n B).set i (.bool v) = boC n (updB B i v) := by
  unfold boC
  refine List.ext_getElem (by simp) (fun q h1 h2 => ?_)
  rw [List.getElem_set]
  simp only [List.getElem_map, List.getElem_range, updB]
  by_cases e : i = q
  · rw [if_pos e, if_pos e.symm]
  · rw [if_neg e, if_neg (Ne.symm e)]
theorem boC_len (n : Nat) (B : Nat → Bool) : (boC n B).length = n := by simp [boC]
def cntB (n : Nat) (B : Nat → Bool) : Nat := ((List.range n).filter B).length
theorem fparts {α : Type} (p q : α → Bool) : ∀ l : List α, (∀ x ∈ l, q x = true → p x = true) → (l.filter p).length = (l.filter (fun x => p x && !q x)).length + (l.filter q).length := filter_parts p q
theorem cnt_upd {n i : Nat} {B : Nat → Bool} (hi : i < n) (hb : B i = true) : cntB n (updB B i false) < cntB n B := by
  unfold cntB
  have h := filter_parts B (fun q => decide (q = i)) (List.range n) (fun x _ hx => by
    have e : x = i := by simpa using hx
    rw [e]; exact hb)
  have e : (fun q => B q && !decide (q = i)) = updB B i false := by
    funext q
    unfold updB
    by_cases hq : q = i <;> simp [hq]
  rw [e] at h
  have h2 : 0 < ((List.range n).filter (fun q => decide (q = i))).length := List.length_pos_iff.2 (fun e => by
    have : i ∈ (List.range n).filter (fun q => decide (q = i)) := List.mem_filter.2 ⟨List.mem_range.2 hi, by simp⟩
    rw [e] at this
    simp at this)
  omega
def s0B (O F : List Ut) (q : Nat) : Bool := decide (fi F (atU F q).n = some q) && smB O F (atU F q).n
def gdB (O F : List Ut) (B : Nat → Bool) (y : Nm) : Bool := !(knB O F y) || (match fi F y with | some a => B a | none => false)
structure Jv (O F : List Ut) (B : Nat → Bool) : Prop where
  up : ∀ q, q < F.length → B q = true → fi F (atU F q).n = some q ∧ smB O F (atU F q).n = true
  dn : ∀ q, q < F.length → fi F (atU F q).n = some q → ¬ Gone O F (atU F q).n → B q = true
theorem kn_new {O F : List Ut} {x : Nm} {i : Nat} (h : fi F x = some i) : knB O F x = true := by unfold knB; rw [h]; simp
theorem gone_kn {O F : List Ut} {x : Nm} (h : Gone O F x) : knB O F x = true := by
  cases h with
  | base h1 _ => exact h1
  | step _ ho _ _ => unfold knB; rw [ho]; rfl
theorem Jv.start {O F : List Ut} {B : Nat → Bool} (h : ∀ q, q < F.length → B q = s0B O F q) : Jv O F B := by
  refine ⟨fun q hq hb => ?_, fun q hq hf hg => ?_⟩
  · rw [h q hq] at hb
    unfold s0B at hb
    rw [Bool.and_eq_true] at hb
    exact ⟨of_decide_eq_true hb.1, hb.2⟩
  · rw [h q hq]
    unfold s0B
    rw [Bool.and_eq_true]
    refine ⟨decide_eq_true hf, ?_⟩
    cases hs : smB O F (atU F q).n with
    | true => rfl
    | false => exact absurd (.base (kn_new hf) hs) hg
theorem sm_at {O F : List Ut} {x : Nm} {i : Nat} (hs : smB O F x = true) (hf : fi F x = some i) : ∃ k, fi O x = some k ∧ atU O k = atU F i := by
  unfold smB at hs
  cases ho : fi O x with
  | none => rw [ho] at hs; cases hs
  | some k => rw [ho, hf] at hs; exact ⟨k, rfl, by simpa using hs⟩
theorem gd_false {O F : List Ut} {B : Nat → Bool} {y : Nm} (h : gdB O F B y = false) : knB O F y = true ∧ ∀ a, fi F y = some a → B a = false := by
  unfold gdB at h
  rw [Bool.or_eq_false_iff] at h
  refine ⟨by simpa using h.1, fun a ha => ?_⟩
  have h2 := h.2
  rw [ha] at h2
  exact h2
theorem Jv.drop {O F : List Ut} {B : Nat → Bool} {i : Nat} {y : Nm} (h : Jv O F B) (hi : i < F.length) (hb : B i = true) (hy : y ∈ (atU F i).r) (hg : gdB O F B y = false) : Jv O F (updB B i false) := by
  obtain ⟨hf, hs⟩ := h.up i hi hb
  obtain ⟨hk, ha⟩ := gd_false hg
  have hgy : Gone O F y := by
    cases hfy : fi F y with
    | none => exact .base hk (by unfold smB; rw [hfy]; cases fi O y <;> rfl)
    | some a =>
      obtain ⟨hal, han⟩ := fi_at hfy
      have hba := ha a hfy
      exact Classical.byContradiction fun hn => by
        have := h.dn a hal (by rw [han]; exact hfy) (by rw [han]; exact hn)
        rw [hba] at this
        cases this
  obtain ⟨k, hok, e⟩ := sm_at hs hf
  have hgi : Gone O F (atU F i).n := .step hgy hok hs (by rw [e]; exact hy)
  refine ⟨fun q hq hbq => ?_, fun q hq hfq hgq => ?_⟩
  · unfold updB at hbq
    by_cases e2 : q = i
    · rw [if_pos e2] at hbq; cases hbq
    · rw [if_neg e2] at hbq; exact h.up q hq hbq
  · unfold updB
    by_cases e2 : q = i
    · rw [e2] at hgq; exact absurd hgi hgq
    · rw [if_neg e2]; exact h.dn q hq hfq hgq
theorem Jv.fix {O F : List Ut} {B : Nat → Bool} (h : Jv O F B) (hx : ∀ q, q < F.length → B q = true → ∀ y ∈ (atU F q).r, gdB O F B y = true) {x : Nm} (hg : Gone O F x) : ∀ i, fi F x = some i → B i = false := by
  induction hg with
  | base hk hs =>
    intro i hi
    cases hb : B i with
    | false => rfl
    | true =>
      obtain ⟨hil, hin⟩ := fi_at hi
      have := (h.up i hil hb).2
      rw [hin, hs] at this
      cases this
  | step hgy ho hs hy ih =>
    intro i hi
    cases hb : B i with
    | false => rfl
    | true =>
      obtain ⟨hil, hin⟩ := fi_at hi
      obtain ⟨k, hk, e⟩ := sm_at hs hi
      rw [ho] at hk
      injection hk with hk
      subst hk
      have h2 := hx i hil hb _ (by rw [← e]; exact hy)
      unfold gdB at h2
      rw [gone_kn hgy] at h2
      cases hfy : fi F _ with
      | none => rw [hfy] at h2; cases h2
      | some a =>
        rw [hfy] at h2
        have h3 : B a = true := h2
        rw [ih a hfy] at h3
        cases h3
/-- All that goes, as a list. -/
noncomputable def gl (O F : List Ut) : List Nm := by
  classical
  exact (O.map (·.n) ++ F.map (·.n)).filter (fun x => decide (Gone O F x))
theorem mem_gl {O F : List Ut} (x : Nm) : x ∈ gl O F ↔ Gone O F x := by
  classical
  unfold gl
  rw [List.mem_filter]
  constructor
  · rintro ⟨_, h⟩
    exact of_decide_eq_true h
  · intro h
    refine ⟨?_, decide_eq_true h⟩
    have hk := gone_kn h
    unfold knB at hk
    rw [List.mem_append]
    cases ho : fi O x with
    | some i => exact .inl (mem_names.2 ⟨i, ho⟩)
    | none =>
      rw [ho] at hk
      cases hf : fi F x with
      | some j => exact .inr (mem_names.2 ⟨j, hf⟩)
      | none => rw [hf] at hk; cases hk
/-- What the document's row of words says in the end. -/
theorem Jv.done {O F : List Ut} {B : Nat → Bool} (h : Jv O F B) (hx : ∀ q, q < F.length → B q = true → ∀ y ∈ (atU F q).r, gdB O F B y = true) {q : Nat} (hq : q < F.length) : B q = (decide (fi F (atU F q).n = some q) && decide ((atU F q).n ∉ gl O F)) := by
  cases hb : B q with
  | true =>
    obtain ⟨hf, _⟩ := h.up q hq hb
    have hn : (atU F q).n ∉ gl O F := fun hm => by
      have := h.fix hx ((mem_gl _).1 hm) q hf
      rw [hb] at this
      cases this
    simp [hf, hn]
  | false =>
    by_cases hf : fi F (atU F q).n = some q
    · by_cases hn : (atU F q).n ∈ gl O F
      · simp [hf, hn]
      · have := h.dn q hq hf (fun hg => hn ((mem_gl _).2 hg))
        rw [hb] at this
        cases this
    · simp [hf]
theorem stp_same {O : List Ut} {G G' : List Nm} (h : ∀ x, x ∈ G ↔ x ∈ G') (L : List (Nat × Nm)) : stp O G L = stp O G' L := by
  unfold stp
  congr 1
  refine List.filter_congr (fun p _ => ?_)
  have := h p.2
  simp [this]
theorem kp_same {F : List Ut} {G G' : List Nm} (h : ∀ x, x ∈ G ↔ x ∈ G') (k : Nat) : kp F G k = kp F G' k := by
  unfold kp
  congr 1
  funext i
  unfold kpAt
  have := h (atU F i).n
  simp [this]
theorem sa_same {F : List Ut} {G G' : List Nm} (h : ∀ x, x ∈ G ↔ x ∈ G') (k : Nat) : sa F G k = sa F G' k := by
  unfold sa
  congr 1
  funext i
  unfold saAt
  have := h (atU F i).n
  simp [this]
end Go.Proofs.YtcpeebkfnnkjnaaDoor.Tr
