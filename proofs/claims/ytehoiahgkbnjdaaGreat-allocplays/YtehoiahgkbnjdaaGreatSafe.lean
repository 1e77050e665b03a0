
/- Whatever fails: what every image that may be left has in common is kept by writes that keep it. Plain; nothing here speaks of the Go text. -/
import Derived.Test.YtehoiahgkbnjdaaGreatModel
import Derived.Test.YtehoiahgkbnjdaaGreatCalm
import Derived.Test.YtehoiahgkbnjdaaGreatTak
namespace Go.Proofs.YtehoiahgkbnjdaaGreat.Wl
open Go.RowKit Dk

/-- Every image that a loss of power may leave has A. -/
structure DI (A : Sec → Prop) (D : Dsk) : Prop where
  now : D.N = settleTo ones D.Q D.L D.Q.length
  safe : ∀ keep, A (settleTo keep D.Q D.L D.Q.length)

section
variable {A B : Sec → Prop} {D : Dsk}
theorem DI.N (h : DI A D) : A D.N := by rw [h.now]; exact h.safe ones
theorem DI.fail (h : DI A D) (k : Nat) : DI A (D.fail k) := ⟨rfl, fun _ => h.safe k⟩
theorem DI.mono (h : DI A D) (hAB : ∀ N, A N → B N) : DI B D := ⟨h.now, fun k => hAB _ (h.safe k)⟩
theorem DI.deed (h : DI A D) : DI A D.deed := by
  unfold Dsk.deed
  split
  · exact h.fail _
  · exact ⟨h.now, h.safe⟩
theorem DI.write (h : DI A D) (i : Nat) (b : Sec) (hA : ∀ N, A N → A (splice N (i * 128) b)) : DI A (D.write (i : Int) b) := by
  unfold Dsk.write
  split
  · exact h
  · split
    · exact h
    · split
      · have hd := h.deed
        refine ⟨?_, fun keep => ?_⟩
        · show splice D.deed.N (i * 128) b = settleTo ones (D.deed.Q ++ [(i, b)]) D.deed.L (D.deed.Q ++ [(i, b)]).length
          rw [settle_push, settle1, ones_bit, if_pos rfl, ← hd.now]
        · show A (settleTo keep (D.deed.Q ++ [(i, b)]) D.deed.L (D.deed.Q ++ [(i, b)]).length)
          rw [settle_push, settle1]
          split
          · exact hA _ (hd.safe keep)
          · exact hd.safe keep
      · exact h.deed
theorem DI.flush (h : DI A D) : DI A D.flush := by
  unfold Dsk.flush
  split
  · exact h
  · split
    · have hd := h.deed
      exact ⟨hd.now, fun _ => hd.safe ones⟩
    · exact h.deed
end

/-- Nothing is loose. -/
structure Still (D : Dsk) : Prop where
  up : D.up = true
  q : D.Q = []
  l : D.L = D.N
theorem Still.di {A : Sec → Prop} {D : Dsk} (h : Still D) (hA : A D.N) : DI A D := by
  have e : ∀ keep, settleTo keep D.Q D.L D.Q.length = D.N := fun keep => by rw [h.q, h.l]; rfl
  exact ⟨(e ones).symm, fun k => by rw [e]; exact hA⟩

/-- A deed is done, or power fails. -/
theorem deed_cases (D : Dsk) : (D.deedE = 0 ∧ D.deed.up = D.up ∧ D.deed.bound = D.bound ∧ D.deed.n = D.n ∧ D.deed.N = D.N ∧ D.deed.L = D.L ∧ D.deed.Q = D.Q) ∨ (D.deedE = 41 ∧ D.deed.up = false ∧ D.bound = true ∧ D.deed.n = D.n) := by
  unfold Dsk.deedE Dsk.deed
  by_cases h : D.bound = true ∧ D.after = 0
  · rw [if_pos h, if_pos h]
    exact .inr ⟨rfl, rfl, h.1, rfl⟩
  · rw [if_neg h, if_neg h]
    exact .inl ⟨rfl, rfl, rfl, rfl, rfl, rfl, rfl⟩
theorem write_cases {D : Dsk} (hu : D.up = true) (i : Nat) (hi : i < D.n) (b : Sec) (hb : b.length = 128) :
    (D.writeE (i : Int) 128 = 0 ∧ (D.write (i : Int) b).up = true ∧ (D.write (i : Int) b).bound = D.bound ∧ (D.write (i : Int) b).n = D.n ∧ (D.write (i : Int) b).N = splice D.N (i * 128) b) ∨
    (D.writeE (i : Int) 128 = 41 ∧ (D.write (i : Int) b).up = false ∧ D.bound = true ∧ (D.write (i : Int) b).n = D.n) := by
  have hr : D.reach (i : Int) = 0 := by unfold Dsk.reach; rw [hu]; simp; omega
  have e1 : D.writeE (i : Int) 128 = D.deedE := by simp [Dsk.writeE, hr]
  rcases deed_cases D with ⟨h1, h2, h3, h4, h5, h6, h7⟩ | ⟨h1, h2, h3, h4⟩
  · have e2 : D.write (i : Int) b = D.written i b := by simp [Dsk.write, hr, hb, h1]
    rw [e1, e2]
    refine .inl ⟨h1, by show D.deed.up = true; rw [h2, hu], h3, h4, ?_⟩
    show splice D.deed.N (i * 128) b = _
    rw [h5]
  · have e2 : D.write (i : Int) b = D.deed := by simp [Dsk.write, hr, hb, h1]
    rw [e1, e2]
    exact .inr ⟨h1, h2, h3, h4⟩
theorem flush_cases {D : Dsk} (hu : D.up = true) (hn : D.N = settleTo ones D.Q D.L D.Q.length) :
    (D.flushE = 0 ∧ Still D.flush ∧ D.flush.bound = D.bound ∧ D.flush.n = D.n ∧ D.flush.N = D.N) ∨
    (D.flushE = 41 ∧ D.flush.up = false ∧ D.bound = true ∧ D.flush.n = D.n) := by
  have e1 : D.flushE = D.deedE := by simp [Dsk.flushE, hu]
  rcases deed_cases D with ⟨h1, h2, h3, h4, h5, h6, h7⟩ | ⟨h1, h2, h3, h4⟩
  · have e2 : D.flush = D.flushed := by simp [Dsk.flush, hu, h1]
    rw [e1, e2]
    refine .inl ⟨h1, ⟨by show D.deed.up = true; rw [h2, hu], rfl, ?_⟩, h3, h4, h5⟩
    show settleTo ones D.deed.Q D.deed.L D.deed.Q.length = D.deed.N
    rw [h5, h6, h7, ← hn]
  · have e2 : D.flush = D.deed := by simp [Dsk.flush, hu, h1]
    rw [e1, e2]
    exact .inr ⟨h1, h2, h3, h4⟩

/-- A new control: all that is left is the old, or the new. -/
theorem set_safe {A A1 B : Sec → Prop} {D : Dsk} (hA : DI A D) (hu : D.up = true) (h1 : A1 D.N) (f : Nat) (hf : f < D.n) (s : Sec) (hs : s.length = 128) (hAB : ∀ N, A1 N → B (splice N (f * 128) s)) (hBB : ∀ N, B N → B (splice N (f * 128) s)) (hA1 : ∀ N, A1 N → A N) :
    (setE D f s = 0 ∧ Still (setD D f s) ∧ (setD D f s).bound = D.bound ∧ (setD D f s).n = D.n ∧ B (setD D f s).N ∧ (setD D f s).N = splice D.N (f * 128) s) ∨
    (setE D f s = 41 ∧ (setD D f s).up = false ∧ D.bound = true ∧ (setD D f s).n = D.n ∧ DI (fun N => A N ∨ B N) (setD D f s)) := by
  unfold setE setD
  rcases flush_cases hu hA.now with ⟨a1, a2, a3, a4, a5⟩ | ⟨a1, a2, a3, a4⟩
  · have hF : DI (fun N => A1 N ∨ B N) D.flush := a2.di (by rw [a5]; exact .inl h1)
    have hW := hF.write f s (fun N hN => .inr (hN.elim (hAB N) (hBB N)))
    rcases write_cases a2.up f (by rw [a4]; exact hf) s hs with ⟨b1, b2, b3, b4, b5⟩ | ⟨b1, b2, b3, b4⟩
    · rcases flush_cases b2 hW.now with ⟨c1, c2, c3, c4, c5⟩ | ⟨c1, c2, c3, c4⟩
      · refine .inl ?_
        simp only [a1, b1, c1, ne_eq, not_true_eq_false, if_false]
        refine ⟨trivial, c2, by rw [c3, b3, a3], by rw [c4, b4, a4], ?_, by rw [c5, b5, a5]⟩
        rw [c5, b5, a5]
        exact hAB _ h1
      · refine .inr ?_
        simp only [a1, b1, c1, ne_eq, not_true_eq_false, if_false]
        refine ⟨trivial, c2, by rw [← a3, ← b3, c3], by rw [c4, b4, a4], ?_⟩
        exact hW.flush.mono (fun N hN => hN.imp (hA1 N) id)
    · refine .inr ?_
      simp only [a1, b1, ne_eq, not_true_eq_false, if_false]
      refine ⟨by simp, ?_⟩
      rw [if_pos (by decide)]
      exact ⟨b2, by rw [← a3, b3], by rw [b4, a4], hW.mono (fun N hN => hN.imp (hA1 N) id)⟩
  · refine .inr ?_
    simp only [a1]
    rw [if_pos (by decide), if_pos (by decide)]
    exact ⟨rfl, a2, a3, a4, hA.flush.mono (fun N hN => .inl hN)⟩

/-- The writes of m, each of which keeps A. -/
theorem wrs_safe {A : Sec → Prop} : ∀ (m : SMap) (D : Dsk), DI A D → D.up = true → D.N.length = D.n * 128 → Srt m → (∀ q ∈ m, q.1 < D.n ∧ q.2.length = 128 ∧ ∀ N, A N → A (splice N (q.1 * 128) q.2)) →
    ((wrs D m).2 = 0 ∧ (wrs D m).1.up = true ∧ (wrs D m).1.bound = D.bound ∧ (wrs D m).1.n = D.n ∧ DI A (wrs D m).1 ∧ (wrs D m).1.N.length = D.n * 128 ∧ ∀ j, j < D.n → sec (wrs D m).1.N j = match get m j with | some s => s | none => sec D.N j) ∨
    ((wrs D m).2 = 41 ∧ (wrs D m).1.up = false ∧ D.bound = true ∧ (wrs D m).1.n = D.n ∧ DI A (wrs D m).1)
  | [], D, h, hu, hl, _, _ => .inl ⟨rfl, hu, rfl, rfl, h, hl, fun _ _ => rfl⟩
  | q :: r, D, h, hu, hl, hs, hq => by
    have hr := List.pairwise_cons.1 hs
    obtain ⟨q1, q2, q3⟩ := hq q (.head _)
    have hW := h.write q.1 q.2 q3
    rcases write_cases hu q.1 q1 q.2 q2 with ⟨b1, b2, b3, b4, b5⟩ | ⟨b1, b2, b3, b4⟩
    · have e : wrs D (q :: r) = wrs (D.write (q.1 : Int) q.2) r := by simp [wrs, b1]
      have hl2 : (D.write (q.1 : Int) q.2).N.length = (D.write (q.1 : Int) q.2).n * 128 := by
        rw [b5, b4, splice, List.length_append, List.length_append, List.length_take, List.length_drop, q2, hl]; omega
      have ih := wrs_safe r (D.write (q.1 : Int) q.2) hW b2 hl2 hr.2 (fun x hx => by rw [b4]; exact hq x (.tail _ hx))
      rw [e]
      rw [b3, b4] at ih
      rcases ih with ⟨c1, c2, c3, c4, c5, c6, c7⟩ | ih
      · refine .inl ⟨c1, c2, c3, c4, c5, c6, fun j hj => ?_⟩
        rw [c7 j hj, b5, sec_splice _ _ D.n q.1 j hl q1 hj q2]
        by_cases hjq : j = q.1
        · subst hjq
          rw [get_none_of_lt r hr.1]
          simp [get]
        · simp [get, Ne.symm hjq, hjq]
      · exact .inr ih
    · have e : wrs D (q :: r) = (D.write (q.1 : Int) q.2, 41) := by simp [wrs, b1]
      rw [e]
      exact .inr ⟨rfl, b2, b3, b4, hW⟩

/-- The places from u on are filled; each such write keeps A. -/
theorem puts_safe {A : Sec → Prop} (f : Nat) : ∀ (a : List Sec) (D : Dsk) (u p : Nat), DI A D → D.up = true → D.N.length = D.n * 128 → f + 1 + u + a.length ≤ D.n → (∀ s ∈ a, s.length = 128) →
    (∀ k s, u ≤ k → k < u + a.length → s.length = 128 → ∀ N, A N → A (splice N ((f + 1 + k) * 128) s)) →
    ((puts D f u p a).2.2.2 = 0 ∧ (puts D f u p a).1.up = true ∧ (puts D f u p a).1.bound = D.bound ∧ (puts D f u p a).1.n = D.n ∧ DI A (puts D f u p a).1 ∧ (puts D f u p a).1.N.length = D.n * 128 ∧
      (∀ k (hk : k < a.length), sec (puts D f u p a).1.N (f + 1 + u + k) = a[k]) ∧ ∀ j, j < D.n → (j < f + 1 + u ∨ f + 1 + u + a.length ≤ j) → sec (puts D f u p a).1.N j = sec D.N j) ∨
    ((puts D f u p a).2.2.2 = 41 ∧ (puts D f u p a).1.up = false ∧ D.bound = true ∧ (puts D f u p a).1.n = D.n ∧ DI A (puts D f u p a).1)
  | [], D, u, p, h, hu, hl, _, _, _ => .inl ⟨rfl, hu, rfl, rfl, h, hl, fun k hk => absurd hk (by simp), fun _ _ _ => rfl⟩
  | s :: r, D, u, p, h, hu, hl, hr, hs, hk => by
    simp only [List.length_cons] at hr hk
    have hi : f + 1 + u < D.n := by omega
    have hs0 := hs s (.head _)
    have hW := h.write (f + 1 + u) s (hk u s (Nat.le_refl _) (by omega) hs0)
    rcases write_cases hu (f + 1 + u) hi s hs0 with ⟨b1, b2, b3, b4, b5⟩ | ⟨b1, b2, b3, b4⟩
    · have e : puts D f u p (s :: r) = puts (D.write ((f + 1 + u : Nat) : Int) s) f (u + 1) (upd p s) r := by
        simp only [puts]
        rw [if_neg (by simpa using b1)]
      have hl2 : (D.write ((f + 1 + u : Nat) : Int) s).N.length = (D.write ((f + 1 + u : Nat) : Int) s).n * 128 := by
        rw [b5, b4, splice, List.length_append, List.length_append, List.length_take, List.length_drop, hs0, hl]; omega
      have ih := puts_safe f r (D.write ((f + 1 + u : Nat) : Int) s) (u + 1) (upd p s) hW b2 hl2 (by rw [b4]; omega) (fun x hx => hs x (.tail _ hx)) (fun k s' h1 h2 => hk k s' (by omega) (by omega))
      rw [e]
      rw [b3, b4] at ih
      rcases ih with ⟨c1, c2, c3, c4, c5, c6, c7, c8⟩ | ih
      · refine .inl ⟨c1, c2, c3, c4, c5, c6, fun k hk' => ?_, fun j hj hjj => ?_⟩
        · cases k with
          | zero =>
            show sec _ (f + 1 + u) = s
            rw [c8 _ hi (by omega), b5, sec_splice _ _ D.n _ _ hl hi hi hs0, if_pos rfl]
          | succ k =>
            have := c7 k (by simpa using hk')
            rw [show f + 1 + u + (k + 1) = f + 1 + (u + 1) + k by omega, this]
            rfl
        · simp only [List.length_cons] at hjj
          rw [c8 j hj (by omega), b5, sec_splice _ _ D.n _ _ hl hi hj hs0, if_neg (by omega)]
      · exact .inr ih
    · have e : puts D f u p (s :: r) = (D.write ((f + 1 + u : Nat) : Int) s, u, p, 41) := by
        simp only [puts]
        rw [if_pos (by rw [b1]; decide), b1]
      rw [e]
      exact .inr ⟨rfl, b2, b3, b4, hW⟩

end Go.Proofs.YtehoiahgkbnjdaaGreat.Wl
