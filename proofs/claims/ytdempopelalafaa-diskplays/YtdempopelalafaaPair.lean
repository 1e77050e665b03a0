/- The disk and the reference disk, both in hand; they share nothing. -/
import Derived.Test.YtdempopelalafaaSim2
import Derived.Test.YtdempopelalafaaMade
import Derived.Test.YtdempopelalafaaClone
import Derived.Test.YtdempopelalafaaWant
namespace Go.Proofs.Ytdempopelalafaa.Dk
open Go.RowKit

/-- A disk at p, a reference disk at q; none of their blocks is one of G, and they share none. -/
def Pr (G : Nat → Prop) (w : World) (p : Nat) (D : Dsk) (q : Nat) (R : RDk) : Prop := ∃ wv, RRep w q wv R ∧ (∀ k, G k → k < w.heap.size ∧ ¬ rfoot q wv k) ∧ Own (fun k => G k ∨ rfoot q wv k) w p D

section
variable {G : Nat → Prop} {w w' : World} {p q : Nat} {D D' : Dsk} {R R' : RDk}
theorem Pr.ok (h : Pr G w p D q R) : D.Ok := by
  obtain ⟨_, _, _, o⟩ := h
  exact o.ok
/-- What is done to the disk leaves the reference alone. -/
theorem Pr.disk (h : Pr G w p D q R) : ∃ F : Nat → Prop, Own (fun k => G k ∨ F k) w p D ∧
    ∀ w' D', Own (fun k => G k ∨ F k) w' p D' → Kp (fun k => G k ∨ F k) w w' → Pr G w' p D' q R ∧ Kp G w w' := by
  obtain ⟨wv, r, g, o⟩ := h
  refine ⟨rfoot q wv, o, fun w' D' o' kp => ⟨⟨wv, r.of_same (fun k hk => kp.block k (r.foot_lt k hk) (fun hn => hn (.inr hk))), fun k hk => ⟨Nat.lt_of_lt_of_le (g k hk).1 kp.size, (g k hk).2⟩, o'⟩, Kp.less kp (fun _ hk => .inl hk)⟩⟩
/-- What is done to the reference leaves the disk alone. -/
theorem Pr.ref (h : Pr G w p D q R) : ∃ wv, RRep w q wv R ∧ (∀ k, G k → ¬ rfoot q wv k) ∧ ∀ w' R', RDid q wv w R' w' → Pr G w' p D q R' ∧ Kp G w w' := by
  obtain ⟨wv, r, g, o⟩ := h
  refine ⟨wv, r, fun k hk => (g k hk).2, fun w' R' hd => ?_⟩
  obtain ⟨wv', r', hs, f⟩ := hd
  obtain ⟨bl, bn, lv, rd, gd⟩ := o
  have hnew : ∀ k, rfoot q wv' k → rfoot q wv k ∨ w.heap.size ≤ k := fun k hk => by
    rcases hk with hk | hk
    · exact .inl (.inl hk)
    · rcases hs k hk with h1 | h1
      · exact .inl (.inr h1)
      · exact .inr h1
  have hdis : ∀ k, foot p bl bn lv k → ¬ rfoot q wv k := fun k hk hr => (gd k (.inr hr)).2 hk
  refine ⟨⟨wv', r', fun k hk => ⟨Nat.lt_of_lt_of_le (g k hk).1 f.size, fun hr => ?_⟩, ⟨bl, bn, lv, rd.frame f hdis, fun k hk => ?_⟩⟩, f.mono (fun k hr hk => (g k hk).2 hr)⟩
  · rcases hnew k hr with h1 | h1
    · exact (g k hk).2 h1
    · have := (g k hk).1; omega
  · rcases hk with hk | hk
    · exact ⟨Nat.lt_of_lt_of_le (gd k (.inl hk)).1 f.size, (gd k (.inl hk)).2⟩
    · refine ⟨r'.foot_lt k hk, fun hf => ?_⟩
      rcases hnew k hk with h1 | h1
      · exact hdis k hf h1
      · have := rd.foot_lt k hf; omega
theorem Pr.fr0 (h : Pr G w p D q R) (f : Fr (fun _ => False) w w') : Pr G w' p D q R := by
  obtain ⟨wv, r, g, o⟩ := h
  exact ⟨wv, r.frame f (fun _ _ h => h), fun k hk => ⟨Nat.lt_of_lt_of_le (g k hk).1 f.size, (g k hk).2⟩, o.fr0 f⟩
theorem Pr.less {G' : Nat → Prop} (h : Pr G w p D q R) (hG : ∀ k, G' k → G k) : Pr G' w p D q R := by
  obtain ⟨wv, r, g, o⟩ := h
  exact ⟨wv, r, fun k hk => g k (hG k hk), o.less (fun k hk => hk.elim (fun h => .inl (hG k h)) .inr)⟩
/-- A block that was made behind is kept from here on. -/
theorem Pr.fr1 (h : Pr G w p D q R) (f : Fr (fun _ => False) w w') (bb : Nat) (h1 : w.heap.size ≤ bb) (h2 : bb < w'.heap.size) : Pr (fun j => G j ∨ j = bb) w' p D q R := by
  obtain ⟨wv, r, g, o⟩ := h
  refine ⟨wv, r.frame f (fun _ _ h => h), fun k hk => ?_, (o.fr1 f bb h1 h2).less (fun k hk => ?_)⟩
  · rcases hk with hk | rfl
    · exact ⟨Nat.lt_of_lt_of_le (g k hk).1 f.size, (g k hk).2⟩
    · exact ⟨h2, fun hr => by have := r.foot_lt _ hr; omega⟩
  · rcases hk with (hk | hk) | hk
    · exact .inl (.inl hk)
    · exact .inr hk
    · exact .inl (.inr hk)
theorem Pr.setG (h : Pr G w p D q R) {g : Nat} (hg : G g) (o : Nat) (vs : List Value) : Pr G (w.setCells g o vs) p D q R := by
  obtain ⟨wv, r, gg, ow⟩ := h
  refine ⟨wv, r.of_same (fun k hk => setCells_ne vs o w (fun e => (gg g hg).2 (e ▸ hk))), fun k hk => ⟨by rw [(setCells_misc g vs o w).2.2.2]; exact (gg k hk).1, (gg k hk).2⟩, ow.setG (.inl hg) o vs⟩
theorem RDid.of {wv : Value} (r : RRep w' q wv R') (f : Fr (rfoot q wv) w w') : RDid q wv w R' w' := ⟨wv, r, fun _ hk => .inl hk, f⟩
end

/-- Both, and they go together; k deeds were done at most. -/
structure Duo (G : Nat → Prop) (w : World) (p : Nat) (D : Dsk) (q : Nat) (R : RDk) (k : Nat) : Prop where
  pr : Pr G w p D q R
  sim : Sim D R
  len : RLen k R
section
variable {G : Nat → Prop} {w w' : World} {p q k : Nat} {D : Dsk} {R : RDk}
theorem Duo.sQ (h : Duo G w p D q R k) (hk : k < 1000) : D.Q.length < 1073741824 := by have := h.sim.qlen; have := h.len.w; omega
theorem Duo.sD (h : Duo G w p D q R k) (hk : k < 1000) : D.deeds < 1073741824 := by have := h.sim.done; have := h.len.d; omega
theorem Duo.sW (h : Duo G w p D q R k) (hk : k < 1000) : R.ws.length < 1073741824 := by have := h.len.w; omega
theorem Duo.sR (h : Duo G w p D q R k) (hk : k < 1000) : R.done < 1073741824 := by have := h.len.d; omega
theorem Duo.fr0 (h : Duo G w p D q R k) (f : Fr (fun _ => False) w w') : Duo G w' p D q R k := ⟨h.pr.fr0 f, h.sim, h.len⟩
end

end Go.Proofs.Ytdempopelalafaa.Dk
