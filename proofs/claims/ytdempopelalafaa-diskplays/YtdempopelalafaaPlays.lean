/- What the law of DiskPlays needs besides. -/
import Derived.Test.YtdempopelalafaaStepWrite
import Derived.Test.YtdempopelalafaaTight
namespace Go.Proofs.Ytdempopelalafaa.Dk
open Go.RowKit

theorem Duo.more {G : Nat → Prop} {w : World} {p q k k' : Nat} {D : Dsk} {R : RDk} (h : Duo G w p D q R k) (hk : k ≤ k') : Duo G w p D q R k' := ⟨h.pr, h.sim, h.len.more hk⟩
theorem StepPost.more {G : Nat → Prop} {w w' : World} {p q k k' : Nat} {e : Ending} (h : StepPost G w p q k e w') (hk : k ≤ k') : StepPost G w p q k' e w' := by
  obtain ⟨D, R, e1, d, kp⟩ := h
  exact ⟨D, R, e1, d.more hk, kp⟩

theorem step_any {G : Nat → Prop} {w : World} {p q k : Nat} {D : Dsk} {R : RDk} (h : Duo G w p D q R k) (hk : k < 1000) {lb o : Nat} {x : OpR} (hx : OpAt w lb o x) (hs : x.bytes.length ≤ 140737488351232) :
    Calls Try.prog 16 #[pv p, pv q, x.val] w fun e w' => StepPost G w p q (k + 1) e w' := by
  have up : ∀ {e w'}, StepPost G w p q k e w' → StepPost G w p q (k + 1) e w' := fun h => h.more (Nat.le_succ _)
  by_cases h0 : x.kind = 0
  · exact step_write h hk x h0 hx.c0 hs hx.src
  by_cases h1 : x.kind = 1
  · have := step_flush h hk x
    unfold OpR.val
    rwa [h1]
  by_cases h2 : x.kind = 2
  · have := (step_read h hk x).mono fun _ _ h => up h
    unfold OpR.val
    rwa [h2]
  by_cases h3 : x.kind = 3
  · have := (step_arm h hk x hx.a0.2 hx.k0).mono fun _ _ h => up h
    unfold OpR.val
    rwa [h3]
  by_cases h4 : x.kind = 4
  · have := (step_crash h hk x hx.k0).mono fun _ _ h => up h
    unfold OpR.val
    rwa [h4]
  by_cases h5 : x.kind = 5
  · have := (step_start h x).mono fun _ _ h => up h
    unfold OpR.val
    rwa [h5]
  exact (step_ask h hk x h0 h1 h2 h3 h4 h5).mono fun _ _ h => up h

/-- What is done to the disk leaves the reference alone, whichever disk goes on. -/
theorem Pr.other {G : Nat → Prop} {w : World} {p q : Nat} {D : Dsk} {R : RDk} (h : Pr G w p D q R) : ∃ F : Nat → Prop, Own (fun k => G k ∨ F k) w p D ∧
    ∀ w' p' D', Own (fun k => G k ∨ F k) w' p' D' → Kp (fun k => G k ∨ F k) w w' → Pr G w' p' D' q R ∧ Kp G w w' := by
  obtain ⟨wv, r, g, o⟩ := h
  refine ⟨rfoot q wv, o, fun w' p' D' o' kp => ⟨⟨wv, r.of_same (fun k hk => kp.block k (r.foot_lt k hk) (fun hn => hn (.inr hk))), fun k hk => ⟨Nat.lt_of_lt_of_le (g k hk).1 kp.size, (g k hk).2⟩, o'⟩, Kp.less kp (fun _ hk => .inl hk)⟩⟩

theorem deed_len (D : Dsk) : D.deed.Q.length ≤ D.Q.length ∧ D.deed.deeds ≤ D.deeds + 1 := by
  unfold Dsk.deed
  split
  · exact ⟨by simp [Dsk.fail], by simp [Dsk.fail]⟩
  · exact ⟨Nat.le_refl _, Nat.le_refl _⟩
theorem write_len (D : Dsk) (i : Int) (b : List UInt8) : (D.write i b).Q.length ≤ D.Q.length + 1 ∧ (D.write i b).deeds ≤ D.deeds + 1 := by
  have h := deed_len D
  unfold Dsk.write
  split
  · omega
  · split
    · omega
    · split
      · exact ⟨by simp [Dsk.written]; omega, h.2⟩
      · omega
theorem flush_len (D : Dsk) : D.flush.Q.length ≤ D.Q.length := by
  have h := deed_len D
  unfold Dsk.flush
  split
  · omega
  · split
    · simp [Dsk.flushed]
    · exact h.1
theorem arm_len (D : Dsk) (a : Int) (k : Nat) : (D.arm a k).Q = D.Q ∧ (D.arm a k).deeds = D.deeds := by
  unfold Dsk.arm
  split
  · exact ⟨rfl, rfl⟩
  · split
    · exact ⟨rfl, rfl⟩
    · exact ⟨rfl, rfl⟩

/-- The two that are made. -/
theorem Duo.made {G : Nat → Prop} {w w' : World} {p n : Nat} (h : Own G w p (Dsk.new n)) (r : RRep w' w.heap.size (.slice none 0 0) (RDk.new n)) (f : Fr (fun _ => False) w w') : Duo G w' p (Dsk.new n) w.heap.size (RDk.new n) 0 := by
  have o := h.fr1 f w.heap.size (Nat.le_refl _) r.hp.lt
  have e : ∀ k, rfoot w.heap.size (.slice none 0 0) k → k = w.heap.size := fun k hk => by
    rcases hk with hk | hk
    · exact hk
    · cases hk
  refine ⟨⟨_, r, fun k hk => ?_, o.less (fun k hk => hk.elim .inl (fun h => .inr (e k h)))⟩, Sim.new n, RLen.new n⟩
  obtain ⟨bl, bn, lv, rr, g⟩ := h
  have hk1 := (g k hk).1
  exact ⟨Nat.lt_of_lt_of_le hk1 f.size, fun hr => by have := e k hr; omega⟩

end Go.Proofs.Ytdempopelalafaa.Dk
