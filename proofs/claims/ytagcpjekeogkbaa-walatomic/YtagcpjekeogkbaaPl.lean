/- What a played log is: plain facts of Stage, Commit, Home, Drop on a disk that is not bound. -/
import Derived.Test.YtagcpjekeogkbaaImg
import Derived.Test.YtagcpjekeogkbaaHms
import Derived.Test.YtagcpjekeogkbaaOps
namespace Go.Proofs.Ytagcpjekeogkbaa.Wl
open Go.RowKit Dk

/-- A log that tells T, of what is staged apart; nothing is loose. -/
structure PI (n m : Nat) (T : Nat → Sec) (D : Dsk) (L : Lg) : Prop where
  a : Asks n D L
  lm : ∃ ms, Lm ms T D L
  c : cost L.st.length ≤ n - 1
  nb : D.bound = false
  sm : Sm D m

theorem PI.le {n m m' : Nat} {T : Nat → Sec} {D : Dsk} {L : Lg} (h : PI n m T D L) (hm : m' ≤ m) : PI n m' T D L := { h with sm := h.sm.le hm }
theorem PI.lg {n m : Nat} {T : Nat → Sec} {D : Dsk} {L : Lg} (h : PI n m T D L) : L.lg.length ≤ n - 1 := by
  obtain ⟨ms, hm⟩ := h.lm
  have := fold_len ms [] List.Pairwise.nil
  have h2 := hm.tel.i.le
  rw [h.a.ln] at h2
  rw [hm.lg]
  simp only [List.length_nil] at this
  show (ms.foldl merge []).length ≤ _
  omega
theorem cost_le {m n : Nat} (h : cost m ≤ n) : m ≤ n := by unfold cost at h; omega

/-- What is told: as staged, else as committed. -/
theorem Lm.tell {ms : List SMap} {T : Nat → Sec} {D : Dsk} {L : Lg} (h : Lm ms T D L) (k : Nat) (hk : L.home k) : L.tell D k = over L.st T k := by
  unfold Lg.tell over
  rw [← h.tel.t k hk.1 hk.2, h.lg]
  rfl
theorem PI.cat {n m : Nat} {T : Nat → Sec} {D : Dsk} {L : Lg} (h : PI n m T D L) : cat (L.tell D) n 24 = cat (over L.st T) n 24 := by
  obtain ⟨ms, hm⟩ := h.lm
  refine cat_congr (fun i hi => hm.tell _ ⟨?_, ?_⟩)
  · rw [h.a.z]; omega
  · rw [h.a.f, h.a.ln]; omega
theorem over_nil (T : Nat → Sec) : over [] T = T := rfl

theorem PI.stage {n m : Nat} {T : Nat → Sec} {D : Dsk} {L : Lg} (h : PI n m T D L) (hs : Srt L.st) (k : Nat) (hk : k < 24) (b : Sec) (hb : b.length = 128) :
    (L.stageE ((n + k : Nat) : Int) 128 = 0 ∨ L.stageE ((n + k : Nat) : Int) 128 = 45) ∧ PI n m T D (L.stage ((n + k : Nat) : Int) b) := by
  have hr := h.a.reach k hk
  have hc := h.c
  by_cases hq : (get L.st (n + k)).isSome = false ∧ L.n - 1 < cost (L.st.length + 1)
  · have e : L.stageE ((n + k : Nat) : Int) 128 = 45 := by
      unfold Lg.stageE
      rw [hr, Int.toNat_natCast, if_pos hq]
      rfl
    refine ⟨.inr e, ?_⟩
    unfold Lg.stage
    rw [hb, e, if_neg (by decide)]
    exact h
  · have e : L.stageE ((n + k : Nat) : Int) 128 = 0 := by
      unfold Lg.stageE
      rw [hr, Int.toNat_natCast, if_neg hq]
      rfl
    refine ⟨.inl e, ?_⟩
    unfold Lg.stage
    rw [hb, if_pos e, Int.toNat_natCast]
    refine ⟨⟨h.a.up, h.a.dead, h.a.f, h.a.ln, h.a.z⟩, ?_, ?_, h.nb, h.sm⟩
    · obtain ⟨ms, hm⟩ := h.lm
      exact ⟨ms, hm.still, hm.tel, hm.lg, hm.u, hm.p, hm.hn⟩
    · show cost (ins (n + k) b L.st).length ≤ n - 1
      rw [length_ins _ _ _ hs]
      split
      · exact hc
      · rename_i hg
        rw [h.a.ln] at hq
        have : (get L.st (n + k)).isSome = false := by simpa using hg
        rw [this] at hq
        exact Nat.not_lt.1 (fun hlt => hq ⟨rfl, hlt⟩)
theorem PI.drop {n m : Nat} {T : Nat → Sec} {D : Dsk} {L : Lg} (h : PI n m T D L) : PI n m T D L.drop :=
  ⟨⟨h.a.up, h.a.dead, h.a.f, h.a.ln, h.a.z⟩, by obtain ⟨ms, hm⟩ := h.lm; exact ⟨ms, hm.still, hm.tel, hm.lg, hm.u, hm.p, hm.hn⟩, by show cost 0 ≤ n - 1; unfold cost; omega, h.nb, h.sm⟩

theorem comD_sm {D : Dsk} {L : Lg} {m : Nat} (h : Sm D (m + 3 + cost L.st.length + 3 + L.lg.length)) : Sm (comD D L) m := by
  have h0 : Sm (com0D D L) (m + 3 + cost L.st.length) := by
    unfold com0D
    split
    · exact HomD_sm h
    · exact h.le (by omega)
  have h1 : Sm (com1 D L).1 (m + 3) := puts_sm _ _ _ _ _ _ (by rw [allRows_length]; exact h0)
  unfold comD
  split
  · exact h0.le (by omega)
  · split
    · exact h1.le (by omega)
    · exact setD_sm _ _ h1

/-- Commit of a played log, whatever it is bound to: done, or power has failed. -/
theorem commit_cases {n m : Nat} {T : Nat → Sec} {D : Dsk} {L : Lg} (a : Asks n D L) (lm : ∃ ms, Lm ms T D L) (c : cost L.st.length ≤ n - 1) (ok : L.Ok) (hsl : Srt L.lg) (hs : Srt L.st) (hq : ∀ q ∈ L.st, q.2.length = 128) (hlg : L.lg.length ≤ n - 1) (sm : Sm D (m + 600)) :
    (CommitE D L = 0 ∧ Asks n (CommitD D L) (CommitL D L) ∧ (∃ ms, Lm ms (over L.st T) (CommitD D L) (CommitL D L)) ∧ (CommitL D L).st = [] ∧ (CommitD D L).bound = D.bound ∧ Sm (CommitD D L) m) ∨
    (CommitE D L = 41 ∧ Off D.bound D.n (CommitD D L) ∧ DI (fun N => Rec L.f L.n L.z T N ∨ Rec L.f L.n L.z (over L.st T) N) (CommitD D L) ∧ Sm (CommitD D L) m) := by
  obtain ⟨ms, hm⟩ := lm
  have hn2 := ok.n2
  rw [a.ln] at hn2
  unfold CommitE CommitD CommitL
  simp only [a.dead, Bool.false_eq_true, if_false]
  by_cases h0 : L.st = []
  · simp only [h0, if_true]
    exact .inl ⟨trivial, a, ⟨ms, hm⟩, trivial, trivial, sm.le (by omega)⟩
  · simp only [h0, if_false]
    have hsm : Sm (comD D L) m := comD_sm (sm.le (by omega))
    rcases com_safe hm ok hsl hs hq (by rw [a.ln]; exact c) with ⟨b1, ⟨ms', b2⟩, b3, b4, b5, b6, b7, b8⟩ | ⟨b1, b2, b3⟩
    · have e : (comL D L).noted (comE D L) = comL D L := by rw [b1]; simp [Lg.noted]
      rw [e]
      exact .inl ⟨b1, ⟨b2.still.up, by rw [b8]; exact a.dead, by rw [b4]; exact a.f, by rw [b5]; exact a.ln, by rw [b6]; exact a.z⟩, ⟨ms', b2⟩, b7, b3, hsm⟩
    · exact .inr ⟨b1, b2, b3, hsm⟩
theorem PI.commit {n m : Nat} {T : Nat → Sec} {D : Dsk} {L : Lg} (h : PI n (m + 600) T D L) (ok : L.Ok) (hsl : Srt L.lg) (hs : Srt L.st) (hq : ∀ q ∈ L.st, q.2.length = 128) :
    CommitE D L = 0 ∧ (∃ T', PI n m T' (CommitD D L) (CommitL D L)) := by
  rcases commit_cases h.a h.lm h.c ok hsl hs hq h.lg h.sm with ⟨a1, a2, a3, a4, a5, a6⟩ | ⟨_, a2, _⟩
  · exact ⟨a1, _, a2, a3, by rw [a4]; show cost 0 ≤ n - 1; unfold cost; omega, by rw [a5]; exact h.nb, a6⟩
  · have := a2.b
    rw [h.nb] at this
    cases this

theorem home_cases {n m : Nat} {T : Nat → Sec} {D : Dsk} {L : Lg} (a : Asks n D L) (lm : ∃ ms, Lm ms T D L) (ok : L.Ok) (hsl : Srt L.lg) (hlg : L.lg.length ≤ n - 1) (sm : Sm D (m + 600)) :
    (HomeE D L = 0 ∧ Asks n (HomeD D L) (HomeL D L) ∧ Lm [] T (HomeD D L) (HomeL D L) ∧ (HomeL D L).st = L.st ∧ (HomeD D L).bound = D.bound ∧ Sm (HomeD D L) m) ∨
    (HomeE D L = 41 ∧ Off D.bound D.n (HomeD D L) ∧ DI (Rec L.f L.n L.z T) (HomeD D L) ∧ Sm (HomeD D L) m) := by
  obtain ⟨ms, hm⟩ := lm
  have hn2 := ok.n2
  rw [a.ln] at hn2
  unfold HomeE HomeD HomeL
  simp only [a.dead, Bool.false_eq_true, if_false]
  by_cases h0 : L.u = 0
  · simp only [h0, if_true]
    have e : ms = [] := flat_nil (by rw [← hm.u]; exact h0)
    subst e
    exact .inl ⟨trivial, a, hm, trivial, trivial, sm.le (by omega)⟩
  · simp only [h0, if_false]
    have hsm : Sm (HomD D L) m := HomD_sm (sm.le (by omega))
    rcases hom_safe hm ok hsl with ⟨b1, b2, b3, b4⟩ | ⟨b1, b2, b3, b4⟩
    · have e : (HomL D L).noted (HomE D L) = L.homed := by rw [b1, b4]; simp [Lg.noted]
      rw [e]
      exact .inl ⟨b1, ⟨b2.still.up, a.dead, a.f, a.ln, a.z⟩, b2, rfl, b3, hsm⟩
    · exact .inr ⟨b1, b2, b3, hsm⟩
theorem PI.home {n m : Nat} {T : Nat → Sec} {D : Dsk} {L : Lg} (h : PI n (m + 600) T D L) (ok : L.Ok) (hsl : Srt L.lg) :
    HomeE D L = 0 ∧ PI n m T (HomeD D L) (HomeL D L) ∧ Lm [] T (HomeD D L) (HomeL D L) := by
  rcases home_cases h.a h.lm ok hsl h.lg h.sm with ⟨a1, a2, a3, a4, a5, a6⟩ | ⟨_, a2, _⟩
  · exact ⟨a1, ⟨a2, ⟨_, a3⟩, by rw [a4]; exact h.c, by rw [a5]; exact h.nb, a6⟩, a3⟩
  · have := a2.b
    rw [h.nb] at this
    cases this

/-- A new log. -/
theorem PI.new (n : Nat) (hn : 4 ≤ n) (hn2 : n ≤ 255) : PI n 100000 (fun _ => zeros) (fmtD (Dsk.new (n + 24)) 0) (Lg.new 0 n (n + 24) 1) := by
  have hc := new_calm (n + 24)
  have b0 := write_cases hc.up 0 (by simp [Dsk.new]) (ctl 1 0 beg) (ctl_length _ _ _)
  have hS : Still (Dsk.new (n + 24)) := ⟨rfl, rfl, rfl⟩
  have hW := (hS.di (A := fun _ => True) trivial).write 0 (ctl 1 0 beg) (fun _ _ => trivial)
  have e : fmtD (Dsk.new (n + 24)) 0 = ((Dsk.new (n + 24)).write ((0 : Nat) : Int) (ctl 1 0 beg)).flush := by
    have b1 := writeE_calm hc 0 (by simp [Dsk.new])
    simp only [fmtD, b1, ne_eq, not_true_eq_false, if_false]
  rcases b0 with ⟨b1, b2, b3, b4, b5⟩ | ⟨_, _, b3, _⟩
  · rcases flush_cases b2 hW.now with ⟨c1, c2, c3, c4, c5⟩ | ⟨_, _, c3, _⟩
    · rw [← e] at c2 c3 c4 c5
      have hN : (fmtD (Dsk.new (n + 24)) 0).N = splice (Dsk.new (n + 24)).N (0 * 128) (ctl 1 0 beg) := by rw [c5, b5]
      have ht : Tel 0 n (n + 24) 1 [] (fun _ => zeros) (splice (Dsk.new (n + 24)).N (0 * 128) (ctl 1 0 beg)) := by
        refine Tel.set (f := 0) (n := n) (z := n + 24) (N := (Dsk.new (n + 24)).N) ⟨hn, hn2, by omega, by omega⟩ hc.ln [] 1 _ (fun k hk => absurd hk (by simp [flat])) (fun m hm => by cases hm) (Nat.zero_le _) (fun k hk _ => ?_)
        exact sec_new _ _ hk
      refine ⟨⟨c2.up, rfl, rfl, rfl, rfl⟩, ⟨[], c2, by rw [hN]; exact ht, rfl, rfl, rfl, by rw [c4, b4]; rfl⟩, by show cost 0 ≤ n - 1; unfold cost; omega, by rw [c3, b3]; rfl, ?_⟩
      rw [e]
      exact Sm.flush (Sm.write ⟨by simp [Dsk.new], by simp [Dsk.new]⟩ _ _)
    · rw [b3] at c3; cases c3
  · cases b3

end Go.Proofs.Ytagcpjekeogkbaa.Wl
