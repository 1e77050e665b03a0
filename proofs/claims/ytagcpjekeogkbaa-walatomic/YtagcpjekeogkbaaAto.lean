/- All or nothing, in plain words: what a disk that lost its power within a commit, or within a home, has. -/
import Derived.Test.YtagcpjekeogkbaaOpt
namespace Go.Proofs.Ytagcpjekeogkbaa.Wl
open Go.RowKit Dk

/-- A disk without power has nothing loose, and is bound to nothing. -/
def OffOk (D : Dsk) : Prop := D.up = false → D.Q = [] ∧ D.L = D.N ∧ D.bound = false
theorem OffOk.of_up {D : Dsk} (h : D.up = true) : OffOk D := fun h' => by rw [h] at h'; cases h'
theorem OffOk.deed {D : Dsk} (h : OffOk D) : OffOk D.deed := by
  unfold Dsk.deed
  split
  · exact fun _ => ⟨rfl, rfl, rfl⟩
  · exact h
theorem OffOk.write {D : Dsk} (h : OffOk D) (i : Int) (b : Sec) : OffOk (D.write i b) := by
  unfold Dsk.write
  split
  · exact h
  · rename_i hr
    split
    · exact h
    · split
      · rename_i he
        refine OffOk.of_up ?_
        have hu : D.up = true := by
          cases hu : D.up with
          | true => rfl
          | false => exact absurd (by simp [Dsk.reach, hu]) hr
        rcases deed_cases D with ⟨_, h2, _⟩ | ⟨h1, _⟩
        · show D.deed.up = true
          rw [h2, hu]
        · rw [h1] at he; cases he
      · exact h.deed
theorem OffOk.flush {D : Dsk} (h : OffOk D) : OffOk D.flush := by
  unfold Dsk.flush
  split
  · exact h
  · rename_i hu
    split
    · rename_i he
      refine OffOk.of_up ?_
      rcases deed_cases D with ⟨_, h2, _⟩ | ⟨h1, _⟩
      · show D.deed.up = true
        rw [h2]; simpa using hu
      · rw [h1] at he; cases he
    · exact h.deed
theorem OffOk.set {D : Dsk} (h : OffOk D) (f : Nat) (s : Sec) : OffOk (setD D f s) := by
  unfold setD
  split
  · exact h.flush
  · split
    · exact h.flush.write _ _
    · exact (h.flush.write _ _).flush
theorem OffOk.wrs : ∀ (m : SMap) {D : Dsk}, OffOk D → OffOk (wrs D m).1
  | [], _, h => h
  | q :: r, D, h => by
    unfold Wl.wrs
    split
    · exact h.write _ _
    · exact OffOk.wrs r (h.write _ _)
theorem OffOk.puts (f : Nat) : ∀ (a : List Sec) {D : Dsk} (u p : Nat), OffOk D → OffOk (puts D f u p a).1
  | [], _, _, _, h => h
  | s :: r, D, u, p, h => by
    unfold Wl.puts
    split
    · exact h.write _ _
    · exact OffOk.puts f r _ _ (h.write _ _)
theorem OffOk.hom {D : Dsk} (h : OffOk D) (L : Lg) : OffOk (HomD D L) := by
  unfold HomD
  split
  · exact OffOk.wrs _ h
  · exact (OffOk.wrs _ h).set _ _
theorem OffOk.com {D : Dsk} (h : OffOk D) (L : Lg) : OffOk (comD D L) := by
  have h0 : OffOk (com0D D L) := by
    unfold com0D
    split
    · exact h.hom L
    · exact h
  have h1 : OffOk (com1 D L).1 := OffOk.puts _ _ _ _ h0
  unfold comD
  split
  · exact h0
  · split
    · exact h1
    · exact h1.set _ _
theorem OffOk.commit {D : Dsk} (h : OffOk D) (L : Lg) : OffOk (CommitD D L) := by
  unfold CommitD
  split
  · exact h
  · split
    · exact h
    · exact h.com L
theorem OffOk.home {D : Dsk} (h : OffOk D) (L : Lg) : OffOk (HomeD D L) := by
  unfold HomeD
  split
  · exact h
  · split
    · exact h
    · exact h.hom L

/-- A disk without power, whose image tells T. -/
structure OffI (T : Nat → Sec) (n m : Nat) (D : Dsk) : Prop where
  up : D.up = false
  q : D.Q = []
  l : D.L = D.N
  b : D.bound = false
  hn : D.n = n + 24
  r : Rec 0 n (n + 24) T D.N
  sm : Sm D m

theorem off_still {T : Nat → Sec} {n m : Nat} {D : Dsk} (h : Still D) (hn : D.n = n + 24) (hr : Rec 0 n (n + 24) T D.N) (sm : Sm D m) (k : Nat) : OffI T n m ((D.arm (-1) 0).crash k) := by
  have e : D.arm (-1) 0 = D.disarm := by simp [Dsk.arm, h.up]
  have hs : Still D.disarm := ⟨h.up, h.q, h.l⟩
  rw [e]
  obtain ⟨c1, c2, c3, c4, c5, c6, c7⟩ := crash_still hs k
  refine ⟨c4, c3, c2.trans c1.symm, c6, c5.trans hn, by rw [c1]; exact hr, ⟨by rw [c3]; simp only [List.length_nil]; have := sm.1; omega, by rw [c7]; exact sm.2⟩⟩
theorem off_off {T : Nat → Sec} {n m : Nat} {D : Dsk} (hu : D.up = false) (ho : OffOk D) (hn : D.n = n + 24) (hr : Rec 0 n (n + 24) T D.N) (sm : Sm D m) (k : Nat) : OffI T n m ((D.arm (-1) 0).crash k) := by
  have e : D.arm (-1) 0 = D := by simp [Dsk.arm, hu]
  have e2 : D.crash k = D := by simp [Dsk.crash, hu]
  rw [e, e2]
  obtain ⟨a1, a2, a3⟩ := ho hu
  exact ⟨hu, a1, a2, a3, hn, hr, sm⟩
theorem OffI.start {T : Nat → Sec} {n m : Nat} {D : Dsk} (h : OffI T n m D) : Still D.start ∧ D.start.n = n + 24 ∧ Rec 0 n (n + 24) T D.start.N ∧ Sm D.start m := ⟨⟨rfl, h.q, h.l⟩, h.hn, h.r, h.sm⟩
theorem arm_still {D : Dsk} (h : Still D) (a : Int) (k : Nat) : Still (D.arm a k) ∧ (D.arm a k).N = D.N ∧ (D.arm a k).n = D.n ∧ (D.arm a k).Q = D.Q ∧ (D.arm a k).deeds = D.deeds := by
  unfold Dsk.arm
  split
  · exact ⟨h, rfl, rfl, rfl, rfl⟩
  · split
    · exact ⟨⟨h.up, h.q, h.l⟩, rfl, rfl, rfl, rfl⟩
    · exact ⟨⟨h.up, h.q, h.l⟩, rfl, rfl, rfl, rfl⟩
theorem arm_asks {n m a' : Nat} {T : Nat → Sec} {D : Dsk} {L : Lg} (a : Asks n D L) (lm : ∃ ms, Lm ms T D L) (sm : Sm D m) (k : Nat) : Asks n (D.arm (a' : Int) k) L ∧ (∃ ms, Lm ms T (D.arm (a' : Int) k) L) ∧ Sm (D.arm (a' : Int) k) m := by
  obtain ⟨ms, hm⟩ := lm
  obtain ⟨s1, s2, s3, s4, s5⟩ := arm_still hm.still (a' : Int) k
  exact ⟨⟨s1.up, a.dead, a.f, a.ln, a.z⟩, ⟨ms, s1, by rw [s2]; exact hm.tel, hm.lg, hm.u, hm.p, s3.trans hm.hn⟩, ⟨by rw [s4]; exact sm.1, by rw [s5]; exact sm.2⟩⟩

theorem lm_rec {n : Nat} {T : Nat → Sec} {ms : List SMap} {D : Dsk} {L : Lg} (a : Asks n D L) (h : Lm ms T D L) (he : L.e < 18446744073709551616) : Rec 0 n (n + 24) T D.N ∧ D.n = n + 24 := by
  have ht := h.tel
  rw [a.f, a.ln, a.z] at ht
  exact ⟨ht.rcd he, by rw [h.hn, a.z]⟩

/-- Behind a commit that power may have ended: all of it, or none. -/
theorem commit_off {n m : Nat} {T : Nat → Sec} {D : Dsk} {L : Lg} (a : Asks n D L) (lm : ∃ ms, Lm ms T D L) (c : cost L.st.length ≤ n - 1) (ok : L.Ok) (hsl : Srt L.lg) (hs : Srt L.st) (hq : ∀ q ∈ L.st, q.2.length = 128) (hlg : L.lg.length ≤ n - 1) (sm : Sm D (m + 600)) (he : (CommitL D L).e < 18446744073709551616) (k : Nat) :
    (CommitE D L = 0 ∧ OffI (over L.st T) n m (((CommitD D L).arm (-1) 0).crash k)) ∨
    (CommitE D L = 41 ∧ ∃ Tx, (Tx = T ∨ Tx = over L.st T) ∧ OffI Tx n m (((CommitD D L).arm (-1) 0).crash k)) := by
  have hOk : OffOk (CommitD D L) := OffOk.commit (OffOk.of_up a.up) L
  have hDn : D.n = n + 24 := by obtain ⟨ms, hm⟩ := lm; rw [hm.hn, a.z]
  have af := a.f
  have an := a.ln
  have az := a.z
  rcases commit_cases a lm c ok hsl hs hq hlg sm with ⟨a1, a2, ⟨ms, a3⟩, a4, a5, a6⟩ | ⟨a1, a2, a3, a4⟩
  · obtain ⟨r1, r2⟩ := lm_rec a2 a3 he
    exact .inl ⟨a1, off_still a3.still r2 r1 a6 k⟩
  · have hN := a3.N
    rw [af, an, az] at hN
    refine .inr ⟨a1, ?_⟩
    rcases hN with hN | hN
    · exact ⟨_, .inl rfl, off_off a2.up hOk (a2.n.trans hDn) hN a4 k⟩
    · exact ⟨_, .inr rfl, off_off a2.up hOk (a2.n.trans hDn) hN a4 k⟩
theorem home_off {n m : Nat} {T : Nat → Sec} {D : Dsk} {L : Lg} (a : Asks n D L) (lm : ∃ ms, Lm ms T D L) (ok : L.Ok) (hsl : Srt L.lg) (hlg : L.lg.length ≤ n - 1) (sm : Sm D (m + 600)) (he : (HomeL D L).e < 18446744073709551616) (k : Nat) :
    (HomeE D L = 0 ∨ HomeE D L = 41) ∧ OffI T n m (((HomeD D L).arm (-1) 0).crash k) := by
  have hOk : OffOk (HomeD D L) := OffOk.home (OffOk.of_up a.up) L
  have hDn : D.n = n + 24 := by obtain ⟨ms, hm⟩ := lm; rw [hm.hn, a.z]
  have af := a.f
  have an := a.ln
  have az := a.z
  rcases home_cases a lm ok hsl hlg sm with ⟨a1, a2, a3, a4, a5, a6⟩ | ⟨a1, a2, a3, a4⟩
  · obtain ⟨r1, r2⟩ := lm_rec a2 a3 he
    exact ⟨.inl a1, off_still a3.still r2 r1 a6 k⟩
  · have hN := a3.N
    rw [af, an, az] at hN
    exact ⟨.inr a1, off_off a2.up hOk (a2.n.trans hDn) hN a4 k⟩
theorem lm_lg {n : Nat} {T : Nat → Sec} {D : Dsk} {L : Lg} (a : Asks n D L) (lm : ∃ ms, Lm ms T D L) : L.lg.length ≤ n - 1 := by
  obtain ⟨ms, hm⟩ := lm
  have := fold_len ms [] List.Pairwise.nil
  have h2 := hm.tel.i.le
  rw [a.ln] at h2
  rw [hm.lg]
  simp only [List.length_nil] at this
  show (ms.foldl merge []).length ≤ _
  omega

theorem arm_q (D : Dsk) (a : Int) (k : Nat) : (D.arm a k).Q = D.Q ∧ (D.arm a k).deeds = D.deeds ∧ (D.arm a k).n = D.n := by
  unfold Dsk.arm
  split
  · exact ⟨rfl, rfl, rfl⟩
  · split <;> exact ⟨rfl, rfl, rfl⟩
theorem arm_sm {D : Dsk} {m : Nat} (h : Sm D m) (a : Int) (k : Nat) : Sm (D.arm a k) m := by
  obtain ⟨a1, a2, _⟩ := arm_q D a k
  exact ⟨by rw [a1]; exact h.1, by rw [a2]; exact h.2⟩
theorem commit_sm {D : Dsk} {L : Lg} {m : Nat} (hc : cost L.st.length ≤ 255) (hl : L.lg.length ≤ 255) (h : Sm D (m + 600)) : Sm (CommitD D L) m := by
  unfold CommitD
  split
  · exact h.le (by omega)
  · split
    · exact h.le (by omega)
    · exact comD_sm (h.le (by omega))
theorem home_sm {D : Dsk} {L : Lg} {m : Nat} (hl : L.lg.length ≤ 255) (h : Sm D (m + 600)) : Sm (HomeD D L) m := by
  unfold HomeD
  split
  · exact h.le (by omega)
  · split
    · exact h.le (by omega)
    · exact HomD_sm (h.le (by omega))

end Go.Proofs.Ytagcpjekeogkbaa.Wl
