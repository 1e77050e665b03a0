
/- A space's log: plain facts. -/
import Derived.Test.YtehoiahgkbnjdaaGreatOpa
import Derived.Test.YtehoiahgkbnjdaaGreatImg
namespace Go.Proofs.YtehoiahgkbnjdaaGreat.Al
open Go.RowKit Go.Shelf Dk Wl

structure AI (n m : Nat) (T : Nat → Sec) (D : Dsk) (L : Lg) : Prop where
  up : D.up = true
  dead : L.dead = false
  f : L.f = 1
  ln : L.n = (lay n).ll
  z : L.z = n
  lm : ∃ ms, Lm ms T D L
  c : cost L.st.length ≤ (lay n).ll - 1
  nb : D.bound = false
  sm : Sm D m

theorem lay_ll (n : Nat) (h2 : n ≤ 1024) : 16 ≤ (lay n).ll ∧ (lay n).ll ≤ 128 := by simp [lay]; omega
theorem AI.reach {n m : Nat} {T : Nat → Sec} {D : Dsk} {L : Lg} (h : AI n m T D L) (k : Nat) (hk : k < n) (hk2 : k = 0 ∨ 1 + (lay n).ll ≤ k) : L.reach (k : Int) = 0 := by
  unfold Lg.reach
  rw [h.dead, h.f, h.ln, h.z]
  simp [isHome]
  omega
theorem AI.tell {n m : Nat} {T : Nat → Sec} {D : Dsk} {L : Lg} (h : AI n m T D L) (k : Nat) (hk : k < n) (hk2 : k = 0 ∨ 1 + (lay n).ll ≤ k) : L.tell D k = over L.st T k := by
  obtain ⟨ms, hm⟩ := h.lm
  unfold Lg.tell over
  rw [← hm.tel.t k (by rw [h.z]; exact hk) (by rw [h.f, h.ln]; omega), hm.lg]
  rfl
theorem cost_le {m n : Nat} (h : cost m ≤ n) : m ≤ n := by unfold cost at h; omega
theorem AI.lg {n m : Nat} {T : Nat → Sec} {D : Dsk} {L : Lg} (h : AI n m T D L) : L.lg.length ≤ (lay n).ll - 1 := by
  obtain ⟨ms, hm⟩ := h.lm
  have := fold_len ms [] List.Pairwise.nil
  have h2 := hm.tel.i.le
  rw [h.ln] at h2
  rw [hm.lg]
  simp only [List.length_nil] at this
  show (ms.foldl merge []).length ≤ _
  omega
theorem AI.stageE {n m : Nat} {T : Nat → Sec} {D : Dsk} {L : Lg} (h : AI n m T D L) (k : Nat) (hk : k < n) (hk2 : k = 0 ∨ 1 + (lay n).ll ≤ k) (hc : cost (L.st.length + 1) ≤ (lay n).ll - 1) : L.stageE (k : Int) 128 = 0 := by
  have hr := h.reach k hk hk2
  unfold Lg.stageE
  rw [hr, h.ln]
  simp
  intro _
  omega
theorem stage_st {L : Lg} {k : Nat} {b : Sec} (hb : b.length = 128) (he : L.stageE (k : Int) 128 = 0) : L.stage (k : Int) b = { L with st := ins k b L.st } := by
  unfold Lg.stage
  rw [hb, if_pos he, Int.toNat_natCast]
theorem ins_len (k : Nat) (b : Sec) (m : SMap) : (ins k b m).length ≤ m.length + 1 := by
  induction m with
  | nil => simp [ins]
  | cons p r ih =>
    unfold ins
    split
    · simp
    · split
      · simp
      · simp; exact ih
theorem cost_mono {a b : Nat} (h : a ≤ b) : cost a ≤ cost b := by unfold cost; omega
/-- One more is staged. -/
theorem AI.stage {n m : Nat} {T : Nat → Sec} {D : Dsk} {L : Lg} (h : AI n m T D L) (k : Nat) (hk : k < n) (hk2 : k = 0 ∨ 1 + (lay n).ll ≤ k) (b : Sec) (hb : b.length = 128) (hc : cost (L.st.length + 1) ≤ (lay n).ll - 1) : AI n m T D (L.stage (k : Int) b) ∧ (L.stage (k : Int) b).st = ins k b L.st := by
  have he := h.stageE k hk hk2 hc
  rw [stage_st hb he]
  refine ⟨⟨h.up, h.dead, h.f, h.ln, h.z, ?_, Nat.le_trans (cost_mono (ins_len k b L.st)) hc, h.nb, h.sm⟩, rfl⟩
  obtain ⟨ms, hm⟩ := h.lm
  exact ⟨ms, hm.still, hm.tel, hm.lg, hm.u, hm.p, hm.hn⟩
theorem AI.drop {n m : Nat} {T : Nat → Sec} {D : Dsk} {L : Lg} (h : AI n m T D L) : AI n m T D L.drop := by
  refine ⟨h.up, h.dead, h.f, h.ln, h.z, ?_, by show cost 0 ≤ _; unfold cost; omega, h.nb, h.sm⟩
  obtain ⟨ms, hm⟩ := h.lm
  exact ⟨ms, hm.still, hm.tel, hm.lg, hm.u, hm.p, hm.hn⟩

theorem comD_sm {D : Dsk} {L : Lg} {m : Nat} (h : Sm D (m + 3 + cost L.st.length + 3 + L.lg.length)) : Sm (comD D L) m := by
  have h0 : Sm (com0D D L) (m + 3 + cost L.st.length) := by
    unfold com0D
    split
    · exact HomD_sm h
    · exact h.le (by omega)
  have h1 : Sm (com1 D L).1 (m + 3) := puts_sm _ _ _ _ _ _ (by rw [allRows_length]; exact h0)
  unfold comD
  split
  · exact h0.le (by omega)
  · split
    · exact h1.le (by omega)
    · exact setD_sm _ _ h1
theorem AI.commit {n m : Nat} {T : Nat → Sec} {D : Dsk} {L : Lg} (h : AI n (m + 600) T D L) (h2 : n ≤ 1024) (ok : L.Ok) (hsl : Srt L.lg) (hs : Srt L.st) (hq : ∀ q ∈ L.st, q.2.length = 128) :
    CommitE D L = 0 ∧ AI n m (over L.st T) (CommitD D L) (CommitL D L) ∧ (CommitL D L).st = [] := by
  obtain ⟨ms, hm⟩ := h.lm
  have hll := lay_ll n h2
  have hlg := h.lg
  have hc := h.c
  have hc0 : cost ([] : SMap).length ≤ (lay n).ll - 1 := by unfold cost; simp
  unfold CommitE CommitD CommitL
  simp only [h.dead, Bool.false_eq_true, if_false]
  by_cases h0 : L.st = []
  · simp only [h0, if_true]
    exact ⟨trivial, ⟨h.up, h.dead, h.f, h.ln, h.z, ⟨ms, hm⟩, hc, h.nb, h.sm.le (by omega)⟩, trivial⟩
  · simp only [h0, if_false]
    rcases com_safe hm ok hsl hs hq (by rw [h.ln]; exact h.c) with ⟨b1, ⟨ms', b2⟩, b3, b4, b5, b6, b7, b8⟩ | ⟨_, b2, _⟩
    · have e : (comL D L).noted (comE D L) = comL D L := by rw [b1]; simp [Lg.noted]
      rw [e]
      exact ⟨b1, ⟨b2.still.up, by rw [b8]; exact h.dead, by rw [b4]; exact h.f, by rw [b5]; exact h.ln, by rw [b6]; exact h.z, ⟨ms', b2⟩, by rw [b7]; exact hc0, by rw [b3]; exact h.nb, comD_sm (h.sm.le (by omega))⟩, b7⟩
    · have := b2.b
      rw [h.nb] at this
      cases this

/-- A new log where it belongs. -/
theorem AI.new (n : Nat) (h1 : 64 ≤ n) (h2 : n ≤ 1024) : AI n 10000000 (fun _ => zeros) (fmtD (Dsk.new n) 1) (Lg.new 1 (lay n).ll n 1) ∧ fmtE (Dsk.new n) 1 = 0 ∧ sec (fmtD (Dsk.new n) 1).N 1 = ctl 1 0 beg ∧ (fmtD (Dsk.new n) 1).n = n := by
  have hll := lay_ll n h2
  have hlen : 1 + (lay n).ll ≤ n := by simp [lay]; omega
  have hc := new_calm n
  have b0 := write_cases hc.up 1 (by show 1 < n; omega) (ctl 1 0 beg) (ctl_length _ _ _)
  have hS : Still (Dsk.new n) := ⟨rfl, rfl, rfl⟩
  have hW := (hS.di (A := fun _ => True) trivial).write 1 (ctl 1 0 beg) (fun _ _ => trivial)
  have bE := writeE_calm hc 1 (by show 1 < n; omega)
  have e : fmtD (Dsk.new n) 1 = ((Dsk.new n).write ((1 : Nat) : Int) (ctl 1 0 beg)).flush := by simp only [fmtD, bE, ne_eq, not_true_eq_false, if_false]
  obtain ⟨f1, _, f3, f4⟩ := fmt_calm hc 1 (by show 1 < n; omega)
  rcases b0 with ⟨b1, b2, b3, b4, b5⟩ | ⟨_, _, b3, _⟩
  · rcases flush_cases b2 hW.now with ⟨c1, c2, c3, c4, c5⟩ | ⟨_, _, c3, _⟩
    · rw [← e] at c2 c3 c4 c5
      have hN : (fmtD (Dsk.new n) 1).N = splice (Dsk.new n).N (1 * 128) (ctl 1 0 beg) := by rw [c5, b5]
      have ht : Tel 1 (lay n).ll n 1 [] (fun _ => zeros) (splice (Dsk.new n).N (1 * 128) (ctl 1 0 beg)) := by
        refine Tel.set (f := 1) (n := (lay n).ll) (z := n) (N := (Dsk.new n).N) ⟨by omega, by omega, hlen, h2⟩ hc.ln [] 1 _ (fun k hk => absurd hk (by simp [flat])) (fun m hm => by cases hm) (Nat.zero_le _) (fun k hk _ => ?_)
        exact sec_new _ _ hk
      refine ⟨⟨c2.up, rfl, rfl, rfl, rfl, ⟨[], c2, by rw [hN]; exact ht, rfl, rfl, rfl, by rw [c4, b4]; rfl⟩, by show cost 0 ≤ _; unfold cost; omega, by rw [c3, b3]; rfl, ?_⟩, f1, ?_, f3⟩
      · rw [e]
        exact Sm.flush (Sm.write ⟨by simp [Dsk.new], by simp [Dsk.new]⟩ _ _)
      · rw [f4 1 (by show 1 < n; omega), if_pos rfl]
    · rw [b3] at c3; cases c3
  · cases b3

end Go.Proofs.YtehoiahgkbnjdaaGreat.Al
