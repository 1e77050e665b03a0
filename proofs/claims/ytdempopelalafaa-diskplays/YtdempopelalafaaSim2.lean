/- The two abstract disks go together, call by call. Nothing here speaks of the Go text. -/
import Derived.Test.YtdempopelalafaaSim
namespace Go.Proofs.Ytdempopelalafaa.Dk
open Go.RowKit

structure Sim (D : Dsk) (R : RDk) : Prop where
  n : D.n = R.n
  up : D.up = !R.off
  done : D.deeds = R.done
  arm : (D.bound = false ∧ R.left = -1) ∨ (D.bound = true ∧ D.after = R.left ∧ D.keep = R.keep)
  ws : ∃ S : List RW, AllSafe S ∧ R.ws = S ++ D.Q.map loose ∧ ∀ i, i < D.n → sec D.L i = lastOf S i
  now : ∀ i, i < D.n → sec D.N i = lastOf R.ws i

theorem sec_zero (n i : Nat) (h : i < n) : sec (List.replicate (n * 128) 0) i = zeros := by
  unfold sec zeros
  rw [List.drop_replicate, List.take_replicate]
  congr 1
  omega
theorem Sim.new (n : Nat) : Sim (Dsk.new n) (RDk.new n) :=
  ⟨rfl, rfl, rfl, .inl ⟨rfl, rfl⟩, ⟨[], ⟨fun _ hx => (List.not_mem_nil hx).elim, rfl, fun i hi => sec_zero n i hi⟩⟩, fun i hi => sec_zero n i hi⟩

section
variable {D : Dsk} {R : RDk}
theorem Sim.reach (h : Sim D R) (i : Int) : D.reach i = R.reach i := by
  unfold Dsk.reach RDk.reach
  rw [h.up, h.n]
  cases R.off <;> rfl
theorem Sim.dirty (h : Sim D R) : cntU R.ws R.ws.length = D.Q.length := by
  obtain ⟨S, h1, h2, _⟩ := h.ws
  rw [h2]
  have := cnt_loose S h1 D.Q D.Q.length (Nat.le_refl _)
  simpa using this
theorem Sim.qlen (h : Sim D R) : D.Q.length ≤ R.ws.length := by
  obtain ⟨S, _, h2, _⟩ := h.ws
  rw [h2]
  simp
theorem Sim.start (h : Sim D R) : Sim D.start { R with off := false } := ⟨h.n, rfl, h.done, h.arm, h.ws, h.now⟩
theorem Sim.startE (h : Sim D R) : (if D.up then (42 : Int) else 0) = if R.off then 0 else 42 := by
  rw [h.up]
  cases R.off <;> rfl
theorem Sim.armed (h : Sim D R) (a : Int) (k : Nat) : Sim (D.arm a k) (R.arm a k) := by
  unfold Dsk.arm RDk.arm
  rw [h.up]
  cases hu : R.off
  · simp only [Bool.not_false, Bool.true_eq_false, if_false, Bool.false_eq_true]
    by_cases ha : a < 0
    · rw [if_pos ha, if_pos ha]
      exact ⟨h.n, by rw [← hu]; exact h.up, h.done, .inl ⟨rfl, rfl⟩, h.ws, h.now⟩
    · rw [if_neg ha, if_neg ha]
      exact ⟨h.n, by rw [← hu]; exact h.up, h.done, .inr ⟨rfl, rfl, rfl⟩, h.ws, h.now⟩
  · simpa using h
theorem Sim.failed (h : Sim D R) (ok : D.Ok) (hu : R.off = false) (keep : Nat) : Sim (D.fail keep) (R.crash keep) := by
  obtain ⟨S, h1, h2, h3⟩ := h.ws
  have hst : stTo keep R.ws R.ws.length = S ++ keptTo keep D.Q D.Q.length := by
    rw [h2]
    have := st_loose keep S h1 D.Q D.Q.length (Nat.le_refl _)
    simpa using this
  have hs : ∀ i, i < D.n → sec (settleTo keep D.Q D.L D.Q.length) i = lastOf (S ++ keptTo keep D.Q D.Q.length) i := settle_sec keep S D.Q D.L D.n ok.lL ok.q h3 _ (Nat.le_refl _)
  have hsafe : AllSafe (S ++ keptTo keep D.Q D.Q.length) := fun x hx => (List.mem_append.1 hx).elim (h1 x) (keptTo_safe keep D.Q _ x)
  unfold RDk.crash
  rw [hu]
  simp only [Bool.false_eq_true, if_false]
  rw [hst]
  exact ⟨h.n, rfl, h.done, .inl ⟨rfl, rfl⟩, ⟨_, hsafe, by simp [Dsk.fail], hs⟩, hs⟩
theorem Sim.crashed (h : Sim D R) (ok : D.Ok) (keep : Nat) : Sim (D.crash keep) (R.crash keep) := by
  cases hu : R.off
  · have hup : D.up = true := by rw [h.up, hu]; rfl
    have e : D.crash keep = D.fail keep := by simp [Dsk.crash, hup]
    rw [e]
    exact h.failed ok hu keep
  · have hup : D.up = false := by rw [h.up, hu]; rfl
    have e : D.crash keep = D := by simp [Dsk.crash, hup]
    have e2 : R.crash keep = R := by simp [RDk.crash, hu]
    rw [e, e2]
    exact h
theorem Sim.dies (h : Sim D R) : (D.bound = true ∧ D.after = 0) ↔ R.left = 0 := by
  rcases h.arm with ⟨h1, h2⟩ | ⟨h1, h2, _⟩
  · rw [h1, h2]; simp
  · rw [h1, h2]; simp
theorem Sim.deedE (h : Sim D R) : D.deedE = R.deedE := by
  unfold Dsk.deedE RDk.deedE
  by_cases h0 : R.left = 0
  · rw [if_pos h0, if_pos (h.dies.2 h0)]
  · rw [if_neg h0, if_neg (fun hc => h0 (h.dies.1 hc))]
theorem Sim.deed (h : Sim D R) (ok : D.Ok) (hu : R.off = false) : Sim D.deed R.deed := by
  unfold Dsk.deed RDk.deed
  by_cases h0 : R.left = 0
  · rw [if_pos h0, if_pos (h.dies.2 h0)]
    have hk : D.keep = R.keep := by
      rcases h.arm with ⟨_, h2⟩ | ⟨_, _, h3⟩
      · rw [h2] at h0; cases h0
      · exact h3
    rw [hk]
    exact h.failed ok hu _
  · rw [if_neg h0, if_neg (fun hc => h0 (h.dies.1 hc))]
    refine ⟨h.n, h.up, by show D.deeds + 1 = R.done + 1; rw [h.done], ?_, h.ws, h.now⟩
    rcases h.arm with ⟨h1, h2⟩ | ⟨h1, h2, h3⟩
    · refine .inl ⟨h1, ?_⟩
      show (if 0 < R.left then R.left - 1 else R.left) = -1
      rw [h2]; rfl
    · refine .inr ⟨h1, ?_, h3⟩
      show (if D.bound = true then D.after - 1 else D.after) = if 0 < R.left then R.left - 1 else R.left
      have := ok.a0
      rw [if_pos h1, h2, if_pos (by omega)]
theorem deed_same (R : RDk) (h0 : R.left ≠ 0) : R.deed.ws = R.ws ∧ R.deed.n = R.n := by
  unfold RDk.deed; rw [if_neg h0]; exact ⟨rfl, rfl⟩
theorem Sim.writeE (h : Sim D R) (i : Int) (len : Nat) : D.writeE i len = R.writeE i len := by
  unfold Dsk.writeE RDk.writeE
  rw [h.reach, h.deedE]
theorem Sim.write (h : Sim D R) (ok : D.Ok) (i : Int) (b : List UInt8) : Sim (D.write i b) (R.write i b) := by
  unfold Dsk.write RDk.write
  rw [h.reach]
  by_cases hr : R.reach i = 0
  · have n1 : ¬ (R.reach i ≠ 0) := by simp [hr]
    rw [if_neg n1, if_neg n1]
    have hu : R.off = false := by
      cases hu : R.off with
      | false => rfl
      | true => simp [RDk.reach, hu] at hr
    have hi : 0 ≤ i ∧ i < (R.n : Int) := by
      unfold RDk.reach at hr
      rw [hu] at hr
      simp only [Bool.false_eq_true, if_false] at hr
      split at hr
      · cases hr
      · omega
    by_cases hb : b.length = 128
    · have n2 : ¬ (b.length ≠ 128) := by simp [hb]
      rw [if_neg n2, if_neg n2]
      by_cases h0 : R.left = 0
      · have e : ¬ D.deedE = 0 := by rw [h.deedE]; simp [RDk.deedE, h0]
        rw [if_pos h0, if_neg e]
        exact h.deed ok hu
      · have e : D.deedE = 0 := by rw [h.deedE]; simp [RDk.deedE, h0]
        rw [if_neg h0, if_pos e]
        have hd := h.deed ok hu
        have hq := deed_Q D e
        obtain ⟨S, h1, h2, h3⟩ := hd.ws
        refine ⟨hd.n, hd.up, hd.done, hd.arm, ⟨S, h1, ?_, h3⟩, fun j hj => ?_⟩
        · show R.deed.ws ++ [⟨i.toNat, b, false⟩] = S ++ (D.deed.Q ++ [(i.toNat, b)]).map loose
          rw [h2, List.map_append, List.append_assoc]; rfl
        · show sec (splice D.deed.N (i.toNat * 128) b) j = lastOf (R.deed.ws ++ [⟨i.toNat, b, false⟩]) j
          have hjn : j < D.n := by rw [← hq.2.2.2]; exact hj
          have hin : i.toNat < D.n := by rw [h.n]; omega
          rw [lastOf_snoc, sec_splice _ D.n _ j b (by rw [hq.2.2.1]; exact ok.lN) hin hjn hb, hd.now j hj]
    · have n2 : b.length ≠ 128 := hb
      rw [if_pos n2, if_pos n2]
      exact h
  · have n1 : R.reach i ≠ 0 := hr
    rw [if_pos n1, if_pos n1]
    exact h
theorem Sim.flushE (h : Sim D R) : D.flushE = R.flushE := by
  unfold Dsk.flushE RDk.flushE
  rw [h.up, h.deedE]
  cases R.off <;> simp [RDk.deedE]
theorem Sim.flush (h : Sim D R) (ok : D.Ok) : Sim D.flush R.flush := by
  unfold Dsk.flush RDk.flush
  rw [h.up]
  cases hu : R.off
  · simp only [Bool.not_false, Bool.true_eq_false, if_false, Bool.false_eq_true]
    by_cases h0 : R.left = 0
    · have e : ¬ D.deedE = 0 := by rw [h.deedE]; simp [RDk.deedE, h0]
      rw [if_pos h0, if_neg e]
      exact h.deed ok hu
    · have e : D.deedE = 0 := by rw [h.deedE]; simp [RDk.deedE, h0]
      rw [if_neg h0, if_pos e]
      have hd := h.deed ok hu
      have hq := deed_Q D e
      obtain ⟨S, h1, h2, h3⟩ := hd.ws
      have hq0 : D.deed.Q = D.Q := hq.1
      have hL0 : D.deed.L = D.L := hq.2.1
      have hn0 : D.deed.n = D.n := hq.2.2.2
      have hsec : ∀ i, i < D.deed.n → sec (settleTo ones D.deed.Q D.deed.L D.deed.Q.length) i = lastOf (lastsTo R.deed.ws R.deed.ws.length) i := fun i hi => by
        rw [settle_sec ones S D.deed.Q D.deed.L D.deed.n (by rw [hL0, hn0]; exact ok.lL) (by rw [hq0, hn0]; exact ok.q) h3 _ (Nat.le_refl _) i hi, kept_ones _ _ (Nat.le_refl _), List.take_length, lasts_all, h2]
        exact lastOf_map lost loose (fun q => ⟨rfl, rfl⟩) S i _
      refine ⟨hd.n, hd.up, hd.done, hd.arm, ⟨_, lasts_safe R.deed.ws _, (List.append_nil _).symm, hsec⟩, fun i hi => ?_⟩
      show sec D.deed.N i = lastOf (lastsTo R.deed.ws R.deed.ws.length) i
      rw [lasts_all]
      exact hd.now i hi
  · simpa using h
theorem Sim.read (h : Sim D R) (i : Int) (hr : D.reach i = 0) : sec D.N i.toNat = R.read i := by
  have hr' : R.reach i = 0 := by rw [← h.reach]; exact hr
  unfold RDk.read
  rw [if_pos hr']
  refine h.now _ ?_
  unfold Dsk.reach at hr
  split at hr
  · cases hr
  · split at hr
    · cases hr
    · omega
theorem Sim.clone (h : Sim D R) (cl cn : Nat) (zl zn : List Value) : Sim { D with cl := cl, cn := cn, zl := zl, zn := zn } R := ⟨h.n, h.up, h.done, h.arm, h.ws, h.now⟩

/-! ### How long the lists are -/
structure RLen (k : Nat) (R : RDk) : Prop where
  w : R.ws.length ≤ k
  d : R.done ≤ k
theorem RLen.new (n : Nat) : RLen 0 (RDk.new n) := ⟨by simp [RDk.new], by simp [RDk.new]⟩
theorem RLen.more {k k' : Nat} (h : RLen k R) (hk : k ≤ k') : RLen k' R := ⟨Nat.le_trans h.w hk, Nat.le_trans h.d hk⟩
theorem RLen.start {k : Nat} (h : RLen k R) : RLen k { R with off := false } := ⟨h.w, h.d⟩
theorem RLen.arm {k : Nat} (h : RLen k R) (a : Int) (kp : Nat) : RLen k (R.arm a kp) := by
  unfold RDk.arm
  split
  · exact h
  · exact ⟨h.w, h.d⟩
theorem RLen.crash {k : Nat} (h : RLen k R) (kp : Nat) : RLen k (R.crash kp) := by
  unfold RDk.crash
  split
  · exact h
  · exact ⟨Nat.le_trans (stTo_len _ _ _) h.w, h.d⟩
theorem RLen.deed {k : Nat} (h : RLen k R) : RLen (k + 1) R.deed ∧ R.deed.ws.length ≤ k := by
  unfold RDk.deed
  split
  · exact ⟨(h.crash _).more (by omega), (h.crash _).w⟩
  · exact ⟨⟨Nat.le_succ_of_le h.w, Nat.succ_le_succ h.d⟩, h.w⟩
theorem RLen.write {k : Nat} (h : RLen k R) (i : Int) (b : List UInt8) : RLen (k + 1) (R.write i b) := by
  unfold RDk.write
  split
  · exact h.more (by omega)
  · split
    · exact h.more (by omega)
    · split
      · exact h.deed.1
      · exact ⟨by have := h.deed.2; simp [RDk.written]; omega, h.deed.1.d⟩
theorem RLen.flush {k : Nat} (h : RLen k R) : RLen (k + 1) R.flush := by
  unfold RDk.flush
  split
  · exact h.more (by omega)
  · split
    · exact h.deed.1
    · exact ⟨Nat.le_trans (lastsTo_len _ _) (Nat.le_succ_of_le h.deed.2), h.deed.1.d⟩
end

end Go.Proofs.Ytdempopelalafaa.Dk
