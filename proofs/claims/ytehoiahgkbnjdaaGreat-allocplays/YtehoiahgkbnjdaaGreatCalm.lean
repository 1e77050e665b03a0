
/- A disk that has power and is not bound to fail: what is asked of it is done. -/
import Derived.Test.YtehoiahgkbnjdaaGreatRd
namespace Go.Proofs.YtehoiahgkbnjdaaGreat.Wl
open Go.RowKit Dk

structure Calm (D : Dsk) : Prop where
  up : D.up = true
  nb : D.bound = false
  ln : D.N.length = D.n * 128

theorem deed_calm {D : Dsk} (h : Calm D) : D.deedE = 0 ∧ D.deed = { D with deeds := D.deeds + 1 } := by
  refine ⟨by simp [Dsk.deedE, h.nb], ?_⟩
  simp [Dsk.deed, h.nb]
theorem writeE_calm {D : Dsk} (h : Calm D) (i : Nat) (hi : i < D.n) : D.writeE (i : Int) 128 = 0 := by
  have hr : D.reach (i : Int) = 0 := by unfold Dsk.reach; rw [h.up]; simp; omega
  simp [Dsk.writeE, hr, (deed_calm h).1]
theorem write_calm {D : Dsk} (h : Calm D) (i : Nat) (hi : i < D.n) (b : Sec) (hb : b.length = 128) : Calm (D.write (i : Int) b) ∧ (D.write (i : Int) b).n = D.n ∧ (D.write (i : Int) b).N = splice D.N (i * 128) b := by
  have hr : D.reach (i : Int) = 0 := by unfold Dsk.reach; rw [h.up]; simp; omega
  have e : D.write (i : Int) b = D.written i b := by simp [Dsk.write, hr, hb, (deed_calm h).1]
  rw [e]
  unfold Dsk.written
  rw [(deed_calm h).2]
  refine ⟨⟨h.up, h.nb, ?_⟩, rfl, rfl⟩
  show (splice D.N (i * 128) b).length = D.n * 128
  unfold splice
  rw [List.length_append, List.length_append, List.length_take, List.length_drop, hb, h.ln]
  omega
theorem flush_calm {D : Dsk} (h : Calm D) : D.flushE = 0 ∧ Calm D.flush ∧ D.flush.n = D.n ∧ D.flush.N = D.N := by
  have e1 : D.flushE = 0 := by simp [Dsk.flushE, h.up, (deed_calm h).1]
  have e : D.flush = D.flushed := by simp [Dsk.flush, h.up, (deed_calm h).1]
  rw [e]
  unfold Dsk.flushed
  rw [(deed_calm h).2]
  exact ⟨e1, ⟨h.up, h.nb, h.ln⟩, rfl, rfl⟩
theorem sec_splice (N b : Sec) (n i j : Nat) (hN : N.length = n * 128) (hi : i < n) (hj : j < n) (hb : b.length = 128) : sec (splice N (i * 128) b) j = if j = i then b else sec N j := by
  unfold sec splice
  by_cases h : j = i
  · subst h
    rw [if_pos rfl, List.drop_append, List.length_take, hN, Nat.min_eq_left (by omega), Nat.sub_self, List.drop_zero, List.drop_eq_nil_of_le (by rw [List.length_take]; omega), List.nil_append, List.take_append_of_le_length (by omega), List.take_of_length_le (by omega)]
  · rw [if_neg h]
    rcases Nat.lt_or_ge j i with hlt | hge
    · rw [List.drop_append_of_le_length (by rw [List.length_take, hN]; omega), List.take_append_of_le_length (by rw [List.length_drop, List.length_take, hN]; omega), List.drop_take, List.take_take, Nat.min_eq_left (by omega)]
    · have hl : (List.take (i * 128) N ++ b).length = i * 128 + 128 := by rw [List.length_append, List.length_take, hN, hb]; omega
      have e : (i * 128 + b.length) + (j * 128 - (i * 128 + 128)) = j * 128 := by rw [hb]; omega
      have hd : List.drop (j * 128) (List.take (i * 128) N ++ b) = [] := List.drop_eq_nil_of_le (by rw [hl]; omega)
      rw [← List.append_assoc, List.drop_append, hl, hd, List.nil_append, List.drop_drop, e]
theorem sec_write {D : Dsk} (h : Calm D) (i j : Nat) (hi : i < D.n) (hj : j < D.n) (b : Sec) (hb : b.length = 128) : sec (D.write (i : Int) b).N j = if j = i then b else sec D.N j := by
  rw [(write_calm h i hi b hb).2.2]
  exact sec_splice _ _ D.n i j h.ln hi hj hb

theorem set_calm {D : Dsk} (h : Calm D) (f : Nat) (hf : f < D.n) (s : Sec) (hs : s.length = 128) : setE D f s = 0 ∧ Calm (setD D f s) ∧ (setD D f s).n = D.n ∧ ∀ j, j < D.n → sec (setD D f s).N j = if j = f then s else sec D.N j := by
  obtain ⟨a1, a2, a3, a4⟩ := flush_calm h
  have hf1 : f < D.flush.n := by rw [a3]; exact hf
  have b1 := writeE_calm a2 f hf1
  obtain ⟨b2, b3, b4⟩ := write_calm a2 f hf1 s hs
  obtain ⟨c1, c2, c3, c4⟩ := flush_calm b2
  have e1 : setE D f s = 0 := by simp [setE, a1, b1, c1]
  have e2 : setD D f s = (D.flush.write (f : Int) s).flush := by simp [setD, a1, b1]
  rw [e2]
  refine ⟨e1, c2, by rw [c3, b3, a3], fun j hj => ?_⟩
  rw [c4, sec_write a2 f j hf1 (by rw [a3]; exact hj) s hs, a4]

theorem wrs_calm : ∀ (m : SMap) (D : Dsk), Calm D → Srt m → (∀ q ∈ m, q.1 < D.n ∧ q.2.length = 128) → (wrs D m).2 = 0 ∧ Calm (wrs D m).1 ∧ (wrs D m).1.n = D.n ∧ ∀ j, j < D.n → sec (wrs D m).1.N j = match get m j with | some s => s | none => sec D.N j
  | [], D, h, _, _ => ⟨rfl, h, rfl, fun _ _ => rfl⟩
  | q :: r, D, h, hs, hq => by
    have hr := List.pairwise_cons.1 hs
    have hq0 := hq q (.head _)
    have a1 := writeE_calm h q.1 hq0.1
    obtain ⟨b1, b2, b3⟩ := write_calm h q.1 hq0.1 q.2 hq0.2
    obtain ⟨c1, c2, c3, c4⟩ := wrs_calm r (D.write (q.1 : Int) q.2) b1 hr.2 (fun x hx => by rw [b2]; exact hq x (.tail _ hx))
    have e : wrs D (q :: r) = wrs (D.write (q.1 : Int) q.2) r := by simp [wrs, a1]
    rw [e]
    refine ⟨c1, c2, by rw [c3, b2], fun j hj => ?_⟩
    rw [c4 j (by rw [b2]; exact hj), sec_write h q.1 j hq0.1 hj q.2 hq0.2]
    by_cases hjq : j = q.1
    · subst hjq
      rw [get_none_of_lt r hr.1]
      simp [get]
    · simp [get, Ne.symm hjq, hjq]

theorem puts_calm (f : Nat) : ∀ (a : List Sec) (D : Dsk) (u p : Nat), Calm D → f + 1 + u + a.length ≤ D.n → (∀ s ∈ a, s.length = 128) → (puts D f u p a).2.2.2 = 0 ∧ Calm (puts D f u p a).1 ∧ (puts D f u p a).1.n = D.n ∧ ∀ j, j < D.n → (j < f + 1 + u ∨ f + 1 + u + a.length ≤ j) → sec (puts D f u p a).1.N j = sec D.N j
  | [], D, u, p, h, _, _ => ⟨rfl, h, rfl, fun _ _ _ => rfl⟩
  | s :: r, D, u, p, h, hl, hs => by
    simp only [List.length_cons] at hl
    have hi : f + 1 + u < D.n := by omega
    have a1 := writeE_calm h (f + 1 + u) hi
    obtain ⟨b1, b2, b3⟩ := write_calm h (f + 1 + u) hi s (hs s (.head _))
    obtain ⟨c1, c2, c3, c4⟩ := puts_calm f r (D.write ((f + 1 + u : Nat) : Int) s) (u + 1) (upd p s) b1 (by rw [b2]; omega) (fun x hx => hs x (.tail _ hx))
    have e : puts D f u p (s :: r) = puts (D.write ((f + 1 + u : Nat) : Int) s) f (u + 1) (upd p s) r := by
      simp only [puts]
      rw [if_neg (by simpa using a1)]
    rw [e]
    refine ⟨c1, c2, by rw [c3, b2], fun j hj hjj => ?_⟩
    simp only [List.length_cons] at hjj
    rw [c4 j (by rw [b2]; exact hj) (by omega), sec_write h (f + 1 + u) j hi hj s (hs s (.head _)), if_neg (by omega)]

theorem rows_secs (m : SMap) (hm : ∀ q ∈ m, q.2.length = 128) : ∀ s ∈ allRows m, s.length = 128 := fun s hs => by
  unfold allRows rows at hs
  obtain ⟨j, _, hj⟩ := List.mem_flatMap.1 hs
  unfold rowOf at hj
  rcases List.mem_cons.1 hj with rfl | hj
  · exact lst_length _ (by rw [List.length_map, part_length]; unfold ln; omega)
  · obtain ⟨q, hq, rfl⟩ := List.mem_map.1 hj
    exact hm q (List.mem_of_mem_drop (List.mem_of_mem_take hq))

/-- A commit that needs no home first. -/
theorem com_calm {D : Dsk} {L : Lg} (hD : Calm D) (ok : L.Ok) (hn : D.n = L.z) (hm : ∀ q ∈ L.st, q.2.length = 128) (hc : L.u + cost L.st.length ≤ L.n - 1) :
    comE D L = 0 ∧ Calm (comD D L) ∧ (comD D L).n = D.n ∧ (∀ j, j < D.n → (j < L.f ∨ L.f + L.n ≤ j) → sec (comD D L).N j = sec D.N j) ∧
      comL D L = { L with u := L.u + cost L.st.length, p := (allRows L.st).foldl upd L.p, lg := merge L.lg L.st, st := [] } := by
  have hH : comH L = false := by simp [comH]; omega
  have h1 : com0E D L = 0 := by simp [com0E, hH]
  have h2 : com0D D L = D := by simp [com0D, hH]
  have h3 : com0L D L = L := by simp [com0L, hH]
  have hal := allRows_length L.st
  have hz := ok.fz
  have hn4 := ok.n1
  obtain ⟨a1, a2, a3, a4⟩ := puts_calm L.f (allRows L.st) D L.u L.p hD (by rw [hal]; omega) (rows_secs L.st hm)
  obtain ⟨u1, u2⟩ := puts_used L.f (allRows L.st) D L.u L.p a1
  obtain ⟨t1, t2⟩ := com_tail (D := D) (L := L) h1 h2.symm h3.symm rfl
  obtain ⟨t3, t4, t5⟩ := t2 a1
  obtain ⟨s1, s2, s3, s4⟩ := set_calm a2 L.f (by rw [a3]; omega) (ctl L.e (puts D L.f L.u L.p (allRows L.st)).2.1 (puts D L.f L.u L.p (allRows L.st)).2.2.1) (ctl_length _ _ _)
  have hE : comE D L = 0 := by rw [t3, s1]
  refine ⟨hE, by rw [t4]; exact s2, by rw [t4, s3, a3], fun j hj hjj => ?_, ?_⟩
  · rw [t4, s4 j (by rw [a3]; exact hj), if_neg (by omega), a4 j hj (by rw [hal]; omega)]
  · rw [t5, if_neg (by rw [hE]; simp), u1, u2, hal]
    rfl

theorem hom_calm {D : Dsk} {L : Lg} (hD : Calm D) (ok : L.Ok) (hn : D.n = L.z) (hs : Srt L.lg) (hm : ∀ q ∈ L.lg, q.2.length = 128) :
    HomE D L = 0 ∧ Calm (HomD D L) ∧ (HomD D L).n = D.n ∧ (∀ j, j < D.n → j ≠ L.f → sec (HomD D L).N j = match get L.lg j with | some s => s | none => sec D.N j) ∧ HomL D L = L.homed := by
  obtain ⟨a1, a2, a3, a4⟩ := wrs_calm L.lg D hD hs (fun q hq => ⟨by rw [hn]; exact (ok.lh q hq).1, hm q hq⟩)
  have hz := ok.fz
  have hn4 := ok.n1
  obtain ⟨s1, s2, s3, s4⟩ := set_calm a2 L.f (by rw [a3]; omega) (ctl ((L.e + 1) % 18446744073709551616) 0 beg) (ctl_length _ _ _)
  have hE : HomE D L = 0 := by simp only [HomE, a1, ne_eq, not_true_eq_false, if_false]; exact s1
  have hDd : HomD D L = setD (wrs D L.lg).1 L.f (ctl ((L.e + 1) % 18446744073709551616) 0 beg) := by simp only [HomD, a1, ne_eq, not_true_eq_false, if_false]
  refine ⟨hE, by rw [hDd]; exact s2, by rw [hDd, s3, a3], fun j hj hjf => ?_, by simp [HomL, hE]⟩
  rw [hDd, s4 j (by rw [a3]; exact hj), if_neg hjf, a4 j hj]

theorem new_calm (n : Nat) : Calm (Dsk.new n) := ⟨rfl, rfl, by simp [Dsk.new]⟩
theorem sec_new (n j : Nat) (hj : j < n) : sec (Dsk.new n).N j = zeros := by
  simp only [sec, Dsk.new, List.drop_replicate, List.take_replicate, zeros]
  congr 1
  omega
theorem fmt_calm {D : Dsk} (h : Calm D) (f : Nat) (hf : f < D.n) : fmtE D f = 0 ∧ Calm (fmtD D f) ∧ (fmtD D f).n = D.n ∧ ∀ j, j < D.n → sec (fmtD D f).N j = if j = f then ctl 1 0 beg else sec D.N j := by
  have b1 := writeE_calm h f hf
  obtain ⟨b2, b3, b4⟩ := write_calm h f hf (ctl 1 0 beg) (ctl_length _ _ _)
  obtain ⟨c1, c2, c3, c4⟩ := flush_calm b2
  have e1 : fmtE D f = 0 := by simp [fmtE, b1, c1]
  have e2 : fmtD D f = (D.write (f : Int) (ctl 1 0 beg)).flush := by simp [fmtD, b1]
  rw [e2]
  exact ⟨e1, c2, by rw [c3, b3], fun j hj => by rw [c4, sec_write h f j hf hj _ (ctl_length _ _ _)]⟩

end Go.Proofs.YtehoiahgkbnjdaaGreat.Wl
