
/- What stands in an image: a control, its rows, and what they tell. Plain; nothing here speaks of the Go text. -/
import Derived.Test.YtehoiahgkbnjdaaGreatSafe
import Derived.Test.YtehoiahgkbnjdaaGreatOpx
namespace Go.Proofs.YtehoiahgkbnjdaaGreat.Wl
open Go.RowKit Dk

structure Rgn (f n z : Nat) : Prop where
  n1 : 4 ≤ n
  n2 : n ≤ 255
  fz : f + n ≤ z
  z : z ≤ 1024

abbrev fold (ms : List SMap) : SMap := ms.foldl merge []
theorem fold_srt : ∀ (ms : List SMap) (m : SMap), Srt m → Srt (ms.foldl merge m)
  | [], _, h => h
  | x :: r, m, h => fold_srt r _ (merge_srt x m h)
theorem fold_mem : ∀ (ms : List SMap) (m : SMap) (q : Nat × Sec), q ∈ ms.foldl merge m → q ∈ m ∨ ∃ x ∈ ms, q ∈ x
  | [], _, _, h => .inl h
  | x :: r, m, q, h => by
    rcases fold_mem r _ q h with h | ⟨y, hy, hq⟩
    · rcases merge_mem x m q h with h | h
      · exact .inl h
      · exact .inr ⟨x, .head _, h⟩
    · exact .inr ⟨y, .tail _ hy, hq⟩
theorem fold_in {ms : List SMap} {k : Nat} {s : Sec} (h : get (fold ms) k = some s) : ∃ x ∈ ms, (k, s) ∈ x := by
  rcases fold_mem ms [] _ (get_mem h) with h | h
  · cases h
  · exact h
theorem fold_snoc (a b : List SMap) : (a ++ b).foldl merge [] = b.foldl merge (fold a) := List.foldl_append

structure Img (f n z e : Nat) (ms : List SMap) (N : Sec) : Prop where
  len : N.length = z * 128
  ctl : sec N f = ctl e (flat ms).length ((flat ms).foldl upd beg)
  row : ∀ k (h : k < (flat ms).length), sec N (f + 1 + k) = (flat ms)[k]
  ok : ∀ m ∈ ms, OkRow (Lg.new f n z 0) m
  le : (flat ms).length ≤ n - 1
def told (N : Sec) (ms : List SMap) (k : Nat) : Sec := match get (fold ms) k with | some s => s | none => sec N k
/-- The image tells T of each home. -/
structure Tel (f n z e : Nat) (ms : List SMap) (T : Nat → Sec) (N : Sec) : Prop where
  i : Img f n z e ms N
  t : ∀ k, k < z → (k < f ∨ f + n ≤ k) → told N ms k = T k

theorem splice_len (N s : Sec) (i z : Nat) (hN : N.length = z * 128) (hi : i < z) (hs : s.length = 128) : (splice N (i * 128) s).length = z * 128 := by
  rw [splice, List.length_append, List.length_append, List.length_take, List.length_drop, hs, hN]; omega

section
variable {f n z e : Nat} {ms : List SMap} {T : Nat → Sec} {N : Sec}
theorem Img.homes (h : Img f n z e ms N) {k : Nat} {s : Sec} (hg : get (fold ms) k = some s) : (k < z ∧ (k < f ∨ f + n ≤ k)) ∧ s.length = 128 := by
  obtain ⟨x, hx, hq⟩ := fold_in hg
  exact ⟨(h.ok x hx).home _ hq, (h.ok x hx).sec _ hq⟩
theorem Tel.home (h : Tel f n z e ms T N) (r : Rgn f n z) {k : Nat} {s : Sec} (hg : get (fold ms) k = some s) : Tel f n z e ms T (splice N (k * 128) s) := by
  obtain ⟨⟨hk, hk2⟩, hs⟩ := h.i.homes hg
  have hn1 := r.n1
  have hfz := r.fz
  refine ⟨⟨splice_len _ _ _ _ h.i.len hk hs, ?_, fun j hj => ?_, h.i.ok, h.i.le⟩, fun j hj hj2 => ?_⟩
  · rw [sec_splice _ _ z k f h.i.len hk (by omega) hs, if_neg (by omega)]; exact h.i.ctl
  · have := h.i.le
    rw [sec_splice _ _ z k _ h.i.len hk (by omega) hs, if_neg (by omega)]; exact h.i.row j hj
  · rw [← h.t j hj hj2]
    unfold told
    cases hgj : get (fold ms) j with
    | some s' => rfl
    | none =>
      have hne : ¬ j = k := fun e => by rw [e, hg] at hgj; cases hgj
      simp only []
      rw [sec_splice _ _ z k j h.i.len hk hj hs, if_neg hne]
theorem Tel.place (h : Tel f n z e ms T N) (r : Rgn f n z) (k : Nat) (s : Sec) (hs : s.length = 128) (h1 : (flat ms).length ≤ k) (h2 : k < n - 1) : Tel f n z e ms T (splice N ((f + 1 + k) * 128) s) := by
  have hn1 := r.n1
  have hfz := r.fz
  have hk : f + 1 + k < z := by omega
  refine ⟨⟨splice_len _ _ _ _ h.i.len hk hs, ?_, fun j hj => ?_, h.i.ok, h.i.le⟩, fun j hj hj2 => ?_⟩
  · rw [sec_splice _ _ z _ f h.i.len hk (by omega) hs, if_neg (by omega)]; exact h.i.ctl
  · have := h.i.le
    rw [sec_splice _ _ z _ _ h.i.len hk (by omega) hs, if_neg (by omega)]; exact h.i.row j hj
  · rw [← h.t j hj hj2]
    unfold told
    rw [sec_splice _ _ z _ j h.i.len hk hj hs, if_neg (by omega)]
/-- The control is written anew: what it speaks of stands there. -/
theorem Tel.set (r : Rgn f n z) (hl : N.length = z * 128) (ms' : List SMap) (e' : Nat) (T' : Nat → Sec) (hrow : ∀ k (h : k < (flat ms').length), sec N (f + 1 + k) = (flat ms')[k]) (hok : ∀ m ∈ ms', OkRow (Lg.new f n z 0) m) (hle : (flat ms').length ≤ n - 1)
    (ht : ∀ k, k < z → (k < f ∨ f + n ≤ k) → told N ms' k = T' k) : Tel f n z e' ms' T' (splice N (f * 128) (Wl.ctl e' (flat ms').length ((flat ms').foldl upd beg))) := by
  have hn1 := r.n1
  have hfz := r.fz
  have hf : f < z := by omega
  have hs := ctl_length e' (flat ms').length ((flat ms').foldl upd beg)
  refine ⟨⟨splice_len _ _ _ _ hl hf hs, ?_, fun j hj => ?_, hok, hle⟩, fun j hj hj2 => ?_⟩
  · rw [sec_splice _ _ z f f hl hf hf hs, if_pos rfl]
  · rw [sec_splice _ _ z f _ hl hf (by omega) hs, if_neg (by omega)]; exact hrow j hj
  · rw [← ht j hj hj2]
    unfold told
    rw [sec_splice _ _ z f j hl hf hj hs, if_neg (by omega)]
theorem Tel.same (h : Tel f n z e ms T N) (r : Rgn f n z) : Tel f n z e ms T (splice N (f * 128) (Wl.ctl e (flat ms).length ((flat ms).foldl upd beg))) :=
  Tel.set r h.i.len ms e T h.i.row h.i.ok h.i.le h.t
theorem Tel.empty (h : Tel f n z e ms T N) (r : Rgn f n z) (e' : Nat) (hd : ∀ k s, get (fold ms) k = some s → sec N k = s) : Tel f n z e' [] T (splice N (f * 128) (Wl.ctl e' 0 beg)) := by
  refine Tel.set (N := N) r h.i.len [] e' T (fun k hk => absurd hk (by simp [flat])) (fun m hm => by cases hm) (Nat.zero_le _) (fun k hk hk2 => ?_)
  rw [← h.t k hk hk2]
  unfold told
  have e0 : get (fold []) k = none := rfl
  rw [e0]
  cases hg : get (fold ms) k with
  | some s => exact hd k s hg
  | none => rfl
end

/-! ### What one commit puts behind -/
def over (st : SMap) (T : Nat → Sec) (k : Nat) : Sec := match get st k with | some s => s | none => T k
def parts (m : SMap) : List SMap := (List.range (cnt m.length)).map (part m)
theorem allRows_flat (m : SMap) : allRows m = flat (parts m) := by
  unfold allRows rows parts flat
  rw [List.flatMap_map]
  rfl
theorem merge_app (a b c : SMap) : merge a (b ++ c) = merge (merge a b) c := List.foldl_append
theorem parts_to (m lg : SMap) : ∀ k, ((List.range k).map (part m)).foldl merge lg = merge lg (m.take (60 * k))
  | 0 => by simp [merge]
  | k + 1 => by
    rw [List.range_succ, List.map_append, List.foldl_append, parts_to m lg k, Nat.mul_succ, List.take_add, merge_app]
    rfl
theorem parts_merge (m lg : SMap) : (parts m).foldl merge lg = merge lg m := by
  unfold parts
  rw [parts_to, List.take_of_length_le (by unfold cnt; omega)]
theorem parts_ok {L : Lg} {m : SMap} (h1 : Srt m) (h2 : ∀ q ∈ m, L.home q.1) (h3 : ∀ q ∈ m, q.2.length = 128) : ∀ x ∈ parts m, OkRow L x := fun x hx => by
  obtain ⟨j, hj, rfl⟩ := List.mem_map.1 hx
  have hj' := lt_cnt.1 (List.mem_range.1 hj)
  have hsub : ∀ q ∈ part m j, q ∈ m := fun q hq => List.mem_of_mem_drop (List.mem_of_mem_take hq)
  refine ⟨fun e => ?_, ?_, ?_, fun q hq => h2 q (hsub q hq), fun q hq => h3 q (hsub q hq)⟩
  · have := part_length m j
    rw [e] at this
    unfold ln at this
    simp at this
    omega
  · rw [part_length]; unfold ln; omega
  · exact List.Pairwise.sublist ((List.take_sublist _ _).trans (List.drop_sublist _ _)) h1

/-- The image tells T, whatever rows it has. -/
def Rec (f n z : Nat) (T : Nat → Sec) (N : Sec) : Prop := ∃ e ms, e < 18446744073709551616 ∧ Tel f n z e ms T N

/-- A log over a disk of which nothing is loose, and what it tells. -/
structure Lm (ms : List SMap) (T : Nat → Sec) (D : Dsk) (L : Lg) : Prop where
  still : Still D
  tel : Tel L.f L.n L.z L.e ms T D.N
  lg : L.lg = fold ms
  u : L.u = (flat ms).length
  p : L.p = (flat ms).foldl upd beg
  hn : D.n = L.z

theorem Lg.Ok.rgn {L : Lg} (h : L.Ok) : Rgn L.f L.n L.z := ⟨h.n1, h.n2, h.fz, h.z⟩
theorem Tel.rcd {f n z e : Nat} {ms : List SMap} {T : Nat → Sec} {N : Sec} (h : Tel f n z e ms T N) (he : e < 18446744073709551616) : Rec f n z T N := ⟨e, ms, he, h⟩

structure Off (B : Bool) (n : Nat) (D : Dsk) : Prop where
  up : D.up = false
  b : B = true
  n : D.n = n

/-- Home: all is told as ahead, whatever fails. -/
theorem hom_safe {ms : List SMap} {T : Nat → Sec} {D : Dsk} {L : Lg} (h : Lm ms T D L) (ok : L.Ok) (hs : Srt L.lg) :
    (HomE D L = 0 ∧ Lm [] T (HomD D L) L.homed ∧ (HomD D L).bound = D.bound ∧ HomL D L = L.homed) ∨
    (HomE D L = 41 ∧ Off D.bound D.n (HomD D L) ∧ DI (Rec L.f L.n L.z T) (HomD D L) ∧ HomL D L = L) := by
  have r := ok.rgn
  have hfz := r.fz
  have hn1 := r.n1
  have hlen : D.N.length = D.n * 128 := by rw [h.hn]; exact h.tel.i.len
  have hA : DI (Tel L.f L.n L.z L.e ms T) D := h.still.di h.tel
  have hq : ∀ q ∈ L.lg, q.1 < D.n ∧ q.2.length = 128 ∧ ∀ N, Tel L.f L.n L.z L.e ms T N → Tel L.f L.n L.z L.e ms T (splice N (q.1 * 128) q.2) := fun q hq => by
    have hg : get (fold ms) q.1 = some q.2 := by rw [← h.lg]; exact get_of_mem hs hq
    obtain ⟨⟨a, _⟩, b⟩ := h.tel.i.homes hg
    exact ⟨by rw [h.hn]; exact a, b, fun N hN => hN.home r hg⟩
  have helt : (L.e + 1) % 18446744073709551616 < 18446744073709551616 := Nat.mod_lt _ (by omega)
  rcases wrs_safe L.lg D hA h.still.up hlen hs hq with ⟨a1, a2, a3, a4, a5, a6, a7⟩ | ⟨a1, a2, a3, a4, a5⟩
  · have hE : HomE D L = setE (wrs D L.lg).1 L.f (ctl ((L.e + 1) % 18446744073709551616) 0 beg) := by simp only [HomE, a1, ne_eq, not_true_eq_false, if_false]
    have hD : HomD D L = setD (wrs D L.lg).1 L.f (ctl ((L.e + 1) % 18446744073709551616) 0 beg) := by simp only [HomD, a1, ne_eq, not_true_eq_false, if_false]
    have hin : ∀ k s, get (fold ms) k = some s → sec (wrs D L.lg).1.N k = s := fun k s hg => by
      obtain ⟨⟨b, _⟩, _⟩ := h.tel.i.homes hg
      rw [a7 k (by rw [h.hn]; exact b), h.lg, hg]
    have key := set_safe (A := Tel L.f L.n L.z L.e ms T) (A1 := fun N => Tel L.f L.n L.z L.e ms T N ∧ ∀ k s, get (fold ms) k = some s → sec N k = s) (B := Tel L.f L.n L.z ((L.e + 1) % 18446744073709551616) [] T)
      a5 a2 ⟨a5.N, hin⟩ L.f (by rw [a4, h.hn]; omega) (ctl ((L.e + 1) % 18446744073709551616) 0 beg) (ctl_length _ _ _) (fun N hN => hN.1.empty r _ hN.2) (fun N hN => hN.same r) (fun N hN => hN.1)
    rw [← hE, ← hD, a3, a4] at key
    rcases key with ⟨b1, b2, b3, b4, b5, _⟩ | ⟨b1, b2, b3, b4, b5⟩
    · refine .inl ⟨b1, ⟨b2, b5, rfl, rfl, rfl, b4.trans h.hn⟩, b3, by simp [HomL, b1]⟩
    · exact .inr ⟨b1, ⟨b2, b3, b4⟩, b5.mono (fun N hN => hN.elim (fun x => x.rcd ok.e) (fun x => x.rcd helt)), by simp [HomL, b1]⟩
  · have hE : HomE D L = 41 := by simp [HomE, a1]
    have hD : HomD D L = (wrs D L.lg).1 := by simp [HomD, a1]
    rw [hE, hD]
    exact .inr ⟨rfl, ⟨a2, a3, a4⟩, a5.mono (fun N hN => hN.rcd ok.e), by simp [HomL, hE]⟩

/-- The rows of a commit, and its control. -/
theorem row_safe {ms : List SMap} {T : Nat → Sec} {D : Dsk} {L : Lg} {st : SMap} (h : Lm ms T D L) (ok : L.Ok) (hs : Srt st) (hh : ∀ q ∈ st, L.home q.1) (hq : ∀ q ∈ st, q.2.length = 128) (hc : L.u + cost st.length ≤ L.n - 1) :
    let P := puts D L.f L.u L.p (allRows st)
    (P.2.2.2 = 0 ∧ setE P.1 L.f (ctl L.e P.2.1 P.2.2.1) = 0 ∧ Lm (ms ++ parts st) (over st T) (setD P.1 L.f (ctl L.e P.2.1 P.2.2.1)) { L.ctl L.e P.2.1 P.2.2.1 with lg := merge L.lg st, st := [] } ∧ (setD P.1 L.f (ctl L.e P.2.1 P.2.2.1)).bound = D.bound) ∨
    (P.2.2.2 = 0 ∧ setE P.1 L.f (ctl L.e P.2.1 P.2.2.1) = 41 ∧ Off D.bound D.n (setD P.1 L.f (ctl L.e P.2.1 P.2.2.1)) ∧ DI (fun N => Rec L.f L.n L.z T N ∨ Rec L.f L.n L.z (over st T) N) (setD P.1 L.f (ctl L.e P.2.1 P.2.2.1))) ∨
    (P.2.2.2 = 41 ∧ Off D.bound D.n P.1 ∧ DI (Rec L.f L.n L.z T) P.1) := by
  intro P
  have r := ok.rgn
  have hfz := r.fz
  have hn1 := r.n1
  have hlen : D.N.length = D.n * 128 := by rw [h.hn]; exact h.tel.i.len
  have hA : DI (Tel L.f L.n L.z L.e ms T) D := h.still.di h.tel
  have hal : (allRows st).length = cost st.length := allRows_length st
  have hu := h.u
  rcases puts_safe L.f (allRows st) D L.u L.p hA h.still.up hlen (by rw [hal, h.hn]; omega) (rows_secs st hq) (fun k s h1 h2 hs' N hN => hN.place r k s hs' (by omega) (by rw [hal] at h2; omega)) with ⟨a1, a2, a3, a4, a5, a6, a7, a8⟩ | ⟨a1, a2, a3, a4, a5⟩
  · obtain ⟨u1, u2⟩ := puts_used L.f (allRows st) D L.u L.p a1
    have hfl : flat (ms ++ parts st) = flat ms ++ allRows st := by rw [flat_append, allRows_flat]
    have hfll : (flat (ms ++ parts st)).length = L.u + cost st.length := by rw [hfl, List.length_append, hal, hu]
    have hU : P.2.1 = (flat (ms ++ parts st)).length := by show (puts D L.f L.u L.p (allRows st)).2.1 = _; rw [u1, hfll, hal]
    have hPs : P.2.2.1 = (flat (ms ++ parts st)).foldl upd beg := by show (puts D L.f L.u L.p (allRows st)).2.2.1 = _; rw [u2, hfl, List.foldl_append, ← h.p]
    have hlg : merge L.lg st = fold (ms ++ parts st) := by rw [h.lg]; unfold fold; rw [fold_snoc, parts_merge]
    have hl2 : P.1.N.length = L.z * 128 := by rw [← h.hn]; exact a6
    have hrow : ∀ k (hk : k < (flat (ms ++ parts st)).length), sec P.1.N (L.f + 1 + k) = (flat (ms ++ parts st))[k] := fun k hk => by
      have hk' : k < L.u + cost st.length := by rw [← hfll]; exact hk
      have e : (flat (ms ++ parts st))[k]? = if k < L.u then (flat ms)[k]? else (allRows st)[k - L.u]? := by
        rw [hfl]
        by_cases hku : k < L.u
        · rw [if_pos hku, List.getElem?_append_left (by omega)]
        · rw [if_neg hku, List.getElem?_append_right (by omega), hu]
      by_cases hku : k < L.u
      · have hk2 : k < (flat ms).length := by omega
        rw [if_pos hku, List.getElem?_eq_getElem hk, List.getElem?_eq_getElem hk2] at e
        rw [Option.some.inj e, ← h.tel.i.row k hk2]
        exact a8 _ (by rw [h.hn]; omega) (by omega)
      · have hk2 : k - L.u < (allRows st).length := by rw [hal]; omega
        rw [if_neg hku, List.getElem?_eq_getElem hk, List.getElem?_eq_getElem hk2] at e
        rw [Option.some.inj e]
        have := a7 (k - L.u) hk2
        rwa [show L.f + 1 + L.u + (k - L.u) = L.f + 1 + k by omega] at this
    have hok : ∀ m ∈ ms ++ parts st, OkRow (Lg.new L.f L.n L.z 0) m := fun m hm => by
      rcases List.mem_append.1 hm with hm | hm
      · exact h.tel.i.ok m hm
      · exact (parts_ok (L := L) hs hh hq m hm).to rfl rfl rfl
    have hT : ∀ N, Tel L.f L.n L.z L.e ms T N → ∀ k, k < L.z → (k < L.f ∨ L.f + L.n ≤ k) → told N (ms ++ parts st) k = over st T k := fun N hN k hk hk2 => by
      have hsl : Srt L.lg := by rw [h.lg]; exact fold_srt ms [] List.Pairwise.nil
      unfold told over
      rw [← hlg, merge_get st L.lg k hsl hs]
      cases get st k with
      | some s => rfl
      | none =>
        simp only []
        rw [← hN.t k hk hk2, h.lg]
        rfl
    have key := set_safe (A := Tel L.f L.n L.z L.e ms T) (A1 := fun N => Tel L.f L.n L.z L.e ms T N ∧ ∀ k (hk : k < (flat (ms ++ parts st)).length), sec N (L.f + 1 + k) = (flat (ms ++ parts st))[k]) (B := Tel L.f L.n L.z L.e (ms ++ parts st) (over st T))
      a5 a2 ⟨a5.N, hrow⟩ L.f (by rw [a4, h.hn]; omega) (ctl L.e P.2.1 P.2.2.1) (ctl_length _ _ _)
      (fun N hN => by rw [hU, hPs]; exact Tel.set r hN.1.i.len _ _ _ hN.2 hok (by rw [hfll]; exact hc) (hT N hN.1))
      (fun N hN => by rw [hU, hPs]; exact hN.same r) (fun N hN => hN.1)
    rw [a3, a4] at key
    rcases key with ⟨b1, b2, b3, b4, b5, _⟩ | ⟨b1, b2, b3, b4, b5⟩
    · exact .inl ⟨a1, b1, ⟨b2, b5, hlg, hU, hPs, b4.trans h.hn⟩, b3⟩
    · exact .inr (.inl ⟨a1, b1, ⟨b2, b3, b4⟩, b5.mono (fun N hN => hN.imp (fun x => x.rcd ok.e) (fun x => x.rcd ok.e))⟩)
  · exact .inr (.inr ⟨a1, ⟨a2, a3, a4⟩, a5.mono (fun N hN => hN.rcd ok.e)⟩)

theorem homed_ok {L : Lg} (h : L.Ok) : L.homed.Ok := ⟨h.n1, h.n2, h.fz, h.z, Nat.mod_lt _ (by omega), Nat.zero_le _, beg_lt, by simp [Lg.homed], h.th⟩

/-- A commit: done, or power has failed, and then all or nothing. -/
theorem com_safe {ms : List SMap} {T : Nat → Sec} {D : Dsk} {L : Lg} (h : Lm ms T D L) (ok : L.Ok) (hsl : Srt L.lg) (hs : Srt L.st) (hq : ∀ q ∈ L.st, q.2.length = 128) (hc : cost L.st.length ≤ L.n - 1) :
    (comE D L = 0 ∧ (∃ ms', Lm ms' (over L.st T) (comD D L) (comL D L)) ∧ (comD D L).bound = D.bound ∧ (comL D L).f = L.f ∧ (comL D L).n = L.n ∧ (comL D L).z = L.z ∧ (comL D L).st = [] ∧ (comL D L).dead = L.dead) ∨
    (comE D L = 41 ∧ Off D.bound D.n (comD D L) ∧ DI (fun N => Rec L.f L.n L.z T N ∨ Rec L.f L.n L.z (over L.st T) N) (comD D L)) := by
  -- what goes ahead of the rows
  have key : ∀ (D0 : Dsk) (L0 : Lg) (ms0 : List SMap), com0E D L = 0 → D0 = com0D D L → L0 = com0L D L → Lm ms0 T D0 L0 → L0.Ok → L0.f = L.f → L0.n = L.n → L0.z = L.z → L0.dead = L.dead → D0.bound = D.bound → D0.n = D.n → L0.u + cost L.st.length ≤ L0.n - 1 →
      (comE D L = 0 ∧ (∃ ms', Lm ms' (over L.st T) (comD D L) (comL D L)) ∧ (comD D L).bound = D.bound ∧ (comL D L).f = L.f ∧ (comL D L).n = L.n ∧ (comL D L).z = L.z ∧ (comL D L).st = [] ∧ (comL D L).dead = L.dead) ∨
      (comE D L = 41 ∧ Off D.bound D.n (comD D L) ∧ DI (fun N => Rec L.f L.n L.z T N ∨ Rec L.f L.n L.z (over L.st T) N) (comD D L)) := by
    intro D0 L0 ms0 h0 hD hL hm okk hf hn hz hdd hb hDn hcc
    obtain ⟨t1, t2⟩ := com_tail (D := D) (L := L) h0 hD hL hf
    have hh : ∀ q ∈ L.st, L0.home q.1 := fun q hq => by have := ok.th q hq; unfold Lg.home at this ⊢; rw [hf, hn, hz]; exact this
    have := row_safe hm okk hs hh hq hcc
    simp only at this
    rcases this with ⟨a1, a2, a3, a4⟩ | ⟨a1, a2, a3, a4⟩ | ⟨a1, a2, a3⟩
    · obtain ⟨e1, e2, e3⟩ := t2 a1
      have hE : comE D L = 0 := by rw [e1, a2]
      have e3' : comL D L = { L0.ctl L0.e (puts D0 L0.f L0.u L0.p (allRows L.st)).2.1 (puts D0 L0.f L0.u L0.p (allRows L.st)).2.2.1 with lg := merge L0.lg L.st, st := [] } := by
        rw [e3, if_neg (by rw [hE]; simp)]
      refine .inl ⟨hE, ⟨_, by rw [e2, e3']; exact a3⟩, by rw [e2, a4, hb], ?_⟩
      rw [e3']
      exact ⟨hf, hn, hz, rfl, hdd⟩
    · obtain ⟨e1, e2, e3⟩ := t2 a1
      refine .inr ⟨by rw [e1, a2], by rw [e2, ← hb, ← hDn]; exact a3, ?_⟩
      rw [e2, ← hf, ← hn, ← hz]
      exact a4
    · obtain ⟨e1, e2, e3⟩ := t1 (by rw [a1]; decide)
      refine .inr ⟨by rw [e1, a1], by rw [e2, ← hb, ← hDn]; exact a2, ?_⟩
      rw [e2, ← hf, ← hn, ← hz]
      exact a3.mono (fun N hN => .inl hN)
  by_cases hH : comH L = true
  · have q1 : com0E D L = HomE D L := by simp [com0E, hH]
    have q2 : com0D D L = HomD D L := by simp [com0D, hH]
    have q3 : com0L D L = HomL D L := by simp [com0L, hH]
    rcases hom_safe h ok hsl with ⟨a1, a2, a3, a4⟩ | ⟨a1, a2, a3, a4⟩
    · refine key _ L.homed [] (by rw [q1, a1]) q2.symm (by rw [q3, a4]) a2 (homed_ok ok) rfl rfl rfl rfl a3 (a2.hn.trans h.hn.symm) ?_
      show 0 + _ ≤ L.n - 1
      omega
    · have e1 : comE D L = 41 := by simp [comE, q1, a1]
      have e2 : comD D L = HomD D L := by simp [comD, q1, q2, a1]
      refine .inr ⟨e1, by rw [e2]; exact a2, ?_⟩
      rw [e2]
      exact a3.mono (fun N hN => .inl hN)
  · have hH' : comH L = false := by simpa using hH
    have hcc : L.u + cost L.st.length ≤ L.n - 1 := by simp [comH] at hH'; omega
    exact key D L ms (by simp [com0E, hH']) (by simp [com0D, hH']) (by simp [com0L, hH']) h ok rfl rfl rfl rfl rfl rfl hcc

end Go.Proofs.YtehoiahgkbnjdaaGreat.Wl
