/- Plain facts of scaling a decimal. Nothing here speaks of the Go text. -/
import Derived.Test.YtionmohglmbklaaGreatDoorDcp
namespace Go.Proofs.YtionmohglmbklaaGreatDoor.Tr

/-- Shifted to the right by any number of bits. -/
def shR (k : Nat) (s : DC) : DC := if 60 < k then shR (k - 60) (rsh 60 s) else rsh k s
termination_by k
decreasing_by omega
theorem shR_great {k : Nat} (h : 60 < k) (s : DC) : shR k s = shR (k - 60) (rsh 60 s) := by
  rw [shR, if_pos h]
theorem shR_small {k : Nat} (h : k ≤ 60) (s : DC) : shR k s = rsh k s := by
  rw [shR, if_neg (by omega)]
theorem shR_ok (k : Nat) : ∀ (s : DC), 1 ≤ k → DOk s.L → DOk (shR k s).L ∧ (shR k s).dp ≤ s.dp ∧ s.dp - 820 * (k : Int) ≤ (shR k s).dp := by
  induction k using Nat.strongRecOn with
  | ind k ih =>
    intro s hk hs
    rcases Nat.lt_or_ge 60 k with h | h
    · rw [shR_great h]
      obtain ⟨h1, h2, h3, _⟩ := rsh_ok (k := 60) (by decide) (by decide) hs
      obtain ⟨g1, g2, g3⟩ := ih (k - 60) (by omega) (rsh 60 s) (by omega) h1
      exact ⟨g1, by omega, by omega⟩
    · rw [shR_small h]
      obtain ⟨h1, h2, h3, _⟩ := rsh_ok hk h hs
      exact ⟨h1, h2, by omega⟩

/-- How far to shift. -/
def powN (d : Nat) : Nat := [1, 3, 6, 9, 13, 16, 19, 23, 26].getD d 27
theorem powN_le (d : Nat) : 1 ≤ powN d ∧ powN d ≤ 27 := by
  unfold powN
  rcases Nat.lt_or_ge d 9 with h | h
  · have : ∀ d : Fin 9, 1 ≤ [1, 3, 6, 9, 13, 16, 19, 23, 26].getD d.1 27 ∧ [1, 3, 6, 9, 13, 16, 19, 23, 26].getD d.1 27 ≤ 27 := by decide
    exact this ⟨d, h⟩
  · rw [List.getD_eq_getElem?_getD, List.getElem?_eq_none (by simpa using h)]
    decide
def hd0 (L : List UInt8) : Nat := match L with
  | c :: _ => c.toNat
  | [] => 0
theorem hd0_ok {L : List UInt8} (h : DOk L) : 49 ≤ hd0 L ∧ hd0 L ≤ 57 := by
  obtain ⟨c, r, e, hc⟩ := h.hd
  have := h.dg c (by rw [e]; exact List.mem_cons_self)
  rw [e]; exact ⟨hc, this.2⟩

def m1 (s : DC) : Nat := (100 * s.dp + (hd0 s.L : Int)).toNat
theorem m1_lt {k : Nat} (hk1 : 1 ≤ k) (hk : k ≤ 60) {s : DC} (hs : DOk s.L) (hd : 0 < s.dp) : m1 (rsh k s) < m1 s := by
  obtain ⟨h1, h2, _, h3⟩ := rsh_ok hk1 hk hs
  have a := hd0_ok hs
  have b := hd0_ok h1
  unfold m1
  rcases h3 with h3 | ⟨c, c', r, r', e1, e2, h3⟩
  · omega
  · have : hd0 (rsh k s).L < hd0 s.L := by rw [e1, e2]; exact h3
    omega
/-- Scaled down below one. -/
def fb1 : Nat → DC → Int → DC × Int
  | 0, s, e => (s, e)
  | f + 1, s, e => if 0 < s.dp then fb1 f (rsh (powN s.dp.toNat) s) (e + (powN s.dp.toNat : Int)) else (s, e)
theorem fb1_stop {s : DC} (h : ¬ 0 < s.dp) : ∀ (f : Nat) (e : Int), fb1 f s e = (s, e)
  | 0, _ => rfl
  | f + 1, e => by unfold fb1; rw [if_neg h]
theorem fb1_any : ∀ (f f' : Nat) (s : DC) (e : Int), DOk s.L → m1 s ≤ f → m1 s ≤ f' → fb1 f s e = fb1 f' s e
  | 0, f', s, e, hs, h, _ => by
    have a := hd0_ok hs
    have : ¬ 0 < s.dp := by unfold m1 at h; omega
    rw [fb1_stop this, fb1_stop this]
  | f + 1, f', s, e, hs, h, h' => by
    by_cases hd : 0 < s.dp
    · cases f' with
      | zero =>
        exfalso
        have a := hd0_ok hs
        unfold m1 at h'; omega
      | succ f' =>
        have p := powN_le s.dp.toNat
        have hl := m1_lt p.1 (by omega) hs hd
        unfold fb1
        rw [if_pos hd, if_pos hd]
        exact fb1_any f f' _ _ (rsh_ok p.1 (by omega) hs).1 (by omega) (by omega)
    · rw [fb1_stop hd, fb1_stop hd]
def sc1 (s : DC) (e : Int) : DC × Int := fb1 (m1 s) s e
theorem sc1_step {s : DC} {e : Int} (hs : DOk s.L) (hd : 0 < s.dp) : sc1 s e = sc1 (rsh (powN s.dp.toNat) s) (e + (powN s.dp.toNat : Int)) := by
  have p := powN_le s.dp.toNat
  have hl := m1_lt p.1 (by omega) hs hd
  unfold sc1
  obtain ⟨m, hm⟩ : ∃ m, m1 s = m + 1 := ⟨m1 s - 1, by omega⟩
  rw [hm]
  conv => lhs; unfold fb1
  rw [if_pos hd]
  exact fb1_any _ _ _ _ (rsh_ok p.1 (by omega) hs).1 (by omega) (Nat.le_refl _)
theorem sc1_stop {s : DC} {e : Int} (h : ¬ 0 < s.dp) : sc1 s e = (s, e) := fb1_stop h _ _

/-- A table of cheats. -/
def CTok (T : Nat → Nat × List UInt8) : Prop := ∀ k, 1 ≤ k → k ≤ 60 → Cheat k (T k).1 (T k).2
def lshT (T : Nat → Nat × List UInt8) (k : Nat) (s : DC) : DC := lsh k (T k).1 (T k).2 s
def low (s : DC) : Bool := decide (s.dp < 0) || (decide (s.dp = 0) && decide (hd0 s.L < 53))
def m2 (s : DC) : Nat := (100 * (1 - s.dp) - (hd0 s.L : Int)).toNat
theorem m2_lt {T : Nat → Nat × List UInt8} (hT : CTok T) {k : Nat} (hk1 : 1 ≤ k) (hk : k ≤ 60) {s : DC} (hs : DOk s.L) (hd : s.dp ≤ 0) : m2 (lshT T k s) < m2 s := by
  obtain ⟨h1, h2, _, h3⟩ := lsh_ok (hT k hk1 hk) hs
  have a := hd0_ok hs
  have b := hd0_ok h1
  unfold m2 lshT
  rcases h3 hk1 with h3 | ⟨c, c', r, r', e1, e2, h3⟩
  · omega
  · have : hd0 s.L < hd0 (lsh k (T k).1 (T k).2 s).L := by rw [e1, e2]; exact h3
    omega
theorem low_le {s : DC} (h : low s = true) : s.dp ≤ 0 := by
  unfold low at h
  simp at h
  omega
/-- Scaled up to a half. -/
def fb2 (T : Nat → Nat × List UInt8) : Nat → DC → Int → DC × Int
  | 0, s, e => (s, e)
  | f + 1, s, e => if low s then fb2 T f (lshT T (powN (-s.dp).toNat) s) (e - (powN (-s.dp).toNat : Int)) else (s, e)
theorem fb2_stop {T : Nat → Nat × List UInt8} {s : DC} (h : low s = false) : ∀ (f : Nat) (e : Int), fb2 T f s e = (s, e)
  | 0, _ => rfl
  | f + 1, e => by unfold fb2; rw [if_neg (by rw [h]; decide)]
theorem fb2_any {T : Nat → Nat × List UInt8} (hT : CTok T) : ∀ (f f' : Nat) (s : DC) (e : Int), DOk s.L → m2 s ≤ f → m2 s ≤ f' → fb2 T f s e = fb2 T f' s e
  | 0, f', s, e, hs, h, _ => by
    have a := hd0_ok hs
    cases hl : low s with
    | false => rw [fb2_stop hl, fb2_stop hl]
    | true => have := low_le hl; unfold m2 at h; omega
  | f + 1, f', s, e, hs, h, h' => by
    cases hd : low s with
    | true =>
      have hle := low_le hd
      cases f' with
      | zero =>
        exfalso
        have a := hd0_ok hs
        unfold m2 at h'; omega
      | succ f' =>
        have p := powN_le (-s.dp).toNat
        have hl := m2_lt hT p.1 (by omega) hs hle
        unfold fb2
        rw [hd, if_pos rfl, if_pos rfl]
        exact fb2_any hT f f' _ _ (lsh_ok (hT _ p.1 (by omega)) hs).1 (by omega) (by omega)
    | false => rw [fb2_stop hd, fb2_stop hd]
def sc2 (T : Nat → Nat × List UInt8) (s : DC) (e : Int) : DC × Int := fb2 T (m2 s) s e
theorem sc2_step {T : Nat → Nat × List UInt8} (hT : CTok T) {s : DC} {e : Int} (hs : DOk s.L) (hd : low s = true) : sc2 T s e = sc2 T (lshT T (powN (-s.dp).toNat) s) (e - (powN (-s.dp).toNat : Int)) := by
  have p := powN_le (-s.dp).toNat
  have hl := m2_lt hT p.1 (by omega) hs (low_le hd)
  unfold sc2
  obtain ⟨m, hm⟩ : ∃ m, m2 s = m + 1 := ⟨m2 s - 1, by omega⟩
  rw [hm]
  conv => lhs; unfold fb2
  rw [if_pos hd]
  exact fb2_any hT _ _ _ _ (lsh_ok (hT _ p.1 (by omega)) hs).1 (by omega) (Nat.le_refl _)
theorem sc2_stop {T : Nat → Nat × List UInt8} {s : DC} {e : Int} (h : low s = false) : sc2 T s e = (s, e) := fb2_stop h _ _

/-- Is it to be rounded up, where it is cut at a place? -/
def rup (s : DC) (nd : Nat) : Bool :=
  if s.L.length ≤ nd then false
  else if (s.L.getD nd 0).toNat = 53 ∧ nd + 1 = s.L.length then (if s.tr then true else if nd = 0 then false else ((s.L.getD (nd - 1) 0).toNat - 48) % 2 != 0)
  else decide (53 ≤ (s.L.getD nd 0).toNat)

/-! ### Digits put down from the last one on -/
def Wrt (G : List UInt8) (tr : Bool) (A : List UInt8) (tr' : Bool) (q : Nat) : Prop := (∀ i, q ≤ i → i < G.length → i < 800 → A[i]? = G[i]?) ∧ tr' = (tr || (G.drop (max q 800)).any (· != 48))
theorem Wrt.start (G : List UInt8) (tr : Bool) (A : List UInt8) : Wrt G tr A tr G.length :=
  ⟨fun i h1 h2 _ => by omega, by rw [List.drop_eq_nil_of_le (by omega)]; simp⟩
theorem Wrt.low {G : List UInt8} {tr : Bool} {A : List UInt8} {tr' : Bool} {q : Nat} {x : UInt8} (h : Wrt G tr A tr' (q + 1)) (hx : G[q]? = some x) (hq : q < 800) (hA : A.length = 800) : Wrt G tr (A.set q x) tr' q := by
  refine ⟨fun i h1 h2 h3 => ?_, ?_⟩
  · rw [List.getElem?_set]
    split
    · rename_i e
      subst e
      rw [if_pos (by omega), hx]
    · exact h.1 i (by omega) h2 h3
  · rw [h.2, show max (q + 1) 800 = max q 800 by omega]
theorem Wrt.high {G : List UInt8} {tr : Bool} {A : List UInt8} {tr' : Bool} {q : Nat} {x : UInt8} (h : Wrt G tr A tr' (q + 1)) (hx : G[q]? = some x) (hq : 800 ≤ q) : Wrt G tr A (tr' || x != 48) q := by
  refine ⟨fun i h1 h2 h3 => by omega, ?_⟩
  obtain ⟨hl, he⟩ := List.getElem?_eq_some_iff.1 hx
  rw [h.2, show max (q + 1) 800 = q + 1 by omega, show max q 800 = q by omega, List.drop_eq_getElem_cons hl, he, List.any_cons, Bool.or_assoc]
  congr 1
  rw [Bool.or_comm]
theorem Wrt.fin {G : List UInt8} {tr : Bool} {A : List UInt8} {tr' : Bool} (h : Wrt G tr A tr' 0) : A.take (min G.length 800) = G.take 800 ∧ tr' = (tr || (G.drop 800).any (· != 48)) := by
  refine ⟨?_, h.2⟩
  apply List.ext_getElem?
  intro i
  rw [List.getElem?_take, List.getElem?_take]
  by_cases h1 : i < 800
  · by_cases h2 : i < G.length
    · rw [if_pos (by omega), if_pos h1]
      exact h.1 i (by omega) h2 h1
    · rw [if_neg (by omega), if_pos h1, List.getElem?_eq_none (by omega)]
  · rw [if_neg (by omega), if_neg h1]
/-- One digit more, of what is shifted to the left. -/
theorem carry_step {P X n y K e : Nat} (h : n + (X * 10 + y) * K = P / 10 ^ e) : (n + y * K) % 10 = P / 10 ^ e % 10 ∧ (n + y * K) / 10 + X * K = P / 10 ^ (e + 1) := by
  have e1 : P / 10 ^ (e + 1) = P / 10 ^ e / 10 := by rw [Nat.pow_succ, Nat.div_div_eq_div_mul]
  have e2 : (X * 10 + y) * K = X * K * 10 + y * K := by rw [Nat.add_mul]; congr 1; ac_rfl
  rw [e1, ← h, e2]
  generalize X * K = a
  generalize y * K = c
  omega

end Go.Proofs.YtionmohglmbklaaGreatDoor.Tr
