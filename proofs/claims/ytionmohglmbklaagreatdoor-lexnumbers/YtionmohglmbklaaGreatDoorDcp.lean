/- Plain facts of digits in rows, and of shifting them. Nothing here speaks of the Go text. -/
import Derived.WalkKit
namespace Go.Proofs.YtionmohglmbklaaGreatDoor.Tr

def dv (c : UInt8) : Nat := c.toNat - 48
def isD (L : List UInt8) : Prop := ∀ c ∈ L, 48 ≤ c.toNat ∧ c.toNat ≤ 57
theorem dv_lt {c : UInt8} (h : 48 ≤ c.toNat ∧ c.toNat ≤ 57) : dv c ≤ 9 := by unfold dv; omega

/-- The number that digits say. -/
def dval : List UInt8 → Nat
  | [] => 0
  | c :: r => dv c * 10 ^ r.length + dval r
theorem val_app : ∀ (A B : List UInt8), dval (A ++ B) = dval A * 10 ^ B.length + dval B
  | [], B => by simp [dval]
  | c :: r, B => by
    simp only [List.cons_append, dval, val_app r B, List.length_append, Nat.pow_add, Nat.add_mul]
    rw [Nat.mul_assoc]; omega
theorem val_snoc (A : List UInt8) (c : UInt8) : dval (A ++ [c]) = dval A * 10 + dv c := by
  rw [val_app]; simp [dval]
theorem val_lt : ∀ {L : List UInt8}, isD L → dval L < 10 ^ L.length
  | [], _ => by simp [dval]
  | c :: r, h => by
    have h1 := val_lt (L := r) (fun x hx => h x (List.mem_cons_of_mem _ hx))
    have h2 := dv_lt (h c List.mem_cons_self)
    simp only [dval, List.length_cons, Nat.pow_succ]
    have : dv c * 10 ^ r.length ≤ 9 * 10 ^ r.length := Nat.mul_le_mul_right _ h2
    omega
theorem val_ge {c : UInt8} {r : List UInt8} (hc : 49 ≤ c.toNat) : 10 ^ r.length ≤ dval (c :: r) := by
  simp only [dval]
  have : 1 * 10 ^ r.length ≤ dv c * 10 ^ r.length := Nat.mul_le_mul_right _ (by unfold dv; omega)
  omega

/-- A digit. -/
def dig (x : Nat) : UInt8 := UInt8.ofNat (48 + x % 10)
theorem dig_toNat (x : Nat) : (dig x).toNat = 48 + x % 10 := by
  unfold dig
  rw [UInt8.toNat_ofNat']
  omega
theorem dig_val (x : Nat) : dv (dig x) = x % 10 := by unfold dv; rw [dig_toNat]; omega
/-- The last n digits of a number. -/
def dgs : Nat → Nat → List UInt8
  | 0, _ => []
  | n + 1, x => dgs n (x / 10) ++ [dig x]
theorem dgs_length : ∀ (n x : Nat), (dgs n x).length = n
  | 0, _ => rfl
  | n + 1, x => by simp [dgs, dgs_length n]
theorem dgs_isD : ∀ (n x : Nat), isD (dgs n x)
  | 0, _ => by intro c h; simp [dgs] at h
  | n + 1, x => by
    intro c h
    simp only [dgs, List.mem_append, List.mem_singleton] at h
    rcases h with h | rfl
    · exact dgs_isD n _ c h
    · rw [dig_toNat]; omega
theorem dgs_get : ∀ (n x i : Nat), i < n → (dgs n x)[i]? = some (dig (x / 10 ^ (n - 1 - i)))
  | 0, _, _, h => by omega
  | n + 1, x, i, h => by
    simp only [dgs]
    rcases Nat.lt_or_ge i n with hi | hi
    · rw [List.getElem?_append_left (by rw [dgs_length]; exact hi), dgs_get n _ i hi, Nat.div_div_eq_div_mul]
      congr 3
      rw [← Nat.pow_succ']; congr 1; omega
    · obtain rfl : i = n := by omega
      rw [List.getElem?_append_right (by rw [dgs_length]; exact Nat.le_refl _), dgs_length]
      simp

/-- Is the beginning of b below s? -/
def pless : List UInt8 → List UInt8 → Bool
  | _, [] => false
  | [], _ :: _ => true
  | b :: bs, s :: ss => if b = s then pless bs ss else decide (b.toNat < s.toNat)
/-- Digits that end with another one than 0. -/
def endD (L : List UInt8) : Prop := ∀ c, L.getLast? = some c → 49 ≤ c.toNat
theorem endD_pos : ∀ {L : List UInt8}, endD L → L ≠ [] → 0 < dval L
  | [], _, h => absurd rfl h
  | [c], h, _ => by
    have := h c rfl
    simp [dval, dv]; omega
  | c :: d :: r, h, _ => by
    have := endD_pos (L := d :: r) (fun x hx => h x (by simpa using hx)) (by simp)
    simp only [dval] at this ⊢
    omega
theorem endD_tail {c : UInt8} {r : List UInt8} (h : endD (c :: r)) : endD r := by
  intro x hx
  cases r with
  | nil => simp at hx
  | cons d r => exact h x (by simpa using hx)
theorem pless_true : ∀ {b s : List UInt8}, isD b → isD s → endD s → pless b s = true → dval b * 10 ^ s.length < dval s * 10 ^ b.length
  | _, [], _, _, _, h => by simp [pless] at h
  | [], c :: r, _, _, he, _ => by
    have := endD_pos he (by simp)
    simpa [dval] using this
  | b :: bs, s :: ss, hb, hs, he, h => by
    have hb' : isD bs := fun x hx => hb x (List.mem_cons_of_mem _ hx)
    have hs' : isD ss := fun x hx => hs x (List.mem_cons_of_mem _ hx)
    simp only [pless] at h
    simp only [dval, List.length_cons, Nat.pow_succ]
    have hp : 0 < 10 ^ ss.length := Nat.pow_pos (by decide)
    have hq : 0 < 10 ^ bs.length := Nat.pow_pos (by decide)
    split at h
    · rename_i e
      subst e
      have ih := pless_true hb' hs' (endD_tail he) h
      generalize 10 ^ ss.length = P at *
      generalize 10 ^ bs.length = Q at *
      rw [Nat.add_mul, Nat.add_mul]
      have e1 : dv b * Q * (P * 10) = dv b * P * (Q * 10) := by ac_rfl
      have e2 : dval bs * (P * 10) = dval bs * P * 10 := by ac_rfl
      have e3 : dval ss * (Q * 10) = dval ss * Q * 10 := by ac_rfl
      omega
    · have hl : b.toNat < s.toNat := by simpa using h
      have h1 := val_lt hb'
      have hd : dv b + 1 ≤ dv s := by
        have := hb b List.mem_cons_self
        unfold dv; omega
      generalize 10 ^ ss.length = P at *
      generalize 10 ^ bs.length = Q at *
      have hx : dv b * Q + dval bs < dv s * Q := by
        have : (dv b + 1) * Q ≤ dv s * Q := Nat.mul_le_mul_right _ hd
        rw [Nat.add_mul] at this; omega
      have hy : (dv b * Q + dval bs) * (P * 10) < dv s * Q * (P * 10) := Nat.mul_lt_mul_of_pos_right hx (by omega)
      have e1 : dv s * Q * (P * 10) = dv s * P * (Q * 10) := by ac_rfl
      rw [Nat.add_mul (dv s * P)]
      omega
theorem pless_false : ∀ {b s : List UInt8}, isD b → isD s → pless b s = false → dval s * 10 ^ b.length ≤ dval b * 10 ^ s.length
  | _, [], _, _, _ => by simp [dval]
  | [], c :: r, _, _, h => by simp [pless] at h
  | b :: bs, s :: ss, hb, hs, h => by
    have hb' : isD bs := fun x hx => hb x (List.mem_cons_of_mem _ hx)
    have hs' : isD ss := fun x hx => hs x (List.mem_cons_of_mem _ hx)
    simp only [pless] at h
    simp only [dval, List.length_cons, Nat.pow_succ]
    split at h
    · rename_i e
      subst e
      have ih := pless_false hb' hs' h
      generalize 10 ^ ss.length = P at *
      generalize 10 ^ bs.length = Q at *
      rw [Nat.add_mul, Nat.add_mul]
      have e1 : dv b * Q * (P * 10) = dv b * P * (Q * 10) := by ac_rfl
      have e2 : dval bs * (P * 10) = dval bs * P * 10 := by ac_rfl
      have e3 : dval ss * (Q * 10) = dval ss * Q * 10 := by ac_rfl
      omega
    · rename_i hne
      have hl : ¬ b.toNat < s.toNat := by simpa using h
      have hn : b.toNat ≠ s.toNat := fun e => hne (UInt8.toNat_inj.1 e)
      have h1 := val_lt hs'
      have hd : dv s + 1 ≤ dv b := by
        have := hs s List.mem_cons_self
        unfold dv; omega
      generalize 10 ^ ss.length = P at *
      generalize 10 ^ bs.length = Q at *
      have hx : dv s * P + dval ss < dv b * P := by
        have : (dv s + 1) * P ≤ dv b * P := Nat.mul_le_mul_right _ hd
        rw [Nat.add_mul] at this; omega
      have hy : (dv s * P + dval ss) * (Q * 10) ≤ dv b * P * (Q * 10) := Nat.mul_le_mul_right _ (Nat.le_of_lt hx)
      have e1 : dv b * P * (Q * 10) = dv b * Q * (P * 10) := by ac_rfl
      rw [Nat.add_mul (dv b * Q)]
      omega

/-- What a cheat must be, of a shift. -/
structure Cheat (k D : Nat) (C : List UInt8) : Prop where
  dg : isD C
  en : endD C
  va : dval C = 5 ^ k
  ln : C.length + D = k + 1
  up : 2 ^ k < 10 ^ D
  lo : 10 ^ D ≤ 2 ^ k * 10
  pos : 1 ≤ D
  le : D ≤ 19
  cl : C.length ≤ 42
/-- How many digits more there are. -/
def more (D : Nat) (C L : List UInt8) : Nat := if pless L C then D - 1 else D
theorem cheat_up {k D : Nat} {C L : List UInt8} (h : Cheat k D C) (hL : isD L) : dval L * 2 ^ k < 10 ^ (L.length + more D C L) := by
  unfold more
  split
  · rename_i e
    have h1 := pless_true hL h.dg h.en e
    rw [h.va] at h1
    have h2 : dval L * 10 ^ C.length * 2 ^ k < 5 ^ k * 10 ^ L.length * 2 ^ k := Nat.mul_lt_mul_of_pos_right h1 (Nat.pow_pos (by decide))
    have e1 : 5 ^ k * 10 ^ L.length * 2 ^ k = 10 ^ k * 10 ^ L.length := by
      rw [show (10 : Nat) ^ k = 5 ^ k * 2 ^ k by rw [← Nat.mul_pow]]; ac_rfl
    have e2 : 10 ^ k * 10 ^ L.length = 10 ^ (L.length + (D - 1)) * 10 ^ C.length := by
      rw [← Nat.pow_add, ← Nat.pow_add]; congr 1; have := h.ln; have := h.pos; omega
    have e3 : dval L * 10 ^ C.length * 2 ^ k = dval L * 2 ^ k * 10 ^ C.length := by ac_rfl
    rw [e1, e2, e3] at h2
    exact Nat.lt_of_mul_lt_mul_right h2
  · rw [Nat.pow_add]
    have h1 := val_lt hL
    have h2 := h.up
    exact Nat.mul_lt_mul'' h1 h2
theorem cheat_lo {k D : Nat} {C : List UInt8} {c : UInt8} {r : List UInt8} (h : Cheat k D C) (hL : isD (c :: r)) (hc : 49 ≤ c.toNat) : 10 ^ (r.length + more D C (c :: r)) ≤ dval (c :: r) * 2 ^ k := by
  unfold more
  split
  · have h1 := val_ge (r := r) hc
    have h2 : 10 ^ (D - 1) ≤ 2 ^ k := by
      have h3 := h.lo
      have h4 : 10 ^ D = 10 ^ (D - 1) * 10 := by rw [← Nat.pow_succ]; congr 1; have := h.pos; omega
      omega
    rw [Nat.pow_add]
    exact Nat.mul_le_mul h1 h2
  · rename_i e
    have h1 := pless_false hL h.dg (by simpa using e)
    rw [h.va] at h1
    have h2 : 5 ^ k * 10 ^ (c :: r).length * 2 ^ k ≤ dval (c :: r) * 10 ^ C.length * 2 ^ k := Nat.mul_le_mul_right _ h1
    have e1 : 5 ^ k * 10 ^ (c :: r).length * 2 ^ k = 10 ^ k * 10 ^ (c :: r).length := by
      rw [show (10 : Nat) ^ k = 5 ^ k * 2 ^ k by rw [← Nat.mul_pow]]; ac_rfl
    have e2 : 10 ^ k * 10 ^ (c :: r).length = 10 ^ (r.length + D) * 10 ^ C.length := by
      rw [← Nat.pow_add, ← Nat.pow_add]; congr 1; have := h.ln; simp only [List.length_cons]; omega
    have e3 : dval (c :: r) * 10 ^ C.length * 2 ^ k = dval (c :: r) * 2 ^ k * 10 ^ C.length := by ac_rfl
    rw [e1, e2, e3] at h2
    exact Nat.le_of_mul_le_mul_right h2 (Nat.pow_pos (by decide))

/-! ### A decimal: digits, where the point stands, whether digits were left out -/
structure DC where
  L : List UInt8
  dp : Int
  tr : Bool
/-- Digits that begin with another one than 0, eight hundred at most. -/
structure DOk (L : List UInt8) : Prop where
  dg : isD L
  hd : ∃ c r, L = c :: r ∧ 49 ≤ c.toNat
  le : L.length ≤ 800
/-- Without the noughts at the end. -/
def trimN (A : List UInt8) : Nat → Nat
  | 0 => 0
  | n + 1 => if A[n]? = some 48 then trimN A n else n + 1
theorem trimN_le (A : List UInt8) : ∀ n, trimN A n ≤ n
  | 0 => Nat.le_refl _
  | n + 1 => by
    unfold trimN
    split
    · exact Nat.le_succ_of_le (trimN_le A n)
    · exact Nat.le_refl _
theorem trimN_pos {A : List UInt8} {c : UInt8} (h : A[0]? = some c) (hc : c ≠ 48) : ∀ n, 0 < n → 0 < trimN A n
  | 0, h0 => absurd h0 (by omega)
  | 1, _ => by
    unfold trimN
    rw [if_neg (by rw [h]; intro e; exact hc (Option.some.inj e))]
    omega
  | n + 2, _ => by
    unfold trimN
    split
    · exact trimN_pos h hc (n + 1) (by omega)
    · omega
theorem trimN_congr {A B : List UInt8} : ∀ n, (∀ i, i < n → A[i]? = B[i]?) → trimN A n = trimN B n
  | 0, _ => rfl
  | n + 1, h => by
    unfold trimN
    rw [h n (by omega), trimN_congr n (fun i hi => h i (by omega))]
def trimL (L : List UInt8) : List UInt8 := L.take (trimN L L.length)
theorem trimL_eq (A : List UInt8) (n : Nat) (hn : n ≤ A.length) : A.take (trimN A n) = trimL (A.take n) := by
  unfold trimL
  rw [List.length_take, Nat.min_eq_left hn, List.take_take]
  have e : trimN (A.take n) n = trimN A n := trimN_congr n (fun i hi => by rw [List.getElem?_take]; simp [hi])
  rw [e, Nat.min_eq_left (trimN_le A n)]
theorem trimL_length (A : List UInt8) (n : Nat) (hn : n ≤ A.length) : (trimL (A.take n)).length = trimN A n := by
  rw [← trimL_eq A n hn, List.length_take]
  have := trimN_le A n
  omega
theorem trimL_ok {L : List UInt8} (hd : isD L) (c : UInt8) (r : List UInt8) (e : L = c :: r) (hc : 49 ≤ c.toNat) : DOk (trimL (L.take 800)) ∧ ∃ r', trimL (L.take 800) = c :: r' := by
  have hsub : ∀ x ∈ trimL (L.take 800), x ∈ L := fun x hx => List.mem_of_mem_take (List.mem_of_mem_take hx)
  have hpos : 0 < trimN (L.take 800) (L.take 800).length := trimN_pos (c := c) (by subst e; rfl) (fun e => by subst e; simp at hc) _ (by subst e; simp)
  have hh : ∃ r', trimL (L.take 800) = c :: r' := by
    unfold trimL
    obtain ⟨m, hm⟩ : ∃ m, trimN (L.take 800) (L.take 800).length = m + 1 := ⟨_, (Nat.succ_pred_eq_of_pos hpos).symm⟩
    rw [hm]
    subst e
    exact ⟨_, rfl⟩
  refine ⟨⟨fun x hx => hd x (hsub x hx), ?_, ?_⟩, hh⟩
  · obtain ⟨r', h⟩ := hh
    exact ⟨c, r', h, hc⟩
  · unfold trimL
    simp only [List.length_take]
    omega

/-- Shifted to the left: all digits. -/
def lshG (k D : Nat) (C L : List UInt8) : List UInt8 := dgs (L.length + more D C L) (dval L * 2 ^ k)
def lsh (k D : Nat) (C : List UInt8) (s : DC) : DC := ⟨trimL ((lshG k D C s.L).take 800), s.dp + (more D C s.L : Int), s.tr || ((lshG k D C s.L).drop 800).any (· != 48)⟩
theorem lshG_head {k D : Nat} {C : List UInt8} {c : UInt8} {r : List UInt8} (h : Cheat k D C) (hL : isD (c :: r)) (hc : 49 ≤ c.toNat) :
    ∃ c' r', lshG k D C (c :: r) = c' :: r' ∧ 49 ≤ c'.toNat ∧ (1 ≤ k → more D C (c :: r) = 0 → c.toNat < c'.toNat) := by
  have h1 := cheat_up h hL
  have h2 := cheat_lo h hL hc
  unfold lshG
  generalize hP : dval (c :: r) * 2 ^ k = P at *
  rw [List.length_cons] at h1 ⊢
  generalize hm : more D C (c :: r) = δ at *
  have e : r.length + 1 + δ = (r.length + δ) + 1 := by omega
  rw [e] at h1 ⊢
  have hg := dgs_get (r.length + δ + 1) P 0 (by omega)
  have hx : P / 10 ^ (r.length + δ) < 10 := by
    apply Nat.div_lt_of_lt_mul
    rw [Nat.pow_succ] at h1; omega
  have hy : 1 ≤ P / 10 ^ (r.length + δ) := (Nat.le_div_iff_mul_le (Nat.pow_pos (by decide))).2 (by omega)
  cases hd : dgs (r.length + δ + 1) P with
  | nil => have := dgs_length (r.length + δ + 1) P; rw [hd] at this; simp at this
  | cons c' r' =>
    rw [hd] at hg
    simp only [List.getElem?_cons_zero, Option.some.injEq, Nat.add_sub_cancel, Nat.sub_zero] at hg
    refine ⟨c', r', rfl, ?_, ?_⟩
    · rw [hg, dig_toNat]; omega
    · intro hk h0
      subst h0
      rw [hg, dig_toNat]
      rw [Nat.add_zero] at hx hy ⊢
      have hdv : dv c * 2 ≤ P / 10 ^ r.length := by
        rw [Nat.le_div_iff_mul_le (Nat.pow_pos (by decide)), ← hP]
        simp only [dval]
        have h3 : 2 ^ 1 ≤ 2 ^ k := Nat.pow_le_pow_right (by decide) hk
        have h4 : (dv c * 10 ^ r.length + dval r) * 2 ≤ (dv c * 10 ^ r.length + dval r) * 2 ^ k := Nat.mul_le_mul_left _ (by omega)
        have h5 : dv c * 2 * 10 ^ r.length = dv c * 10 ^ r.length * 2 := by ac_rfl
        omega
      have := hL c List.mem_cons_self
      unfold dv at hdv
      omega
theorem lsh_ok {k D : Nat} {C : List UInt8} {s : DC} (h : Cheat k D C) (hs : DOk s.L) : DOk (lsh k D C s).L ∧ s.dp ≤ (lsh k D C s).dp ∧ (lsh k D C s).dp ≤ s.dp + 19 ∧
    (1 ≤ k → s.dp < (lsh k D C s).dp ∨ ∃ c c' r r', s.L = c :: r ∧ (lsh k D C s).L = c' :: r' ∧ c.toNat < c'.toNat) := by
  obtain ⟨c, r, e, hc⟩ := hs.hd
  obtain ⟨c', r', e', hc', hlt⟩ := lshG_head h (e ▸ hs.dg) hc
  have hdg : isD (lshG k D C s.L) := dgs_isD _ _
  obtain ⟨h1, r'', h2⟩ := trimL_ok hdg c' r' (by rw [e]; exact e') hc'
  have hle : more D C s.L ≤ D := by unfold more; split <;> omega
  have hD := h.le
  refine ⟨h1, ?_, ?_, fun hk => ?_⟩
  · simp only [lsh]; omega
  · simp only [lsh]; omega
  · by_cases h0 : more D C s.L = 0
    · exact .inr ⟨c, c', r, r'', e, h2, hlt hk (e ▸ h0)⟩
    · refine .inl ?_
      simp only [lsh]; omega

/-! ### Shifting to the right -/
/-- Noughts taken in until there is enough. -/
def grow (k : Nat) : Nat → Nat → Nat → Nat × Nat
  | 0, n, r => (n, r)
  | f + 1, n, r => if n / 2 ^ k = 0 then grow k f (n * 10) (r + 1) else (n, r)
/-- Digits taken in until there is enough: what they say, how many, what is left. -/
def rpk (k : Nat) : Nat → Nat → List UInt8 → Nat × Nat × List UInt8
  | n, r, [] => ((grow k 20 n r).1, (grow k 20 n r).2, [])
  | n, r, c :: cs => if n / 2 ^ k = 0 then rpk k (n * 10 + dv c) (r + 1) cs else (n, r, c :: cs)
/-- The digits behind the last one. -/
def rs3 (k : Nat) : Nat → Nat → List UInt8
  | 0, _ => []
  | f + 1, n => if n = 0 then [] else dig (n / 2 ^ k) :: rs3 k f (n % 2 ^ k * 10)
/-- All digits of what is shifted. -/
def rs2 (k : Nat) : Nat → List UInt8 → List UInt8
  | n, [] => rs3 k (k + 2) n
  | n, c :: cs => dig (n / 2 ^ k) :: rs2 k (n % 2 ^ k * 10 + dv c) cs
def rshG (k : Nat) (L : List UInt8) : List UInt8 := rs2 k (rpk k 0 0 L).1 (rpk k 0 0 L).2.2
def rsh (k : Nat) (s : DC) : DC := ⟨trimL ((rshG k s.L).take 800), s.dp - ((rpk k 0 0 s.L).2.1 : Int) + 1, s.tr || ((rshG k s.L).drop 800).any (· != 48)⟩

theorem grow_ok (k : Nat) : ∀ (f n r : Nat), n < 10 * 2 ^ k → 2 ^ k ≤ n * 10 ^ f → 2 ^ k ≤ (grow k f n r).1 ∧ (grow k f n r).1 < 10 * 2 ^ k ∧ r ≤ (grow k f n r).2 ∧ (grow k f n r).2 ≤ r + f ∧ (n < 2 ^ k → r < (grow k f n r).2)
  | 0, n, r, h1, h2 => by
    simp only [grow]
    rw [Nat.pow_zero, Nat.mul_one] at h2
    exact ⟨h2, h1, Nat.le_refl _, by omega, fun h => by omega⟩
  | f + 1, n, r, h1, h2 => by
    unfold grow
    have hp : 0 < 2 ^ k := Nat.pow_pos (by decide)
    split
    · rename_i e
      have hlt : n < 2 ^ k := by
        rcases Nat.lt_or_ge n (2 ^ k) with h | h
        · exact h
        · have := Nat.div_pos h hp; omega
      have ⟨a, b, c, d, _⟩ := grow_ok k f (n * 10) (r + 1) (by omega) (by rw [Nat.pow_succ'] at h2; rw [Nat.mul_assoc]; exact h2)
      exact ⟨a, b, by omega, by omega, fun _ => by omega⟩
    · rename_i e
      have hge : 2 ^ k ≤ n := by
        rcases Nat.lt_or_ge n (2 ^ k) with h | h
        · exact absurd (Nat.div_eq_of_lt h) e
        · exact h
      exact ⟨hge, h1, Nat.le_refl _, by omega, fun h => by omega⟩
theorem rpk_ok {k : Nat} (hk : k ≤ 60) : ∀ {L : List UInt8} {n r : Nat}, isD L → n < 10 * 2 ^ k → (n = 0 → ∃ c R, L = c :: R ∧ 49 ≤ c.toNat) →
    2 ^ k ≤ (rpk k n r L).1 ∧ (rpk k n r L).1 < 10 * 2 ^ k ∧ r ≤ (rpk k n r L).2.1 ∧ (rpk k n r L).2.1 ≤ r + L.length + 20 ∧ isD (rpk k n r L).2.2 ∧ (n < 2 ^ k → r < (rpk k n r L).2.1) ∧ ((rpk k n r L).2.2 = [] ∨ (rpk k n r L).2.1 + (rpk k n r L).2.2.length = r + L.length)
  | [], n, r, hd, h1, h0 => by
    have hn : 1 ≤ n := by
      rcases Nat.eq_zero_or_pos n with e | e
      · obtain ⟨c, R, h, _⟩ := h0 e; cases h
      · exact e
    have hp : 2 ^ k ≤ 2 ^ 60 := Nat.pow_le_pow_right (by decide) hk
    have h2 : 2 ^ k ≤ n * 10 ^ 20 := by
      have : 1 * 10 ^ 20 ≤ n * 10 ^ 20 := Nat.mul_le_mul_right _ hn
      have e2 : (2 : Nat) ^ 60 ≤ 1 * 10 ^ 20 := by decide
      omega
    obtain ⟨a, b, c, d, e⟩ := grow_ok k 20 n r h1 h2
    simp only [rpk]
    exact ⟨a, b, c, by simpa using d, hd, e, .inl trivial⟩
  | c :: cs, n, r, hd, h1, h0 => by
    have hp : 0 < 2 ^ k := Nat.pow_pos (by decide)
    have hc := hd c List.mem_cons_self
    have hcv := dv_lt hc
    have hd' : isD cs := fun x hx => hd x (List.mem_cons_of_mem _ hx)
    unfold rpk
    split
    · rename_i e
      have hlt : n < 2 ^ k := by
        rcases Nat.lt_or_ge n (2 ^ k) with h | h
        · exact h
        · have := Nat.div_pos h hp; omega
      have hnz : n * 10 + dv c = 0 → ∃ c' R, cs = c' :: R ∧ 49 ≤ c'.toNat := by
        intro hz
        exfalso
        obtain ⟨c', R, h, h'⟩ := h0 (by omega)
        injection h with h _
        subst h
        unfold dv at hz; omega
      obtain ⟨a1, a2, a3, a4, a5, _, a7⟩ := rpk_ok hk (L := cs) (n := n * 10 + dv c) (r := r + 1) hd' (by omega) hnz
      simp only [List.length_cons]
      exact ⟨a1, a2, by omega, by omega, a5, fun _ => by omega, a7.imp id (fun h => by omega)⟩
    · rename_i e
      have hge : 2 ^ k ≤ n := by
        rcases Nat.lt_or_ge n (2 ^ k) with h | h
        · exact absurd (Nat.div_eq_of_lt h) e
        · exact h
      exact ⟨hge, h1, Nat.le_refl _, by show r ≤ r + (c :: cs).length + 20; omega, hd, fun h => by omega, .inr rfl⟩
theorem rs3_isD (k : Nat) : ∀ f n, isD (rs3 k f n)
  | 0, _ => by intro c h; simp [rs3] at h
  | f + 1, n => by
    unfold rs3
    split
    · intro c h; simp at h
    · intro c h
      rcases List.mem_cons.1 h with rfl | h
      · rw [dig_toNat]; omega
      · exact rs3_isD k f _ c h
theorem rs2_isD (k : Nat) : ∀ (L : List UInt8) (n : Nat), isD (rs2 k n L)
  | [], n => rs3_isD k _ n
  | c :: cs, n => by
    intro x h
    unfold rs2 at h
    rcases List.mem_cons.1 h with rfl | h
    · rw [dig_toNat]; omega
    · exact rs2_isD k cs _ x h
theorem rs2_head (k : Nat) (L : List UInt8) (n : Nat) (hn : 2 ^ k ≤ n) : ∃ r, rs2 k n L = dig (n / 2 ^ k) :: r := by
  have hp : 0 < 2 ^ k := Nat.pow_pos (by decide)
  cases L with
  | nil =>
    unfold rs2 rs3
    rw [if_neg (by omega)]
    exact ⟨_, rfl⟩
  | cons c cs => exact ⟨_, rfl⟩
theorem rsh_ok {k : Nat} (hk1 : 1 ≤ k) (hk : k ≤ 60) {s : DC} (hs : DOk s.L) : DOk (rsh k s).L ∧ (rsh k s).dp ≤ s.dp ∧ s.dp - 820 ≤ (rsh k s).dp ∧
    ((rsh k s).dp < s.dp ∨ ∃ c c' r r', s.L = c :: r ∧ (rsh k s).L = c' :: r' ∧ c'.toNat < c.toNat) := by
  obtain ⟨c, r, e, hc⟩ := hs.hd
  have hp : 0 < 2 ^ k := Nat.pow_pos (by decide)
  obtain ⟨a1, a2, a3, a4, a5, a6, a7⟩ := rpk_ok hk (n := 0) (r := 0) hs.dg (by omega) (fun _ => ⟨c, r, e, hc⟩)
  obtain ⟨r', e'⟩ := rs2_head k (rpk k 0 0 s.L).2.2 (rpk k 0 0 s.L).1 a1
  have hx : (rpk k 0 0 s.L).1 / 2 ^ k < 10 := Nat.div_lt_of_lt_mul (by omega)
  have hy : 1 ≤ (rpk k 0 0 s.L).1 / 2 ^ k := Nat.div_pos a1 hp
  obtain ⟨h1, r'', h2⟩ := trimL_ok (L := rshG k s.L) (rs2_isD k _ _) _ r' e' (by rw [dig_toNat]; omega)
  have hl := hs.le
  have a8 := a6 hp
  refine ⟨h1, ?_, ?_, ?_⟩
  · simp only [rsh]; omega
  · simp only [rsh]; omega
  · by_cases h0 : (rpk k 0 0 s.L).2.1 = 1
    · refine .inr ⟨c, _, r, r'', e, h2, ?_⟩
      rw [dig_toNat]
      have hn : (rpk k 0 0 s.L).1 = dv c := by
        have hcd := dv_lt (hs.dg c (by rw [e]; exact List.mem_cons_self))
        rw [e] at h0 ⊢
        unfold rpk at h0 ⊢
        rw [if_pos (by simp)] at h0 ⊢
        cases r with
        | nil =>
          unfold rpk at h0 ⊢
          unfold grow at h0 ⊢
          split
          · rename_i e2
            rw [if_pos e2] at h0
            exfalso
            have hlt : 0 * 10 + dv c < 2 ^ k := by
              rcases Nat.lt_or_ge (0 * 10 + dv c) (2 ^ k) with h | h
              · exact h
              · have := Nat.div_pos h hp; omega
            have hg := grow_ok k 19 ((0 * 10 + dv c) * 10) (0 + 1 + 1) (by omega) (by
              have h1 : 1 ≤ dv c := by unfold dv; omega
              have e2 : (2 : Nat) ^ 60 ≤ 1 * 10 * 10 ^ 19 := by decide
              have e3 : 2 ^ k ≤ 2 ^ 60 := Nat.pow_le_pow_right (by decide) hk
              have e4 : 1 * 10 * 10 ^ 19 ≤ (0 * 10 + dv c) * 10 * 10 ^ 19 := Nat.mul_le_mul_right _ (by omega)
              omega)
            simp only at h0
            omega
          · simp
        | cons d r2 =>
          unfold rpk at h0 ⊢
          split
          · rename_i e2
            rw [if_pos e2] at h0
            exfalso
            have hlt : 0 * 10 + dv c < 2 ^ k := by
              rcases Nat.lt_or_ge (0 * 10 + dv c) (2 ^ k) with h | h
              · exact h
              · have := Nat.div_pos h hp; omega
            have hd' : isD r2 := fun x hx => hs.dg x (by rw [e]; simp [hx])
            have hdd := dv_lt (hs.dg d (by rw [e]; simp))
            have hg := rpk_ok hk (L := r2) (n := (0 * 10 + dv c) * 10 + dv d) (r := 0 + 1 + 1) hd' (by omega) (fun hz => by
              exfalso; unfold dv at hz; omega)
            omega
          · simp
      rw [hn] at hx hy ⊢
      have h2k : 2 ^ 1 ≤ 2 ^ k := Nat.pow_le_pow_right (by decide) hk1
      have : dv c / 2 ^ k ≤ dv c / 2 := Nat.div_le_div_left (by omega) (by decide)
      unfold dv at *
      omega
    · refine .inl ?_
      simp only [rsh]; omega

end Go.Proofs.YtionmohglmbklaaGreatDoor.Tr
