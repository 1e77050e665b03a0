import Derived.Test.YtniailfcmlongaaGreatDoorTsuM
import Derived.Test.YtniailfcmlongaaGreatDoorTmlM
/- symMerge merges sorted halves. -/
namespace Go.Proofs.YtniailfcmlongaaGreatDoor.Tr
open Go.RowKit Go.Sort Go.Lib

theorem srt_eq {D D' : Array Dz} {p q : Nat} (h : Srt D p q) (e : ∀ x, p ≤ x → x < q → D'[x]! = D[x]!) : Srt D' p q := fun x y h1 h2 h3 => by
  rw [e x h1 (by omega), e y (by omega) h3]; exact h x y h1 h2 h3
theorem lrt_eq {D D' : Array Dz} {a m b : Nat} (h : LRt D a m b) (e : ∀ x, a ≤ x → x < b → D'[x]! = D[x]!) : LRt D' a m b := fun x y h1 h2 h3 h4 => by
  rw [e x h1 (by omega), e y (by omega) h4]; exact h x y h1 h2 h3 h4
theorem sy1_get (D : Array Dz) (m b M ST : Nat) (h1 : ST ≤ m) (h2 : ST ≤ M) (h3 : M + m - ST ≤ b) (hb : b ≤ D.size) (x : Nat) : (sy1 m M ST D)[x]! = D[if ST ≤ x ∧ x < M then x + (m - ST) else if M ≤ x ∧ x < M + m - ST then x - (M - ST) else x]! := by
  unfold sy1
  by_cases hc : ST < m ∧ m < M + m - ST
  · rw [if_pos hc, rot_get D ST m _ hc.1 hc.2 (by omega)]
    congr 1
    unfold roI
    (repeat' split) <;> omega
  · rw [if_neg hc]
    congr 1
    (repeat' split) <;> omega
theorem symF_srt : ∀ f a m b D, a < m → m < b → b ≤ D.size → b - a ≤ f → Srt D a m → Srt D m b → LRt D a m b → Srt (symF f a m b D) a b
  | 0, a, m, b, D, h1, h2, _, h4, _, _, _ => by omega
  | f + 1, a, m, b, D, ha, hm, hb, hf, hL, hR, hT => by
    by_cases g1 : m - a = 1
    · rw [symF, if_pos g1]
      exact srt_one D a m b (by omega) hm hb hR hT
    · by_cases g2 : b - m = 1
      · rw [symF, if_neg g1, if_pos g2]
        exact srt_last D a m b ha (by omega) hb hL hT
      · rw [symF_rec f a m b D g1 g2]
        obtain ⟨M, hM⟩ : ∃ M, M = (a + b) / 2 := ⟨_, rfl⟩
        rw [← hM]
        obtain ⟨S, hS⟩ : ∃ S, S = if M < m then M + m - b else a := ⟨_, rfl⟩
        obtain ⟨R, hRR⟩ : ∃ R, R = if M < m then M else m := ⟨_, rfl⟩
        rw [← hS, ← hRR]
        have hSR : a ≤ S ∧ S ≤ R ∧ R ≤ M ∧ R ≤ m ∧ (S = a ∨ S + b = M + m) ∧ (R = M ∨ R = m) ∧ M + m ≤ b + S := by
          by_cases hlo : M < m
          · rw [if_pos hlo] at hS hRR; omega
          · rw [if_neg hlo] at hS hRR; omega
        have hin := bs_in (fun c => !(ltZ D[M + m - 1 - c]! D[c]!)) hSR.2.1
        have hbd := bsc_border (fun c => !(ltZ D[M + m - 1 - c]! D[c]!)) hSR.2.1 (fun x y k1 k2 k3 k4 => by
          have a1 := ltZ_f (by simpa using k4 : ltZ D[M + m - 1 - y]! D[y]! = false)
          have a2 := hL.o x y (by omega) k2 (by omega)
          have a3 := hR.o (M + m - 1 - y) (M + m - 1 - x) (by omega) (by omega) (by omega)
          show (!(ltZ D[M + m - 1 - x]! D[x]!)) = true
          rw [ltZ_is, decide_eq_false (by omega)]; rfl)
        generalize bsc (fun c => !(ltZ D[M + m - 1 - c]! D[c]!)) S R = ST at *
        have hlow : ∀ x y, a ≤ x → x < ST → M + m - ST ≤ y → y < b → le2 D[x]! D[y]! := fun x y k1 k2 k3 k4 => by
          have t := hT x y k1 (by omega) (by omega) k4
          have b1 := ltZ_f (by simpa using hbd.1 (ST - 1) (by omega) (by omega) : ltZ D[M + m - 1 - (ST - 1)]! D[ST - 1]! = false)
          have b2 := hL.o x (ST - 1) k1 (by omega) (by omega)
          have b3 := hR.o (M + m - 1 - (ST - 1)) y (by omega) (by omega) k4
          unfold le2; omega
        have hup : ∀ x y, ST ≤ x → x < m → m ≤ y → y < M + m - ST → le2 D[y]! D[x]! := fun x y k1 k2 k3 k4 => by
          have b1 := ltZ_t (by simpa using hbd.2 ST (Nat.le_refl _) (by omega) : ltZ D[M + m - 1 - ST]! D[ST]! = true)
          have b2 := hL.o ST x (by omega) k1 k2
          have b3 := hR.o y (M + m - 1 - ST) k3 (by omega) (by omega)
          unfold le2; omega
        have hget := sy1_get D m b M ST (by omega) (by omega) (by omega) hb
        have s1 : (sy1 m M ST D).size = D.size := by unfold sy1; split <;> simp only [rot_size]
        unfold symG
        generalize sy1 m M ST D = D1 at *
        have q1 : ∀ x, a ≤ x → x < ST → D1[x]! = D[x]! := fun x k1 k2 => by rw [hget, if_neg (by omega), if_neg (by omega)]
        have q2 : ∀ x, ST ≤ x → x < M → D1[x]! = D[x + (m - ST)]! := fun x k1 k2 => by rw [hget, if_pos (by omega)]
        have q3 : ∀ x, M ≤ x → x < M + m - ST → D1[x]! = D[x - (M - ST)]! := fun x k1 k2 => by rw [hget, if_neg (by omega), if_pos (by omega)]
        have q4 : ∀ x, M + m - ST ≤ x → x < b → D1[x]! = D[x]! := fun x k1 k2 => by rw [hget, if_neg (by omega), if_neg (by omega)]
        have sA : Srt D1 a ST := fun x y k1 k2 k3 => by rw [q1 x k1 (by omega), q1 y (by omega) k3]; exact hL x y k1 k2 (by omega)
        have sB : Srt D1 ST M := fun x y k1 k2 k3 => by rw [q2 x k1 (by omega), q2 y (by omega) k3]; exact hR _ _ (by omega) (by omega) (by omega)
        have sC : Srt D1 M (M + m - ST) := fun x y k1 k2 k3 => by rw [q3 x k1 (by omega), q3 y (by omega) k3]; exact hL _ _ (by omega) (by omega) (by omega)
        have sE : Srt D1 (M + m - ST) b := fun x y k1 k2 k3 => by rw [q4 x k1 (by omega), q4 y (by omega) k3]; exact hR _ _ (by omega) (by omega) (by omega)
        have l1 : LRt D1 a ST M := fun x y k1 k2 k3 k4 => by rw [q1 x k1 k2, q2 y k3 k4]; exact hT _ _ k1 (by omega) (by omega) (by omega)
        have l2 : LRt D1 M (M + m - ST) b := fun x y k1 k2 k3 k4 => by rw [q3 x k1 k2, q4 y k3 k4]; exact hT _ _ (by omega) (by omega) (by omega) k4
        have cr : ∀ x y, a ≤ x → x < M → M ≤ y → y < b → le2 D1[x]! D1[y]! := fun x y k1 k2 k3 k4 => by
          by_cases c1 : x < ST
          · rw [q1 x k1 c1]
            by_cases c2 : y < M + m - ST
            · rw [q3 y k3 c2]; exact hL _ _ k1 (by omega) (by omega)
            · rw [q4 y (by omega) k4]; exact hlow x y k1 c1 (by omega) k4
          · rw [q2 x (by omega) k2]
            by_cases c2 : y < M + m - ST
            · rw [q3 y k3 c2]; exact hup _ _ (by omega) (by omega) (by omega) (by omega)
            · rw [q4 y (by omega) k4]; exact hR _ _ (by omega) (by omega) k4
        have t2 : Srt (sy2 (symF f) a M ST D1) a M := by
          unfold sy2
          split
          · exact symF_srt f a ST M D1 (by omega) (by omega) (by omega) (by omega) sA sB l1
          · by_cases c : ST = a
            · rw [← c]; exact sB
            · have : ST = M := by omega
              rw [← this]; exact sA
        have p2 : PermIn a M D1 (sy2 (symF f) a M ST D1) := by
          unfold sy2
          split
          · exact symF_pm a M f a ST M D1 (by omega) (Nat.le_refl _) (by omega) (by omega) (Nat.le_refl _)
          · exact permIn_refl D1 a M
        generalize sy2 (symF f) a M ST D1 = D2 at *
        have s2 : D2.size = D1.size := p2.1
        have e2 : ∀ x, M ≤ x → D2[x]! = D1[x]! := fun x k => p2.2.1 x (.inr k)
        have cr2 : ∀ x, a ≤ x → x < M → ∀ y, M ≤ y → y < b → le2 D2[x]! D2[y]! := fun x k1 k2 => by
          have := permIn_all D1 D2 a M (fun z => ∀ y, M ≤ y → y < b → le2 z D2[y]!) (by omega) p2 (fun i i1 i2 y y1 y2 => by rw [e2 y y1]; exact cr i y i1 i2 y1 y2) x k1 k2
          exact this
        have t3 : Srt (sy3 (symF f) m b M ST D2) M b := by
          unfold sy3
          split
          · exact symF_srt f M _ b D2 (by omega) (by omega) (by omega) (by omega) (srt_eq sC (fun x k _ => e2 x k)) (srt_eq sE (fun x k _ => e2 x (by omega))) (lrt_eq l2 (fun x k _ => e2 x k))
          · by_cases c : M + m - ST = M
            · rw [c] at sE; exact srt_eq sE (fun x k _ => e2 x k)
            · have c' : M + m - ST = b := by omega
              rw [c'] at sC; exact srt_eq sC (fun x k _ => e2 x k)
        have p3 : PermIn M b D2 (sy3 (symF f) m b M ST D2) := by
          unfold sy3
          split
          · exact symF_pm M b f M _ b D2 (by omega) (Nat.le_refl _) (by omega) (by omega) (Nat.le_refl _)
          · exact permIn_refl D2 M b
        generalize sy3 (symF f) m b M ST D2 = D3 at *
        have e3 : ∀ x, x < M → D3[x]! = D2[x]! := fun x k => p3.2.1 x (.inl k)
        have cr3 : ∀ y, M ≤ y → y < b → ∀ x, a ≤ x → x < M → le2 D3[x]! D3[y]! := fun y k1 k2 => by
          have := permIn_all D2 D3 M b (fun z => ∀ x, a ≤ x → x < M → le2 D3[x]! z) (by omega) p3 (fun i i1 i2 x x1 x2 => by rw [e3 x x2]; exact cr2 x x1 x2 i i1 i2) y k1 k2
          exact this
        intro x y k1 k2 k3
        by_cases c1 : y < M
        · rw [e3 x (by omega), e3 y c1]; exact t2 x y k1 k2 c1
        · by_cases c2 : x < M
          · exact cr3 y (by omega) k3 x k1 c2
          · exact t3 x y (by omega) k2 k3
end Go.Proofs.YtniailfcmlongaaGreatDoor.Tr
/- The insertion sort sorts by le2 where tags rise. -/
namespace Go.Proofs.YtniailfcmlongaaGreatDoor.Tr
open Go.RowKit Go.Sort Go.Lib

/-- One element, at j, on its way down; the tags of the others are less. -/
structure InI (a j i : Nat) (D : Array Dz) : Prop where
  srt : ∀ p q, a ≤ p → p < q → q ≤ i → p ≠ j → q ≠ j → le2 D[p]! D[q]!
  up : ∀ q, j < q → q ≤ i → oZ D[j]! < oZ D[q]!
  tag : ∀ q, a ≤ q → q ≤ i → q ≠ j → tZ D[q]! < tZ D[j]!
theorem InI.stop {a j i : Nat} {D : Array Dz} (h : InI a j i D) (haj : a ≤ j) (hji : j ≤ i) (hs : j ≤ a ∨ oZ D[j - 1]! ≤ oZ D[j]!) : Srt D a (i + 1) := fun p q h1 h2 h3 => by
  by_cases e1 : p = j
  · subst e1
    have := h.up q h2 (by omega)
    unfold le2; omega
  · by_cases e2 : q = j
    · subst e2
      have hle : le2 D[q - 1]! D[q]! := by
        have t := h.tag (q - 1) (by omega) (by omega) (by omega)
        unfold le2; omega
      by_cases e3 : p = q - 1
      · rw [e3]; exact hle
      · exact le2_trans (h.srt p (q - 1) h1 (by omega) (by omega) (by omega) (by omega)) hle
    · exact h.srt p q h1 h2 (by omega) e1 e2
theorem insInner_srt (a i : Nat) : ∀ j (D : Array Dz), a ≤ j → j ≤ i → i < D.size → InI a j i D → Srt (insInner ltZ a j D) a (i + 1) ∧ PermIn a (i + 1) D (insInner ltZ a j D)
  | 0, D, h1, h2, _, hI => by
    unfold insInner
    exact ⟨hI.stop h1 h2 (.inl (by omega)), permIn_refl D a (i + 1)⟩
  | j + 1, D, h1, h2, hs, hI => by
    unfold insInner
    split
    · rename_i hc
      simp only [Bool.and_eq_true, decide_eq_true_eq] at hc
      have hlt := ltZ_t hc.2
      have g : ∀ k, (swp D (j + 1) j)[k]! = if k = j then D[j + 1]! else if k = j + 1 then D[j]! else D[k]! := fun k => swp_get D (by omega) (by omega) k
      have hI' : InI a j i (swp D (j + 1) j) := by
        refine ⟨fun p q a1 a2 a3 a4 a5 => ?_, fun q a1 a2 => ?_, fun q a1 a2 a3 => ?_⟩
        · rw [g, g, if_neg a4, if_neg a5]
          by_cases e1 : p = j + 1
          · rw [if_pos e1, if_neg (by omega)]
            exact hI.srt j q (by omega) (by omega) a3 (by omega) (by omega)
          · rw [if_neg e1]
            by_cases e2 : q = j + 1
            · rw [if_pos e2]
              exact hI.srt p j a1 (by omega) (by omega) e1 (by omega)
            · rw [if_neg e2]
              exact hI.srt p q a1 a2 a3 e1 e2
        · rw [g, g, if_pos rfl, if_neg (by omega)]
          by_cases e1 : q = j + 1
          · rw [if_pos e1]; exact hlt
          · rw [if_neg e1]; exact hI.up q (by omega) a2
        · rw [g, g, if_pos rfl, if_neg a3]
          by_cases e1 : q = j + 1
          · rw [if_pos e1]; exact hI.tag j (by omega) (by omega) (by omega)
          · rw [if_neg e1]; exact hI.tag q a1 a2 e1
      have ih := insInner_srt a i j (swp D (j + 1) j) (by omega) (by omega) (by rw [size_swp]; exact hs) hI'
      exact ⟨ih.1, pm_trans (swp_permIn D a (i + 1) (j + 1) j (by omega) (by omega) (by omega) (by omega) (by omega)) ih.2⟩
    · rename_i hc
      simp only [Bool.and_eq_true, decide_eq_true_eq, not_and, Bool.not_eq_true] at hc
      refine ⟨hI.stop h1 h2 ?_, permIn_refl D a (i + 1)⟩
      by_cases h : j + 1 > a
      · exact .inr (ltZ_f (hc h))
      · exact .inl (by omega)
/-- Tags behind i are greater than all ahead of them. -/
def TgR (D : Array Dz) (a i b : Nat) : Prop := ∀ x y, a ≤ x → x < y → i ≤ y → y < b → tZ D[x]! < tZ D[y]!
theorem insOuter_srt (a b : Nat) : ∀ n i (D : Array Dz), b - i = n → a < i → i ≤ b → b ≤ D.size → Srt D a i → TgR D a i b → Srt (insOuter ltZ a b i D) a b
  | 0, i, D, hn, h1, h2, hb, hS, _ => by
    obtain rfl : i = b := by omega
    rw [insOuter, if_neg (by omega)]
    exact hS
  | n + 1, i, D, hn, h1, h2, hb, hS, hT => by
    rw [insOuter, if_pos (by omega)]
    have h := insInner_srt a i i D (by omega) (Nat.le_refl _) (by omega) ⟨fun p q a1 a2 a3 a4 a5 => hS p q a1 a2 (by omega), fun q a1 a2 => by omega, fun q a1 a2 a3 => hT q i a1 (by omega) (Nat.le_refl _) (by omega)⟩
    refine insOuter_srt a b n (i + 1) _ (by omega) (by omega) (by omega) (by rw [h.2.1]; exact hb) h.1 (fun x y a1 a2 a3 a4 => ?_)
    have ey := h.2.2.1 y (.inr (by omega))
    by_cases hx : x < i + 1
    · exact permIn_all D _ a (i + 1) (fun z => tZ z < tZ (insInner ltZ a i D)[y]!) (by omega) h.2 (fun k k1 k2 => by rw [ey]; exact hT k y k1 (by omega) (by omega) a4) x a1 hx
    · rw [ey, h.2.2.1 x (.inr (by omega))]
      exact hT x y a1 a2 (by omega) a4
theorem ins_srt (D : Array Dz) (a b : Nat) (hab : a ≤ b) (hb : b ≤ D.size) (hT : ∀ x y, a ≤ x → x < y → y < b → tZ D[x]! < tZ D[y]!) : Srt (Sort.insertionSort ltZ D a b) a b := by
  unfold Sort.insertionSort
  by_cases h : a + 1 ≤ b
  · exact insOuter_srt a b (b - (a + 1)) (a + 1) D rfl (by omega) h hb (fun x y a1 a2 a3 => by omega) (fun x y a1 a2 a3 a4 => hT x y a1 a2 a4)
  · rw [insOuter, if_neg (by omega)]
    exact fun x y a1 a2 a3 => by omega
end Go.Proofs.YtniailfcmlongaaGreatDoor.Tr
/- The stable sort sorts by le2 where tags rise. -/
namespace Go.Proofs.YtniailfcmlongaaGreatDoor.Tr
open Go.RowKit Go.Sort Go.Lib

/-- From a to n: blocks of s, each sorted, the tags of each less than those behind it. -/
inductive Chk (D : Array Dz) (s n : Nat) : Nat → Prop
  | done {a : Nat} : n ≤ a → Chk D s n a
  | step {a : Nat} : a < n → Srt D a (min (a + s) n) → (∀ x y, a ≤ x → x < a + s → a + s ≤ y → y < n → tZ D[x]! < tZ D[y]!) → Chk D s n (a + s) → Chk D s n a
theorem Chk.eq {D D' : Array Dz} {s n a : Nat} (h : Chk D s n a) (e : ∀ x, a ≤ x → x < n → D'[x]! = D[x]!) : Chk D' s n a := by
  induction h with
  | done h => exact .done h
  | step h1 h2 h3 _ ih =>
    refine .step h1 (srt_eq h2 (fun x a1 a2 => e x a1 (by omega))) (fun x y a1 a2 a3 a4 => ?_) (ih (fun x a1 a2 => e x (by omega) a2))
    rw [e x a1 (by omega), e y (by omega) a4]; exact h3 x y a1 a2 a3 a4
theorem Chk.inv {D : Array Dz} {s n a : Nat} (h : Chk D s n a) (ha : a < n) : Srt D a (min (a + s) n) ∧ (∀ x y, a ≤ x → x < a + s → a + s ≤ y → y < n → tZ D[x]! < tZ D[y]!) ∧ Chk D s n (a + s) := by
  cases h with
  | done h => omega
  | step _ h2 h3 h4 => exact ⟨h2, h3, h4⟩
theorem mrgB_pma (n s : Nat) (hs : 0 < s) : ∀ f a D, n ≤ D.size → PermIn a n D (mrgB n s f a D)
  | 0, a, D, hn => by
    rw [mrgB]
    split
    · exact symF_pm a n _ a _ n D hn (Nat.le_refl _) (by omega) (by omega) (Nat.le_refl _)
    · exact permIn_refl D a n
  | f + 1, a, D, hn => by
    rw [mrgB]
    split
    · exact pm_trans (symF_pm a n _ a _ _ D hn (Nat.le_refl _) (by omega) (by omega) (by omega)) (permIn_mono _ _ (a + 2 * s) n a n (by omega) (Nat.le_refl _) (by rw [symF_size]; exact hn) (mrgB_pma n s hs f _ _ (by rw [symF_size]; exact hn)))
    · split
      · exact symF_pm a n _ a _ n D hn (Nat.le_refl _) (by omega) (by omega) (Nat.le_refl _)
      · exact permIn_refl D a n
theorem mrgB_chk (n s : Nat) (hs : 0 < s) : ∀ f a D, n ≤ D.size → n ≤ a + f → Chk D s n a → Chk (mrgB n s f a D) (2 * s) n a
  | 0, a, D, hn, hf, hC => .done (by omega)
  | f + 1, a, D, hn, hf, hC => by
    by_cases ha : a < n
    · obtain ⟨h1, h2, h3⟩ := hC.inv ha
      rw [mrgB]
      by_cases c1 : a + 2 * s ≤ n
      · rw [if_pos c1]
        obtain ⟨g1, g2, g3⟩ := h3.inv (by omega)
        rw [show min (a + s) n = a + s by omega] at h1
        rw [show min (a + s + s) n = a + 2 * s by omega] at g1
        rw [show a + s + s = a + 2 * s by omega] at g2 g3
        have hsz : (symZ a (a + s) (a + 2 * s) D).size = D.size := symF_size _ _ _ _ _
        have hS : Srt (symZ a (a + s) (a + 2 * s) D) a (a + 2 * s) := symF_srt _ a (a + s) (a + 2 * s) D (by omega) (by omega) (by omega) (by omega) h1 g1 (fun x y k1 k2 k3 k4 => h2 x y k1 k2 k3 (by omega))
        have hP : PermIn a (a + 2 * s) D (symZ a (a + s) (a + 2 * s) D) := symF_pm a (a + 2 * s) _ a _ _ D (by omega) (Nat.le_refl _) (by omega) (by omega) (Nat.le_refl _)
        generalize symZ a (a + s) (a + 2 * s) D = D' at *
        have hC' : Chk D' s n (a + 2 * s) := g3.eq (fun x k1 _ => hP.2.1 x (.inr k1))
        have ih := mrgB_chk n s hs f (a + 2 * s) D' (by omega) (by omega) hC'
        have hQ := mrgB_pma n s hs f (a + 2 * s) D' (by omega)
        generalize mrgB n s f (a + 2 * s) D' = R at *
        refine .step ha ?_ ?_ ih
        · rw [show min (a + 2 * s) n = a + 2 * s by omega]
          exact srt_eq hS (fun x _ k2 => hQ.2.1 x (.inl k2))
        · have base : ∀ x, a ≤ x → x < a + 2 * s → ∀ y, a + 2 * s ≤ y → y < n → tZ D[x]! < tZ D[y]! := fun x k1 k2 y k3 k4 => by
            by_cases c : x < a + s
            · exact h2 x y k1 c (by omega) k4
            · exact g2 x y (by omega) k2 k3 k4
          have st1 : ∀ x, a ≤ x → x < a + 2 * s → ∀ y, a + 2 * s ≤ y → y < n → tZ D'[x]! < tZ D[y]! := fun x k1 k2 => permIn_all D D' a (a + 2 * s) (fun z => ∀ y, a + 2 * s ≤ y → y < n → tZ z < tZ D[y]!) (by omega) hP base x k1 k2
          have st2 : ∀ y, a + 2 * s ≤ y → y < n → ∀ x, a ≤ x → x < a + 2 * s → tZ D'[x]! < tZ R[y]! := fun y k1 k2 => permIn_all D' R (a + 2 * s) n (fun z => ∀ x, a ≤ x → x < a + 2 * s → tZ D'[x]! < tZ z) (by omega) hQ (fun i i1 i2 x x1 x2 => by rw [hP.2.1 i (.inr i1)]; exact st1 x x1 x2 i i1 i2) y k1 k2
          intro x y k1 k2 k3 k4
          rw [hQ.2.1 x (.inl k2)]
          exact st2 y k3 k4 x k1 k2
      · rw [if_neg c1]
        by_cases c2 : a + s < n
        · rw [if_pos c2]
          obtain ⟨g1, g2, g3⟩ := h3.inv c2
          rw [show min (a + s) n = a + s by omega] at h1
          rw [show min (a + s + s) n = n by omega] at g1
          have hS : Srt (symZ a (a + s) n D) a n := symF_srt _ a (a + s) n D (by omega) (by omega) (by omega) (by omega) h1 g1 (fun x y k1 k2 k3 k4 => h2 x y k1 k2 k3 k4)
          refine .step ha (by rw [show min (a + 2 * s) n = n by omega]; exact hS) (fun x y k1 k2 k3 k4 => by omega) (.done (by omega))
        · rw [if_neg c2]
          rw [show min (a + s) n = n by omega] at h1
          exact .step ha (by rw [show min (a + 2 * s) n = n by omega]; exact h1) (fun x y k1 k2 k3 k4 => by omega) (.done (by omega))
    · exact .done (by omega)
theorem mrgs_srt (n : Nat) : ∀ f s D, 0 < s → n ≤ D.size → n ≤ s + f → Chk D s n 0 → Srt (mrgs n f s D) 0 n
  | 0, s, D, hs, hn, hf, hC => by
    rw [mrgs]
    by_cases h0 : 0 < n
    · have := (hC.inv h0).1
      rw [show min (0 + s) n = n by omega] at this
      exact this
    · exact fun x y a1 a2 a3 => by omega
  | f + 1, s, D, hs, hn, hf, hC => by
    rw [mrgs]
    split
    · exact mrgs_srt n f (2 * s) _ (by omega) (by rw [(mrgB_pma n s hs n 0 D hn).1]; exact hn) (by omega) (mrgB_chk n s hs n 0 D hn (by omega) hC)
    · by_cases h0 : 0 < n
      · have := (hC.inv h0).1
        rw [show min (0 + s) n = n by omega] at this
        exact this
      · exact fun x y a1 a2 a3 => by omega
end Go.Proofs.YtniailfcmlongaaGreatDoor.Tr
/- The stable sort of what has rising tags. -/
namespace Go.Proofs.YtniailfcmlongaaGreatDoor.Tr
open Go.RowKit Go.Sort Go.Lib

/-- Tags rise from a to n. -/
def Ris (D : Array Dz) (a n : Nat) : Prop := ∀ x y, a ≤ x → x < y → y < n → tZ D[x]! < tZ D[y]!
theorem insB_pma (n : Nat) : ∀ f a D, n ≤ D.size → a ≤ n → PermIn a n D (insB n f a D)
  | 0, a, D, hn, ha => ins_perm D a n ha hn
  | f + 1, a, D, hn, ha => by
    rw [insB]
    split
    · have h := ins_perm D a (a + 20) (by omega) (by omega)
      exact pm_trans (permIn_mono D _ a (a + 20) a n (Nat.le_refl _) (by omega) hn h) (permIn_mono _ _ (a + 20) n a n (by omega) (Nat.le_refl _) (by rw [h.1]; exact hn) (insB_pma n f _ _ (by rw [h.1]; exact hn) (by omega)))
    · exact ins_perm D a n ha hn
theorem insB_chk (n : Nat) : ∀ f a D, n ≤ D.size → a ≤ n → n ≤ a + f → Ris D a n → Chk (insB n f a D) 20 n a
  | 0, a, D, _, _, hf, _ => .done (by omega)
  | f + 1, a, D, hn, ha, hf, hR => by
    rw [insB]
    by_cases c : a + 20 ≤ n
    · rw [if_pos c]
      have hP := ins_perm D a (a + 20) (by omega) (by omega)
      have hS := ins_srt D a (a + 20) (by omega) (by omega) (fun x y k1 k2 k3 => hR x y k1 k2 (by omega))
      have hS' : Srt (Sort.insertionSort (ltOf cfZ) D a (a + 20)) a (a + 20) := hS
      clear hS
      generalize Sort.insertionSort (ltOf cfZ) D a (a + 20) = D' at *
      have hsz := hP.1
      have e1 : ∀ x, a + 20 ≤ x → D'[x]! = D[x]! := fun x k => hP.2.1 x (.inr k)
      have ih := insB_chk n f (a + 20) D' (by omega) (by omega) (by omega) (fun x y k1 k2 k3 => by rw [e1 x k1, e1 y (by omega)]; exact hR x y (by omega) k2 k3)
      have hQ := insB_pma n f (a + 20) D' (by omega) (by omega)
      generalize insB n f (a + 20) D' = R at *
      refine .step (by omega) ?_ ?_ ih
      · rw [show min (a + 20) n = a + 20 by omega]
        exact srt_eq hS' (fun x _ k2 => hQ.2.1 x (.inl k2))
      · have st1 : ∀ x, a ≤ x → x < a + 20 → ∀ y, a + 20 ≤ y → y < n → tZ D'[x]! < tZ D[y]! := fun x k1 k2 => permIn_all D D' a (a + 20) (fun z => ∀ y, a + 20 ≤ y → y < n → tZ z < tZ D[y]!) (by omega) hP (fun i i1 i2 y y1 y2 => hR i y i1 (by omega) y2) x k1 k2
        have st2 : ∀ y, a + 20 ≤ y → y < n → ∀ x, a ≤ x → x < a + 20 → tZ D'[x]! < tZ R[y]! := fun y k1 k2 => permIn_all D' R (a + 20) n (fun z => ∀ x, a ≤ x → x < a + 20 → tZ D'[x]! < tZ z) (by omega) hQ (fun i i1 i2 x x1 x2 => by rw [e1 i i1]; exact st1 x x1 x2 i i1 i2) y k1 k2
        intro x y k1 k2 k3 k4
        rw [hQ.2.1 x (.inl k2)]
        exact st2 y k3 k4 x k1 k2
    · rw [if_neg c]
      by_cases ha' : a < n
      · refine .step ha' ?_ (fun x y k1 k2 k3 k4 => by omega) (.done (by omega))
        rw [show min (a + 20) n = n by omega]
        exact ins_srt D a n ha hn hR
      · exact .done (by omega)
theorem staZ_srt (D : Array Dz) (hR : Ris D 0 D.size) : Srt (staZ D) 0 D.size := by
  have h := insB_pma D.size D.size 0 D (Nat.le_refl _) (Nat.zero_le _)
  exact mrgs_srt D.size D.size 20 _ (by decide) (by rw [h.1]; exact Nat.le_refl _) (by omega) (insB_chk D.size D.size 0 D (Nat.le_refl _) (Nat.zero_le _) (by omega) hR)
theorem insZ_srt (D : Array Dz) (hR : Ris D 0 D.size) : Srt (insZ D) 0 D.size := ins_srt D 0 D.size (Nat.zero_le _) (Nat.le_refl _) hR
end Go.Proofs.YtniailfcmlongaaGreatDoor.Tr
/- The stable sort of any definitions is the insertion sort of them. -/
namespace Go.Proofs.YtniailfcmlongaaGreatDoor.Tr
open Go.RowKit Go.Sort Go.Lib

theorem pw_srt {D : Array Dz} (h : Srt D 0 D.size) : D.toList.Pairwise le2 := by
  rw [List.pairwise_iff_getElem]
  intro i j hi hj hij
  have := h i j (Nat.zero_le _) hij (by simpa using hj)
  rw [getElem!_pos D i (by simpa using hi), getElem!_pos D j (by simpa using hj)] at this
  exact this
theorem sta_ris (D : Array Dz) (hR : Ris D 0 D.size) : staZ D = insZ D := by
  apply Array.toList_inj.1
  refine List.Perm.eq_of_pairwise (le := le2) (fun u v hu hv h1 h2 => ?_) (pw_srt (by rw [staZ_size]; exact staZ_srt D hR)) (pw_srt (by rw [insZ_size]; exact insZ_srt D hR)) ((staZ_mem D).trans (insZ_mem D).symm)
  have m1 := (staZ_mem D).mem_iff.1 hu
  have m2 := (insZ_mem D).mem_iff.1 hv
  obtain ⟨i, hi, rfl⟩ := List.getElem_of_mem m1
  obtain ⟨j, hj, rfl⟩ := List.getElem_of_mem m2
  have ht : tZ D.toList[i] = tZ D.toList[j] := by unfold le2 at *; omega
  have hi' : i < D.size := by simpa using hi
  have hj' : j < D.size := by simpa using hj
  rcases Nat.lt_trichotomy i j with h | h | h
  · have := hR i j (Nat.zero_le _) h hj'
    rw [getElem!_pos D i hi', getElem!_pos D j hj'] at this
    simp only [Array.getElem_toList] at ht
    omega
  · subst h; rfl
  · have := hR j i (Nat.zero_le _) h hi'
    rw [getElem!_pos D i hi', getElem!_pos D j hj'] at this
    simp only [Array.getElem_toList] at ht
    omega

section
variable (g : Dz → Dz) (hg : ∀ z, oZ (g z) = oZ z) (h0 : g default = default)
include h0 in
theorem get_mg (X : Array Dz) (i : Nat) : (X.map g)[i]! = g X[i]! := by
  by_cases h : i < X.size
  · rw [getElem!_pos (X.map g) i (by simpa using h), getElem!_pos X i h, Array.getElem_map]
  · rw [getElem!_neg (X.map g) i (by simpa using h), getElem!_neg X i h, h0]
include h0 in
theorem swp_mg (X : Array Dz) (i j : Nat) : (swp X i j).map g = swp (X.map g) i j := by
  unfold swp
  rw [Array.map_setIfInBounds, Array.map_setIfInBounds, get_mg g h0, get_mg g h0]
include hg in
theorem lt_mg (u v : Dz) : ltZ (g u) (g v) = ltZ u v := by rw [ltZ_is, ltZ_is, hg, hg]
include h0 in
theorem swr_mg (X : Array Dz) (a b : Nat) : ∀ n, (swr X a b n).map g = swr (X.map g) a b n
  | 0 => rfl
  | n + 1 => by rw [swr, swr, swp_mg g h0, swr_mg X a b n]
include h0 in
theorem rotF_mg (m : Nat) : ∀ f i j X, (rotF m f i j X).map g = rotF m f i j (X.map g)
  | 0, _, _, _ => rfl
  | f + 1, i, j, X => by
    rw [rotF, rotF]
    split
    · exact swr_mg g h0 _ _ _ _
    · split
      · rw [rotF_mg m f, swr_mg g h0]
      · rw [rotF_mg m f, swr_mg g h0]
include h0 in
theorem rot_mg (X : Array Dz) (a m b : Nat) : (rot X a m b).map g = rot (X.map g) a m b := rotF_mg g h0 m _ _ _ X
include h0 in
theorem mvU_mg : ∀ n (X : Array Dz) k, (mvU X k n).map g = mvU (X.map g) k n
  | 0, _, _ => rfl
  | n + 1, X, k => by rw [mvU, mvU, mvU_mg n, swp_mg g h0]
include h0 in
theorem mvD_mg : ∀ n (X : Array Dz) k, (mvD X k n).map g = mvD (X.map g) k n
  | 0, _, _ => rfl
  | n + 1, X, k => by rw [mvD, mvD, mvD_mg n, swp_mg g h0]
include hg h0 in
theorem symF_mg : ∀ f a m b X, (symF f a m b X).map g = symF f a m b (X.map g)
  | 0, _, _, _, _ => rfl
  | f + 1, a, m, b, X => by
    by_cases h1 : m - a = 1
    · rw [symF, symF, if_pos h1, if_pos h1, mvU_mg g h0]
      simp only [get_mg g h0, lt_mg g hg]
    · by_cases h2 : b - m = 1
      · rw [symF, symF, if_neg h1, if_pos h2, if_neg h1, if_pos h2, mvD_mg g h0]
        simp only [get_mg g h0, lt_mg g hg]
      · rw [symF_rec f a m b X h1 h2, symF_rec f a m b (X.map g) h1 h2]
        simp only [get_mg g h0, lt_mg g hg]
        generalize bsc (fun c => !(ltZ X[(a + b) / 2 + m - 1 - c]! X[c]!)) (if (a + b) / 2 < m then (a + b) / 2 + m - b else a) (if (a + b) / 2 < m then (a + b) / 2 else m) = ST
        have e1 : ∀ Y, (sy1 m ((a + b) / 2) ST Y).map g = sy1 m ((a + b) / 2) ST (Y.map g) := fun Y => by
          unfold sy1
          split
          · exact rot_mg g h0 _ _ _ _
          · rfl
        have e2 : ∀ Y, (sy2 (symF f) a ((a + b) / 2) ST Y).map g = sy2 (symF f) a ((a + b) / 2) ST (Y.map g) := fun Y => by
          unfold sy2
          split
          · exact symF_mg f _ _ _ _
          · rfl
        have e3 : ∀ Y, (sy3 (symF f) m b ((a + b) / 2) ST Y).map g = sy3 (symF f) m b ((a + b) / 2) ST (Y.map g) := fun Y => by
          unfold sy3
          split
          · exact symF_mg f _ _ _ _
          · rfl
        unfold symG
        rw [e3, e2, e1]
include hg h0 in
theorem insInner_mg (a : Nat) : ∀ j X, (insInner ltZ a j X).map g = insInner ltZ a j (X.map g)
  | 0, _ => rfl
  | j + 1, X => by
    rw [insInner, insInner]
    simp only [get_mg g h0, lt_mg g hg]
    split
    · rw [insInner_mg a j, swp_mg g h0]
    · rfl
include hg h0 in
theorem insOuter_mg (a b : Nat) : ∀ n i X, b - i = n → (insOuter ltZ a b i X).map g = insOuter ltZ a b i (X.map g)
  | 0, i, X, h => by rw [insOuter, insOuter.eq_1 ltZ a b i (X.map g), if_neg (by omega), if_neg (by omega)]
  | n + 1, i, X, h => by
    rw [insOuter, insOuter.eq_1 ltZ a b i (X.map g), if_pos (by omega), if_pos (by omega), insOuter_mg a b n (i + 1) _ (by omega), insInner_mg g hg h0]
include hg h0 in
theorem ins_mg (X : Array Dz) (a b : Nat) : (Sort.insertionSort (ltOf cfZ) X a b).map g = Sort.insertionSort (ltOf cfZ) (X.map g) a b := insOuter_mg g hg h0 a b _ _ X rfl
include hg h0 in
theorem insB_mg (n : Nat) : ∀ f a X, (insB n f a X).map g = insB n f a (X.map g)
  | 0, a, X => ins_mg g hg h0 X a n
  | f + 1, a, X => by
    rw [insB, insB]
    split
    · rw [insB_mg n f, ins_mg g hg h0]
    · exact ins_mg g hg h0 X a n
include hg h0 in
theorem mrgB_mg (n s : Nat) : ∀ f a X, (mrgB n s f a X).map g = mrgB n s f a (X.map g)
  | 0, a, X => by
    rw [mrgB, mrgB]
    split
    · exact symF_mg g hg h0 _ _ _ _ _
    · rfl
  | f + 1, a, X => by
    rw [mrgB, mrgB]
    split
    · rw [mrgB_mg n s f]
      congr 1
      exact symF_mg g hg h0 _ _ _ _ _
    · split
      · exact symF_mg g hg h0 _ _ _ _ _
      · rfl
include hg h0 in
theorem mrgs_mg (n : Nat) : ∀ f s X, (mrgs n f s X).map g = mrgs n f s (X.map g)
  | 0, _, _ => rfl
  | f + 1, s, X => by
    rw [mrgs, mrgs]
    split
    · rw [mrgs_mg n f, mrgB_mg g hg h0]
    · rfl
include hg h0 in
theorem staZ_mg (X : Array Dz) : (staZ X).map g = staZ (X.map g) := by
  unfold staZ
  rw [mrgs_mg g hg h0, insB_mg g hg h0, Array.size_map]
include hg h0 in
theorem insZ_mg (X : Array Dz) : (insZ X).map g = insZ (X.map g) := by
  unfold insZ
  rw [ins_mg g hg h0, Array.size_map]
end
end Go.Proofs.YtniailfcmlongaaGreatDoor.Tr
/- counting of any definitions, by the stable sort's own function. -/
namespace Go.Proofs.YtniailfcmlongaaGreatDoor.Tr
open Go.RowKit Go.Sort

set_option maxRecDepth 100000 in
set_option maxHeartbeats 4000000 in
theorem counting_all (w : World) (L : List Dt) (ad : Option Addr) (cap : Nat) (hI : DsIn w L ad) (hlim : L.length ≤ 1000) (hne : L ≠ []) (h20 : (cntF L).length ≤ 1000) (hc0 : 0 < (cntF L).length) :
    Calls Tryz.prog 32 #[.slice ad L.length cap] w fun e w' => (∃ (F : List Dz) (ia : Option Addr) (ic : Nat), e = .returned (.slice ia F.length ic) ∧ F.length ≤ ic ∧ F.map (·.1) = cntF L ∧ (∀ z ∈ F, DIn w' z.1 z.2) ∧ IIn w' ((staZ F.toArray).toList.map (·.1.v)) ia) ∧ Fr (fun _ => False) w w' := by
  have hst := fun (W : World) (a : Addr) (m : Mode) (f : Nat) => run_store Tryz.prog W a (.float .f64 f) m rfl
  have HI := hid hI
  have HM := hid (minFunc_any w L ad cap hI (by omega) hne)
  have HC0 := hid hc0
  have HC20 := hid h20
  unfold cntF at *
  generalize leastP L = lp at *
  clear hI hne hc0 h20
  go_enter Tryz.func32, Tryz.ntmps32
  go_wp2_with fail
  refine HM.out.mono ?_
  rintro e w1 ⟨⟨y, rfl, hyp⟩, f1⟩
  have HF1 := hid f1
  have hfd := fun W => dv_field W y
  rw [hyp] at hfd
  clear f1 hyp
  go_wp2_with fail
  go_loopw [4, 6, 15] (fun fv _ iv wr => ∃ (i : Nat) (F : List Dz), i ≤ L.length ∧ iv = .int .i64 (i : Int) ∧ wr.ownsRow w.heap.size 30 8 fv F.length (flatD F) ∧ F.map (·.1) = (L.take i).filter (fun d => decide (d.p = lp)) ∧ (∀ z ∈ F, DIn w z.1 z.2) ∧ Fr (fun _ => False) w wr) (fun _ _ iv _ => L.length - (intOf iv).toNat)
  case atStart => exact ⟨0, [], Nat.zero_le _, rfl, World.ownsRow_nil _ _ _ _, by simp, by simp, HF1.out⟩
  case round =>
    obtain ⟨i, F, hi, rfl, hO, hM, hD, hF⟩ := hrel
    have HO := hid hO
    have HMp := hid hM
    have HD := hid hD
    have HF := hid hF
    have hFl : F.length ≤ 1000 := by
      have := congrArg List.length hM
      rw [List.length_map] at this
      have h2 := List.length_filter_le (fun d : Dt => decide (d.p = lp)) (L.take i)
      have h3 := List.length_take_le i L
      omega
    clear hO hM hD hF HF1 hfd HM
    by_cases hlt : i < L.length
    · have hlt' : (i : Int) < ((L.length : Nat) : Int) := by omega
      obtain ⟨bb, bo, y, rfl, y1, y2⟩ := HI.out.at i hlt
      obtain ⟨k0, k1, k2, k3, k4, k5, k6, k7⟩ := eight_env y1 (Env.of HF.out)
      have HFb := hid (HF.out.trans (dFr wr y) (fun _ h => h.elim))
      have HDy := hid y2
      have HS := hid (filter_snoc L (fun d => decide (d.p = lp)) i hlt)
      clear y1 y2
      by_cases hp : y.p = lp
      · have hp' : (y.p == lp) = true := by simpa using hp
        have HMp2 : Hid ((F ++ [(L[i], y)]).map (·.1) = (L.take (i + 1)).filter (fun d => decide (d.p = lp))) := by
          unfold Hid
          rw [HS.out, List.map_append, HMp.out, if_pos (by simp only [decide_eq_true_eq]; rw [← HDy.out.2.1]; exact hp)]
          rfl
        have HD2 : Hid (∀ z ∈ F ++ [(L[i], y)], DIn w z.1 z.2) := fun z hz => by
          rcases List.mem_append.1 hz with h | h
          · exact HD.out z h
          · simp only [List.mem_singleton] at h; subst h; exact HDy.out
        have HOb := hid (own_alloc (own_alloc HO.out (.cells #[.int .i64 y.x.k, .int .i64 y.x.n, .float .f64 y.x.f, .string ⟨y.x.t.toArray⟩, .slice y.x.na y.x.nl y.x.nc, .slice y.x.ia y.x.il y.x.ic, .int .i64 y.p, .int .i64 y.o] 30)) (.cells #[.int .i64 y.x.k, .int .i64 y.x.n, .float .f64 y.x.f, .string ⟨y.x.t.toArray⟩, .slice y.x.na y.x.nl y.x.nc, .slice y.x.ia y.x.il y.x.ic, .int .i64 y.p, .int .i64 y.o] 30))
        have HGb : Hid (Blk (dBox (dBox wr y) y) (wr.heap.size + 1) 30 y.cs) := by
          have := dBlk (dBox wr y) y
          rw [World.size_alloc] at this
          exact this
        have HFc := hid (HFb.out.trans (dFr _ y) (fun _ h => h.elim))
        have hsz : w.heap.size ≤ (dBox (dBox wr y) y).heap.size := HFc.out.size
        clear hp HMp HD HDy HS
        obtain ⟨⟨k, n, f, t, na, nl, nc, ia, il, ic⟩, p, o⟩ := y
        simp only at *
        go_wp2_with (at_builtin; refine Hid.out ?_)
        refine wpList_app_D (by rfl) _ _ (by rfl) w.heap.size _ F (L[i], ⟨⟨k, n, f, t, na, nl, nc, ia, il, ic⟩, p, o⟩) _ _ (by rfl) (by rfl) HOb.out HGb.out (by first | exact hsz | simp) hFl ?_
        intro g' ic' W' ho hg
        have HO2 := hid ho
        have HG2 := hid hg
        clear ho hg
        have HF2 : Hid (Fr (fun _ => False) w W') := HFc.out.grown HG2.out (fun k hk => .inr (own_lt HO.out k hk).1)
        go_wp2_with fail
        exact ⟨⟨i + 1, F ++ [(L[i], ⟨⟨k, n, f, t, na, nl, nc, ia, il, ic⟩, p, o⟩)], by omega, by first | rfl | (congr 1), HO2.out, HMp2.out, HD2.out, HF2.out⟩, by simp [intOf]; omega⟩
      · have hp' : (y.p == lp) = false := by simpa using hp
        have HMp2 : Hid (F.map (·.1) = (L.take (i + 1)).filter (fun d => decide (d.p = lp))) := by
          unfold Hid
          rw [HS.out, HMp.out, if_neg (by simp only [decide_eq_true_eq]; rw [← HDy.out.2.1]; exact hp)]
          simp
        have HOb := hid (own_alloc HO.out (.cells #[.int .i64 y.x.k, .int .i64 y.x.n, .float .f64 y.x.f, .string ⟨y.x.t.toArray⟩, .slice y.x.na y.x.nl y.x.nc, .slice y.x.ia y.x.il y.x.ic, .int .i64 y.p, .int .i64 y.o] 30))
        clear hp HMp HDy HS
        obtain ⟨⟨k, n, f, t, na, nl, nc, ia, il, ic⟩, p, o⟩ := y
        simp only at *
        go_wp2_with fail
        exact ⟨⟨i + 1, F, by omega, by first | rfl | (congr 1), HOb.out, HMp2.out, HD.out, HFb.out⟩, by simp [intOf]; omega⟩
    · have hlt' : ¬ (i : Int) < ((L.length : Nat) : Int) := by omega
      have HMp2 : Hid (F.map (·.1) = L.filter (fun d => decide (d.p = lp))) := by
        unfold Hid; rw [HMp.out, List.take_of_length_le (by omega)]
      have hlen : F.length = (L.filter (fun d => decide (d.p = lp))).length := by rw [← HMp2.out, List.length_map]
      have hF0 : 0 < F.length := by rw [hlen]; exact HC0.out
      have hF20 : F.length ≤ 1000 := by rw [hlen]; exact HC20.out
      clear hlen
      obtain ⟨g, fc, cur, hv, hgB, hgl, hgc, hfc, hgt⟩ := own_row HO.out hF0
      subst hv
      have HH := hid (own_holds F hgc hgt)
      have HSo := hid (sort_any wr g 0 fc F.toArray HH.out hgl (by simpa using hF20))
      have HDm : Hid (∀ z ∈ (staZ F.toArray).toList, DIn w z.1 z.2) := fun z hz => HD.out z (by have := (staZ_mem F.toArray).mem_iff.1 hz; simpa using this)
      have hDs : (staZ F.toArray).size = F.length := by rw [staZ_size]; simp
      have hFs : F.toArray.size = F.length := by simp
      rw [hFs] at HSo
      generalize hDD : staZ F.toArray = D at *
      have HDD := hid hDD
      clear hDD
      clear hgc hgt HMp hFs
      go_wp2_with fail
      refine HSo.out.mono ?_
      rintro e w2 ⟨rfl, f2, hH2⟩
      have HF2 : Hid (Fr (fun _ => False) w w2) := HF.out.trans f2 (fun j hj => .inr (by omega))
      have HH2 := hid hH2
      have hg2 : g < w2.heap.size := Nat.lt_of_lt_of_le hgl f2.size
      clear f2 hH2 HH HSo
      have HE8 : Hid (∀ i (h : i < F.length), eight w2 g (i * 8) (D[i]'(by omega)).2) := fun i h => by
        have := holds_eight HH2.out i (by omega)
        rw [Nat.zero_add] at this
        exact this
      clear HH2
      go_wp2_with fail
      go_loopw [7, 9, 32] (fun lv _ iv wr' => ∃ (i : Nat) (X : List Vv), i ≤ F.length ∧ iv = .int .i64 (i : Int) ∧ wr'.ownsRow w2.heap.size 26 6 lv X.length (flatV X) ∧ X = (D.toList.take i).map (·.2.x) ∧ Fr (fun _ => False) w2 wr') (fun _ _ iv _ => F.length - (intOf iv).toNat)
      case atStart => exact ⟨0, [], Nat.zero_le _, rfl, World.ownsRow_nil _ _ _ _, by simp, Fr.refl _ _⟩
      case round =>
        obtain ⟨j, X, hj, rfl, hO, hX, hF⟩ := hrel
        have HOx := hid hO
        have HX := hid hX
        have HFx := hid hF
        have hXl : X.length = j := by rw [hX]; simp; omega
        clear hO hX hF HO HF
        by_cases hlt : j < F.length
        · have hlt2 : (j : Int) < ((F.length : Nat) : Int) := by omega
          have hjD : j < D.size := by omega
          have HX2 : Hid (X ++ [D[j].2.x] = (D.toList.take (j + 1)).map (·.2.x)) := by
            unfold Hid
            rw [List.take_succ_eq_append_getElem (by simpa using hjD), List.map_append, ← HX.out]
            simp
          obtain ⟨k0, k1, k2, k3, k4, k5, k6, k7⟩ := eight_env (HE8.out j hlt) (Env.of HFx.out)
          generalize D[j].2 = y at *
          have HFb := hid (HFx.out.trans (dFr wr y) (fun _ h => h.elim))
          have HOb := hid (own_alloc (own_alloc HOx.out (.cells #[.int .i64 y.x.k, .int .i64 y.x.n, .float .f64 y.x.f, .string ⟨y.x.t.toArray⟩, .slice y.x.na y.x.nl y.x.nc, .slice y.x.ia y.x.il y.x.ic, .int .i64 y.p, .int .i64 y.o] 30)) (.cells #[.int .i64 y.x.k, .int .i64 y.x.n, .float .f64 y.x.f, .string ⟨y.x.t.toArray⟩, .slice y.x.na y.x.nl y.x.nc, .slice y.x.ia y.x.il y.x.ic] 26))
          have HGb : Hid (Blk (vBox (dBox wr y) y.x) (wr.heap.size + 1) 26 y.x.cs) := by
            have := vBlk (dBox wr y) y.x
            rw [World.size_alloc] at this
            exact this
          have HFc := hid (HFb.out.trans (vFr _ y.x) (fun _ h => h.elim))
          have hsz : w2.heap.size ≤ (vBox (dBox wr y) y.x).heap.size := HFc.out.size
          have hXl2 : X.length ≤ 1000 := by omega
          clear HX hjD hXl
          obtain ⟨⟨k, n, f, t, na, nl, nc, ia, il, ic⟩, p, o⟩ := y
          simp only at *
          go_wp2_with (at_builtin; refine Hid.out ?_)
          refine wpList_app_V (by rfl) _ _ (by rfl) w2.heap.size _ X ⟨k, n, f, t, na, nl, nc, ia, il, ic⟩ _ _ (by rfl) (by rfl) HOb.out HGb.out (by first | exact hsz | simp) hXl2 ?_
          intro g' ic' W' ho hg
          have HO2 := hid ho
          have HF3 : Hid (Fr (fun _ => False) w2 W') := HFc.out.grown hg (fun k hk => .inr (own_lt HOx.out k hk).1)
          clear ho hg
          go_wp2_with fail
          exact ⟨⟨j + 1, _, by omega, by first | rfl | (congr 1), HO2.out, HX2.out, HF3.out⟩, by simp [intOf]; omega⟩
        · have hlt2 : ¬ (j : Int) < ((F.length : Nat) : Int) := by omega
          have HX2 : Hid (X = D.toList.map (·.2.x)) := by
            unfold Hid; rw [HX.out, List.take_of_length_le (by simp; omega)]
          have hXF : X.length = F.length := by rw [HX2.out]; simp; omega
          obtain ⟨g3, c3, cur3, hv3, hb3, hl3, hc3, hf3, ht3⟩ := own_row HOx.out (by omega)
          subst hv3
          have HF3 := hid (HF2.out.trans HFx.out (fun _ h => h.elim))
          have HDm2 : Hid (∀ z ∈ F, DIn wr z.1 z.2) := fun z hz => (HD.out z hz).env (Env.of HF3.out)
          have HII : Hid (IIn wr (D.toList.map (·.1.v)) (some ⟨g3, 0, none⟩)) := by
            refine iin_own _ HOx.out (by rw [hXF]; simp; omega) (fun i h h' => ?_)
            have hiD : i < D.toList.length := by simpa using h
            have e1 : X[i] = D.toList[i].2.x := by
              have := HX2.out
              subst this
              simp
            rw [e1, List.getElem_map]
            exact ((HDm.out _ (List.getElem_mem hiD)).env (Env.of HF3.out)).1
          have hcap3 : F.length ≤ c3 := by omega
          rw [hXF]
          clear HX HX2
          go_wp2_with fail
          go_ret
          exact ⟨⟨F, _, c3, rfl, hcap3, HMp2.out, fun a b h => HDm2.out (a, b) h, by rw [HDD.out]; exact HII.out⟩, HF3.out⟩
end Go.Proofs.YtniailfcmlongaaGreatDoor.Tr
/- The stable sort of any definitions is the insertion sort of them: counting, of any number. -/
namespace Go.Proofs.YtniailfcmlongaaGreatDoor.Tr
open Go.RowKit Go.Sort Go.Lib

/-- Each element with its place as a tag. -/
def tagD (D : Array Dz) : Array Dz := Array.ofFn (n := D.size) fun i => ((⟨default, (i.val : Int) + 1, 0⟩ : Dt), (⟨vZ, 0, D[i].2.o⟩ : Dv))
/-- The element that a tag tells. -/
def unD (D : Array Dz) (z : Dz) : Dz := if 1 ≤ z.1.p ∧ (z.1.p - 1).toNat < D.size ∧ oZ D[(z.1.p - 1).toNat]! = oZ z then D[(z.1.p - 1).toNat]! else z
theorem unD_o (D : Array Dz) (z : Dz) : oZ (unD D z) = oZ z := by
  unfold unD
  split
  · rename_i h; exact h.2.2
  · rfl
theorem unD_zero (D : Array Dz) : unD D default = default := by
  unfold unD
  rw [if_neg]
  intro h
  exact absurd h.1 (by decide)
theorem tagD_size (D : Array Dz) : (tagD D).size = D.size := by simp [tagD]
theorem tagD_get (D : Array Dz) (i : Nat) (h : i < D.size) : (tagD D)[i]! = ((⟨default, (i : Int) + 1, 0⟩ : Dt), (⟨vZ, 0, D[i].2.o⟩ : Dv)) := by
  rw [getElem!_pos (tagD D) i (by rw [tagD_size]; exact h)]
  simp [tagD]
theorem tagD_ris (D : Array Dz) : Ris (tagD D) 0 (tagD D).size := fun x y _ h2 h3 => by
  rw [tagD_size] at h3
  rw [tagD_get D x (by omega), tagD_get D y h3]
  show (x : Int) + 1 < (y : Int) + 1
  omega
theorem tagD_un (D : Array Dz) : (tagD D).map (unD D) = D := by
  apply Array.ext
  · rw [Array.size_map, tagD_size]
  · intro i h1 h2
    rw [Array.getElem_map]
    have e := tagD_get D i h2
    rw [getElem!_pos (tagD D) i (by rw [tagD_size]; exact h2)] at e
    rw [e]
    unfold unD
    have hp : ((i : Int) + 1 - 1).toNat = i := by omega
    show (if 1 ≤ (i : Int) + 1 ∧ ((i : Int) + 1 - 1).toNat < D.size ∧ oZ D[((i : Int) + 1 - 1).toNat]! = D[i].2.o then D[((i : Int) + 1 - 1).toNat]! else _) = D[i]
    rw [hp, if_pos ⟨by omega, h2, by rw [getElem!_pos D i h2]⟩, getElem!_pos D i h2]
/-- The stable sort is the insertion sort. -/
theorem sta_ins (D : Array Dz) : staZ D = insZ D := by
  have h := congrArg (fun X => X.map (unD D)) (sta_ris (tagD D) (tagD_ris D))
  rw [staZ_mg (unD D) (unD_o D) (unD_zero D), insZ_mg (unD D) (unD_o D) (unD_zero D), tagD_un] at h
  exact h
theorem counting_big (w : World) (L : List Dt) (ad : Option Addr) (cap : Nat) (hI : DsIn w L ad) (hlim : L.length ≤ 1000) (hne : L ≠ []) (hc0 : 0 < (cntF L).length) :
    Calls Tryz.prog 32 #[.slice ad L.length cap] w fun e w' => (∃ (F : List Dz) (ia : Option Addr) (ic : Nat), e = .returned (.slice ia F.length ic) ∧ F.length ≤ ic ∧ F.map (·.1) = cntF L ∧ (∀ z ∈ F, DIn w' z.1 z.2) ∧ IIn w' ((insZ F.toArray).toList.map (·.1.v)) ia) ∧ Fr (fun _ => False) w w' := by
  refine (counting_all w L ad cap hI hlim hne (Nat.le_trans (List.length_filter_le _ _) hlim) hc0).mono ?_
  rintro e w' ⟨⟨F, ia, ic, h1, h2, h3, h4, h5⟩, hf⟩
  rw [sta_ins] at h5
  exact ⟨⟨F, ia, ic, h1, h2, h3, h4, h5⟩, hf⟩
end Go.Proofs.YtniailfcmlongaaGreatDoor.Tr
