/- Plain facts: a string, written with what must be escaped, is read as itself. -/
import Derived.Test.YtngalmkdlbpdoaaGreatDoorAll
namespace Go.Proofs.YtngalmkdlbpdoaaGreatDoor.Tr
open Go.RowKit

/-- May a byte stand in a string? -/
def mayS (c : UInt8) : Bool := c == 9 || c == 10 || (decide (32 ≤ c.toNat) && c != 127)
/-- How the byte at a place is written. -/
def encP (i : Nat) (c : UInt8) : List UInt8 :=
  if c.toNat = 34 ∨ c.toNat = 92 then [92, c]
  else if c.toNat = 10 then (if i % 2 = 0 then [92, 110] else [c])
  else if c.toNat = 9 then (if i % 2 = 0 then [92, 116] else [c])
  else [c]
def encF : Nat → List UInt8 → List UInt8
  | _, [] => []
  | i, c :: r => encP i c ++ encF (i + 1) r
theorem encF_snoc : ∀ (l : List UInt8) (i : Nat) (c : UInt8), encF i (l ++ [c]) = encF i l ++ encP (i + l.length) c
  | [], i, c => by simp [encF]
  | x :: r, i, c => by
    simp only [List.cons_append, encF, List.length_cons]
    rw [encF_snoc r (i + 1) c, List.append_assoc]
    congr 3
    omega
theorem encF_take (s : List UInt8) (k : Nat) (h : k < s.length) : encF 0 (s.take (k + 1)) = encF 0 (s.take k) ++ encP k s[k] := by
  rw [List.take_succ_eq_append_getElem h, encF_snoc]
  congr 2
  simp; omega
theorem encP_len (i : Nat) (c : UInt8) : (encP i c).length ≤ 2 ∧ 1 ≤ (encP i c).length := by
  unfold encP
  split
  · simp
  · split
    · split <;> simp
    · split
      · split <;> simp
      · simp
theorem encF_len : ∀ (l : List UInt8) (i : Nat), (encF i l).length ≤ 2 * l.length
  | [], _ => by simp [encF]
  | c :: r, i => by
    have := encF_len r (i + 1)
    have := (encP_len i c).1
    simp only [encF, List.length_append, List.length_cons]; omega

theorem at0_app (P R : List UInt8) (c : UInt8) : at0 (P ++ c :: R) P.length = c := by
  rw [at0_lt (by simp)]; simp
theorem at0_app1 (P R : List UInt8) (c d : UInt8) : at0 (P ++ c :: d :: R) (P.length + 1) = d := by
  rw [at0_lt (by simp)]
  rw [List.getElem_append_right (by omega)]
  simp

/-- A byte that stands for itself. -/
theorem StrO.plain {t : List UInt8} {k : Nat} {b : List UInt8} {o : Oc} (hk : k < t.length) (hp : isPl t[k] = true) (h : StrO t (k + 1) (b ++ [t[k]]) o) : StrO t k b o := by
  have hu := upto_step (p := isPl) hk hp
  have hs : sub t k (upto isPl t (k + 1)) = t[k] :: sub t (k + 1) (upto isPl t (k + 1)) := by
    unfold sub
    have hg := upto_ge isPl t (k + 1)
    have hl : k < (t.take (upto isPl t (k + 1))).length := by
      have := upto_le (p := isPl) (t := t) (k := k + 1) hk
      rw [List.length_take]; omega
    rw [List.drop_eq_getElem_cons hl, List.getElem_take]
  have hb : b ++ [t[k]] ++ sub t (k + 1) (upto isPl t (k + 1)) = b ++ sub t k (upto isPl t k) := by
    rw [hu, hs]; simp
  cases h with
  | err h1 => rw [hb] at h1; rw [← hu] at h1; exact .err h1
  | fin h1 h2 h3 =>
    rw [hb] at h1
    rw [← hu] at h2 h3
    have := StrO.fin (t := t) (k := k) (b := b) h1 h2 h3
    rw [hu] at this
    rw [hb]
    rw [hu]
    exact this
  | bad h1 h2 h3 h4 =>
    rw [hb] at h1
    rw [← hu] at h2 h3 h4
    have := StrO.bad (t := t) (k := k) (b := b) h1 h2 h3 h4
    rw [hu] at this
    exact this
  | esc h1 h2 h3 h4 h5 =>
    rw [hb] at h1 h5
    rw [← hu] at h2 h3 h4 h5
    exact StrO.esc h1 h2 h3 h4 h5
/-- Two bytes that stand for one. -/
theorem StrO.two {t : List UInt8} {k : Nat} {b : List UInt8} {c : UInt8} {o : Oc} (hk : k < t.length) (h92 : t[k] = 92) (hm : meant (at0 t (k + 1)) = some c) (hb : b.length ≤ 1024) (h : StrO t (k + 2) (b ++ [c]) o) : StrO t k b o := by
  have hu : upto isPl t k = k := upto_stop hk (by rw [h92]; decide)
  have ha : at0 t k = 92 := by rw [at0_lt hk, h92]
  have he : escp t k = some c := by unfold escp; rw [ha]; simpa using hm
  have := StrO.esc (t := t) (k := k) (b := b) (c := c) (o := o)
  rw [hu, sub_self, List.append_nil] at this
  exact this hb hk (by rw [ha]; decide) he h
theorem StrO.long {t : List UInt8} {k : Nat} {b : List UInt8} (hb : 1024 < b.length) : StrO t k b .err := .err (.inl (by rw [List.length_append]; omega))

theorem isPl_of {c : UInt8} (h : mayS c = true) (h1 : ¬ (c.toNat = 34 ∨ c.toNat = 92)) : isPl c = true := by
  rw [pl_iff]
  unfold mayS at h
  simp only [Bool.or_eq_true, Bool.and_eq_true, u8n, decide_eq_true_eq, bne_iff_ne] at h
  have h127 : ∀ h : c ≠ 127, c.toNat ≠ 127 := fun h e => h (UInt8.toNat_inj.1 e)
  rcases h with (h | h) | ⟨h, h2⟩
  · exact .inl h
  · exact .inr (.inl h)
  · exact .inr (.inr ⟨by omega, by omega, h127 h2, h⟩)

/-- How it ends. -/
def endO (closed : Bool) (s : List UInt8) (n : Nat) : Oc := if closed ∧ s.length ≤ 1024 then .fin s n else .err
theorem str_enc (closed : Bool) : ∀ (rest P done : List UInt8), rest.all mayS = true → StrO (P ++ (encF done.length rest ++ (if closed then [34] else []))) P.length done (endO closed (done ++ rest) (P.length + (encF done.length rest).length + 1))
  | [], P, done, _ => by
    simp only [encF, List.nil_append, List.append_nil, List.length_nil, Nat.add_zero]
    unfold endO
    cases closed with
    | false =>
      simp only [Bool.false_eq_true, if_false, false_and, List.append_nil]
      exact .err (.inr (upto_end (Nat.le_refl _)))
    | true =>
      simp only [if_true, true_and]
      have hk : P.length < (P ++ [34]).length := by simp
      have hc : (P ++ [34])[P.length] = 34 := by simp
      have hu : upto isPl (P ++ [34]) P.length = P.length := upto_stop hk (by rw [hc]; decide)
      by_cases hl : done.length ≤ 1024
      · rw [if_pos hl]
        have := StrO.fin (t := P ++ [34]) (k := P.length) (b := done)
        rw [hu, sub_self, List.append_nil] at this
        exact this hl hk (by rw [at0_lt hk, hc]; decide)
      · rw [if_neg hl]
        exact StrO.long (by omega)
  | c :: rest, P, done, h => by
    rw [List.all_cons, Bool.and_eq_true] at h
    have ih := fun P' d' => str_enc closed rest P' d' h.2
    by_cases hlong : 1024 < done.length
    · have : endO closed (done ++ c :: rest) (P.length + (encF done.length (c :: rest)).length + 1) = .err := by
        unfold endO
        rw [if_neg (by simp; omega)]
      rw [this]
      exact StrO.long hlong
    have hdl : (done ++ [c]).length = done.length + 1 := by simp
    have hdr : done ++ [c] ++ rest = done ++ c :: rest := by simp
    have one : encP done.length c = [c] → isPl c = true → StrO (P ++ (encF done.length (c :: rest) ++ (if closed then [34] else []))) P.length done (endO closed (done ++ c :: rest) (P.length + (encF done.length (c :: rest)).length + 1)) := by
      intro he hp
      have ht : P ++ (encF done.length (c :: rest) ++ (if closed then [34] else [])) = (P ++ [c]) ++ (encF (done ++ [c]).length rest ++ (if closed then [34] else [])) := by
        rw [encF, he, hdl]; simp
      have hn : P.length + (encF done.length (c :: rest)).length + 1 = (P ++ [c]).length + (encF (done ++ [c]).length rest).length + 1 := by
        rw [encF, he, hdl]; simp; omega
      rw [ht, hn, ← hdr]
      have i1 := ih (P ++ [c]) (done ++ [c])
      have hk : P.length < ((P ++ [c]) ++ (encF (done ++ [c]).length rest ++ (if closed then [34] else []))).length := by simp
      have hc : ((P ++ [c]) ++ (encF (done ++ [c]).length rest ++ (if closed then [34] else [])))[P.length] = c := by
        rw [List.getElem_append_left (by simp)]; simp
      refine StrO.plain hk (by rw [hc]; exact hp) ?_
      rw [hc]
      have hpl : (P ++ [c]).length = P.length + 1 := by simp
      rw [hpl] at i1
      rw [hpl]
      exact i1
    have two : ∀ d, encP done.length c = [92, d] → meant d = some c → StrO (P ++ (encF done.length (c :: rest) ++ (if closed then [34] else []))) P.length done (endO closed (done ++ c :: rest) (P.length + (encF done.length (c :: rest)).length + 1)) := by
      intro d he hm
      have ht : P ++ (encF done.length (c :: rest) ++ (if closed then [34] else [])) = (P ++ [92, d]) ++ (encF (done ++ [c]).length rest ++ (if closed then [34] else [])) := by
        rw [encF, he, hdl]; simp
      have hn : P.length + (encF done.length (c :: rest)).length + 1 = (P ++ [92, d]).length + (encF (done ++ [c]).length rest).length + 1 := by
        rw [encF, he, hdl]; simp; omega
      rw [ht, hn, ← hdr]
      have i1 := ih (P ++ [92, d]) (done ++ [c])
      have hk : P.length < ((P ++ [92, d]) ++ (encF (done ++ [c]).length rest ++ (if closed then [34] else []))).length := by simp
      have hc : ((P ++ [92, d]) ++ (encF (done ++ [c]).length rest ++ (if closed then [34] else [])))[P.length] = 92 := by
        rw [List.getElem_append_left (by simp)]; simp
      have hd : at0 ((P ++ [92, d]) ++ (encF (done ++ [c]).length rest ++ (if closed then [34] else []))) (P.length + 1) = d := by
        have := at0_app1 P (encF (done ++ [c]).length rest ++ (if closed then [34] else [])) 92 d
        simpa using this
      refine StrO.two hk hc (by rw [hd]; exact hm) (by omega) ?_
      have hpl : (P ++ [92, d]).length = P.length + 2 := by simp
      rw [hpl] at i1
      rw [hpl]
      exact i1
    by_cases q1 : c.toNat = 34 ∨ c.toNat = 92
    · refine two c (by unfold encP; rw [if_pos q1]) ?_
      rcases q1 with q | q
      · obtain rfl : c = 34 := UInt8.toNat_inj.1 q
        decide
      · obtain rfl : c = 92 := UInt8.toNat_inj.1 q
        decide
    have hpl := isPl_of h.1 q1
    by_cases q2 : c.toNat = 10
    · obtain rfl : c = 10 := UInt8.toNat_inj.1 q2
      by_cases q3 : done.length % 2 = 0
      · exact two 110 (by unfold encP; rw [if_neg q1, if_pos q2, if_pos q3]) (by decide)
      · exact one (by unfold encP; rw [if_neg q1, if_pos q2, if_neg q3]) hpl
    by_cases q4 : c.toNat = 9
    · obtain rfl : c = 9 := UInt8.toNat_inj.1 q4
      by_cases q3 : done.length % 2 = 0
      · exact two 116 (by unfold encP; rw [if_neg q1, if_neg q2, if_pos q4, if_pos q3]) (by decide)
      · exact one (by unfold encP; rw [if_neg q1, if_neg q2, if_pos q4, if_neg q3]) hpl
    exact one (by unfold encP; rw [if_neg q1, if_neg q2, if_neg q4]) hpl

theorem quote0 {w0 : World} {T : List UInt8} {o : Oc} (h : StrO (34 :: T) 1 [] o) : Here w0 (34 :: T) 0 (strStep 0 o) := Here.str (by simp) (by simp [at0]) h
theorem skip0 (T : List UInt8) : Skp (34 :: T) (upto isBlank (34 :: T) 0) 0 := by
  rw [upto_stop (by simp) (by show isBlank 34 = false; decide)]
  exact Skp.done (by simp [at0])
theorem runStr {w0 : World} {s : List UInt8} (h : s.all mayS = true) (hl : s.length ≤ 1024) : Run w0 (34 :: (encF 0 s ++ [34])) 0 [⟨4, s, 0, 0, 0⟩, endT (34 :: (encF 0 s ++ [34]))] none := by
  have ho := str_enc true s [34] [] h
  simp only [List.nil_append, List.length_nil, List.length_singleton, if_true, List.singleton_append] at ho
  have he : endO true s (1 + (encF 0 s).length + 1) = .fin s (34 :: (encF 0 s ++ [34])).length := by
    unfold endO
    rw [if_pos ⟨rfl, hl⟩]
    congr 1
    simp; omega
  rw [he] at ho
  have r1 : Run w0 (34 :: (encF 0 s ++ [34])) (34 :: (encF 0 s ++ [34])).length [endT (34 :: (encF 0 s ++ [34]))] none := by
    refine Run.fin (k1 := (34 :: (encF 0 s ++ [34])).length) (k2 := (34 :: (encF 0 s ++ [34])).length) ?_ Here.fin rfl
    rw [upto_end (Nat.le_refl _)]
    exact Skp.done (by rw [at0_ge (Nat.le_refl _)]; decide)
  exact Run.tok (skip0 _) (quote0 ho) (by simp) r1
theorem runLong {w0 : World} {s : List UInt8} (h : s.all mayS = true) (hl : 1024 < s.length) : Run w0 (34 :: (encF 0 s ++ [34])) 0 [] (some (0, 5)) := by
  have ho := str_enc true s [34] [] h
  simp only [List.nil_append, List.length_nil, List.length_singleton, if_true, List.singleton_append] at ho
  have he : endO true s (1 + (encF 0 s).length + 1) = .err := by
    unfold endO
    rw [if_neg (by simp; omega)]
  rw [he] at ho
  exact Run.bad (skip0 _) (quote0 ho)
theorem runOpen {w0 : World} {s : List UInt8} (h : s.all mayS = true) : Run w0 (34 :: encF 0 s) 0 [] (some (0, 5)) := by
  have ho := str_enc false s [34] [] h
  simp only [List.nil_append, List.length_nil, List.length_singleton, List.singleton_append, Bool.false_eq_true, if_false, List.append_nil] at ho
  have he : endO false s (1 + (encF 0 s).length + 1) = .err := by
    unfold endO
    rw [if_neg (by simp)]
  rw [he] at ho
  exact Run.bad (skip0 _) (quote0 ho)

end Go.Proofs.YtngalmkdlbpdoaaGreatDoor.Tr
