/- Reading a tree's bytes: plain facts. Nothing here speaks of the Go text. -/
import Derived.Test.YtipppagkajcheaaGreatDoorPlain
namespace Go.Proofs.YtipppagkajcheaaGreatDoor.Tr

/-- Where a word that begins at 'at' ends. -/
def wEnd (b : List UInt8) (at_ : Nat) (c : UInt8) : Nat := at_ + ((b.drop at_).takeWhile (· != c)).length
theorem wEnd_ge (b : List UInt8) (a : Nat) (c : UInt8) : a ≤ wEnd b a c := Nat.le_add_right _ _
theorem wEnd_le (b : List UInt8) (a : Nat) (c : UInt8) (h : a ≤ b.length) : wEnd b a c ≤ b.length := by
  have := List.IsPrefix.length_le (List.takeWhile_prefix (· != c) (l := b.drop a))
  simp at this
  unfold wEnd; omega
theorem takeWhile_app (u v : List UInt8) (c : UInt8) (h : c ∉ u) : (u ++ c :: v).takeWhile (· != c) = u := by
  rw [List.takeWhile_append_of_pos (by intro x hx; simp; rintro rfl; exact h hx)]
  simp
theorem wEnd_app (b u v : List UInt8) (a : Nat) (c : UInt8) (e : b.drop a = u ++ c :: v) (h : c ∉ u) : wEnd b a c = a + u.length := by
  unfold wEnd; rw [e, takeWhile_app u v c h]
theorem sub_app (b u v : List UInt8) (a n : Nat) (e : b.drop a = u ++ v) (hn : n = u.length) : sub b a (a + n) = u := by
  unfold sub
  rw [List.drop_take, e, hn]; simp
theorem drop_app (b u v : List UInt8) (a n : Nat) (e : b.drop a = u ++ v) (hn : n = u.length) : b.drop (a + n) = v := by
  rw [← List.drop_drop, e, hn]; simp
theorem drop_le (b u v : List UInt8) (a : Nat) (e : b.drop a = u ++ v) (hu : u ≠ []) : a + u.length ≤ b.length := by
  have := congrArg List.length e
  simp at this
  have := List.length_pos_iff.2 hu
  omega

/-- The number that some digits say. -/
def numL (l : List UInt8) : Nat := l.foldl (fun n c => 10 * n + c.toNat % 16) 0
theorem num_dec (n : Nat) : numL (decL n) = n := by
  induction n using Nat.strongRecOn with
  | _ n ih =>
    by_cases h : n < 10
    · rw [decL_small n h]
      simp [numL, UInt8.toNat_ofNat']; omega
    · rw [decL_great n h]
      have := ih (n / 10) (by omega)
      unfold numL at this ⊢
      rw [List.foldl_append, this]
      simp [UInt8.toNat_ofNat']; omega
theorem dec_mem (n : Nat) : ∀ c ∈ decL n, 48 ≤ c.toNat ∧ c.toNat ≤ 57 := by
  induction n using Nat.strongRecOn with
  | _ n ih =>
    by_cases h : n < 10
    · rw [decL_small n h]
      simp [UInt8.toNat_ofNat']; omega
    · rw [decL_great n h]
      intro c hc
      rcases List.mem_append.1 hc with hc | hc
      · exact ih (n / 10) (by omega) c hc
      · simp at hc; subst hc; simp [UInt8.toNat_ofNat']; omega
theorem dec_no10 (n : Nat) : (10 : UInt8) ∉ decL n := fun h => by have := dec_mem n _ h; simp at this
theorem dec_pos (n : Nat) : 1 ≤ (decL n).length := by
  rw [decL]; split <;> simp

theorem cutS_mem (c : UInt8) : ∀ (s cur : List UInt8), c ∈ cur ++ s → c = 47 ∨ ∃ p ∈ cutS cur s, c ∈ p
  | [], cur, h => .inr ⟨cur, by simp [cutS], by simpa using h⟩
  | x :: r, cur, h => by
    unfold cutS
    split
    · rename_i hx
      rcases List.mem_append.1 h with h | h
      · exact .inr ⟨cur, by simp, h⟩
      · rcases List.mem_cons.1 h with rfl | h
        · exact .inl hx
        · rcases cutS_mem c r [] (by simpa using h) with h | ⟨p, hp, hc⟩
          · exact .inl h
          · exact .inr ⟨p, by simp [hp], hc⟩
    · exact cutS_mem c r (cur ++ [x]) (by simpa using h)
theorem may_not (c : UInt8) (h : mayB c = true) : c ≠ 32 ∧ c ≠ 10 := by
  constructor <;> (rintro rfl; revert h; decide)
theorem path_chars (x : Ent) (h : oneB x = true) : (32 : UInt8) ∉ x.path ∧ (10 : UInt8) ∉ x.path := by
  unfold oneB at h
  simp only [Bool.and_eq_true, decide_eq_true_eq] at h
  have hp := h.1.1.1.2
  have hl := h.1.1.2
  have key : ∀ c ∈ x.path, c ≠ 32 ∧ c ≠ 10 := by
    intro c hc
    unfold pathN at hp hl
    split at hp
    · rename_i h47
      rw [if_pos h47] at hl
      simp at hl
    · rename_i h47
      rw [if_neg h47] at hl
      split at hp
      · cases hp
      · split at hp
        · rename_i hall
          simp only [List.drop_succ_cons, List.drop_zero] at hall
          rcases cutS_mem c x.path [] (by simpa using hc) with rfl | ⟨p, hpm, hcp⟩
          · decide
          · have h1 := List.all_eq_true.1 hall p hpm
            unfold nameB at h1
            simp only [Bool.and_eq_true] at h1
            exact may_not c (List.all_eq_true.1 h1.2 c hcp)
        · cases hp
  exact ⟨fun h => (key _ h).1 rfl, fun h => (key _ h).2 rfl⟩

/-- How the document's Parse goes on from a place: what it has then; none: there is no tree. -/
def prs (b : List UInt8) : Nat → Nat → List Ent → Option (List Ent)
  | 0, _, out => some out
  | f + 1, a, out =>
    if a < b.length then
      if b.drop a = [101, 110, 100, 10] then some out
      else
        let i1 := wEnd b a 32
        let a2 := min (i1 + 1) b.length
        let i2 := wEnd b a2 32
        let a3 := min (i2 + 1) b.length
        let i3 := wEnd b a3 10
        let n := numL ((sub b a3 i3).take 5)
        if 4 < (sub b a3 i3).length ∨ b.length < i3 + 1 ∨ b.length - (i3 + 1) < n then none
        else prs b f (i3 + 1 + n + 1) (out ++ [⟨sub b a2 i2, if sub b a i1 = [108] then 3 else 1, sub b (i3 + 1) (i3 + 1 + n)⟩])
    else some out
def parseB (b : List UInt8) : Option (List Ent) :=
  match prs b 25 (wEnd b 0 10 + 1) [] with
  | some out => if bytesL out = b then some out else none
  | none => none

theorem prs_step (b : List UInt8) (f a : Nat) (out : List Ent) (x : Ent) (v : List UInt8) (hx : oneB x = true) (e : b.drop a = entL x ++ v) : prs b (f + 1) a out = prs b f (a + (entL x).length) (out ++ [x]) := by
  obtain ⟨hpl, hdl, hk⟩ := path_bound x hx
  obtain ⟨hb32, _⟩ := path_chars x hx
  have hd := decL_len 4 x.data.length (by decide) (by omega)
  obtain ⟨K, hK, hKk⟩ : ∃ K : UInt8, (if x.kind = 1 then [102, 32] else [108, 32] : List UInt8) = [K, 32] ∧ (if [K] = [(108 : UInt8)] then (3 : Int) else 1) = x.kind ∧ K ≠ 32 ∧ K ≠ 101 := by
    rcases hk with h | h
    · exact ⟨102, by rw [if_pos h], by rw [h]; decide⟩
    · exact ⟨108, by rw [if_neg (by rw [h]; decide)], by rw [h]; decide⟩
  have e0 : b.drop a = [K] ++ 32 :: (x.path ++ 32 :: (decL x.data.length ++ 10 :: (x.data ++ 10 :: v))) := by
    rw [e, entL, hK]; simp
  have hlen := drop_le b _ _ a e (by unfold entL; rw [hK]; simp)
  have hel : (entL x).length = 2 + x.path.length + 1 + (decL x.data.length).length + 1 + x.data.length + 1 := by
    unfold entL; rw [hK]; simp; omega
  have h1 : wEnd b a 32 = a + 1 := wEnd_app b [K] _ a 32 e0 (by simp; exact fun h => hKk.2.1 h.symm)
  have s1 : sub b a (a + 1) = [K] := sub_app b [K] _ a 1 e0 rfl
  have e1 : b.drop (a + 2) = x.path ++ 32 :: (decL x.data.length ++ 10 :: (x.data ++ 10 :: v)) := drop_app b [K, 32] _ a 2 (by rw [e0]; simp) rfl
  have h2 : wEnd b (a + 2) 32 = a + 2 + x.path.length := wEnd_app b x.path _ (a + 2) 32 e1 hb32
  have s2 : sub b (a + 2) (a + 2 + x.path.length) = x.path := sub_app b x.path _ (a + 2) _ e1 rfl
  have e2 : b.drop (a + 2 + x.path.length + 1) = decL x.data.length ++ 10 :: (x.data ++ 10 :: v) := by
    have := drop_app b (x.path ++ [32]) (decL x.data.length ++ 10 :: (x.data ++ 10 :: v)) (a + 2) (x.path.length + 1) (by rw [e1]; simp) (by simp)
    rw [← Nat.add_assoc] at this; exact this
  have h3 : wEnd b (a + 2 + x.path.length + 1) 10 = a + 2 + x.path.length + 1 + (decL x.data.length).length := wEnd_app b _ _ _ 10 e2 (dec_no10 _)
  have s3 : sub b (a + 2 + x.path.length + 1) (a + 2 + x.path.length + 1 + (decL x.data.length).length) = decL x.data.length := sub_app b _ _ _ _ e2 rfl
  have e3 : b.drop (a + 2 + x.path.length + 1 + (decL x.data.length).length + 1) = x.data ++ 10 :: v := by
    have := drop_app b (decL x.data.length ++ [10]) (x.data ++ 10 :: v) (a + 2 + x.path.length + 1) ((decL x.data.length).length + 1) (by rw [e2]; simp) (by simp)
    rw [← Nat.add_assoc] at this; exact this
  have s4 := sub_app b x.data _ _ _ e3 rfl
  have hnum : numL ((decL x.data.length).take 5) = x.data.length := by rw [List.take_of_length_le (by omega), num_dec]
  have m1 : min (a + 1 + 1) b.length = a + 2 := by omega
  have m2 : min (a + 2 + x.path.length + 1) b.length = a + 2 + x.path.length + 1 := by omega
  have hne : b.drop a ≠ [101, 110, 100, 10] := by
    rw [e0]; intro h; exact hKk.2.2 (List.cons.inj h).1
  rw [prs, if_pos (by omega), if_neg hne]
  simp only [h1, m1, h2, m2, h3, s1, s2, s3, hnum, s4]
  rw [if_neg (by omega), hKk.1, hel]
  congr 1
  omega

theorem prs_all (b : List UInt8) : ∀ (l : List Ent) (f a : Nat) (out : List Ent), (∀ x ∈ l, oneB x = true) → l.length < f → b.drop a = l.flatMap entL ++ [101, 110, 100, 10] → prs b f a out = some (out ++ l)
  | [], 0, _, _, _, h, _ => absurd h (by simp)
  | [], f + 1, a, out, _, _, e => by
    have hl : a < b.length := by
      rcases Nat.lt_or_ge a b.length with h | h
      · exact h
      · rw [List.drop_eq_nil_of_le h] at e; simp at e
    rw [prs, if_pos hl, if_pos (by simpa using e)]; first | done | simp
  | x :: r, 0, _, _, _, h, _ => absurd h (by simp)
  | x :: r, f + 1, a, out, ho, h, e => by
    have e' : b.drop a = entL x ++ (r.flatMap entL ++ [101, 110, 100, 10]) := by rw [e]; simp
    rw [prs_step b f a out x _ (ho x (by simp)) e', prs_all b r f _ _ (fun y hy => ho y (by simp [hy])) (by simpa using h) (drop_app b _ _ a _ e' rfl)]
    simp
theorem parse_body (l : List Ent) (h : rightB l = true) : parseB (bodyL l) = some l := by
  obtain ⟨hl, ho⟩ := right_one l h
  have e0 : (bodyL l).drop 0 = [116, 114, 101, 101] ++ 10 :: (l.flatMap entL ++ [101, 110, 100, 10]) := by simp [bodyL]
  have hw : wEnd (bodyL l) 0 10 = 4 := by rw [wEnd_app _ _ _ 0 10 e0 (by decide)]; rfl
  have hp := prs_all (bodyL l) l 25 5 [] ho (by omega) (by simp [bodyL])
  unfold parseB
  rw [hw, hp]
  simp [bytesL, h]
theorem right_nil : rightB [] = true := rfl
theorem parse_some (b : List UInt8) (t : List Ent) (h : parseB b = some t) : rightB t = true ∧ bodyL t = b := by
  unfold parseB at h
  split at h
  · rename_i out ho
    split at h
    · rename_i hb
      cases h
      by_cases hr : rightB t = true
      · exact ⟨hr, by rw [← hb, bytesL, if_pos hr]⟩
      · exfalso
        rw [bytesL, if_neg hr] at hb
        subst hb
        have : prs [] 25 (wEnd [] 0 10 + 1) [] = some [] := by rw [prs, if_neg (by simp)]
        rw [this] at ho
        cases ho
        exact hr right_nil
    · cases h
  · cases h
theorem parse_none (b : List UInt8) (h : parseB b = none) (t : List Ent) (hr : rightB t = true) : bodyL t ≠ b := by
  rintro rfl
  rw [parse_body t hr] at h
  cases h
theorem body_inj (a b : List Ent) (ha : rightB a = true) (hb : rightB b = true) (h : bodyL a = bodyL b) : a = b := by
  have := parse_body a ha
  rw [h, parse_body b hb] at this
  exact (Option.some.inj this).symm

end Go.Proofs.YtipppagkajcheaaGreatDoor.Tr
