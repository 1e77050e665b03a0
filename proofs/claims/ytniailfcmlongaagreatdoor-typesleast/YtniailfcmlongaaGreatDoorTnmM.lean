import Derived.WalkKit
import Derived.Lib.Split
import Derived.Lib.SplitLaws
import Derived.Lib.ParseIntBCases
/- Types in plain words: a text's words, what type they are, which values are of it. Nothing here speaks of the Go text. -/
namespace Go.Proofs.YtniailfcmlongaaGreatDoor.Tr

/-- A text's words: cut at each blank. -/
def spl : List UInt8 → List (List UInt8)
  | [] => [[]]
  | c :: r => if c = 32 then [] :: spl r else match spl r with | [] => [[c]] | h :: t => (c :: h) :: t
theorem spl_ne (s : List UInt8) : spl s ≠ [] := by
  cases s with
  | nil => simp [spl]
  | cons c r =>
    rw [spl]
    split
    · simp
    · split <;> simp
theorem spl_len (s : List UInt8) : (spl s).length = s.count 32 + 1 := by
  induction s with
  | nil => rfl
  | cons c r ih =>
    rw [spl]
    split
    · next h => subst h; simp [ih]
    · next h =>
      have hc : (c :: r).count 32 = r.count 32 := List.count_cons_of_ne h
      rw [hc]
      cases e : spl r with
      | nil => exact absurd e (spl_ne r)
      | cons a t => rw [e] at ih; simpa using ih
theorem spl_none : ∀ {s : List UInt8}, 32 ∉ s → spl s = [s]
  | [], _ => rfl
  | c :: r, h => by
    have h1 : c ≠ 32 := fun e => h (by simp [e])
    have h2 : 32 ∉ r := fun e => h (by simp [e])
    rw [spl, if_neg h1, spl_none h2]
theorem spl_cut : ∀ {a : List UInt8} (b : List UInt8), 32 ∉ a → spl (a ++ 32 :: b) = a :: spl b
  | [], b, _ => by rw [List.nil_append, spl, if_pos rfl]
  | c :: r, b, h => by
    have h1 : c ≠ 32 := fun e => h (by simp [e])
    have h2 : 32 ∉ r := fun e => h (by simp [e])
    rw [List.cons_append, spl, if_neg h1, spl_cut b h2]
theorem splitK_spl : ∀ (k : Nat) (s : List UInt8), s.count 32 ≤ k → Lib.splitK [32] 0 k s = spl s
  | 0, s, h => by
    rw [Lib.splitK, spl_none]
    intro hm
    have := List.count_pos_iff.2 hm
    omega
  | k + 1, s, h => by
    rw [Lib.splitK, Lib.index_one]
    by_cases hi : Lib.indexByte s 32 = -1
    · rw [hi, if_pos (by decide), spl_none]
      intro hm
      obtain ⟨i, hi', e⟩ := List.getElem_of_mem hm
      exact Lib.indexByte_none hi i (by rw [List.getElem?_eq_getElem hi', e])
    · have hge := Lib.indexByte_ge s 32
      obtain ⟨o, ho⟩ : ∃ o : Nat, Lib.indexByte s 32 = o := ⟨(Lib.indexByte s 32).toNat, by omega⟩
      obtain ⟨g1, g2⟩ := Lib.indexByte_some ho
      have hlt : o < s.length := (List.getElem?_eq_some_iff.1 g1).1
      have e32 : s[o] = 32 := by rw [List.getElem?_eq_getElem hlt] at g1; simpa using g1
      have hs : s = s.take o ++ 32 :: s.drop (o + 1) := by
        rw [← e32, ← List.drop_eq_getElem_cons hlt, List.take_append_drop]
      have hno : 32 ∉ s.take o := by
        intro hm
        obtain ⟨i, hi', e⟩ := List.getElem_of_mem hm
        rw [List.length_take] at hi'
        refine g2 i (by omega) ?_
        rw [List.getElem?_eq_getElem (by omega), ← e, List.getElem_take]
      have hc : (s.drop (o + 1)).count 32 ≤ k := by
        rw [hs, List.count_append, List.count_cons_self] at h
        omega
      have hn : ((o : Int) == -1) = false := by rw [beq_eq_false_iff_ne]; omega
      rw [ho, hn, if_neg (by simp)]
      have e1 : ((o : Int)).toNat = o := rfl
      rw [e1, show o + 0 = o from rfl, show o + [(32 : UInt8)].length = o + 1 from rfl, splitK_spl k _ hc]
      conv => rhs; rw [hs]
      rw [spl_cut _ hno]

/-- A type that was read. -/
inductive Ty where
  | bare (w : List UInt8)
  | int (lo hi : Int)
  | enum (ws : List (List UInt8))
  | list (t : Ty)
  | attrs (t : Ty)

abbrev sBool : List UInt8 := [98, 111, 111, 108]
abbrev sFloat : List UInt8 := [102, 108, 111, 97, 116]
abbrev sString : List UInt8 := [115, 116, 114, 105, 110, 103]
abbrev sLines : List UInt8 := [108, 105, 110, 101, 115]
abbrev sUnit : List UInt8 := [117, 110, 105, 116]
abbrev sInt : List UInt8 := [105, 110, 116]
abbrev sEnum : List UInt8 := [101, 110, 117, 109]
abbrev sList : List UInt8 := [108, 105, 115, 116]
abbrev sAttrs : List UInt8 := [97, 116, 116, 114, 115]

def noDig (c : UInt8) : Bool := decide (c.toNat < 48) || decide (57 < c.toNat)
def isNumB (s : List UInt8) : Bool := decide (s ≠ []) && decide (s.length ≤ 9) && !(decide (1 < s.length) && s.head? == some 48) && !s.any noDig
def foreignB (c : UInt8) : Bool := (decide (c.toNat < 97) || decide (122 < c.toNat)) && noDig c && decide (c ≠ 45)
def choiceB (s : List UInt8) : Bool := decide (s ≠ []) && !s.any foreignB
/-- The number of digits. -/
def digN (s : List UInt8) : Nat := s.foldl (fun n c => 10 * n + (c.toNat - 48)) 0
/-- Words of an enum: each may be one, none twice. -/
def enumB (ws : List (List UInt8)) : Bool := (List.range ws.length).all fun i => choiceB (ws.getD i []) && !(ws.take i).contains (ws.getD i [])

def intTy : List (List UInt8) → Option Ty
  | [] => some (.int (-9223372036854775808) 9223372036854775807)
  | [a, b] => if isNumB a && isNumB b then (if digN a ≤ digN b then some (.int (digN a) (digN b)) else none) else none
  | _ => none

/-- What type words are. -/
def tyOf : List (List UInt8) → Option Ty
  | [] => none
  | w :: r =>
    if w = sBool ∨ w = sFloat ∨ w = sString ∨ w = sLines ∨ w = sUnit then (if r = [] then some (.bare w) else none)
    else if w = sInt then intTy r
    else if w = sEnum then (if r ≠ [] ∧ enumB r = true then some (.enum r) else none)
    else if w = sList then (tyOf r).map .list
    else if w = sAttrs then (tyOf r).map .attrs
    else none
/-- What type a text is. -/
def readT (t : List UInt8) : Option Ty := if t.length ≤ 64 ∧ (spl t).length ≤ 8 then tyOf (spl t) else none

end Go.Proofs.YtniailfcmlongaaGreatDoor.Tr
/- Digits as numbers. Nothing here speaks of the Go text. -/
namespace Go.Proofs.YtniailfcmlongaaGreatDoor.Tr

theorem noDig_false {c : UInt8} : noDig c = false ↔ 48 ≤ c.toNat ∧ c.toNat ≤ 57 := by
  unfold noDig
  simp
theorem parse_run : ∀ (l : List UInt8) (acc : Nat), (∀ c ∈ l, noDig c = false) → (acc + 1) * 10 ^ l.length ≤ 10 ^ 18 → Lib.parseUintM (2 ^ 64 - 1) acc l = .ok (l.foldl (fun n c => 10 * n + (c.toNat - 48)) acc) ∧ l.foldl (fun n c => 10 * n + (c.toNat - 48)) acc < (acc + 1) * 10 ^ l.length
  | [], acc, _, _ => ⟨rfl, by simp⟩
  | c :: r, acc, h, hb => by
    have hc := noDig_false.1 (h c (by simp))
    have e : (acc + 1) * 10 ^ (c :: r).length = (10 * (acc + 1)) * 10 ^ r.length := by
      rw [List.length_cons, Nat.pow_succ, Nat.mul_comm 10 (acc + 1), Nat.mul_assoc, Nat.mul_comm 10]
    have hle : (10 * acc + (c.toNat - 48) + 1) * 10 ^ r.length ≤ (acc + 1) * 10 ^ (c :: r).length := by
      rw [e]; exact Nat.mul_le_mul_right _ (by omega)
    have hpos : 1 ≤ 10 ^ r.length := Nat.pow_pos (by decide)
    have hsm : 10 * acc + (c.toNat - 48) + 1 ≤ 10 ^ 18 := by
      have : 10 * acc + (c.toNat - 48) + 1 ≤ (10 * acc + (c.toNat - 48) + 1) * 10 ^ r.length := Nat.le_mul_of_pos_right _ hpos
      omega
    obtain ⟨i1, i2⟩ := parse_run r (10 * acc + (c.toNat - 48)) (fun d hd => h d (by simp [hd])) (Nat.le_trans hle hb)
    refine ⟨?_, ?_⟩
    · rw [Lib.parseUintM, if_pos hc, if_neg (by omega), if_neg (by omega), List.foldl_cons, ← i1, Nat.mul_comm acc 10]
    · rw [List.foldl_cons]
      exact Nat.lt_of_lt_of_le i2 hle
theorem num_all {s : List UInt8} (h : isNumB s = true) : s ≠ [] ∧ s.length ≤ 9 ∧ (∀ c ∈ s, noDig c = false) ∧ ¬ (1 < s.length ∧ s.head? = some 48) := by
  unfold isNumB at h
  simp only [Bool.and_eq_true, decide_eq_true_eq, Bool.not_eq_true'] at h
  obtain ⟨⟨⟨h1, h2⟩, h3⟩, h4⟩ := h
  refine ⟨h1, h2, fun c hc => ?_, fun ⟨g1, g2⟩ => ?_⟩
  · rw [List.any_eq_false] at h4
    simpa using h4 c hc
  · rw [decide_eq_true g1, g2] at h3; simp at h3
theorem digN_lt {s : List UInt8} (h : isNumB s = true) : digN s < 1000000000 := by
  obtain ⟨h1, h2, h3, _⟩ := num_all h
  have hp : (0 + 1) * 10 ^ s.length ≤ 1000000000 := by
    rw [Nat.zero_add, Nat.one_mul]
    exact Nat.pow_le_pow_right (by decide) h2
  exact Nat.lt_of_lt_of_le (parse_run s 0 h3 (Nat.le_trans hp (by decide))).2 hp
theorem parse_num {s : List UInt8} (h : isNumB s = true) : Lib.parseIntB 64 s = .ok (digN s : Int) := by
  obtain ⟨h1, h2, h3, _⟩ := num_all h
  have hlt := digN_lt h
  cases s with
  | nil => exact absurd rfl h1
  | cons c r =>
    have hc := noDig_false.1 (h3 c (by simp))
    rw [Lib.parseIntB_plain 64 c r (by omega) (by omega)]
    have hp : (0 + 1) * 10 ^ (c :: r).length ≤ 10 ^ 18 := by
      rw [Nat.zero_add, Nat.one_mul]
      exact Nat.pow_le_pow_right (by decide) (Nat.le_trans h2 (by decide))
    have hu : Lib.parseUintB 64 (c :: r) = .ok (digN (c :: r)) := by
      unfold Lib.parseUintB
      rw [if_neg (by simp)]
      exact (parse_run (c :: r) 0 h3 hp).1
    rw [hu]
    show (if 2 ^ (64 - 1) ≤ digN (c :: r) then Lib.NumEnd.range else .ok (digN (c :: r) : Int)) = _
    rw [if_neg (by omega)]

/-- The digits of a number. -/
theorem dig_nat (d : Nat) (h : d < 10) : (UInt8.ofNat (48 + d)).toNat = 48 + d := by
  rw [UInt8.toNat_ofNat']; omega
def decD (u : Nat) : List UInt8 := if u < 10 then [UInt8.ofNat (48 + u)] else decD (u / 10) ++ [UInt8.ofNat (48 + u % 10)]
theorem decD_dig (u : Nat) (h : u < 10) : decD u = [UInt8.ofNat (48 + u)] := by rw [decD, if_pos h]
theorem decD_snoc (u : Nat) (h : ¬ u < 10) : decD u = decD (u / 10) ++ [UInt8.ofNat (48 + u % 10)] := by rw [decD, if_neg h]
theorem decD_all : ∀ (u : Nat), (∀ c ∈ decD u, noDig c = false) ∧ digN (decD u) = u ∧ decD u ≠ [] ∧ ((decD u).head? = some 48 → u = 0) := by
  intro u
  induction u using Nat.strongRecOn with
  | _ u ih =>
    by_cases h : u < 10
    · rw [decD_dig u h]
      refine ⟨fun c hc => ?_, ?_, by simp, fun e => ?_⟩
      · simp only [List.mem_singleton] at hc
        subst hc
        rw [noDig_false, dig_nat u h]; omega
      · unfold digN
        simp only [List.foldl_cons, List.foldl_nil]
        rw [dig_nat u h]; omega
      · simp only [List.head?_cons, Option.some.injEq] at e
        have := congrArg UInt8.toNat e
        rw [dig_nat u h] at this
        have e48 : (48 : UInt8).toNat = 48 := rfl
        omega
    · obtain ⟨i1, i2, i3, i4⟩ := ih (u / 10) (by omega)
      rw [decD_snoc u h]
      have hd : u % 10 < 10 := Nat.mod_lt _ (by decide)
      refine ⟨fun c hc => ?_, ?_, by simp, fun e => ?_⟩
      · rw [List.mem_append] at hc
        rcases hc with hc | hc
        · exact i1 c hc
        · simp only [List.mem_singleton] at hc
          subst hc
          rw [noDig_false, dig_nat _ hd]; omega
      · have e : digN (decD (u / 10) ++ [UInt8.ofNat (48 + u % 10)]) = 10 * digN (decD (u / 10)) + ((UInt8.ofNat (48 + u % 10)).toNat - 48) := by
          unfold digN; rw [List.foldl_append]; rfl
        rw [e, i2, dig_nat _ hd]; omega
      · have hh : (decD (u / 10) ++ [UInt8.ofNat (48 + u % 10)]).head? = (decD (u / 10)).head? := by
          cases e' : decD (u / 10) with
          | nil => exact absurd e' i3
          | cons a t => rfl
        rw [hh] at e
        have := i4 e
        omega
theorem decD_len : ∀ (k u : Nat), u < 10 ^ (k + 1) → (decD u).length ≤ k + 1
  | 0, u, h => by rw [decD_dig u (by simpa using h)]; simp
  | k + 1, u, h => by
    by_cases hu : u < 10
    · rw [decD_dig u hu]; simp
    · rw [decD_snoc u hu]
      have := decD_len k (u / 10) (by rw [Nat.pow_succ] at h; omega)
      simp; omega
theorem decD_num (u : Nat) (h : u < 1000000) : isNumB (decD u) = true := by
  obtain ⟨h1, h2, h3, h4⟩ := decD_all u
  have hl := decD_len 5 u (by simpa using h)
  unfold isNumB
  simp only [Bool.and_eq_true, decide_eq_true_eq, Bool.not_eq_true']
  refine ⟨⟨⟨h3, by omega⟩, ?_⟩, ?_⟩
  · by_cases e : (decD u).head? = some 48
    · have := h4 e
      subst this
      rw [decD_dig 0 (by decide)]
      decide
    · simp [e]
  · rw [List.any_eq_false]
    intro c hc
    simp [h1 c hc]
theorem decD_blank (u : Nat) : 32 ∉ decD u := fun hm => by
  have := noDig_false.1 ((decD_all u).1 32 hm)
  have e : (32 : UInt8).toNat = 32 := rfl
  omega
end Go.Proofs.YtniailfcmlongaaGreatDoor.Tr
