/- Types in plain words: a text's words, what type they are, which values are of it. Nothing here speaks of the Go text. -/
import Derived.WalkKit
import Derived.Lib.Split
import Derived.Lib.SplitLaws
namespace Go.Proofs.YtniailfcmlongaaGreatDoor.Tr

/-- A text's words: cut at each blank. -/
def spl : List UInt8 → List (List UInt8)
  | [] => [[]]
  | c :: r => if c = 32 then [] :: spl r else match spl r with | [] => [[c]] | h :: t => (c :: h) :: t
theorem spl_ne (s : List UInt8) : spl s ≠ [] := by
  cases s with
  | nil => simp [spl]
  | cons c r =>
    rw [spl]
    split
    · simp
    · split <;> simp
theorem spl_len (s : List UInt8) : (spl s).length = s.count 32 + 1 := by
  induction s with
  | nil => rfl
  | cons c r ih =>
    rw [spl]
    split
    · next h => subst h; simp [ih]
    · next h =>
      have hc : (c :: r).count 32 = r.count 32 := List.count_cons_of_ne h
      rw [hc]
      cases e : spl r with
      | nil => exact absurd e (spl_ne r)
      | cons a t => rw [e] at ih; simpa using ih
theorem spl_none : ∀ {s : List UInt8}, 32 ∉ s → spl s = [s]
  | [], _ => rfl
  | c :: r, h => by
    have h1 : c ≠ 32 := fun e => h (by simp [e])
    have h2 : 32 ∉ r := fun e => h (by simp [e])
    rw [spl, if_neg h1, spl_none h2]
theorem spl_cut : ∀ {a : List UInt8} (b : List UInt8), 32 ∉ a → spl (a ++ 32 :: b) = a :: spl b
  | [], b, _ => by rw [List.nil_append, spl, if_pos rfl]
  | c :: r, b, h => by
    have h1 : c ≠ 32 := fun e => h (by simp [e])
    have h2 : 32 ∉ r := fun e => h (by simp [e])
    rw [List.cons_append, spl, if_neg h1, spl_cut b h2]
theorem splitK_spl : ∀ (k : Nat) (s : List UInt8), s.count 32 ≤ k → Lib.splitK [32] 0 k s = spl s
  | 0, s, h => by
    rw [Lib.splitK, spl_none]
    intro hm
    have := List.count_pos_iff.2 hm
    omega
  | k + 1, s, h => by
    rw [Lib.splitK, Lib.index_one]
    by_cases hi : Lib.indexByte s 32 = -1
    · rw [hi, if_pos (by decide), spl_none]
      intro hm
      obtain ⟨i, hi', e⟩ := List.getElem_of_mem hm
      exact Lib.indexByte_none hi i (by rw [List.getElem?_eq_getElem hi', e])
    · have hge := Lib.indexByte_ge s 32
      obtain ⟨o, ho⟩ : ∃ o : Nat, Lib.indexByte s 32 = o := ⟨(Lib.indexByte s 32).toNat, by omega⟩
      obtain ⟨g1, g2⟩ := Lib.indexByte_some ho
      have hlt : o < s.length := (List.getElem?_eq_some_iff.1 g1).1
      have e32 : s[o] = 32 := by rw [List.getElem?_eq_getElem hlt] at g1; simpa using g1
      have hs : s = s.take o ++ 32 :: s.drop (o + 1) := by
        rw [← e32, ← List.drop_eq_getElem_cons hlt, List.take_append_drop]
      have hno : 32 ∉ s.take o := by
        intro hm
        obtain ⟨i, hi', e⟩ := List.getElem_of_mem hm
        rw [List.length_take] at hi'
        refine g2 i (by omega) ?_
        rw [List.getElem?_eq_getElem (by omega), ← e, List.getElem_take]
      have hc : (s.drop (o + 1)).count 32 ≤ k := by
        rw [hs, List.count_append, List.count_cons_self] at h
        omega
      have hn : ((o : Int) == -1) = false := by rw [beq_eq_false_iff_ne]; omega
      rw [ho, hn, if_neg (by simp)]
      have e1 : ((o : Int)).toNat = o := rfl
      rw [e1, show o + 0 = o from rfl, show o + [(32 : UInt8)].length = o + 1 from rfl, splitK_spl k _ hc]
      conv => rhs; rw [hs]
      rw [spl_cut _ hno]

/-- A type that was read. -/
inductive Ty where
  | bare (w : List UInt8)
  | int (lo hi : Int)
  | enum (ws : List (List UInt8))
  | list (t : Ty)
  | attrs (t : Ty)

abbrev sBool : List UInt8 := [98, 111, 111, 108]
abbrev sFloat : List UInt8 := [102, 108, 111, 97, 116]
abbrev sString : List UInt8 := [115, 116, 114, 105, 110, 103]
abbrev sLines : List UInt8 := [108, 105, 110, 101, 115]
abbrev sUnit : List UInt8 := [117, 110, 105, 116]
abbrev sInt : List UInt8 := [105, 110, 116]
abbrev sEnum : List UInt8 := [101, 110, 117, 109]
abbrev sList : List UInt8 := [108, 105, 115, 116]
abbrev sAttrs : List UInt8 := [97, 116, 116, 114, 115]

def noDig (c : UInt8) : Bool := decide (c.toNat < 48) || decide (57 < c.toNat)
def isNumB (s : List UInt8) : Bool := decide (s ≠ []) && decide (s.length ≤ 9) && !(decide (1 < s.length) && s.head? == some 48) && !s.any noDig
def foreignB (c : UInt8) : Bool := (decide (c.toNat < 97) || decide (122 < c.toNat)) && noDig c && decide (c ≠ 45)
def choiceB (s : List UInt8) : Bool := decide (s ≠ []) && !s.any foreignB
/-- The number of digits. -/
def digN (s : List UInt8) : Nat := s.foldl (fun n c => 10 * n + (c.toNat - 48)) 0
/-- Words of an enum: each may be one, none twice. -/
def enumB (ws : List (List UInt8)) : Bool := (List.range ws.length).all fun i => choiceB (ws.getD i []) && !(ws.take i).contains (ws.getD i [])

def intTy : List (List UInt8) → Option Ty
  | [] => some (.int (-9223372036854775808) 9223372036854775807)
  | [a, b] => if isNumB a && isNumB b then (if digN a ≤ digN b then some (.int (digN a) (digN b)) else none) else none
  | _ => none

/-- What type words are. -/
def tyOf : List (List UInt8) → Option Ty
  | [] => none
  | w :: r =>
    if w = sBool ∨ w = sFloat ∨ w = sString ∨ w = sLines ∨ w = sUnit then (if r = [] then some (.bare w) else none)
    else if w = sInt then intTy r
    else if w = sEnum then (if r ≠ [] ∧ enumB r = true then some (.enum r) else none)
    else if w = sList then (tyOf r).map .list
    else if w = sAttrs then (tyOf r).map .attrs
    else none
/-- What type a text is. -/
def readT (t : List UInt8) : Option Ty := if t.length ≤ 64 ∧ (spl t).length ≤ 8 then tyOf (spl t) else none

end Go.Proofs.YtniailfcmlongaaGreatDoor.Tr
