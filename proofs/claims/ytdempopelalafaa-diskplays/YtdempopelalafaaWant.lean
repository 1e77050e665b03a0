/- A row of bytes that '[]byte(s)' has made, and what is copied into it; the plain model of DiskEither. -/
import Derived.Test.YtdempopelalafaaMade
namespace Go.Proofs.Ytdempopelalafaa.Dk
open Go.RowKit

/-- Block g holds the bytes X, room behind them, and its frozen mark lies behind all cells. -/
def Wnt (w : World) (g : Nat) (X : List UInt8) : Prop := ∃ (Z : List Value) (fz : Nat × Nat), w.heap[g]? = some (.cells (bs X ++ Z).toArray 5 fz) ∧ (bs X ++ Z).length ≤ fz.1

theorem setCells_blk {b : Nat} {t : TypeId} {fz : Nat × Nat} : ∀ (vs : List Value) (o : Nat) {w : World} {xs : List Value}, w.heap[b]? = some (.cells xs.toArray t fz) → o + vs.length ≤ xs.length → (w.setCells b o vs).heap[b]? = some (.cells (splice xs o vs).toArray t fz)
  | [], o, w, xs, h, _ => by
    have e : splice xs o [] = xs := by simp [splice]
    rw [e]; exact h
  | v :: r, o, w, xs, h, hl => by
    simp only [List.length_cons] at hl
    rw [World.setCells, ← splice_cons xs o v r (by omega)]
    refine setCells_blk r (o + 1) ?_ (by simp; omega)
    simp [World.setCell, Array.getElem?_modify, h]

theorem Wnt.lt {w : World} {g : Nat} {X : List UInt8} (h : Wnt w g X) : g < w.heap.size := by
  obtain ⟨Z, fz, h1, _⟩ := h
  rcases Nat.lt_or_ge g w.heap.size with hlt | hge
  · exact hlt
  · rw [Array.getElem?_eq_none hge] at h1; cases h1
theorem Wnt.of_eq {w w' : World} {g : Nat} {X : List UInt8} (h : Wnt w g X) (e : w'.heap[g]? = w.heap[g]?) : Wnt w' g X := by
  obtain ⟨Z, fz, h1, h2⟩ := h
  exact ⟨Z, fz, e.trans h1, h2⟩
theorem Wnt.alloc {w : World} {g : Nat} {X : List UInt8} (h : Wnt w g X) (o : Obj) : Wnt (w.alloc o) g X := h.of_eq (Below.heap_alloc w o g h.lt)
theorem Wnt.drew {w : World} {g : Nat} {X : List UInt8} (h : Wnt w g X) : Wnt w.drew g X := h
theorem Wnt.there {w : World} {g : Nat} {X : List UInt8} (h : Wnt w g X) (o n : Nat) (hn : o + n ≤ X.length) : w.there g o n := fun j hj => by
  obtain ⟨Z, fz, h1, h2⟩ := h
  simp only [List.length_append, bs_length] at h2
  refine ⟨?_, ?_⟩
  · rw [cell_of_row w g (o + j) _ 5 fz h1]
    simp [bs_length]; omega
  · simp only [World.frozen?, h1]
    have : ¬ fz.1 ≤ o + j := by omega
    simp [this]
theorem Wnt.setCells {w : World} {g : Nat} {X : List UInt8} (h : Wnt w g X) (o : Nat) (s : List UInt8) (hs : o + s.length ≤ X.length) : Wnt (w.setCells g o (bs s)) g (splice X o s) := by
  obtain ⟨Z, fz, h1, h2⟩ := h
  have e : splice (bs X ++ Z) o (bs s) = bs (splice X o s) ++ Z := by
    rw [← bs_splice]
    unfold splice
    have hl : o + (bs s).length ≤ (bs X).length := by rw [bs_length, bs_length]; exact hs
    rw [List.take_append_of_le_length (by omega), List.drop_append_of_le_length (by omega)]
    simp
  refine ⟨Z, fz, ?_, ?_⟩
  · rw [← e]
    exact setCells_blk _ _ h1 (by simp only [List.length_append, bs_length]; omega)
  · have hl : (splice X o s).length = X.length := length_splice _ _ _ hs
    simp only [List.length_append, bs_length, hl] at h2 ⊢
    exact h2
theorem Wnt.conv {w : World} {g cap n : Nat} {X : List UInt8} (h : Wnt w g X) (hn : X.length = n) : (convert 28 9 (.slice (some ⟨g, 0, none⟩) n cap)).run Try.prog w = .ok (.string (strB X)) w := by
  subst hn
  obtain ⟨Z, fz, h1, _⟩ := h
  refine run_convert_bytes_back (P := Try.prog) w 28 9 5 ⟨g, 0, none⟩ cap X Try.underlying28 Try.underlying5 Try.underlying9 (fun j hj => ?_)
  rw [Addr.add_mid, Nat.zero_add, cell_of_row w g j _ 5 fz h1]
  have hj' : j < (bs X).length := by rw [bs_length]; exact hj
  have e : (bs X ++ Z)[j]? = some (bv X[j]) := by rw [List.getElem?_append_left hj']; simp [bs, hj]
  exact (by simp : (bs X ++ Z).toArray[j]? = (bs X ++ Z)[j]?).trans e

/-- '[]byte(s)'. -/
theorem run_want (w : World) (X : List UInt8) : ∃ cap W, X.length ≤ cap ∧ (convert 9 28 (.string (strB X))).run Try.prog w = .ok (.slice (some ⟨w.heap.size, 0, none⟩) X.length cap) W ∧ Wnt W w.heap.size X ∧ Fr (fun _ => False) w W := by
  have h := run_bytes_of_string (P := Try.prog) w 9 28 5 (strB X) Try.underlying9 Try.underlying28 Try.underlying5
  have hsz : (strB X).size = X.length := by simp [strB, ByteArray.size]
  rw [hsz] at h
  refine ⟨_, _, grownCap_ge w X.length 0 5, h, ?_, ((Fr.refl _ w).drew).alloc _⟩
  have e : (bytesRow (strB X) (grownCap w X.length 0 5)) = (bs X ++ List.replicate (grownCap w X.length 0 5 - X.length) (Value.int .u8 0)).toArray := by
    unfold bytesRow
    rw [hsz]
    simp [strB, bs]
    exact fun _ _ => rfl
  rw [e]
  refine ⟨_, _, heap_alloc_new w.drew _, ?_⟩
  simp

theorem Own.setG {G : Nat → Prop} {w : World} {p : Nat} {D : Dsk} (h : Own G w p D) {g : Nat} (hg : G g) (o : Nat) (vs : List Value) : Own G (w.setCells g o vs) p D := by
  obtain ⟨bl, bn, lv, r, f⟩ := h
  refine ⟨bl, bn, lv, r.of_same (fun k hk => Dk.setCells_ne _ _ _ (fun e => by subst e; exact (f k hg).2 hk)), fun k hk => ⟨?_, (f k hk).2⟩⟩
  rw [(setCells_misc g vs o w).2.2.2]
  exact (f k hk).1

/-- What DiskEither comes to. -/
theorem either_model {k : Nat} {D : Dsk} (h : DInv k D) (hLN : D.L = D.N) (hQ : D.Q = []) (A B kp : Nat) (hA : A < D.n) (hB : B < D.n) (F1 F2 : List UInt8) (f1 : F1.length = 128) (f2 : F2.length = 128) :
    let E := (((D.write (A : Int) F1).write (B : Int) F2).crash kp).start
    E.up = true ∧ E.N = settle1 kp (settle1 kp D.N 0 (A, F1)) 1 (B, F2) ∧ E.Q = [] ∧ ((D.write (A : Int) F1).write (B : Int) F2).Q.length ≤ 2 := by
  have w1 := h.write (A : Int) F1
  have e1 := h.write_ok A F1 hA f1
  have e2 := w1.1.write_ok B F2 (by rw [w1.2.2]; exact hB) f2
  have w2 := w1.1.write (B : Int) F2
  have hq : ((D.write (A : Int) F1).write (B : Int) F2).Q = [(A, F1), (B, F2)] := by
    rw [e2]
    show (D.write (A : Int) F1).Q ++ [(B, F2)] = _
    rw [e1]
    show (D.Q ++ [(A, F1)]) ++ [(B, F2)] = _
    rw [hQ]; rfl
  have hl : ((D.write (A : Int) F1).write (B : Int) F2).L = D.N := by rw [w2.2.1, w1.2.1, hLN]
  have hu := w2.1.up
  generalize (D.write (A : Int) F1).write (B : Int) F2 = D2 at *
  have ec : D2.crash kp = D2.fail kp := by simp [Dsk.crash, hu]
  simp only [ec]
  refine ⟨rfl, ?_, rfl, by rw [hq]; simp⟩
  show settleTo kp D2.Q D2.L D2.Q.length = _
  rw [hq, hl]
  rfl

theorem bit0 (kp : Nat) (hk : kp < 18446744073709551616) : (bits BinOp.and IntKind.u64 (kp : Int) 1 == 1) = kp.testBit 0 := by
  have := bit_test kp 0 hk
  simpa using this
theorem bit1 (kp : Nat) (hk : kp < 18446744073709551616) : (bits BinOp.and IntKind.u64 (kp : Int) 2 == 2) = kp.testBit 1 := by
  have h := bits_and_u64_nat kp 2 (by omega) (by omega)
  have e : ((2 : Nat) : Int) = 2 := rfl
  rw [e] at h
  have hp : kp &&& 2 ^ 1 = if kp.testBit 1 = true then 2 ^ 1 else 0 := by
    apply Nat.eq_of_testBit_eq
    intro i
    rw [Nat.testBit_and, Nat.testBit_two_pow]
    have h2 := Nat.testBit_two_pow (n := 1) (m := i)
    by_cases hi : 1 = i
    · subst hi
      cases hb : kp.testBit 1
      · simp
      · rw [if_pos rfl, h2]; simp
    · cases hb : kp.testBit 1
      · simp [hi]
      · rw [if_pos rfl, h2]; simp [hi]
  rw [h, show (2 : Nat) = 2 ^ 1 from rfl, hp]
  cases kp.testBit 1 <;> rfl

end Go.Proofs.Ytdempopelalafaa.Dk
