/- The reference disk: Read. -/
import Derived.Test.YtdempopelalafaaRef2
import Derived.Test.YtdempopelalafaaWant
namespace Go.Proofs.Ytdempopelalafaa.Dk
open Go.RowKit

def zeros : List UInt8 := List.replicate 128 0
/-- What the last write of sector i has made it. -/
def lastOf (ws : List RW) (i : Nat) : List UInt8 := ws.foldl (fun acc x => if x.a = i then x.b else acc) zeros
theorem lastOf_nil (i : Nat) : lastOf [] i = zeros := rfl
theorem lastOf_snoc (ws : List RW) (x : RW) (i : Nat) : lastOf (ws ++ [x]) i = if x.a = i then x.b else lastOf ws i := by simp [lastOf]
theorem fold_none (i : Nat) : ∀ (l : List RW) (acc : List UInt8), (∀ y ∈ l, y.a ≠ i) → l.foldl (fun acc x => if x.a = i then x.b else acc) acc = acc
  | [], _, _ => rfl
  | y :: r, acc, h => by
    rw [List.foldl_cons, if_neg (h y (List.mem_cons_self ..))]
    exact fold_none i r acc (fun z hz => h z (List.mem_cons_of_mem _ hz))
theorem lastOf_at (ws : List RW) (k i : Nat) (x : RW) (hx : ws[k]? = some x) (ha : x.a = i) (hno : ∀ j, k < j → ∀ y, ws[j]? = some y → y.a ≠ i) : lastOf ws i = x.b := by
  have hk := (List.getElem?_eq_some_iff.1 hx).1
  have e : ws = ws.take k ++ x :: ws.drop (k + 1) := by
    have := List.getElem?_eq_getElem hk
    rw [hx] at this
    have hx' : ws[k] = x := (Option.some.inj this).symm
    rw [← hx', ← List.drop_eq_getElem_cons hk, List.take_append_drop]
  unfold lastOf
  rw [e, List.foldl_append, List.foldl_cons, if_pos ha]
  refine fold_none i _ _ (fun y hy => ?_)
  obtain ⟨j, hj⟩ := List.mem_iff_getElem?.1 hy
  rw [List.getElem?_drop] at hj
  exact hno (k + 1 + j) (by omega) y hj
theorem lastOf_none (ws : List RW) (i : Nat) (hno : ∀ (j : Nat) (y : RW), ws[j]? = some y → y.a ≠ i) : lastOf ws i = zeros :=
  fold_none i ws zeros (fun y hy => by
    obtain ⟨j, hj⟩ := List.mem_iff_getElem?.1 hy
    exact hno j y hj)

def RReadPost (w : World) (l : List UInt8) (r : Int) (e : Ending) (w' : World) : Prop := ∃ ad cap, e = .returned (.tuple #[.slice ad l.length cap, .int .i64 r]) ∧ Fr (fun _ => False) w w' ∧ (l ≠ [] → ∃ g, ad = some ⟨g, 0, none⟩ ∧ w.heap.size ≤ g ∧ w'.rangeAt g 0 (bs l))

theorem Wnt.range {w : World} {g : Nat} {X : List UInt8} (h : Wnt w g X) : w.rangeAt g 0 (bs X) := fun j v hv => by
  obtain ⟨Z, fz, h1, _⟩ := h
  rw [Nat.zero_add, cell_of_row w g j _ 5 fz h1]
  have hj := (List.getElem?_eq_some_iff.1 hv).1
  rw [← hv, ← List.getElem?_append_left (l₂ := Z) hj]
  simp

def RDk.reach (R : RDk) (i : Int) : Int := if R.off then 40 else if i < 0 ∨ (R.n : Int) ≤ i then 43 else 0
def RDk.read (R : RDk) (i : Int) : List UInt8 := if R.reach i = 0 then lastOf R.ws i.toNat else []

set_option maxRecDepth 100000 in
set_option maxHeartbeats 1000000 in
theorem rread_any {w : World} {q : Nat} {wv : Value} {R : RDk} (h : RRep w q wv R) (i : Int) (hl : R.ws.length < 1073741824) :
    Calls Try.prog 20 #[pv q, .int .i64 i] w fun e w' => RReadPost w (R.read i) (R.reach i) e w' := by
  have c0 := h.c0
  have c1 := h.c1
  have c2 := h.c2
  unfold RDk.read RDk.reach
  cases hu : R.off
  · rw [hu] at c2
    by_cases h0 : i < 0
    · simp only [Bool.false_eq_true, if_false, h0, true_or, if_true]
      clear hu
      go_enter Try.func20, Try.ntmps20
      go_wp2
      go_ret2
      exact ⟨none, 0, rfl, Fr.refl _ _, fun h => absurd rfl h⟩
    · by_cases h1 : (R.n : Int) ≤ i
      · simp only [Bool.false_eq_true, if_false, h0, h1, or_true, if_true]
        clear hu
        go_enter Try.func20, Try.ntmps20
        go_wp2
        go_ret2
        exact ⟨none, 0, rfl, Fr.refl _ _, fun h => absurd rfl h⟩
      · have hor : ¬ (i < 0 ∨ (R.n : Int) ≤ i) := by omega
        simp only [Bool.false_eq_true, if_false, hor, if_true]
        obtain ⟨i', rfl⟩ := Int.eq_ofNat_of_zero_le (show 0 ≤ i by omega)
        simp only [Int.toNat_natCast]
        obtain ⟨la, lc, rfl⟩ := own_len h.hq
        have H := hid h
        generalize hn : R.ws.length = n at *
        have HN := hid hn
        have hi1 : ¬ ((i' : Int) < 0) := by omega
        have hi2 : ¬ ((R.n : Int) ≤ (i' : Int)) := h1
        clear h hn hu hor h0
        go_enter Try.func20, Try.ntmps20
        go_wp2
        go_loopw [6] (fun z wr => wr = w ∧ ∃ m : Nat, m ≤ n ∧ z = .int .i64 ((m : Int) - 1) ∧ ∀ j, m ≤ j → ∀ y, R.ws[j]? = some y → y.a ≠ i') (fun z _ => (intOf z + 1).toNat)
        case atStart => exact ⟨rfl, n, Nat.le_refl _, rfl, fun j hj y hy => by have := (List.getElem?_eq_some_iff.1 hy).1; rw [HN.out] at this; omega⟩
        case round =>
          obtain ⟨hwr, m, hm, rfl, hno⟩ := hrel
          obtain rfl : w = wr := hwr.symm
          have HNo := hid hno
          clear hwr hno
          cases m with
          | zero =>
            obtain ⟨i0, hi0, hz0, hz1, hz2⟩ := info_parts info5
            have hmk := run_make (P := Try.prog) w 28 5 i0 _ Try.underlying28 hi0 hz0 .i64 .i64 128 128 (by omega) (by omega) (by rw [hz2]; omega) (by omega)
            have e0 : lastOf R.ws i' = zeros := lastOf_none _ _ (fun j y hy => HNo.out j (Nat.zero_le _) y hy)
            have HB : Hid (Blk (w.alloc (.cells (madeCells #[Value.int .u8 0] 128) 5)) w.heap.size 5 (bs zeros)) := by
              unfold Hid
              rw [fillTo_zero 0]
              have := Blk.new w 5 (bs zeros)
              have e : (bs zeros).toArray = fillTo 0 0 := by simp [bs, zeros, fillTo, bv]
              rwa [e] at this
            have HE := hid e0
            clear e0
            go_wp2
            go_ret2
            refine ⟨some ⟨w.heap.size, 0, none⟩, 128, by rw [HE.out]; rfl, (Fr.refl _ _).alloc _, fun _ => ⟨_, rfl, Nat.le_refl _, ?_⟩⟩
            rw [HE.out]
            exact HB.out.range 0 _ (by simp)
          | succ k =>
            obtain ⟨x, hx⟩ : ∃ x, R.ws[k]? = some x := ⟨_, List.getElem?_eq_getElem (by rw [HN.out]; omega)⟩
            obtain ⟨g, cap, hv, hg, e1, e2, e3⟩ := H.out.wcell hx
            simp only [Value.slice.injEq] at hv
            obtain ⟨rfl, hnn, rfl⟩ := hv
            clear hnn
            have ez : ((k + 1 : Nat) : Int) - 1 = (k : Int) := by omega
            rw [ez]
            have hk0 : (0 : Int) ≤ (k : Int) := Int.natCast_nonneg _
            have hk1 : (k : Int) < (n : Int) := by omega
            by_cases hxa : x.a = i'
            · have hb : ((x.a : Int) == (i' : Int)) = true := beq_iff_eq.2 (by omega)
              obtain ⟨cp, W, hcp, hcv, hWn, f9⟩ := run_want w x.b
              have e0 : lastOf R.ws i' = x.b := lastOf_at R.ws k i' x hx hxa (fun j hj => HNo.out j hj)
              have HW := hid hWn
              have HF := hid f9
              have HE := hid e0
              clear hWn f9 e0 hx
              go_wp2
              go_ret2
              refine ⟨some ⟨w.heap.size, 0, none⟩, cp, by rw [HE.out]; rfl, HF.out, fun _ => ⟨_, rfl, Nat.le_refl _, ?_⟩⟩
              rw [HE.out]
              exact HW.out.range
            · have hb : ((x.a : Int) == (i' : Int)) = false := beq_eq_false_iff_ne.2 (by omega)
              have hno2 : Hid (∀ j, k ≤ j → ∀ y, R.ws[j]? = some y → y.a ≠ i') := fun j hj y hy => by
                rcases Nat.eq_or_lt_of_le hj with rfl | h
                · rw [hx] at hy; cases hy; exact hxa
                · exact HNo.out j h y hy
              clear hx
              go_wp2
              exact ⟨⟨trivial, k, by omega, by go_num, hno2.out⟩, by simp [intOf]⟩
  · rw [hu] at c2
    simp only [if_true]
    clear hu
    go_enter Try.func20, Try.ntmps20
    go_wp2
    go_ret2
    exact ⟨none, 0, rfl, Fr.refl _ _, fun h => absurd rfl h⟩

end Go.Proofs.Ytdempopelalafaa.Dk
