/- The contract of spoil: whoever has an act in memory of its own writes over it, and over nothing else. -/
import Derived.Test.YtangnoicnogddaaMga
namespace Go.Proofs.Ytangnoicnogddaa.Tr
open Go.RowKit

/-- A row of n cells, each a value, in a block of O, that may be written over. -/
def Wr (O : Nat → Prop) (W : World) (t : TypeId) (ad : Option Addr) (n : Nat) : Prop := 0 < n → ∃ g cur, ad = some ⟨g, 0, none⟩ ∧ O g ∧ Blk W g t cur ∧ n ≤ cur.length
theorem Wr.set {O : Nat → Prop} {W : World} {t : TypeId} {ad : Option Addr} {n : Nat} (h : Wr O W t ad n) (g j : Nat) (v : Value) : Wr O (W.setCell ⟨g, j, none⟩ v) t ad n := fun hn => by
  obtain ⟨g', cur, e, hO, hB, hl⟩ := h hn
  by_cases hg : g' = g
  · subst hg
    exact ⟨g', _, e, hO, hB.setCell j v, by rw [List.length_set]; exact hl⟩
  · exact ⟨g', cur, e, hO, hB.setCell_ne hg _, hl⟩
theorem Wr.alloc {O : Nat → Prop} {W : World} {t : TypeId} {ad : Option Addr} {n : Nat} (h : Wr O W t ad n) (ob : Obj) : Wr O (W.alloc ob) t ad n := fun hn => by
  obtain ⟨g, cur, e, hO, hB, hl⟩ := h hn
  exact ⟨g, cur, e, hO, hB.alloc ob, hl⟩
theorem Wr.of_eq {O : Nat → Prop} {W W' : World} {t : TypeId} {ad : Option Addr} {n : Nat} (h : Wr O W t ad n) (he : ∀ k, O k → W'.heap[k]? = W.heap[k]?) : Wr O W' t ad n := fun hn => by
  obtain ⟨g, cur, e, hO, hB, hl⟩ := h hn
  exact ⟨g, cur, e, hO, hB.of_eq (he g hO), hl⟩
/-- Where an act's three lists may be written over. -/
structure WrA (O : Nat → Prop) (W : World) (z : Zv) : Prop where
  d : Wr O W 5 z.x.da z.x.dl
  r : Wr O W 9 z.y.ra z.y.rl
  a : Wr O W 9 z.y.aa z.y.al
/-- While it is written over: its cells stand in b. -/
structure Spo (O : Nat → Prop) (w W : World) (b : Nat) (z : Zv) : Prop where
  f : Fr O w W
  kp : ∀ (O2 : Nat → Prop) t ad n, Wr O2 w t ad n → Wr O2 W t ad n
  blk : Blk W b 43 z.cs
  wr : WrA O W z
theorem Spo.set {O : Nat → Prop} {w W : World} {b : Nat} {z : Zv} (h : Spo O w W b z) {g : Nat} (hO : O g) (hb : ¬ O b) (j : Nat) (v : Value) : Spo O w (W.setCell ⟨g, j, none⟩ v) b z :=
  ⟨h.f.setCell (p := ⟨g, j, none⟩) (.inl hO) _, fun O2 t ad n hw => (h.kp O2 t ad n hw).set _ _ _, h.blk.setCell_ne (fun e => hb (by rw [e]; exact hO)) _, ⟨h.wr.d.set _ _ _, h.wr.r.set _ _ _, h.wr.a.set _ _ _⟩⟩
set_option maxRecDepth 100000 in
set_option maxHeartbeats 4000000 in
theorem spoil_any (O : Nat → Prop) (w : World) (z : Zv) (hz : WrA O w z) (hO : ∀ k, O k → k < w.heap.size) (h1 : z.x.dl ≤ 140737488351232) (h2 : z.y.rl ≤ 140737488351232) (h3 : z.y.al ≤ 140737488351232) :
    Calls Try.prog 12 #[z.v] w fun e w' => e = .returned (.tuple #[]) ∧ Fr O w w' ∧ ∀ (O2 : Nat → Prop) t ad n, Wr O2 w t ad n → Wr O2 w' t ad n := by
  have hf : Fr O w (zBox w z) := (Fr.refl _ w).alloc _
  have hS : Spo O w (zBox w z) w.heap.size z := ⟨hf, fun O2 t ad n hw => hw.alloc _, Blk.new w _ z.cs, ⟨hz.d.of_eq (fun k hk => Below.heap_alloc _ _ k (hO k hk)), hz.r.of_eq (fun k hk => Below.heap_alloc _ _ k (hO k hk)), hz.a.of_eq (fun k hk => Below.heap_alloc _ _ k (hO k hk))⟩⟩
  have HS := hid hS
  have HN : Hid (¬ O w.heap.size) := fun h => Nat.lt_irrefl _ (hO _ h)
  have b4 := hS.blk.cell 4
  clear hz hO hf hS
  obtain ⟨k', n', ⟨xp, xk, xa, xl, xc⟩, ⟨yn, ys, yra, yrl, yrc, yaa, yal, yac⟩⟩ := z
  simp only at h1 h2 h3
  simp only [Zv.v, Zv.cs, List.getElem?_cons_zero, List.getElem?_cons_succ] at *
  go_enter Try.func12, Try.ntmps12
  go_wp2_with fail
  clear b4
  go_loopw [2] (fun iv wr => ∃ i : Nat, i ≤ xl ∧ iv = .int .i64 (i : Int) ∧ Hid (Spo O w wr w.heap.size ⟨k', n', ⟨xp, xk, xa, xl, xc⟩, ⟨yn, ys, yra, yrl, yrc, yaa, yal, yac⟩⟩)) (fun iv _ => xl - (intOf iv).toNat)
  case atStart => exact ⟨0, Nat.zero_le _, rfl, HS.out⟩
  case round =>
    obtain ⟨i, hi, rfl, HI⟩ := hrel
    have b4 := HI.out.blk.cell 4
    have b7 := HI.out.blk.cell 7
    simp only [Zv.cs, List.getElem?_cons_zero, List.getElem?_cons_succ] at b4 b7
    have hi0 : (0 : Int) ≤ (i : Int) := Int.natCast_nonneg _
    by_cases hlt : i < xl
    · have hi1 : (i : Int) < ((xl : Nat) : Int) := by omega
      obtain ⟨g, cur, e, hO, hB, hl⟩ := HI.out.wr.d (by simp only; omega)
      simp only at e hl
      subst e
      have y0 := (hB.cell i).trans (List.getElem?_eq_getElem (show i < cur.length by omega))
      have z0 := hB.frozen i
      have HI2 := hid (HI.out.set hO HN.out i (.int .u8 1))
      clear hB
      go_wp2
      exact ⟨⟨i + 1, by omega, by go_num, HI2⟩, by simp [intOf]; omega⟩
    · have hi1 : ¬ (i : Int) < ((xl : Nat) : Int) := by omega
      clear hlt hi0 HS
      rename World => w1
      go_wp2_with fail
      clear b4 b7
      go_loopw [3] (fun iv wr => ∃ j : Nat, j ≤ yrl ∧ iv = .int .i64 (j : Int) ∧ Hid (Spo O w wr w.heap.size ⟨k', n', ⟨xp, xk, xa, xl, xc⟩, ⟨yn, ys, yra, yrl, yrc, yaa, yal, yac⟩⟩)) (fun iv _ => yrl - (intOf iv).toNat)
      case atStart => exact ⟨0, Nat.zero_le _, rfl, HI⟩
      case round =>
        obtain ⟨j, hj, rfl, HJ⟩ := hrel
        have b7 := HJ.out.blk.cell 7
        have b8 := HJ.out.blk.cell 8
        simp only [Zv.cs, List.getElem?_cons_zero, List.getElem?_cons_succ] at b7 b8
        have hj0 : (0 : Int) ≤ (j : Int) := Int.natCast_nonneg _
        by_cases hlt : j < yrl
        · have hj1 : (j : Int) < ((yrl : Nat) : Int) := by omega
          obtain ⟨g, cur, e, hO, hB, hl⟩ := HJ.out.wr.r (by simp only; omega)
          simp only at e hl
          subst e
          have y0 := (hB.cell j).trans (List.getElem?_eq_getElem (show j < cur.length by omega))
          have z0 := hB.frozen j
          have HJ2 := hid (HJ.out.set hO HN.out j (.string ⟨#[63]⟩))
          clear hB
          go_wp2
          exact ⟨⟨j + 1, by omega, by go_num, HJ2⟩, by simp [intOf]; omega⟩
        · have hj1 : ¬ (j : Int) < ((yrl : Nat) : Int) := by omega
          clear hlt hj0 HI
          rename World => w2
          go_wp2_with fail
          clear b7 b8
          go_loopw [4] (fun iv wr => ∃ l : Nat, l ≤ yal ∧ iv = .int .i64 (l : Int) ∧ Hid (Spo O w wr w.heap.size ⟨k', n', ⟨xp, xk, xa, xl, xc⟩, ⟨yn, ys, yra, yrl, yrc, yaa, yal, yac⟩⟩)) (fun iv _ => yal - (intOf iv).toNat)
          case atStart => exact ⟨0, Nat.zero_le _, rfl, HJ⟩
          case round =>
            obtain ⟨l, hl', rfl, HK⟩ := hrel
            have b8 := HK.out.blk.cell 8
            simp only [Zv.cs, List.getElem?_cons_zero, List.getElem?_cons_succ] at b8
            have hl0 : (0 : Int) ≤ (l : Int) := Int.natCast_nonneg _
            by_cases hlt : l < yal
            · have hl1 : (l : Int) < ((yal : Nat) : Int) := by omega
              obtain ⟨g, cur, e, hO, hB, hl⟩ := HK.out.wr.a (by simp only; omega)
              simp only at e hl
              subst e
              have y0 := (hB.cell l).trans (List.getElem?_eq_getElem (show l < cur.length by omega))
              have z0 := hB.frozen l
              have HK2 := hid (HK.out.set hO HN.out l (.string ⟨#[63]⟩))
              clear hB
              go_wp2
              exact ⟨⟨l + 1, by omega, by go_num, HK2⟩, by simp [intOf]; omega⟩
            · have hl1 : ¬ (l : Int) < ((yal : Nat) : Int) := by omega
              go_wp2
              go_end0
              exact ⟨rfl, HK.out.f, HK.out.kp⟩
end Go.Proofs.Ytangnoicnogddaa.Tr
