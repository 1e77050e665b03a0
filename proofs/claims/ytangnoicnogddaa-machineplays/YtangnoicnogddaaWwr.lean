/- The contract of wreck: whoever has asked writes over what was told, and over nothing else. -/
import Derived.Test.YtangnoicnogddaaWsp
namespace Go.Proofs.Ytangnoicnogddaa.Tr
open Go.RowKit

theorem blk_ty {W : World} {g : Nat} {t t' : TypeId} {c c' : List Value} (h : Blk W g t c) (h' : Blk W g t' c') : t = t' := by
  unfold Blk at h h'
  rw [h] at h'
  cases h'
  rfl
/-- A row of files, from i on: the data of each may be written over. -/
def WrF (O : Nat → Prop) (W : World) (ad : Option Addr) (n i : Nat) : Prop := 0 < n → ∃ g cur, ad = some ⟨g, 0, none⟩ ∧ O g ∧ Blk W g 39 cur ∧ n * 3 ≤ cur.length ∧ ∀ m, i ≤ m → m < n → ∃ da dl dc, cur[m * 3 + 2]? = some (.slice da dl dc) ∧ Wr O W 5 da dl ∧ dl ≤ 140737488351232
/-- A row of units, from i on: the lists of each may be written over. -/
def WrR (O : Nat → Prop) (W : World) (ad : Option Addr) (n i : Nat) : Prop := 0 < n → ∃ g cur, ad = some ⟨g, 0, none⟩ ∧ O g ∧ Blk W g 41 cur ∧ n * 4 ≤ cur.length ∧ ∀ m, i ≤ m → m < n → ∃ y : Uv, (∀ q v, y.cs[q]? = some v → cur[m * 4 + q]? = some v) ∧ Wr O W 9 y.ra y.rl ∧ Wr O W 9 y.aa y.al ∧ y.rl ≤ 140737488351232 ∧ y.al ≤ 140737488351232
theorem WrF.other {O : Nat → Prop} {W : World} {ad : Option Addr} {n i : Nat} (h : WrF O W ad n i) {g : Nat} {t : TypeId} {c : List Value} (hb : Blk W g t c) (ht : t ≠ 39) (j : Nat) (v : Value) : WrF O (W.setCell ⟨g, j, none⟩ v) ad n i := fun hn => by
  obtain ⟨g', cur, e, hO, hB, hl, hm⟩ := h hn
  refine ⟨g', cur, e, hO, hB.setCell_ne (fun e => by subst e; exact ht (blk_ty hb hB)) _, hl, fun m h1 h2 => ?_⟩
  obtain ⟨da, dl, dc, hc, hw, hd⟩ := hm m h1 h2
  exact ⟨da, dl, dc, hc, hw.set _ _ _, hd⟩
theorem WrR.other {O : Nat → Prop} {W : World} {ad : Option Addr} {n i : Nat} (h : WrR O W ad n i) {g : Nat} {t : TypeId} {c : List Value} (hb : Blk W g t c) (ht : t ≠ 41) (j : Nat) (v : Value) : WrR O (W.setCell ⟨g, j, none⟩ v) ad n i := fun hn => by
  obtain ⟨g', cur, e, hO, hB, hl, hm⟩ := h hn
  refine ⟨g', cur, e, hO, hB.setCell_ne (fun e => by subst e; exact ht (blk_ty hb hB)) _, hl, fun m h1 h2 => ?_⟩
  obtain ⟨y, hc, hw, hw2, hd⟩ := hm m h1 h2
  exact ⟨y, hc, hw.set _ _ _, hw2.set _ _ _, hd⟩
theorem WrF.own {O : Nat → Prop} {W : World} {g n i j : Nat} (h : WrF O W (some ⟨g, 0, none⟩) n i) (hn : 0 < n) (hj : ∀ m, i ≤ m → m * 3 + 2 ≠ j) (v : Value) : WrF O (W.setCell ⟨g, j, none⟩ v) (some ⟨g, 0, none⟩) n i := fun _ => by
  obtain ⟨g', cur, e, hO, hB, hl, hm⟩ := h hn
  cases e
  refine ⟨g, _, rfl, hO, hB.setCell j v, by rw [List.length_set]; exact hl, fun m h1 h2 => ?_⟩
  obtain ⟨da, dl, dc, hc, hw, hd⟩ := hm m h1 h2
  exact ⟨da, dl, dc, by rw [List.getElem?_set_ne (fun e => hj m h1 e.symm)]; exact hc, hw.set _ _ _, hd⟩
theorem WrR.own {O : Nat → Prop} {W : World} {g n i j : Nat} (h : WrR O W (some ⟨g, 0, none⟩) n i) (hn : 0 < n) (hj : j < i * 4) (v : Value) : WrR O (W.setCell ⟨g, j, none⟩ v) (some ⟨g, 0, none⟩) n i := fun _ => by
  obtain ⟨g', cur, e, hO, hB, hl, hm⟩ := h hn
  cases e
  refine ⟨g, _, rfl, hO, hB.setCell j v, by rw [List.length_set]; exact hl, fun m h1 h2 => ?_⟩
  obtain ⟨y, hc, hw, hw2, hd⟩ := hm m h1 h2
  exact ⟨y, fun q u hq => by rw [List.getElem?_set_ne (by omega)]; exact hc q u hq, hw.set _ _ _, hw2.set _ _ _, hd⟩
theorem WrF.next {O : Nat → Prop} {W : World} {ad : Option Addr} {n i : Nat} (h : WrF O W ad n i) : WrF O W ad n (i + 1) := fun hn => by
  obtain ⟨g', cur, e, hO, hB, hl, hm⟩ := h hn
  exact ⟨g', cur, e, hO, hB, hl, fun m h1 h2 => hm m (by omega) h2⟩
theorem WrR.next {O : Nat → Prop} {W : World} {ad : Option Addr} {n i : Nat} (h : WrR O W ad n i) : WrR O W ad n (i + 1) := fun hn => by
  obtain ⟨g', cur, e, hO, hB, hl, hm⟩ := h hn
  exact ⟨g', cur, e, hO, hB, hl, fun m h1 h2 => hm m (by omega) h2⟩
/-- While what was told is written over: its cells stand in b. -/
structure Wre (O : Nat → Prop) (w W : World) (b : Nat) (o : Ov) (i j : Nat) : Prop where
  f : Fr O w W
  blk : Blk W b 33 [.slice o.fa o.fl o.fc, .slice o.ua o.ul o.uc, .slice o.ra o.rl o.rc]
  fs : WrF O W o.fa o.fl i
  us : Wr O W 9 o.ua o.ul
  rs : WrR O W o.ra o.rl j
theorem Wre.other {O : Nat → Prop} {w W : World} {b : Nat} {o : Ov} {i j : Nat} (h : Wre O w W b o i j) {g : Nat} {t : TypeId} {c : List Value} (hO : O g) (hb : ¬ O b) (hB : Blk W g t c) (h1 : t ≠ 39) (h2 : t ≠ 41) (q : Nat) (v : Value) : Wre O w (W.setCell ⟨g, q, none⟩ v) b o i j :=
  ⟨h.f.setCell (p := ⟨g, q, none⟩) (.inl hO) _, h.blk.setCell_ne (fun e => hb (by rw [e]; exact hO)) _, h.fs.other hB h1 _ _, h.us.set _ _ _, h.rs.other hB h2 _ _⟩
theorem Wre.file {O : Nat → Prop} {w W : World} {b : Nat} {o : Ov} {i j g : Nat} {c : List Value} (h : Wre O w W b o i j) (hO : O g) (hb : ¬ O b) (hB : Blk W g 39 c) (hg : o.fa = some ⟨g, 0, none⟩) (hi : i < o.fl) (x y z : Value) :
    Wre O w (((W.setCell ⟨g, i * 3, none⟩ x).setCell ⟨g, i * 3 + 1, none⟩ y).setCell ⟨g, i * 3 + 2, none⟩ z) b o (i + 1) j := by
  obtain ⟨fa, fl, fc, ua, ul, uc, ra, rl, rc⟩ := o
  simp only at hg hi
  subst hg
  have hn : 0 < fl := by omega
  have hbg : b ≠ g := fun e => hb (by rw [e]; exact hO)
  exact ⟨((h.f.setCell (p := ⟨g, i * 3, none⟩) (.inl hO) _).setCell (p := ⟨g, i * 3 + 1, none⟩) (.inl hO) _).setCell (p := ⟨g, i * 3 + 2, none⟩) (.inl hO) _,
    ((h.blk.setCell_ne hbg _).setCell_ne hbg _).setCell_ne hbg _,
    ((h.fs.next.own hn (fun m hm => by omega) x).own hn (fun m hm => by omega) y).own hn (fun m hm => by omega) z,
    ((h.us.set _ _ _).set _ _ _).set _ _ _,
    ((h.rs.other hB (by decide) _ _).other (hB.setCell _ _) (by decide) _ _).other ((hB.setCell _ _).setCell _ _) (by decide) _ _⟩
theorem Wre.unit {O : Nat → Prop} {w W : World} {b : Nat} {o : Ov} {i j g : Nat} {c : List Value} (h : Wre O w W b o i j) (hO : O g) (hb : ¬ O b) (hB : Blk W g 41 c) (hg : o.ra = some ⟨g, 0, none⟩) (hj : j < o.rl) (x y z v : Value) :
    Wre O w ((((W.setCell ⟨g, j * 4, none⟩ x).setCell ⟨g, j * 4 + 1, none⟩ y).setCell ⟨g, j * 4 + 2, none⟩ z).setCell ⟨g, j * 4 + 3, none⟩ v) b o i (j + 1) := by
  obtain ⟨fa, fl, fc, ua, ul, uc, ra, rl, rc⟩ := o
  simp only at hg hj
  subst hg
  have hn : 0 < rl := by omega
  have hbg : b ≠ g := fun e => hb (by rw [e]; exact hO)
  exact ⟨(((h.f.setCell (p := ⟨g, j * 4, none⟩) (.inl hO) _).setCell (p := ⟨g, j * 4 + 1, none⟩) (.inl hO) _).setCell (p := ⟨g, j * 4 + 2, none⟩) (.inl hO) _).setCell (p := ⟨g, j * 4 + 3, none⟩) (.inl hO) _,
    (((h.blk.setCell_ne hbg _).setCell_ne hbg _).setCell_ne hbg _).setCell_ne hbg _,
    (((h.fs.other hB (by decide) _ _).other (hB.setCell _ _) (by decide) _ _).other ((hB.setCell _ _).setCell _ _) (by decide) _ _).other (((hB.setCell _ _).setCell _ _).setCell _ _) (by decide) _ _,
    (((h.us.set _ _ _).set _ _ _).set _ _ _).set _ _ _,
    (((h.rs.next.own hn (by omega) x).own hn (by omega) y).own hn (by omega) z).own hn (by omega) v⟩
end Go.Proofs.Ytangnoicnogddaa.Tr
