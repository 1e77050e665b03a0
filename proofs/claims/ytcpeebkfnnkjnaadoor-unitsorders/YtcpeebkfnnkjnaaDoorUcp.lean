/- The contract of units.copied. -/
import Derived.Test.YtcpeebkfnnkjnaaDoorUap
namespace Go.Proofs.YtcpeebkfnnkjnaaDoor.Tr
open Go.RowKit

/-- A list of texts in memory that is not older than B: it may be written to. -/
def Lw (W : World) (B : Nat) (ad : Option Addr) (n : Nat) : Prop := 0 < n → ∃ g cur, ad = some ⟨g, 0, none⟩ ∧ B ≤ g ∧ W.heap[g]? = some (.cells cur 9 (0, 0)) ∧ n ≤ cur.size
theorem lw_own {W : World} {B n cap : Nat} {ad : Option Addr} {xs : List Value} (h : W.ownsRow B 9 1 (.slice ad n cap) n xs) : Lw W B ad n := fun hn => by
  rcases h.2 with ⟨e, h0⟩ | ⟨g, c, cur, e, hb, hg, hnc, _, hcs, _⟩
  · omega
  · cases e
    exact ⟨g, cur, rfl, hb, hg, by omega⟩
theorem owns_down {w : World} {B B' : Nat} {e : TypeId} {size : Nat} {v : Value} {n : Nat} {xs : List Value} (h : w.ownsRow B e size v n xs) (hb : B' ≤ B) : w.ownsRow B' e size v n xs := by
  refine ⟨h.1, ?_⟩
  rcases h.2 with h0 | ⟨g, cap, cur, hv, h1, h2⟩
  · exact .inl h0
  · exact .inr ⟨g, cap, cur, hv, by omega, h2⟩
theorem Lw.fr {W W' : World} {B n : Nat} {ad : Option Addr} {F : Nat → Prop} (h : Lw W B ad n) (f : Fr F W W') (hF : ∀ k, F k → k < B) : Lw W' B ad n := fun hn => by
  obtain ⟨g, cur, e, hb, hg, hl⟩ := h hn
  have hlt : g < W.heap.size := by
    rcases Nat.lt_or_ge g W.heap.size with hl | hl
    · exact hl
    · rw [Array.getElem?_eq_none hl] at hg; cases hg
  exact ⟨g, cur, e, hb, (f.block g hlt (fun h => by have := hF g h; omega)).trans hg, hl⟩
theorem Lw.down {W : World} {B B' n : Nat} {ad : Option Addr} (h : Lw W B ad n) (hb : B' ≤ B) : Lw W B' ad n := fun hn => by
  obtain ⟨g, cur, e, h1, hg, hl⟩ := h hn
  exact ⟨g, cur, e, by omega, hg, hl⟩
theorem resU {fn : Func} {p : Tmp} (h : fn.results = #[.cell p 32]) {a : Act} {W : World} {b : Nat} {t : TypeId} {x : Uv} (ha : a.tmps.getD p undef = .pointer (some ⟨b, 0, none⟩)) (hb : Blk W b t x.cs) :
    (results fn a.tmps).run Tryd.prog W = .ok x.v W :=
  results_cell_row h a.tmps W b t x.cs.toArray (0, 0) _ ha hb Tryd.underlying32 rfl (by kernel_rfl)
def CopPost (w : World) (u : Ut) (e : Ending) (w' : World) : Prop := Fr (fun _ => False) w w' ∧ ∃ y : Uv, e = .returned y.v ∧ UIn w' u y ∧ Lw w' w.heap.size y.ra y.rl ∧ Lw w' w.heap.size y.aa y.al

set_option maxRecDepth 100000 in
set_option maxHeartbeats 4000000 in
theorem ucopy_any (w : World) (u : Ut) (x : Uv) (hx : UIn w u x) (h1 : u.r.length ≤ 1000000) (h2 : u.a.length ≤ 1000000) :
    Calls Tryd.prog 38 #[x.v] w fun e w' => CopPost w u e w' := by
  have HB := hid (two_blk w x uZ)
  have HF := hid (two_fr w x uZ)
  have HC1 := hid (fun (W : World) (e : Env w W) => cloneS_any W u.r x.ra x.rc (hx.r.env e) h1)
  have HC2 := hid (fun (W : World) (e : Env w W) => cloneS_any W u.a x.aa x.ac (hx.a.env e) h2)
  have HOk := hid hx.ok
  have HN := hid hx.n
  have HSt := hid hx.s
  have p3 := hx.rl
  have p4 := hx.al
  rw [← p3] at HC1
  rw [← p4] at HC2
  have P3 := hid p3
  have P4 := hid p4
  clear hx p3 p4 h1 h2
  obtain ⟨n, s, ra, rl, rc, aa, al, ac⟩ := x
  simp only [Uv.v] at *
  go_enter Tryd.func38, Tryd.ntmps38
  go_wp2_with fail
  generalize hW : uBox (uBox w ⟨n, s, ra, rl, rc, aa, al, ac⟩) uZ = W0 at *
  have hW' : (w.alloc (.cells (Uv.cs ⟨n, s, ra, rl, rc, aa, al, ac⟩).toArray 32)).alloc (.cells #[.string ⟨#[]⟩, .string ⟨#[]⟩, .slice none 0 0, .slice none 0 0] 32) = W0 := hW
  rw [hW']
  clear hW hW'
  obtain ⟨_, _, c2, c3⟩ := HB.out.1.fourU
  have hf2 := HB.out.1.frozen 2
  have hf3 := HB.out.1.frozen 3
  have HK : Hid (∀ W, Fr (fun _ => False) W0 W → W.cell? ⟨w.heap.size, 2, none⟩ = some (.slice ra rl rc) ∧ W.cell? ⟨w.heap.size, 3, none⟩ = some (.slice aa al ac) ∧ W.frozen? ⟨w.heap.size, 2, none⟩ = false ∧ W.frozen? ⟨w.heap.size, 3, none⟩ = false ∧ Env w W) := fun W f => by
    have hb := f.blk HB.out.1 (fun h => h)
    exact ⟨hb.fourU.2.2.1, hb.fourU.2.2.2, hb.frozen 2, hb.frozen 3, Env.of (HF.out.trans f (fun _ h => h.elim))⟩
  have HS : Hid (∀ W, Fr (fun _ => False) W0 W → W.cell? ⟨w.heap.size, 2, none⟩ = some (.slice ra rl rc) ∧ W.cell? ⟨w.heap.size, 3, none⟩ = some (.slice aa al ac)) := fun W f => ⟨(HK.out W f).1, (HK.out W f).2.1⟩
  go_region_with
    (first
    | (go_at_call 55; refine (HC1.out _ (HK.out _ (Fr.refl _ _).drew).2.2.2.2).mono ?_; rintro e w1 ⟨⟨v1, rfl, o1⟩, f1⟩; obtain ⟨a1, k1, rfl⟩ := own_len o1; have O1 := hid o1; have F1 := hid ((Fr.refl (fun _ => False) W0).drew.trans f1 (fun _ h => h.elim)); clear o1 f1; have x2 := (HK.out _ F1.out).1; have x3 := (HK.out _ F1.out).2.1)
    | (go_at_call 55; refine (HC2.out _ (HK.out _ F1.out).2.2.2.2).mono ?_; rintro e w2 ⟨⟨v2, rfl, o2⟩, f2⟩; obtain ⟨a2, k2, rfl⟩ := own_len o2; have O2 := hid o2; have F2 := hid (F1.out.trans f2 (fun _ h => h.elim)); have F3 := hid f2; clear o2 f2; have z2 := (HK.out _ F2.out).2.2.1; have z3 := (HK.out _ F2.out).2.2.2.1; have y2 := (HK.out _ F2.out).1; have y3 := (HK.out _ F2.out).2.1))
  all_goals
    have HB3 : Hid (Blk ((w2.setCell ⟨w.heap.size, 2, none⟩ (.slice a1 rl k1)).setCell ⟨w.heap.size, 3, none⟩ (.slice a2 al k2)) w.heap.size 32 (Uv.cs ⟨n, s, a1, rl, k1, a2, al, k2⟩)) := by
      have h1 := ((F2.out.blk HB.out.1 (fun h => h)).setCell 2 (.slice a1 rl k1)).setCell 3 (.slice a2 al k2)
      exact h1
    have HB4 : Hid (Blk ((w2.setCell ⟨w.heap.size, 2, none⟩ (.slice a1 rl k1)).setCell ⟨w.heap.size, 3, none⟩ (.slice a2 al k2)) (w.heap.size + 1) 32 uZ.cs) :=
      ((F2.out.blk HB.out.2 (fun h => h)).setCell_ne (by simp) _).setCell_ne (by simp) _
    have hsz : w.heap.size + 2 ≤ W0.heap.size := HB.out.2.lt
    have HF4 : Hid (Fr (fun _ => False) w ((w2.setCell ⟨w.heap.size, 2, none⟩ (.slice a1 rl k1)).setCell ⟨w.heap.size, 3, none⟩ (.slice a2 al k2))) := by
      have h := HF.out.trans F2.out (fun _ h => h.elim)
      exact (h.setCell (p := ⟨w.heap.size, 2, none⟩) (.inr (Nat.le_refl _)) _).setCell (p := ⟨w.heap.size, 3, none⟩) (.inr (Nat.le_refl _)) _
    have HO1 : Hid (((w2.setCell ⟨w.heap.size, 2, none⟩ (.slice a1 rl k1)).setCell ⟨w.heap.size, 3, none⟩ (.slice a2 al k2)).ownsRow W0.heap.size 9 1 (.slice a1 rl k1) rl (strC u.r)) :=
      owns_of_eq (own_fr O1.out F3.out (fun _ _ h => h)) (fun k hk => by
        have hk' := (own_lt O1.out k hk).1
        simp only [World.drew] at hk'
        rw [Below.heap_setCell _ _ _ k (by simp; omega), Below.heap_setCell _ _ _ k (by simp; omega)])
    have hs1 : W0.heap.size ≤ w1.heap.size := F1.out.size
    have HO2 : Hid (((w2.setCell ⟨w.heap.size, 2, none⟩ (.slice a1 rl k1)).setCell ⟨w.heap.size, 3, none⟩ (.slice a2 al k2)).ownsRow w1.heap.size 9 1 (.slice a2 al k2) al (strC u.a)) :=
      owns_of_eq O2.out (fun k hk => by
        have hk' := (own_lt O2.out k hk).1
        rw [Below.heap_setCell _ _ _ k (by simp; omega), Below.heap_setCell _ _ _ k (by simp; omega)])
    clear z2 z3 y2 y3 x2 x3 c2 c3 hf2 hf3 HC1 HC2 HK HS
    generalize (w2.setCell ⟨w.heap.size, 2, none⟩ (.slice a1 rl k1)).setCell ⟨w.heap.size, 3, none⟩ (.slice a2 al k2) = W3 at *
    obtain ⟨e0, e1, e2, e3⟩ := HB3.out.fourU
    obtain ⟨d0, d1, d2, d3⟩ := HB4.out.fourU
    have g0 := HB4.out.frozen 0
    have g1 := HB4.out.frozen 1
    have g2 := HB4.out.frozen 2
    have g3 := HB4.out.frozen 3
    go_wp2_with fail
    have HB5 : Blk ((((W3.setCell ⟨w.heap.size + 1, 0, none⟩ (.string ⟨n.toArray⟩)).setCell ⟨w.heap.size + 1, 1, none⟩ (.string ⟨s.toArray⟩)).setCell ⟨w.heap.size + 1, 2, none⟩ (.slice a1 rl k1)).setCell ⟨w.heap.size + 1, 3, none⟩ (.slice a2 al k2)) (w.heap.size + 1) 32 (Uv.cs ⟨n, s, a1, rl, k1, a2, al, k2⟩) :=
      (((HB4.out.setCell 0 _).setCell 1 _).setCell 2 _).setCell 3 _
    have hF5 : Fr (fun _ => False) w ((((W3.setCell ⟨w.heap.size + 1, 0, none⟩ (.string ⟨n.toArray⟩)).setCell ⟨w.heap.size + 1, 1, none⟩ (.string ⟨s.toArray⟩)).setCell ⟨w.heap.size + 1, 2, none⟩ (.slice a1 rl k1)).setCell ⟨w.heap.size + 1, 3, none⟩ (.slice a2 al k2)) :=
      (((HF4.out.setCell (p := ⟨w.heap.size + 1, 0, none⟩) (.inr (Nat.le_succ _)) _).setCell (p := ⟨w.heap.size + 1, 1, none⟩) (.inr (Nat.le_succ _)) _).setCell (p := ⟨w.heap.size + 1, 2, none⟩) (.inr (Nat.le_succ _)) _).setCell (p := ⟨w.heap.size + 1, 3, none⟩) (.inr (Nat.le_succ _)) _
    have hG : ∀ k, w.heap.size + 1 < k → ((((W3.setCell ⟨w.heap.size + 1, 0, none⟩ (.string ⟨n.toArray⟩)).setCell ⟨w.heap.size + 1, 1, none⟩ (.string ⟨s.toArray⟩)).setCell ⟨w.heap.size + 1, 2, none⟩ (.slice a1 rl k1)).setCell ⟨w.heap.size + 1, 3, none⟩ (.slice a2 al k2)).heap[k]? = W3.heap[k]? := fun k hk => by
      rw [Below.heap_setCell _ _ _ k (by simp; omega), Below.heap_setCell _ _ _ k (by simp; omega), Below.heap_setCell _ _ _ k (by simp; omega), Below.heap_setCell _ _ _ k (by simp; omega)]
    refine bodyPost_ret (resU rfl rfl HB5) rfl ?_
    generalize (((W3.setCell ⟨w.heap.size + 1, 0, none⟩ (.string ⟨n.toArray⟩)).setCell ⟨w.heap.size + 1, 1, none⟩ (.string ⟨s.toArray⟩)).setCell ⟨w.heap.size + 1, 2, none⟩ (.slice a1 rl k1)).setCell ⟨w.heap.size + 1, 3, none⟩ (.slice a2 al k2) = W5 at *
    have o1 : W5.ownsRow (w.heap.size + 2) 9 1 (.slice a1 rl k1) rl (strC u.r) := owns_down (owns_of_eq HO1.out (fun k hk => hG k (by have := (own_lt HO1.out k hk).1; omega))) hsz
    have o2 : W5.ownsRow (w.heap.size + 2) 9 1 (.slice a2 al k2) al (strC u.a) := owns_down (owns_of_eq HO2.out (fun k hk => hG k (by have := (own_lt HO2.out k hk).1; omega))) (by omega)
    refine ⟨hF5, ⟨n, s, a1, rl, k1, a2, al, k2⟩, rfl, ⟨HN.out, HSt.out, P3.out, P4.out, ?_, ?_, HOk.out⟩, (lw_own o1).down (by omega), (lw_own o2).down (by omega)⟩
    · rw [P3.out] at o1; exact strs_own o1
    · rw [P4.out] at o2; exact strs_own o2
end Go.Proofs.YtcpeebkfnnkjnaaDoor.Tr
