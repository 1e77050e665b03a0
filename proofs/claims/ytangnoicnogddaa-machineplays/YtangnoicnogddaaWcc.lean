/- The contracts of copiedUnit and copiedFile, and that what they make may be written over. -/
import Derived.Test.YtangnoicnogddaaWcd
namespace Go.Proofs.Ytangnoicnogddaa.Tr
open Go.RowKit

def CopW (w : World) (u : Ut) (e : Ending) (w' : World) : Prop := Fr (fun _ => False) w w' ∧ ∃ y : Uv, e = .returned y.v ∧ UK (Bt w.heap.size w'.heap.size) w' u y ∧ Wr (Bt w.heap.size w'.heap.size) w' 9 y.ra y.rl ∧ Wr (Bt w.heap.size w'.heap.size) w' 9 y.aa y.al
def CofW (w : World) (x : Ent) (e : Ending) (w' : World) : Prop := Fr (fun _ => False) w w' ∧ ∃ y : Xv, e = .returned y.v ∧ EK (Bt w.heap.size w'.heap.size) w' x y ∧ Wr (Bt w.heap.size w'.heap.size) w' 5 y.da y.dl
set_option maxRecDepth 100000 in
set_option maxHeartbeats 4000000 in
theorem ucopyw_any (w : World) (u : Ut) (x : Uv) (hx : UIn w u x) :
    Calls Try.prog 50 #[x.v] w fun e w' => CopW w u e w' := by
  have HB := hid (two_blk w x uZ)
  have HF := hid (two_fr w x uZ)
  have HC1 := hid (fun (W : World) (e : Env w W) => cloneS_any W u.r x.ra x.rc (hx.r.env e) hx.ok.r)
  have HC2 := hid (fun (W : World) (e : Env w W) => cloneS_any W u.a x.aa x.ac (hx.a.env e) hx.ok.a)
  have HOk := hid hx.ok
  have HN := hid hx.n
  have HSt := hid hx.s
  have p3 := hx.rl
  have p4 := hx.al
  rw [← p3] at HC1
  rw [← p4] at HC2
  have P3 := hid p3
  have P4 := hid p4
  clear hx p3 p4
  obtain ⟨n, s, ra, rl, rc, aa, al, ac⟩ := x
  simp only [Uv.v] at *
  go_enter Try.func50, Try.ntmps50
  go_wp2_with fail
  generalize hW : uBox (uBox w ⟨n, s, ra, rl, rc, aa, al, ac⟩) uZ = W0 at *
  have hW' : (w.alloc (.cells (Uv.cs ⟨n, s, ra, rl, rc, aa, al, ac⟩).toArray 41)).alloc (.cells #[.string ⟨#[]⟩, .string ⟨#[]⟩, .slice none 0 0, .slice none 0 0] 41) = W0 := hW
  rw [hW']
  clear hW hW'
  obtain ⟨_, _, c2, c3⟩ := HB.out.1.fourU
  have hf2 := HB.out.1.frozen 2
  have hf3 := HB.out.1.frozen 3
  have HK : Hid (∀ W, Fr (fun _ => False) W0 W → W.cell? ⟨w.heap.size, 2, none⟩ = some (.slice ra rl rc) ∧ W.cell? ⟨w.heap.size, 3, none⟩ = some (.slice aa al ac) ∧ W.frozen? ⟨w.heap.size, 2, none⟩ = false ∧ W.frozen? ⟨w.heap.size, 3, none⟩ = false ∧ Env w W) := fun W f => by
    have hb := f.blk HB.out.1 (fun h => h)
    exact ⟨hb.fourU.2.2.1, hb.fourU.2.2.2, hb.frozen 2, hb.frozen 3, Env.of (HF.out.trans f (fun _ h => h.elim))⟩
  have HS : Hid (∀ W, Fr (fun _ => False) W0 W → W.cell? ⟨w.heap.size, 2, none⟩ = some (.slice ra rl rc) ∧ W.cell? ⟨w.heap.size, 3, none⟩ = some (.slice aa al ac)) := fun W f => ⟨(HK.out W f).1, (HK.out W f).2.1⟩
  go_region_with
    (first
    | (go_at_call 51; refine (HC1.out _ (HK.out _ (Fr.refl _ _).drew).2.2.2.2).mono ?_; rintro e w1 ⟨⟨v1, rfl, o1⟩, f1⟩; obtain ⟨a1, k1, rfl⟩ := own_len o1; have O1 := hid o1; have F1 := hid ((Fr.refl (fun _ => False) W0).drew.trans f1 (fun _ h => h.elim)); clear o1 f1; have x2 := (HK.out _ F1.out).1; have x3 := (HK.out _ F1.out).2.1)
    | (go_at_call 51; refine (HC2.out _ (HK.out _ F1.out).2.2.2.2).mono ?_; rintro e w2 ⟨⟨v2, rfl, o2⟩, f2⟩; obtain ⟨a2, k2, rfl⟩ := own_len o2; have O2 := hid o2; have F2 := hid (F1.out.trans f2 (fun _ h => h.elim)); have F3 := hid f2; clear o2 f2; have z2 := (HK.out _ F2.out).2.2.1; have z3 := (HK.out _ F2.out).2.2.2.1; have y2 := (HK.out _ F2.out).1; have y3 := (HK.out _ F2.out).2.1))
  all_goals
    have HB3 : Hid (Blk ((w2.setCell ⟨w.heap.size, 2, none⟩ (.slice a1 rl k1)).setCell ⟨w.heap.size, 3, none⟩ (.slice a2 al k2)) w.heap.size 41 (Uv.cs ⟨n, s, a1, rl, k1, a2, al, k2⟩)) := by
      have h1 := ((F2.out.blk HB.out.1 (fun h => h)).setCell 2 (.slice a1 rl k1)).setCell 3 (.slice a2 al k2)
      exact h1
    have HB4 : Hid (Blk ((w2.setCell ⟨w.heap.size, 2, none⟩ (.slice a1 rl k1)).setCell ⟨w.heap.size, 3, none⟩ (.slice a2 al k2)) (w.heap.size + 1) 41 uZ.cs) :=
      ((F2.out.blk HB.out.2 (fun h => h)).setCell_ne (by simp) _).setCell_ne (by simp) _
    have hsz : w.heap.size + 2 ≤ W0.heap.size := HB.out.2.lt
    have HF4 : Hid (Fr (fun _ => False) w ((w2.setCell ⟨w.heap.size, 2, none⟩ (.slice a1 rl k1)).setCell ⟨w.heap.size, 3, none⟩ (.slice a2 al k2))) := by
      have h := HF.out.trans F2.out (fun _ h => h.elim)
      exact (h.setCell (p := ⟨w.heap.size, 2, none⟩) (.inr (Nat.le_refl _)) _).setCell (p := ⟨w.heap.size, 3, none⟩) (.inr (Nat.le_refl _)) _
    have HO1 : Hid (((w2.setCell ⟨w.heap.size, 2, none⟩ (.slice a1 rl k1)).setCell ⟨w.heap.size, 3, none⟩ (.slice a2 al k2)).ownsRow W0.heap.size 9 1 (.slice a1 rl k1) rl (strC u.r)) :=
      owns_of_eq (own_fr O1.out F3.out (fun _ _ h => h)) (fun k hk => by
        have hk' := (own_lt O1.out k hk).1
        simp only [World.drew] at hk'
        rw [Below.heap_setCell _ _ _ k (by simp; omega), Below.heap_setCell _ _ _ k (by simp; omega)])
    have hs1 : W0.heap.size ≤ w1.heap.size := F1.out.size
    have HO2 : Hid (((w2.setCell ⟨w.heap.size, 2, none⟩ (.slice a1 rl k1)).setCell ⟨w.heap.size, 3, none⟩ (.slice a2 al k2)).ownsRow w1.heap.size 9 1 (.slice a2 al k2) al (strC u.a)) :=
      owns_of_eq O2.out (fun k hk => by
        have hk' := (own_lt O2.out k hk).1
        rw [Below.heap_setCell _ _ _ k (by simp; omega), Below.heap_setCell _ _ _ k (by simp; omega)])
    clear z2 z3 y2 y3 x2 x3 c2 c3 hf2 hf3 HC1 HC2 HK HS
    generalize (w2.setCell ⟨w.heap.size, 2, none⟩ (.slice a1 rl k1)).setCell ⟨w.heap.size, 3, none⟩ (.slice a2 al k2) = W3 at *
    obtain ⟨e0, e1, e2, e3⟩ := HB3.out.fourU
    obtain ⟨d0, d1, d2, d3⟩ := HB4.out.fourU
    have g0 := HB4.out.frozen 0
    have g1 := HB4.out.frozen 1
    have g2 := HB4.out.frozen 2
    have g3 := HB4.out.frozen 3
    go_wp2_with fail
    have HB5 : Blk ((((W3.setCell ⟨w.heap.size + 1, 0, none⟩ (.string ⟨n.toArray⟩)).setCell ⟨w.heap.size + 1, 1, none⟩ (.string ⟨s.toArray⟩)).setCell ⟨w.heap.size + 1, 2, none⟩ (.slice a1 rl k1)).setCell ⟨w.heap.size + 1, 3, none⟩ (.slice a2 al k2)) (w.heap.size + 1) 41 (Uv.cs ⟨n, s, a1, rl, k1, a2, al, k2⟩) :=
      (((HB4.out.setCell 0 _).setCell 1 _).setCell 2 _).setCell 3 _
    have hF5 : Fr (fun _ => False) w ((((W3.setCell ⟨w.heap.size + 1, 0, none⟩ (.string ⟨n.toArray⟩)).setCell ⟨w.heap.size + 1, 1, none⟩ (.string ⟨s.toArray⟩)).setCell ⟨w.heap.size + 1, 2, none⟩ (.slice a1 rl k1)).setCell ⟨w.heap.size + 1, 3, none⟩ (.slice a2 al k2)) :=
      (((HF4.out.setCell (p := ⟨w.heap.size + 1, 0, none⟩) (.inr (Nat.le_succ _)) _).setCell (p := ⟨w.heap.size + 1, 1, none⟩) (.inr (Nat.le_succ _)) _).setCell (p := ⟨w.heap.size + 1, 2, none⟩) (.inr (Nat.le_succ _)) _).setCell (p := ⟨w.heap.size + 1, 3, none⟩) (.inr (Nat.le_succ _)) _
    have hG : ∀ k, w.heap.size + 1 < k → ((((W3.setCell ⟨w.heap.size + 1, 0, none⟩ (.string ⟨n.toArray⟩)).setCell ⟨w.heap.size + 1, 1, none⟩ (.string ⟨s.toArray⟩)).setCell ⟨w.heap.size + 1, 2, none⟩ (.slice a1 rl k1)).setCell ⟨w.heap.size + 1, 3, none⟩ (.slice a2 al k2)).heap[k]? = W3.heap[k]? := fun k hk => by
      rw [Below.heap_setCell _ _ _ k (by simp; omega), Below.heap_setCell _ _ _ k (by simp; omega), Below.heap_setCell _ _ _ k (by simp; omega), Below.heap_setCell _ _ _ k (by simp; omega)]
    refine bodyPost_ret (resU rfl rfl HB5) rfl ?_
    generalize (((W3.setCell ⟨w.heap.size + 1, 0, none⟩ (.string ⟨n.toArray⟩)).setCell ⟨w.heap.size + 1, 1, none⟩ (.string ⟨s.toArray⟩)).setCell ⟨w.heap.size + 1, 2, none⟩ (.slice a1 rl k1)).setCell ⟨w.heap.size + 1, 3, none⟩ (.slice a2 al k2) = W5 at *
    have o1 : W5.ownsRow (w.heap.size + 2) 9 1 (.slice a1 rl k1) rl (strC u.r) := owns_down (owns_of_eq HO1.out (fun k hk => hG k (by have := (own_lt HO1.out k hk).1; omega))) hsz
    have o2 : W5.ownsRow (w.heap.size + 2) 9 1 (.slice a2 al k2) al (strC u.a) := owns_down (owns_of_eq HO2.out (fun k hk => hG k (by have := (own_lt HO2.out k hk).1; omega))) (by omega)
    refine ⟨hF5, ⟨n, s, a1, rl, k1, a2, al, k2⟩, rfl, ⟨⟨HN.out, HSt.out, P3.out, P4.out, ?_, ?_, HOk.out⟩, ?_, ?_⟩, wr_own o1 (by omega), wr_own o2 (by omega)⟩
    · rw [P3.out] at o1; exact strs_own o1
    · rw [P4.out] at o2; exact strs_own o2
    · exact dn_own o1 (by omega)
    · exact dn_own o2 (by omega)

set_option maxRecDepth 100000 in
set_option maxHeartbeats 4000000 in
theorem cofilew_any (w : World) (f : Ent) (ad : Option Addr) (cap : Nat) (hx : EntV w f ad cap) :
    Calls Try.prog 45 #[entV f ad cap] w fun e w' => CofW w f e w' := by
  have HX := hid hx
  have HB := hid (two_blkE w ⟨f.path, f.kind, ad, f.data.length, cap⟩ xZ)
  have HF := hid (two_frE w ⟨f.path, f.kind, ad, f.data.length, cap⟩ xZ)
  have HC := hid (cloneB_any (xBox (xBox w ⟨f.path, f.kind, ad, f.data.length, cap⟩) xZ) f.data ad cap (hx.src.fr HF.out) hx.len)
  clear hx
  have c2 := HB.out.1.cell 2
  simp only [Xv.cs, List.getElem?_cons_succ, List.getElem?_cons_zero] at c2
  obtain ⟨dl, hdl⟩ : ∃ dl, dl = f.data.length := ⟨_, rfl⟩
  have HDL := hid hdl
  go_enter Try.func45, Try.ntmps45
  go_wp2_with fail
  refine HC.out.mono ?_
  rintro e w1 ⟨⟨v, rfl, o1⟩, f1⟩
  obtain ⟨a1, k1, rfl⟩ := own_len o1
  have B1 := f1.blk HB.out.1 (fun h => h)
  have B2 := f1.blk HB.out.2 (fun h => h)
  have z2 := B1.frozen 2
  have y2 := B1.cell 2
  simp only [Xv.cs, List.getElem?_cons_succ, List.getElem?_cons_zero] at y2
  have HB3 : Hid (Blk (w1.setCell ⟨w.heap.size, 2, none⟩ (.slice a1 f.data.length k1)) w.heap.size 39 (Xv.cs ⟨f.path, f.kind, a1, f.data.length, k1⟩)) := B1.setCell 2 _
  have HB4 : Hid (Blk (w1.setCell ⟨w.heap.size, 2, none⟩ (.slice a1 f.data.length k1)) (w.heap.size + 1) 39 xZ.cs) := B2.setCell_ne (by simp) _
  have HF1 := hid (HF.out.trans f1 (fun _ h => h.elim))
  have HF3 : Hid (Fr (fun _ => False) w (w1.setCell ⟨w.heap.size, 2, none⟩ (.slice a1 f.data.length k1))) := HF1.out.setCell (p := ⟨w.heap.size, 2, none⟩) (.inr (Nat.le_refl _)) _
  have hs0 : w.heap.size + 2 ≤ (xBox (xBox w ⟨f.path, f.kind, ad, f.data.length, cap⟩) xZ).heap.size := HB.out.2.lt
  have HO3 : Hid ((w1.setCell ⟨w.heap.size, 2, none⟩ (.slice a1 f.data.length k1)).ownsRow (xBox (xBox w ⟨f.path, f.kind, ad, f.data.length, cap⟩) xZ).heap.size 5 1 (.slice a1 f.data.length k1) f.data.length (bs f.data)) :=
    owns_of_eq o1 (fun k hk => by
      have hk' := (own_lt o1 k hk).1
      rw [Below.heap_setCell _ _ _ k (by simp; omega)])
  have y0 := B1.cell 0
  have y1 := B1.cell 1
  have d0 := B2.cell 0
  have d1 := B2.cell 1
  have d2 := B2.cell 2
  simp only [Xv.cs, xZ, List.getElem?_cons_succ, List.getElem?_cons_zero] at y0 y1 d0 d1 d2
  have g0 := B2.frozen 0
  have g1 := B2.frozen 1
  have g2 := B2.frozen 2
  clear o1 f1 B1 B2 c2 HC
  go_wp2_with fail
  clear z2 y2 y0 y1 d0 d1 d2 g0 g1 g2
  generalize w1.setCell ⟨w.heap.size, 2, none⟩ (.slice a1 f.data.length k1) = W3 at *
  have HB5 : Blk (((W3.setCell ⟨w.heap.size + 1, 0, none⟩ (.string ⟨f.path.toArray⟩)).setCell ⟨w.heap.size + 1, 1, none⟩ (.int .i64 f.kind)).setCell ⟨w.heap.size + 1, 2, none⟩ (.slice a1 f.data.length k1)) (w.heap.size + 1) 39 (Xv.cs ⟨f.path, f.kind, a1, f.data.length, k1⟩) :=
    ((HB4.out.setCell 0 _).setCell 1 _).setCell 2 _
  have hF5 : Fr (fun _ => False) w (((W3.setCell ⟨w.heap.size + 1, 0, none⟩ (.string ⟨f.path.toArray⟩)).setCell ⟨w.heap.size + 1, 1, none⟩ (.int .i64 f.kind)).setCell ⟨w.heap.size + 1, 2, none⟩ (.slice a1 f.data.length k1)) :=
    ((HF3.out.setCell (p := ⟨w.heap.size + 1, 0, none⟩) (.inr (Nat.le_succ _)) _).setCell (p := ⟨w.heap.size + 1, 1, none⟩) (.inr (Nat.le_succ _)) _).setCell (p := ⟨w.heap.size + 1, 2, none⟩) (.inr (Nat.le_succ _)) _
  have hG : ∀ k, w.heap.size + 1 < k → (((W3.setCell ⟨w.heap.size + 1, 0, none⟩ (.string ⟨f.path.toArray⟩)).setCell ⟨w.heap.size + 1, 1, none⟩ (.int .i64 f.kind)).setCell ⟨w.heap.size + 1, 2, none⟩ (.slice a1 f.data.length k1)).heap[k]? = W3.heap[k]? := fun k hk => by
    rw [Below.heap_setCell _ _ _ k (by simp; omega), Below.heap_setCell _ _ _ k (by simp; omega), Below.heap_setCell _ _ _ k (by simp; omega)]
  refine bodyPost_ret (resE rfl rfl HB5) rfl ?_
  generalize ((W3.setCell ⟨w.heap.size + 1, 0, none⟩ (.string ⟨f.path.toArray⟩)).setCell ⟨w.heap.size + 1, 1, none⟩ (.int .i64 f.kind)).setCell ⟨w.heap.size + 1, 2, none⟩ (.slice a1 f.data.length k1) = W5 at *
  have o5 : W5.ownsRow (w.heap.size + 2) 5 1 (.slice a1 f.data.length k1) f.data.length (bs f.data) := owns_down (owns_of_eq HO3.out (fun k hk => hG k (by have := (own_lt HO3.out k hk).1; omega))) hs0
  exact ⟨hF5, ⟨f.path, f.kind, a1, f.data.length, k1⟩, rfl, ⟨rfl, rfl, rfl, ⟨src_own o5, (own_cap o5).2.1, HX.out.len, HX.out.path, HX.out.k0, HX.out.k1⟩, dn_own o5 (by omega)⟩, wr_own o5 (by omega)⟩
end Go.Proofs.Ytangnoicnogddaa.Tr
