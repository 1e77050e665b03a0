/- What a machine tells may be written over: Observe. -/
import Derived.Test.YtangnoicnogddaaWob
namespace Go.Proofs.Ytangnoicnogddaa.Tr
open Go.RowKit

theorem WrF.mono {O O' : Nat → Prop} {W : World} {ad : Option Addr} {n i : Nat} (h : WrF O W ad n i) (hO : ∀ k, O k → O' k) : WrF O' W ad n i := fun hn => by
  obtain ⟨g, cur, e, h1, hB, hl, hm⟩ := h hn
  refine ⟨g, cur, e, hO _ h1, hB, hl, fun m a b => ?_⟩
  obtain ⟨da, dl, dc, hc, hw, hd⟩ := hm m a b
  exact ⟨da, dl, dc, hc, hw.mono hO, hd⟩
theorem WrR.mono {O O' : Nat → Prop} {W : World} {ad : Option Addr} {n i : Nat} (h : WrR O W ad n i) (hO : ∀ k, O k → O' k) : WrR O' W ad n i := fun hn => by
  obtain ⟨g, cur, e, h1, hB, hl, hm⟩ := h hn
  refine ⟨g, cur, e, hO _ h1, hB, hl, fun m a b => ?_⟩
  obtain ⟨y, hc, hw, hw2, hd⟩ := hm m a b
  exact ⟨y, hc, hw.mono hO, hw2.mono hO, hd⟩
theorem ObFW.ob {w W : World} {L : List Ent} {i : Nat} {v : Value} (h : ObFW w W L i v) : ObF w W L i v := by
  obtain ⟨f, X, hX, o, he⟩ := h
  exact ⟨f, X, hX, o, fun j h1 h2 => (he j h1 h2).ek⟩
theorem ObUW.ob {w W : World} {L : List Ut} {i : Nat} {v : Value} (h : ObUW w W L i v) : ObU w W L i v := by
  obtain ⟨f, X, hX, o, he⟩ := h
  exact ⟨f, X, hX, o, fun j h1 h2 => (he j h1 h2).uk⟩
theorem ObFW.wrF {w W W' : World} {L : List Ent} {ad : Option Addr} {n cap : Nat} (h : ObFW w W L L.length (.slice ad n cap)) (hO : On (Bt w.heap.size W.heap.size) W W') : WrF (Bt w.heap.size W.heap.size) W' ad L.length 0 := fun hn => by
  obtain ⟨_, X, hX, o, he⟩ := h
  obtain ⟨g, cp, cur, hv, hB, hc, hnc, _, ht⟩ := own_get (owns_down o (Nat.zero_le _)) hn
  cases hv
  have hg := own_lt o g rfl
  refine ⟨g, cur, rfl, ⟨hg.1, hg.2⟩, hB.of_eq (hO g ⟨hg.1, hg.2⟩), by rw [hc]; omega, fun m _ hm => ?_⟩
  have hx : m < X.length := by omega
  have hk := he m hm hx
  refine ⟨X[m].da, X[m].dl, X[m].dc, ?_, (hk.wr.mono (fun k hk => hk.1)).on hO, by rw [hk.ek.l]; exact hk.ek.v.len⟩
  have h1 := flatE_at X m 2 hx (by omega)
  rw [← ht, List.getElem?_take] at h1
  split at h1
  · exact h1
  · cases h1
theorem ObUW.wrR {w W W' : World} {L : List Ut} {ad : Option Addr} {n cap : Nat} (h : ObUW w W L L.length (.slice ad n cap)) (hO : On (Bt w.heap.size W.heap.size) W W') : WrR (Bt w.heap.size W.heap.size) W' ad L.length 0 := fun hn => by
  obtain ⟨_, X, hX, o, he⟩ := h
  obtain ⟨g, cp, cur, hv, hB, hc, hnc, _, ht⟩ := own_get (owns_down o (Nat.zero_le _)) hn
  cases hv
  have hg := own_lt o g rfl
  refine ⟨g, cur, rfl, ⟨hg.1, hg.2⟩, hB.of_eq (hO g ⟨hg.1, hg.2⟩), by rw [hc]; omega, fun m _ hm => ?_⟩
  have hx : m < X.length := by omega
  have hk := he m hm hx
  have l2 : lim16 ≤ 140737488351232 := by unfold lim16; omega
  refine ⟨X[m], fun q v hq => ?_, (hk.r.mono (fun k hk => hk.1)).on hO, (hk.a.mono (fun k hk => hk.1)).on hO, by rw [hk.uk.u.rl]; have := hk.uk.u.ok.r; omega, by rw [hk.uk.u.al]; have := hk.uk.u.ok.a; omega⟩
  have h1 := flatU_at X m q hx (List.getElem?_eq_some_iff.1 hq).1
  rw [← ht, List.getElem?_take, hq] at h1
  split at h1
  · exact h1
  · cases h1
def ObsW (w : World) (s : St) (e : Ending) (w' : World) : Prop := Fr (fun _ => False) w w' ∧ ∃ o : Ov, e = .returned o.v ∧ ∀ W, On (Bt w.heap.size w'.heap.size) w' W → OIn W s o ∧ WrF (Bt w.heap.size w'.heap.size) W o.fa o.fl 0 ∧ Wr (Bt w.heap.size w'.heap.size) W 9 o.ua o.ul ∧ WrR (Bt w.heap.size w'.heap.size) W o.ra o.rl 0
section
variable {O D : Nat → Prop} {w : World} {mb : Nat} {s : St} {fv uv rv : Value} {pa : Option Addr} {pc : Nat} {XF : List Xv} {XR : List Uv}
set_option maxRecDepth 100000 in
set_option maxHeartbeats 4000000 in
theorem obsw_any (h : MI O D w mb s fv uv rv pa pc XF XR) (hs : s.ok) :
    Calls Try.prog 13 #[.pointer (some ⟨mb, 0, none⟩)] w fun e w' => ObsW w s e w' := by
  have F0 : Hid (Fr (fun _ => False) w (w.alloc (.cells #[.slice none 0 0, .slice none 0 0, .slice none 0 0] 33))) := (Fr.refl _ w).alloc _
  have B0 : Hid (Blk (w.alloc (.cells #[.slice none 0 0, .slice none 0 0, .slice none 0 0] 33)) w.heap.size 33 [.slice none 0 0, .slice none 0 0, .slice none 0 0]) := Blk.new w _ _
  have hz : Hid ((w.alloc (.cells #[.slice none 0 0, .slice none 0 0, .slice none 0 0] 33)).heap.size = w.heap.size + 1) := by unfold Hid; rw [World.size_alloc]
  have HM := hid h
  have F0d : Hid (Fr (fun _ => False) w (w.alloc (.cells #[.slice none 0 0, .slice none 0 0, .slice none 0 0] 33)).drew) := F0.out.drew
  have B0d : Hid (Blk (w.alloc (.cells #[.slice none 0 0, .slice none 0 0, .slice none 0 0] 33)).drew w.heap.size 33 [.slice none 0 0, .slice none 0 0, .slice none 0 0]) := B0.out.drew
  have hzd : Hid ((w.alloc (.cells #[.slice none 0 0, .slice none 0 0, .slice none 0 0] 33)).drew.heap.size = w.heap.size + 1) := hz
  have HC1 := hid (nowFw_any (HM.out.keep0 F0d.out) hs.fl)
  have HC2 := hid (fun (W : World) (f : Fr (fun _ => False) w W) => usersNow_any (HM.out.keep0 f) (by have := hs.ul; unfold lim16; omega))
  have HC3 := hid (fun (W : World) (f : Fr (fun _ => False) w W) => nowUw_any (HM.out.keep0 f) hs.rl)
  clear h hs
  go_enter Try.func13, Try.ntmps13
  go_wp2_with fail
  go_region_with (first
    | (go_at_call 25; refine HC1.out.mono ?_; rintro e w1 ⟨v1, rfl, hO1⟩; have o1 := hO1.2.choose_spec.2.1; obtain ⟨a1, c1, rfl⟩ := own_len o1; have F1 := hid (F0d.out.trans hO1.1 (fun _ h => h.elim)); have O1 := hid hO1; clear hO1 o1)
    | (go_at_call 26; refine (HC2.out _ F1.out).mono ?_; rintro e w2 ⟨⟨v2, rfl, o2⟩, f2⟩; obtain ⟨a2, c2, rfl⟩ := own_len o2; have F2 := hid (F1.out.trans f2 (fun _ h => h.elim)); have O2 := hid o2; have G2 := hid f2; clear o2 f2)
    | (go_at_call 27; refine (HC3.out _ F2.out).mono ?_; rintro e w3 ⟨v3, rfl, hO3⟩; have o3 := hO3.2.choose_spec.2.1; obtain ⟨a3, c3, rfl⟩ := own_len o3; have F3 := hid (F2.out.trans hO3.1 (fun _ h => h.elim)); have O3 := hid hO3
       have B3 := hid ((((B0d.out.of_eq (O1.out.1.block _ B0d.out.lt (fun h => h))).of_eq (G2.out.block _ (Nat.lt_of_lt_of_le B0d.out.lt O1.out.1.size) (fun h => h))).of_eq (hO3.1.block _ (Nat.lt_of_lt_of_le (Nat.lt_of_lt_of_le B0d.out.lt O1.out.1.size) G2.out.size) (fun h => h))))
       clear hO3 o3; have d0 := B3.out.cell 0; have d1 := B3.out.cell 1; have d2 := B3.out.cell 2; simp only [List.getElem?_cons_zero, List.getElem?_cons_succ] at d0 d1 d2; have z0 := B3.out.frozen 0; have z1 := B3.out.frozen 1; have z2 := B3.out.frozen 2))
  go_wp2_with fail
  have B4 : Blk (((w3.setCell ⟨w.heap.size, 0, none⟩ (.slice a1 s.f.length c1)).setCell ⟨w.heap.size, 1, none⟩ (.slice a2 s.u.length c2)).setCell ⟨w.heap.size, 2, none⟩ (.slice a3 s.r.length c3)) w.heap.size 33 (Ov.cs ⟨a1, s.f.length, c1, a2, s.u.length, c2, a3, s.r.length, c3⟩) := ((B3.out.setCell 0 _).setCell 1 _).setCell 2 _
  have F4 : Fr (fun _ => False) w (((w3.setCell ⟨w.heap.size, 0, none⟩ (.slice a1 s.f.length c1)).setCell ⟨w.heap.size, 1, none⟩ (.slice a2 s.u.length c2)).setCell ⟨w.heap.size, 2, none⟩ (.slice a3 s.r.length c3)) :=
    ((F3.out.setCell (p := ⟨w.heap.size, 0, none⟩) (.inr (Nat.le_refl _)) _).setCell (p := ⟨w.heap.size, 1, none⟩) (.inr (Nat.le_refl _)) _).setCell (p := ⟨w.heap.size, 2, none⟩) (.inr (Nat.le_refl _)) _
  have e4 : ∀ k, w.heap.size < k → (((w3.setCell ⟨w.heap.size, 0, none⟩ (.slice a1 s.f.length c1)).setCell ⟨w.heap.size, 1, none⟩ (.slice a2 s.u.length c2)).setCell ⟨w.heap.size, 2, none⟩ (.slice a3 s.r.length c3)).heap[k]? = w3.heap[k]? := fun k hk => by
    rw [Below.heap_setCell _ _ _ k (by simp; omega), Below.heap_setCell _ _ _ k (by simp; omega), Below.heap_setCell _ _ _ k (by simp; omega)]
  have z4 : (((w3.setCell ⟨w.heap.size, 0, none⟩ (.slice a1 s.f.length c1)).setCell ⟨w.heap.size, 1, none⟩ (.slice a2 s.u.length c2)).setCell ⟨w.heap.size, 2, none⟩ (.slice a3 s.r.length c3)).heap.size = w3.heap.size := by simp [World.setCell]
  refine bodyPost_ret (resO rfl rfl B4) rfl ?_
  generalize ((w3.setCell ⟨w.heap.size, 0, none⟩ (.slice a1 s.f.length c1)).setCell ⟨w.heap.size, 1, none⟩ (.slice a2 s.u.length c2)).setCell ⟨w.heap.size, 2, none⟩ (.slice a3 s.r.length c3) = W4 at *
  have s1 := O1.out.1.size
  have s2 := G2.out.size
  have s3 := O3.out.1.size
  have s0 := hzd.out
  have hA1 : ∀ W, On (Bt w.heap.size W4.heap.size) W4 W → ∀ k, Bt (w.alloc (.cells #[.slice none 0 0, .slice none 0 0, .slice none 0 0] 33)).drew.heap.size w1.heap.size k → W.heap[k]? = w1.heap[k]? := fun W hW k hk => by
    obtain ⟨k1, k2⟩ := hk
    rw [hW k ⟨by omega, by omega⟩, e4 k (by omega), O3.out.1.block k (by omega) (fun h => h), G2.out.block k (by omega) (fun h => h)]
  have hA2 : ∀ W, On (Bt w.heap.size W4.heap.size) W4 W → ∀ k, Bt w1.heap.size w2.heap.size k → W.heap[k]? = w2.heap[k]? := fun W hW k hk => by
    obtain ⟨k1, k2⟩ := hk
    rw [hW k ⟨by omega, by omega⟩, e4 k (by omega), O3.out.1.block k (by omega) (fun h => h)]
  have hA3 : ∀ W, On (Bt w.heap.size W4.heap.size) W4 W → ∀ k, Bt w2.heap.size w3.heap.size k → W.heap[k]? = w3.heap[k]? := fun W hW k hk => by
    obtain ⟨k1, k2⟩ := hk
    rw [hW k ⟨by omega, by omega⟩, e4 k (by omega)]
  refine ⟨F4, ⟨a1, s.f.length, c1, a2, s.u.length, c2, a3, s.r.length, c3⟩, rfl, fun W hW => ⟨⟨rfl, rfl, rfl, O1.out.ob.ents (hA1 W hW), own_view O2.out (hA2 W hW), O3.out.ob.us (hA3 W hW)⟩,
    (O1.out.wrF (hA1 W hW)).mono (fun k hk => ⟨by have := hk.1; omega, by have := hk.2; omega⟩), ((wr_own O2.out (Nat.le_refl _)).on (hA2 W hW)).mono (fun k hk => ⟨by have := hk.1; omega, by have := hk.2; omega⟩),
    (O3.out.wrR (hA3 W hW)).mono (fun k hk => ⟨by have := hk.1; omega, by have := hk.2; omega⟩)⟩⟩
end
end Go.Proofs.Ytangnoicnogddaa.Tr
