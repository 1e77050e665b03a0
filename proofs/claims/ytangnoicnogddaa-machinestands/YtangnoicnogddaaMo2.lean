/- The contracts of usersNow, Observe and of the document's Same. -/
import Derived.Test.YtangnoicnogddaaMob
namespace Go.Proofs.Ytangnoicnogddaa.Tr
open Go.RowKit

theorem ObF.ents {w W W' : World} {L : List Ent} {ad : Option Addr} {n cap : Nat} (h : ObF w W L L.length (.slice ad n cap)) (hO : On (Bt w.heap.size W.heap.size) W W') : Ents W' ad L := fun hne => by
  obtain ⟨_, X, hX, o, he⟩ := h
  have hpos : 0 < L.length := List.length_pos_iff.2 hne
  obtain ⟨g, c, e, hb, hc⟩ := own_cell o (fun e => by have := flatE_len X; rw [e] at this; simp at this; omega)
  cases e
  have hg := own_lt o g rfl
  refine ⟨g, 0, rfl, fun i hi => ?_⟩
  have hx : i < X.length := by omega
  have hcc : ∀ j v, (X[i]).cs[j]? = some v → W'.cell? ⟨g, i * 3 + j, none⟩ = some v := fun j v hv => hO.cell ⟨hg.1, hg.2⟩ (hc _ v (by rw [flatE_at X i j hx (List.getElem?_eq_some_iff.1 hv).1]; exact hv))
  have ek := (he i hi hx).on (fun k hk => hO k hk.1)
  have k0 := hcc 0 _ rfl
  have k1 := hcc 1 _ rfl
  have k2 := hcc 2 _ rfl
  rw [ek.p] at k0
  rw [ek.k] at k1
  rw [ek.l] at k2
  simp only [Nat.zero_add]
  exact ⟨_, _, k0, k1, k2, ek.v⟩
theorem ObU.us {w W W' : World} {L : List Ut} {ad : Option Addr} {n cap : Nat} (h : ObU w W L L.length (.slice ad n cap)) (hO : On (Bt w.heap.size W.heap.size) W W') : Us W' W' L ad := fun hne => by
  obtain ⟨_, X, hX, o, he⟩ := h
  have hpos : 0 < L.length := List.length_pos_iff.2 hne
  obtain ⟨g, c, e, hb, hc⟩ := own_cell o (fun e => by have := flatU_len X; rw [e] at this; simp at this; omega)
  cases e
  have hg := own_lt o g rfl
  refine ⟨g, 0, rfl, fun i hi => ?_⟩
  have hx : i < X.length := by omega
  refine ⟨X[i], fun j v hv => ?_, ((he i hi hx).on (fun k hk => hO k hk.1)).u⟩
  rw [Nat.zero_add]
  exact hO.cell ⟨hg.1, hg.2⟩ (hc _ v (by rw [flatU_at X i j hx (List.getElem?_eq_some_iff.1 hv).1]; exact hv))
theorem own_view {W W' : World} {L : List Nm} {ad : Option Addr} {n cap B : Nat} (o : W.ownsRow B 9 1 (.slice ad n cap) L.length (strC L)) (hO : ∀ k, Bt B W.heap.size k → W'.heap[k]? = W.heap[k]?) : Strs W' ad L := by
  refine (strs_own o).on (D := Bt B W.heap.size) (fun _ x hx => ?_) hO
  subst hx
  exact own_lt o x.block rfl
/-- An observed machine's three cells. -/
structure Ov where
  fa : Option Addr
  fl : Nat
  fc : Nat
  ua : Option Addr
  ul : Nat
  uc : Nat
  ra : Option Addr
  rl : Nat
  rc : Nat
def Ov.cs (o : Ov) : List Value := [.slice o.fa o.fl o.fc, .slice o.ua o.ul o.uc, .slice o.ra o.rl o.rc]
def Ov.v (o : Ov) : Value := .agg o.cs.toArray
abbrev oBox (w : World) (o : Ov) : World := w.alloc (.cells o.cs.toArray 33)
/-- What is told of s lies at o. -/
structure OIn (W : World) (s : St) (o : Ov) : Prop where
  fl : o.fl = s.f.length
  ul : o.ul = s.u.length
  rl : o.rl = s.r.length
  f : Ents W o.fa s.f
  u : Strs W o.ua s.u
  r : Us W W s.r o.ra
theorem OIn.env {W W' : World} {s : St} {o : Ov} (h : OIn W s o) (f : Fr (fun _ => False) W W') : OIn W' s o := ⟨h.fl, h.ul, h.rl, h.f.fr f, h.u.env (Env.of f), (h.r.env (Env.of f)).up (Env.of f)⟩
theorem OIn.like {W : World} {s t : St} {o : Ov} (h : OIn W s o) (l : Lk s t) : OIn W t o := by
  obtain ⟨h1, h2, h3⟩ := l
  exact ⟨by rw [h1]; exact h.fl, by rw [h2]; exact h.ul, by rw [h3]; exact h.rl, by rw [h1]; exact h.f, by rw [h2]; exact h.u, by rw [h3]; exact h.r⟩
theorem resO {fn : Func} {p : Tmp} (h : fn.results = #[.cell p 33]) {a : Act} {W : World} {b : Nat} {t : TypeId} {x : Ov} (ha : a.tmps.getD p undef = .pointer (some ⟨b, 0, none⟩)) (hb : Blk W b t x.cs) :
    (results fn a.tmps).run Try.prog W = .ok x.v W :=
  results_cell_row h a.tmps W b t x.cs.toArray (0, 0) _ ha hb Try.underlying33 rfl (by kernel_rfl)
def ObsPost (w : World) (s : St) (e : Ending) (w' : World) : Prop := Fr (fun _ => False) w w' ∧ ∃ o : Ov, e = .returned o.v ∧ ∀ W, On (Bt w.heap.size w'.heap.size) w' W → OIn W s o
section
variable {O D : Nat → Prop} {w : World} {mb : Nat} {s : St} {fv uv rv : Value} {pa : Option Addr} {pc : Nat} {XF : List Xv} {XR : List Uv}
set_option maxRecDepth 100000 in
set_option maxHeartbeats 1000000 in
theorem usersNow_any (h : MI O D w mb s fv uv rv pa pc XF XR) (hl : s.u.length ≤ lim16) :
    Calls Try.prog 26 #[.pointer (some ⟨mb, 0, none⟩)] w fun e w' => (∃ v, e = .returned v ∧ w'.ownsRow w.heap.size 9 1 v s.u.length (strC s.u)) ∧ Fr (fun _ => False) w w' := by
  obtain ⟨fa, fc, ua, uc, ra, rc, rfl, rfl, rfl⟩ := h.rows
  have c1 := h.cells.2.1
  have HC := hid (cloneS_any w s.u ua uc h.strs hl)
  clear h hl
  go_enter Try.func26, Try.ntmps26
  go_wp2_with fail
  refine HC.out.mono ?_
  rintro e w1 ⟨⟨v, rfl, o1⟩, f1⟩
  obtain ⟨a1, k1, rfl⟩ := own_len o1
  have HO := hid o1
  have HF := hid f1
  clear o1 f1
  go_wp2_with fail
  go_ret
  exact ⟨⟨_, rfl, HO.out⟩, HF.out⟩
set_option maxRecDepth 100000 in
set_option maxHeartbeats 4000000 in
theorem obs_any (h : MI O D w mb s fv uv rv pa pc XF XR) (hs : s.ok) :
    Calls Try.prog 13 #[.pointer (some ⟨mb, 0, none⟩)] w fun e w' => ObsPost w s e w' := by
  have F0 : Hid (Fr (fun _ => False) w (w.alloc (.cells #[.slice none 0 0, .slice none 0 0, .slice none 0 0] 33))) := (Fr.refl _ w).alloc _
  have B0 : Hid (Blk (w.alloc (.cells #[.slice none 0 0, .slice none 0 0, .slice none 0 0] 33)) w.heap.size 33 [.slice none 0 0, .slice none 0 0, .slice none 0 0]) := Blk.new w _ _
  have hz : Hid ((w.alloc (.cells #[.slice none 0 0, .slice none 0 0, .slice none 0 0] 33)).heap.size = w.heap.size + 1) := by unfold Hid; rw [World.size_alloc]
  have HM := hid h
  have F0d : Hid (Fr (fun _ => False) w (w.alloc (.cells #[.slice none 0 0, .slice none 0 0, .slice none 0 0] 33)).drew) := F0.out.drew
  have B0d : Hid (Blk (w.alloc (.cells #[.slice none 0 0, .slice none 0 0, .slice none 0 0] 33)).drew w.heap.size 33 [.slice none 0 0, .slice none 0 0, .slice none 0 0]) := B0.out.drew
  have hzd : Hid ((w.alloc (.cells #[.slice none 0 0, .slice none 0 0, .slice none 0 0] 33)).drew.heap.size = w.heap.size + 1) := hz
  have HC1 := hid (nowF_any (HM.out.keep0 F0d.out) hs.fl)
  have HC2 := hid (fun (W : World) (f : Fr (fun _ => False) w W) => usersNow_any (HM.out.keep0 f) (by have := hs.ul; unfold lim16; omega))
  have HC3 := hid (fun (W : World) (f : Fr (fun _ => False) w W) => nowU_any (HM.out.keep0 f) hs.rl)
  clear h hs
  go_enter Try.func13, Try.ntmps13
  go_wp2_with fail
  go_region_with (first
    | (go_at_call 25; refine HC1.out.mono ?_; rintro e w1 ⟨v1, rfl, hO1⟩; have o1 := hO1.2.choose_spec.2.1; obtain ⟨a1, c1, rfl⟩ := own_len o1; have F1 := hid (F0d.out.trans hO1.1 (fun _ h => h.elim)); have O1 := hid hO1; clear hO1 o1)
    | (go_at_call 26; refine (HC2.out _ F1.out).mono ?_; rintro e w2 ⟨⟨v2, rfl, o2⟩, f2⟩; obtain ⟨a2, c2, rfl⟩ := own_len o2; have F2 := hid (F1.out.trans f2 (fun _ h => h.elim)); have O2 := hid o2; have G2 := hid f2; clear o2 f2)
    | (go_at_call 27; refine (HC3.out _ F2.out).mono ?_; rintro e w3 ⟨v3, rfl, hO3⟩; have o3 := hO3.2.choose_spec.2.1; obtain ⟨a3, c3, rfl⟩ := own_len o3; have F3 := hid (F2.out.trans hO3.1 (fun _ h => h.elim)); have O3 := hid hO3
       have B3 := hid ((((B0d.out.of_eq (O1.out.1.block _ B0d.out.lt (fun h => h))).of_eq (G2.out.block _ (Nat.lt_of_lt_of_le B0d.out.lt O1.out.1.size) (fun h => h))).of_eq (hO3.1.block _ (Nat.lt_of_lt_of_le (Nat.lt_of_lt_of_le B0d.out.lt O1.out.1.size) G2.out.size) (fun h => h))))
       clear hO3 o3; have d0 := B3.out.cell 0; have d1 := B3.out.cell 1; have d2 := B3.out.cell 2; simp only [List.getElem?_cons_zero, List.getElem?_cons_succ] at d0 d1 d2; have z0 := B3.out.frozen 0; have z1 := B3.out.frozen 1; have z2 := B3.out.frozen 2))
  go_wp2_with fail
  have B4 : Blk (((w3.setCell ⟨w.heap.size, 0, none⟩ (.slice a1 s.f.length c1)).setCell ⟨w.heap.size, 1, none⟩ (.slice a2 s.u.length c2)).setCell ⟨w.heap.size, 2, none⟩ (.slice a3 s.r.length c3)) w.heap.size 33 (Ov.cs ⟨a1, s.f.length, c1, a2, s.u.length, c2, a3, s.r.length, c3⟩) := ((B3.out.setCell 0 _).setCell 1 _).setCell 2 _
  have F4 : Fr (fun _ => False) w (((w3.setCell ⟨w.heap.size, 0, none⟩ (.slice a1 s.f.length c1)).setCell ⟨w.heap.size, 1, none⟩ (.slice a2 s.u.length c2)).setCell ⟨w.heap.size, 2, none⟩ (.slice a3 s.r.length c3)) :=
    ((F3.out.setCell (p := ⟨w.heap.size, 0, none⟩) (.inr (Nat.le_refl _)) _).setCell (p := ⟨w.heap.size, 1, none⟩) (.inr (Nat.le_refl _)) _).setCell (p := ⟨w.heap.size, 2, none⟩) (.inr (Nat.le_refl _)) _
  have e4 : ∀ k, w.heap.size < k → (((w3.setCell ⟨w.heap.size, 0, none⟩ (.slice a1 s.f.length c1)).setCell ⟨w.heap.size, 1, none⟩ (.slice a2 s.u.length c2)).setCell ⟨w.heap.size, 2, none⟩ (.slice a3 s.r.length c3)).heap[k]? = w3.heap[k]? := fun k hk => by
    rw [Below.heap_setCell _ _ _ k (by simp; omega), Below.heap_setCell _ _ _ k (by simp; omega), Below.heap_setCell _ _ _ k (by simp; omega)]
  have z4 : (((w3.setCell ⟨w.heap.size, 0, none⟩ (.slice a1 s.f.length c1)).setCell ⟨w.heap.size, 1, none⟩ (.slice a2 s.u.length c2)).setCell ⟨w.heap.size, 2, none⟩ (.slice a3 s.r.length c3)).heap.size = w3.heap.size := by simp [World.setCell]
  refine bodyPost_ret (resO rfl rfl B4) rfl ?_
  generalize ((w3.setCell ⟨w.heap.size, 0, none⟩ (.slice a1 s.f.length c1)).setCell ⟨w.heap.size, 1, none⟩ (.slice a2 s.u.length c2)).setCell ⟨w.heap.size, 2, none⟩ (.slice a3 s.r.length c3) = W4 at *
  have s1 := O1.out.1.size
  have s2 := G2.out.size
  have s3 := O3.out.1.size
  have s0 := hzd.out
  refine ⟨F4, ⟨a1, s.f.length, c1, a2, s.u.length, c2, a3, s.r.length, c3⟩, rfl, fun W hW => ⟨rfl, rfl, rfl, O1.out.ents (fun k hk => ?_), own_view O2.out (fun k hk => ?_), O3.out.us (fun k hk => ?_)⟩⟩
  · obtain ⟨k1, k2⟩ := hk
    rw [hW k ⟨by omega, by omega⟩, e4 k (by omega), O3.out.1.block k (by omega) (fun h => h), G2.out.block k (by omega) (fun h => h)]
  · obtain ⟨k1, k2⟩ := hk
    rw [hW k ⟨by omega, by omega⟩, e4 k (by omega), O3.out.1.block k (by omega) (fun h => h)]
  · obtain ⟨k1, k2⟩ := hk
    rw [hW k ⟨by omega, by omega⟩, e4 k (by omega)]
end
set_option maxRecDepth 100000 in
set_option maxHeartbeats 4000000 in
theorem osame_any (w : World) (s t : St) (a b : Ov) (ha : OIn w s a) (hb : OIn w t b) (h1 : s.f.length ≤ 24) (h2 : s.u.length ≤ 24) (h3 : s.r.length ≤ 24) :
    Calls Try.prog 15 #[a.v, b.v] w fun e w' => e = .returned (.bool (decide (s.f = t.f) && decide (s.u = t.u) && decide (s.r = t.r))) ∧ Fr (fun _ => False) w w' := by
  have HF : Hid (Fr (fun _ => False) w (oBox (oBox w a) b)) := ((Fr.refl _ w).alloc _).alloc _
  have HBa : Hid (Blk (oBox (oBox w a) b) w.heap.size 33 a.cs) := (Blk.new w _ a.cs).alloc _
  have HBb : Hid (Blk (oBox (oBox w a) b) (w.heap.size + 1) 33 b.cs) := by
    have := Blk.new (oBox w a) 33 b.cs
    rw [World.size_alloc] at this
    exact this
  have HC1 := hid (fun (W : World) (f : Fr (fun _ => False) w W) => same_any W a.fa b.fa s.f t.f a.fc b.fc (ha.f.fr f) (hb.f.fr f) (by omega))
  have HC2 := hid (fun (W : World) (f : Fr (fun _ => False) w W) => sameList_any W a.ua b.ua s.u t.u a.uc b.uc (ha.u.env (Env.of f)) (hb.u.env (Env.of f)) (by unfold lim; omega))
  have HC3 := hid (fun (W : World) (f : Fr (fun _ => False) w W) => usameAll_any W W (Env.refl W) s.r t.r a.ra b.ra a.rc b.rc ((ha.r.env (Env.of f)).up (Env.of f)) ((hb.r.env (Env.of f)).up (Env.of f)) (by unfold lim; omega))
  rw [← ha.fl, ← hb.fl] at HC1
  rw [← ha.ul, ← hb.ul] at HC2
  rw [← ha.rl, ← hb.rl] at HC3
  have HCL : Hid (∀ W, Fr (fun _ => False) (oBox (oBox w a) b) W → (W.cell? ⟨w.heap.size, 0, none⟩ = some (.slice a.fa a.fl a.fc) ∧ W.cell? ⟨w.heap.size, 1, none⟩ = some (.slice a.ua a.ul a.uc) ∧ W.cell? ⟨w.heap.size, 2, none⟩ = some (.slice a.ra a.rl a.rc)) ∧ W.cell? ⟨w.heap.size + 1, 0, none⟩ = some (.slice b.fa b.fl b.fc) ∧ W.cell? ⟨w.heap.size + 1, 1, none⟩ = some (.slice b.ua b.ul b.uc) ∧ W.cell? ⟨w.heap.size + 1, 2, none⟩ = some (.slice b.ra b.rl b.rc)) := fun W f => by
    have A := f.blk HBa.out (fun h => h)
    have B := f.blk HBb.out (fun h => h)
    exact ⟨⟨A.cell 0, A.cell 1, A.cell 2⟩, B.cell 0, B.cell 1, B.cell 2⟩
  clear ha hb h1 h2 h3
  generalize decide (s.f = t.f) = p at *
  generalize decide (s.u = t.u) = q at *
  generalize decide (s.r = t.r) = r at *
  obtain ⟨a1, a2, a3, a4, a5, a6, a7, a8, a9⟩ := a
  obtain ⟨b1, b2, b3, b4, b5, b6, b7, b8, b9⟩ := b
  simp only [Ov.v] at *
  obtain ⟨⟨k0, k1, k2⟩, l0, l1, l2⟩ := HCL.out _ (Fr.refl _ _)
  go_enter Try.func15, Try.ntmps15
  go_wp2_with fail
  refine (HC1.out _ HF.out).mono ?_
  rintro e w1 ⟨rfl, n1, hw1⟩
  have G1 : Hid (Fr (fun _ => False) (oBox (oBox w ⟨a1, a2, a3, a4, a5, a6, a7, a8, a9⟩) ⟨b1, b2, b3, b4, b5, b6, b7, b8, b9⟩) w1) := by rw [hw1]; exact (Fr.refl _ _).drewN n1
  have F1 := hid (HF.out.trans G1.out (fun _ h => h.elim))
  clear hw1 k0 k1 k2 l0 l1 l2
  obtain ⟨⟨k0, k1, k2⟩, l0, l1, l2⟩ := HCL.out _ G1.out
  go_wp2_with fail
  refine (HC2.out _ F1.out).mono ?_
  rintro e w2 ⟨rfl, f2⟩
  have G2 := hid (G1.out.trans f2 (fun _ h => h.elim))
  have F2 := hid (F1.out.trans f2 (fun _ h => h.elim))
  clear f2 k0 k1 k2 l0 l1 l2
  obtain ⟨⟨k0, k1, k2⟩, l0, l1, l2⟩ := HCL.out _ G2.out
  cases p with
  | false =>
    go_wp2_with fail
    go_ret
    exact ⟨rfl, F2.out⟩
  | true =>
    cases q with
    | false =>
      go_wp2_with fail
      go_ret
      exact ⟨rfl, F2.out⟩
    | true =>
      go_wp2_with fail
      refine (HC3.out _ F2.out).mono ?_
      rintro e w3 ⟨rfl, f3⟩
      have F3 := hid (F2.out.trans f3 (fun _ h => h.elim))
      clear f3
      go_wp2_with fail
      go_ret
      exact ⟨rfl, F3.out⟩
end Go.Proofs.Ytangnoicnogddaa.Tr
