/- What a machine tells lies in memory of its own, and may be written over: filesNow, runningNow. -/
import Derived.Test.YtangnoicnogddaaWcc
import Derived.Test.YtangnoicnogddaaWwr
namespace Go.Proofs.Ytangnoicnogddaa.Tr
open Go.RowKit

theorem Wr.mono {O O' : Nat → Prop} {W : World} {t : TypeId} {ad : Option Addr} {n : Nat} (h : Wr O W t ad n) (hO : ∀ k, O k → O' k) : Wr O' W t ad n := fun hn => by
  obtain ⟨g, cur, e, h1, hB, hl⟩ := h hn
  exact ⟨g, cur, e, hO _ h1, hB, hl⟩
theorem Wr.on {O : Nat → Prop} {W W' : World} {t : TypeId} {ad : Option Addr} {n : Nat} (h : Wr O W t ad n) (o : On O W W') : Wr O W' t ad n := h.of_eq o
/-- A file in the cells x, whose data may be written over. -/
structure EKW (D : Nat → Prop) (w : World) (e : Ent) (x : Xv) : Prop where
  ek : EK D w e x
  wr : Wr D w 5 x.da x.dl
theorem EKW.on {D : Nat → Prop} {w w' : World} {e : Ent} {x : Xv} (h : EKW D w e x) (o : On D w w') : EKW D w' e x := ⟨h.ek.on o, h.wr.on o⟩
theorem EKW.mono {D D' : Nat → Prop} {w : World} {e : Ent} {x : Xv} (h : EKW D w e x) (hD : ∀ k, D k → D' k) : EKW D' w e x := ⟨h.ek.mono hD, h.wr.mono hD⟩
theorem ekw_cs {D : Nat → Prop} {w : World} {e : Ent} {x y : Xv} (h : EKW D w e x) (hc : x.cs = y.cs) : EKW D w e y := by
  refine ⟨ek_cs h.ek hc, ?_⟩
  have h2 := h.wr
  obtain ⟨p, k, a, l, c⟩ := x
  obtain ⟨p', k', a', l', c'⟩ := y
  simp only [Xv.cs, List.cons.injEq, Value.slice.injEq, and_true] at hc
  obtain ⟨_, _, rfl, rfl, rfl⟩ := hc
  exact h2
/-- A unit in the cells x, whose lists may be written over. -/
structure UKW (D : Nat → Prop) (w : World) (u : Ut) (x : Uv) : Prop where
  uk : UK D w u x
  r : Wr D w 9 x.ra x.rl
  a : Wr D w 9 x.aa x.al
theorem UKW.on {D : Nat → Prop} {w w' : World} {u : Ut} {x : Uv} (h : UKW D w u x) (o : On D w w') : UKW D w' u x := ⟨h.uk.on o, h.r.on o, h.a.on o⟩
theorem UKW.mono {D D' : Nat → Prop} {w : World} {u : Ut} {x : Uv} (h : UKW D w u x) (hD : ∀ k, D k → D' k) : UKW D' w u x := ⟨h.uk.mono hD, h.r.mono hD, h.a.mono hD⟩
theorem ukw_cs {D : Nat → Prop} {w : World} {u : Ut} {x y : Uv} (h : UKW D w u x) (hc : x.cs = y.cs) : UKW D w u y := by
  refine ⟨uk_cs h.uk hc, ?_, ?_⟩ <;>
  · have h2 := h.r
    have h3 := h.a
    obtain ⟨p, k, a, l, c, a2, l2, c2⟩ := x
    obtain ⟨p', k', a', l', c', a2', l2', c2'⟩ := y
    simp only [Uv.cs, List.cons.injEq, Value.slice.injEq, and_true] at hc
    obtain ⟨_, _, ⟨rfl, rfl, rfl⟩, rfl, rfl, rfl⟩ := hc
    first | exact h2 | exact h3
def CofV (w : World) (x : Ent) (e : Ending) (w' : World) : Prop := Fr (fun _ => False) w w' ∧ ∃ y : Xv, e = .returned y.v ∧ EKW (Bt w.heap.size w'.heap.size) w' x y
def CopV (w : World) (u : Ut) (e : Ending) (w' : World) : Prop := Fr (fun _ => False) w w' ∧ ∃ y : Uv, e = .returned y.v ∧ UKW (Bt w.heap.size w'.heap.size) w' u y
theorem cofilev_any (w : World) (f : Ent) (ad : Option Addr) (cap : Nat) (hx : EntV w f ad cap) : Calls Try.prog 45 #[entV f ad cap] w fun e w' => CofV w f e w' := (cofilew_any w f ad cap hx).mono (by
  rintro e w' ⟨f, y, he, h1, h2⟩
  exact ⟨f, y, he, h1, h2⟩)
theorem ucopyv_any (w : World) (u : Ut) (x : Uv) (hx : UIn w u x) : Calls Try.prog 50 #[x.v] w fun e w' => CopV w u e w' := (ucopyw_any w u x hx).mono (by
  rintro e w' ⟨f, y, he, h1, h2, h3⟩
  exact ⟨f, y, he, h1, h2, h3⟩)
/-- The first i of L, copied into a row v. -/
def ObFW (w W : World) (L : List Ent) (i : Nat) (v : Value) : Prop := Fr (fun _ => False) w W ∧ ∃ X : List Xv, X.length = i ∧ W.ownsRow w.heap.size 39 3 v i (flatE X) ∧ ∀ j (h1 : j < L.length) (h2 : j < X.length), EKW (Nb w W v) W L[j] X[j]
theorem ObFW.step {w wr : World} {L : List Ent} {i : Nat} {v : Value} {X : List Xv} (f : Fr (fun _ => False) w wr) (hX : X.length = i) (o : wr.ownsRow w.heap.size 39 3 v i (flatE X)) (he : ∀ j (h1 : j < L.length) (h2 : j < X.length), EKW (Nb w wr v) wr L[j] X[j]) (hi : i < L.length)
    {W1 w4 : World} {y : Xv} (f1 : Fr (fun _ => False) wr W1) (hp : CofV W1 L[i] (.returned (Xv.v y)) w4) {g c : Nat} {W5 : World} (o5 : W5.ownsRow w.heap.size 39 3 (.slice (some ⟨g, 0, none⟩) (i + 1) c) (i + 1) (flatE X ++ y.cs)) (hg : (xBox w4 y).grownBy W5 v.ownBlock) (hgb : v.ownBlock = some g ∨ g = (xBox w4 y).heap.size) :
    ObFW w W5 L (i + 1) (.slice (some ⟨g, 0, none⟩) (i + 1) c) := by
  obtain ⟨f4, y', hy, uk⟩ := hp
  have hy' : y.v = y'.v := by injection hy
  have uk' := ekw_cs uk (yv_inj hy').symm
  have fA : Fr (fun _ => False) w4 (xBox w4 y) := (Fr.refl _ _).alloc _
  have F4 : Fr (fun _ => False) wr (xBox w4 y) := (f1.trans f4 (fun _ h => h.elim)).trans fA (fun _ h => h.elim)
  have F5 : Fr (fun k => v.ownBlock = some k) (xBox w4 y) W5 := (Fr.refl _ _).grown hg (fun k hk => .inl hk)
  have hvb := own_lt o
  have s1 := f.size
  have s2 := f1.size
  have s3 := f4.size
  have s4 : (xBox w4 y).heap.size = w4.heap.size + 1 := by rw [World.size_alloc]
  have s5 := F5.size
  have hgk : ∀ k, (Value.slice (some ⟨g, 0, none⟩) (i + 1) c).ownBlock = some k → v.ownBlock = some k ∨ k = w4.heap.size + 1 := fun k hk => by
    obtain rfl : g = k := by simpa [Value.ownBlock] using hk
    rcases hgb with h | h
    · exact .inl h
    · exact .inr (by omega)
  refine ⟨(f.trans F4 (fun _ h => h.elim)).grown hg (fun k hk => .inr (hvb k hk).1), X ++ [y], by simp [hX], by rw [flatE_app]; simpa [flatE] using o5, fun j h1 h2 => ?_⟩
  by_cases hj : j < X.length
  · rw [List.getElem_append_left hj]
    refine ((he j h1 hj).on (fun k hk => ?_)).mono (fun k hk => ⟨⟨hk.1.1, by have := hk.1.2; omega⟩, fun e => (hgk k e).elim hk.2 (fun h => by have := hk.1.2; omega)⟩)
    have hlt : k < (xBox w4 y).heap.size := by have := hk.1.2; omega
    exact (F5.block k hlt hk.2).trans (F4.block k hk.1.2 (fun h => h))
  · have hj' : j = i := by simp at h2; omega
    subst hj'
    have e : (X ++ [y])[j] = y := by
      rw [List.getElem_append_right (by omega)]; simp [hX]
    rw [e]
    have hne : ∀ k, Bt W1.heap.size w4.heap.size k → v.ownBlock ≠ some k := fun k hk e => by
      have := (hvb k e).2
      have := hk.1
      omega
    refine (uk'.on (fun k hk => ?_)).mono (fun k hk => ⟨⟨by have := hk.1; omega, by have := hk.2; omega⟩, fun e => (hgk k e).elim (hne k hk) (fun h => by have := hk.2; omega)⟩)
    exact (F5.block k (by have := hk.2; omega) (hne k hk)).trans (fA.block k hk.2 (fun h => h))
section
variable {O D : Nat → Prop} {w : World} {mb : Nat} {s : St} {fv uv rv : Value} {pa : Option Addr} {pc : Nat} {XF : List Xv} {XR : List Uv}
set_option maxRecDepth 100000 in
set_option maxHeartbeats 8000000 in
theorem nowFw_any (h : MI O D w mb s fv uv rv pa pc XF XR) (hl : s.f.length ≤ 24) :
    Calls Try.prog 25 #[.pointer (some ⟨mb, 0, none⟩)] w fun e w' => ∃ v, e = .returned v ∧ ObFW w w' s.f s.f.length v := by
  have HM := hid h
  obtain ⟨fa, fc, ua, uc, ra, rc, rfl, rfl, rfl⟩ := h.rows
  have c0 := h.cells.1
  obtain ⟨cur, hmk, hcs⟩ := mkF w s.f.length (by omega)
  have f0 : Fr (fun _ => False) w (w.alloc (.cells cur 39)) := (Fr.refl _ w).alloc _
  have HO0 : Hid (ObFW w (w.alloc (.cells cur 39)) s.f 0 (.slice (some ⟨w.heap.size, 0, none⟩) 0 s.f.length)) :=
    ⟨f0, [], rfl, World.ownsRow_made w cur _ (Nat.le_refl _) (by unfold maxLen; omega) hcs, fun j _ h => absurd h (by simp)⟩
  have c0' := cell_fr f0 c0
  have hne : ∀ i, i < s.f.length → flatE XF ≠ [] := fun i hi e => by have := flatE_len XF; rw [e] at this; simp at this; have := h.fl; omega
  have HEL : Hid (∀ i (hi : i < s.f.length), ∃ g, fa = some ⟨g, 0, none⟩ ∧ ∃ x, (∀ W, Fr (fun _ => False) w W → ∀ j v, (Xv.cs x)[j]? = some v → W.cell? ⟨g, i * 3 + j, none⟩ = some v) ∧ ∀ W, Fr (fun _ => False) w W → Calls Try.prog 45 #[x.v] W fun e w' => CofV W s.f[i] e w') := fun i hi => by
    obtain ⟨g, c, e, _, hc⟩ := own_cell h.f (hne i hi)
    cases e
    have hx : i < XF.length := by rw [h.fl]; exact hi
    refine ⟨g, rfl, XF[i], fun W f j v hv => cell_fr f (hc _ v (by rw [flatE_at XF i j hx (List.getElem?_eq_some_iff.1 hv).1]; exact hv)), fun W f => ?_⟩
    have hk := h.fe i hi hx
    rw [hk.v_eq]; exact cofilev_any W _ _ _ (hk.v.fr f)
  clear h hne f0 hcs
  go_enter Try.func25, Try.ntmps25
  go_wp2_with fail
  go_loopw [3, 5, 17] (fun ov _ iv wr => ∃ i : Nat, i ≤ s.f.length ∧ iv = .int .i64 (i : Int) ∧ ObFW w wr s.f i ov) (fun _ _ iv _ => s.f.length - (intOf iv).toNat)
  case atStart => exact ⟨0, Nat.zero_le _, rfl, HO0.out⟩
  case round =>
    obtain ⟨i, hi, rfl, hO⟩ := hrel
    by_cases hlt : i < s.f.length
    · have hi1 : (i : Int) < ((s.f.length : Nat) : Int) := by omega
      have hi0 : (0 : Int) ≤ (i : Int) := Int.natCast_nonneg _
      obtain ⟨g, hg, x, hx1, hx2⟩ := HEL.out i hlt
      subst hg
      obtain ⟨f, X, hX, o, he⟩ := hO
      obtain ⟨va, vc, rfl⟩ := own_len o
      have k0 := hx1 _ f 0 _ rfl
      have k1 := hx1 _ f 1 _ rfl
      have k2 := hx1 _ f 2 _ rfl
      have HW1 : Hid (Fr (fun _ => False) wr (xBox wr x)) := (Fr.refl _ wr).alloc _
      have HC1 := hid (hx2 _ (f.trans HW1.out (fun _ h => h.elim)))
      have HSt := hid (fun (w4 : World) (y : Xv) (hp : CofV (xBox wr x) s.f[i] (.returned (Xv.v y)) w4) (g c : Nat) (W5 : World) => ObFW.step (g := g) (c := c) (W5 := W5) f hX o he hlt HW1.out hp)
      have HOw := hid (fun (w4 : World) (y : Xv) (hp : CofV (xBox wr x) s.f[i] (.returned (Xv.v y)) w4) => show (xBox w4 y).ownsRow w.heap.size 39 3 (.slice va i vc) i (flatE X) ∧ w.heap.size ≤ (xBox w4 y).heap.size from ⟨own_fr o (((HW1.out.trans hp.1 (fun _ h => h.elim)).alloc _)) (fun _ _ h => h), by have := f.size; have := HW1.out.size; have := hp.1.size; rw [World.size_alloc]; omega⟩)
      clear hx1 hx2 f o he hX HEL HO0 c0 c0' hmk
      obtain ⟨i0, hI0, hz0, hz1, hz2⟩ := info_parts infoE
      obtain ⟨xp, xk, xa, xl, xc⟩ := x
      simp only [Xv.v, Xv.cs, Nat.add_zero] at HC1 k0 k1 k2
      go_wp2_with fail
      refine HC1.out.mono ?_
      rintro e w4 hp
      obtain ⟨_, y, rfl, _⟩ := id hp
      have HS4 := hid (HSt.out w4 y hp)
      have HO4 := hid (HOw.out w4 y hp)
      have HB4 := hid (xBlk w4 y)
      clear hp HC1 HSt HOw
      obtain ⟨yp, yk, ya, yl, yc⟩ := y
      simp only [Xv.v, Xv.cs] at *
      go_wp2_with (at_builtin; refine Hid.out ?_)
      refine wpList_append_lies _ (by rfl) _ _ 29 (by rfl) w.heap.size 39 i0 xZ.v 3 48 Try.underlying29 hI0 hz0 hz1 hz2 rfl (by omega) (.slice va i vc) i (flatE X) (by rfl) HO4.out.1 ⟨w4.heap.size, 0, none⟩ 1 1 (Xv.cs ⟨yp, yk, ya, yl, yc⟩) (by rfl) (by rfl) (fun j u hu => by rw [Addr.add_lit, Nat.zero_add]; exact (HB4.out.cell j).trans hu) (xv_one _) (by omega) (by unfold maxLen; omega) (by omega) HO4.out.2 _ rfl ?_
      intro g5 c5 W5 o5 h5 hgb5 _
      have HO5 := hid (HS4.out g5 c5 W5 o5 h5 hgb5)
      clear o5 h5 hgb5
      go_wp2_with fail
      exact ⟨⟨i + 1, by omega, by go_num, HO5.out⟩, by simp [intOf]; omega⟩
    · obtain rfl : i = s.f.length := by omega
      have hkn : ¬ ((s.f.length : Nat) : Int) < ((s.f.length : Nat) : Int) := by omega
      have HO := hid hO
      clear hO
      go_wp2
      go_ret
      exact ⟨_, rfl, HO.out⟩
end
/-- The first i of L, copied into a row v. -/
def ObUW (w W : World) (L : List Ut) (i : Nat) (v : Value) : Prop := Fr (fun _ => False) w W ∧ ∃ X : List Uv, X.length = i ∧ W.ownsRow w.heap.size 41 4 v i (flatU X) ∧ ∀ j (h1 : j < L.length) (h2 : j < X.length), UKW (Nb w W v) W L[j] X[j]
theorem ObUW.step {w wr : World} {L : List Ut} {i : Nat} {v : Value} {X : List Uv} (f : Fr (fun _ => False) w wr) (hX : X.length = i) (o : wr.ownsRow w.heap.size 41 4 v i (flatU X)) (he : ∀ j (h1 : j < L.length) (h2 : j < X.length), UKW (Nb w wr v) wr L[j] X[j]) (hi : i < L.length)
    {W1 w4 : World} {y : Uv} (f1 : Fr (fun _ => False) wr W1) (hp : CopV W1 L[i] (.returned (Uv.v y)) w4) {g c : Nat} {W5 : World} (o5 : W5.ownsRow w.heap.size 41 4 (.slice (some ⟨g, 0, none⟩) (i + 1) c) (i + 1) (flatU X ++ y.cs)) (hg : (uBox w4 y).grownBy W5 v.ownBlock) (hgb : v.ownBlock = some g ∨ g = (uBox w4 y).heap.size) :
    ObUW w W5 L (i + 1) (.slice (some ⟨g, 0, none⟩) (i + 1) c) := by
  obtain ⟨f4, y', hy, uk⟩ := hp
  have hy' : y.v = y'.v := by injection hy
  have uk' := ukw_cs uk (uv_inj hy').symm
  have fA : Fr (fun _ => False) w4 (uBox w4 y) := (Fr.refl _ _).alloc _
  have F4 : Fr (fun _ => False) wr (uBox w4 y) := (f1.trans f4 (fun _ h => h.elim)).trans fA (fun _ h => h.elim)
  have F5 : Fr (fun k => v.ownBlock = some k) (uBox w4 y) W5 := (Fr.refl _ _).grown hg (fun k hk => .inl hk)
  have hvb := own_lt o
  have s1 := f.size
  have s2 := f1.size
  have s3 := f4.size
  have s4 : (uBox w4 y).heap.size = w4.heap.size + 1 := by rw [World.size_alloc]
  have s5 := F5.size
  have hgk : ∀ k, (Value.slice (some ⟨g, 0, none⟩) (i + 1) c).ownBlock = some k → v.ownBlock = some k ∨ k = w4.heap.size + 1 := fun k hk => by
    obtain rfl : g = k := by simpa [Value.ownBlock] using hk
    rcases hgb with h | h
    · exact .inl h
    · exact .inr (by omega)
  refine ⟨(f.trans F4 (fun _ h => h.elim)).grown hg (fun k hk => .inr (hvb k hk).1), X ++ [y], by simp [hX], by rw [flatU_app]; simpa [flatU] using o5, fun j h1 h2 => ?_⟩
  by_cases hj : j < X.length
  · rw [List.getElem_append_left hj]
    refine ((he j h1 hj).on (fun k hk => ?_)).mono (fun k hk => ⟨⟨hk.1.1, by have := hk.1.2; omega⟩, fun e => (hgk k e).elim hk.2 (fun h => by have := hk.1.2; omega)⟩)
    have hlt : k < (uBox w4 y).heap.size := by have := hk.1.2; omega
    exact (F5.block k hlt hk.2).trans (F4.block k hk.1.2 (fun h => h))
  · have hj' : j = i := by simp at h2; omega
    subst hj'
    have e : (X ++ [y])[j] = y := by
      rw [List.getElem_append_right (by omega)]; simp [hX]
    rw [e]
    have hne : ∀ k, Bt W1.heap.size w4.heap.size k → v.ownBlock ≠ some k := fun k hk e => by
      have := (hvb k e).2
      have := hk.1
      omega
    refine (uk'.on (fun k hk => ?_)).mono (fun k hk => ⟨⟨by have := hk.1; omega, by have := hk.2; omega⟩, fun e => (hgk k e).elim (hne k hk) (fun h => by have := hk.2; omega)⟩)
    exact (F5.block k (by have := hk.2; omega) (hne k hk)).trans (fA.block k hk.2 (fun h => h))
section
variable {O D : Nat → Prop} {w : World} {mb : Nat} {s : St} {fv uv rv : Value} {pa : Option Addr} {pc : Nat} {XF : List Xv} {XR : List Uv}
set_option maxRecDepth 100000 in
set_option maxHeartbeats 8000000 in
theorem nowUw_any (h : MI O D w mb s fv uv rv pa pc XF XR) (hl : s.r.length ≤ 24) :
    Calls Try.prog 27 #[.pointer (some ⟨mb, 2, none⟩)] w fun e w' => ∃ v, e = .returned v ∧ ObUW w w' s.r s.r.length v := by
  have HM := hid h
  obtain ⟨fa, fc, ua, uc, ra, rc, rfl, rfl, rfl⟩ := h.rows
  have c0 := h.cells.2.2.1
  obtain ⟨cur, hmk, hcs⟩ := mkU w s.r.length (by omega)
  have f0 : Fr (fun _ => False) w (w.alloc (.cells cur 41)) := (Fr.refl _ w).alloc _
  have HO0 : Hid (ObUW w (w.alloc (.cells cur 41)) s.r 0 (.slice (some ⟨w.heap.size, 0, none⟩) 0 s.r.length)) :=
    ⟨f0, [], rfl, World.ownsRow_made w cur _ (Nat.le_refl _) (by unfold maxLen; omega) hcs, fun j _ h => absurd h (by simp)⟩
  have c0' := cell_fr f0 c0
  have hne : ∀ i, i < s.r.length → flatU XR ≠ [] := fun i hi e => by have := flatU_len XR; rw [e] at this; simp at this; have := h.rl; omega
  have HEL : Hid (∀ i (hi : i < s.r.length), ∃ g, ra = some ⟨g, 0, none⟩ ∧ ∃ x, (∀ W, Fr (fun _ => False) w W → ∀ j v, (Uv.cs x)[j]? = some v → W.cell? ⟨g, i * 4 + j, none⟩ = some v) ∧ ∀ W, Fr (fun _ => False) w W → Calls Try.prog 50 #[x.v] W fun e w' => CopV W s.r[i] e w') := fun i hi => by
    obtain ⟨g, c, e, _, hc⟩ := own_cell h.r (hne i hi)
    cases e
    have hx : i < XR.length := by rw [h.rl]; exact hi
    refine ⟨g, rfl, XR[i], fun W f j v hv => cell_fr f (hc _ v (by rw [flatU_at XR i j hx (List.getElem?_eq_some_iff.1 hv).1]; exact hv)), fun W f => ?_⟩
    have hk := h.re i hi hx
    exact ucopyv_any W _ _ (hk.u.env (Env.of f))
  clear h hne f0 hcs
  go_enter Try.func27, Try.ntmps27
  go_wp2_with fail
  go_loopw [3, 5, 17] (fun ov _ iv wr => ∃ i : Nat, i ≤ s.r.length ∧ iv = .int .i64 (i : Int) ∧ ObUW w wr s.r i ov) (fun _ _ iv _ => s.r.length - (intOf iv).toNat)
  case atStart => exact ⟨0, Nat.zero_le _, rfl, HO0.out⟩
  case round =>
    obtain ⟨i, hi, rfl, hO⟩ := hrel
    by_cases hlt : i < s.r.length
    · have hi1 : (i : Int) < ((s.r.length : Nat) : Int) := by omega
      have hi0 : (0 : Int) ≤ (i : Int) := Int.natCast_nonneg _
      obtain ⟨g, hg, x, hx1, hx2⟩ := HEL.out i hlt
      subst hg
      obtain ⟨f, X, hX, o, he⟩ := hO
      obtain ⟨va, vc, rfl⟩ := own_len o
      have k0 := hx1 _ f 0 _ rfl
      have k1 := hx1 _ f 1 _ rfl
      have k2 := hx1 _ f 2 _ rfl
      have k3 := hx1 _ f 3 _ rfl
      have HW1 : Hid (Fr (fun _ => False) wr (uBox wr x)) := (Fr.refl _ wr).alloc _
      have HC1 := hid (hx2 _ (f.trans HW1.out (fun _ h => h.elim)))
      have HSt := hid (fun (w4 : World) (y : Uv) (hp : CopV (uBox wr x) s.r[i] (.returned (Uv.v y)) w4) (g c : Nat) (W5 : World) => ObUW.step (g := g) (c := c) (W5 := W5) f hX o he hlt HW1.out hp)
      have HOw := hid (fun (w4 : World) (y : Uv) (hp : CopV (uBox wr x) s.r[i] (.returned (Uv.v y)) w4) => show (uBox w4 y).ownsRow w.heap.size 41 4 (.slice va i vc) i (flatU X) ∧ w.heap.size ≤ (uBox w4 y).heap.size from ⟨own_fr o (((HW1.out.trans hp.1 (fun _ h => h.elim)).alloc _)) (fun _ _ h => h), by have := f.size; have := HW1.out.size; have := hp.1.size; rw [World.size_alloc]; omega⟩)
      clear hx1 hx2 f o he hX HEL HO0 c0 c0' hmk
      obtain ⟨i0, hI0, hz0, hz1, hz2⟩ := info_parts infoU
      obtain ⟨xn, xs, xra, xrl, xrc, xaa, xal, xac⟩ := x
      simp only [Uv.v, Uv.cs, Nat.add_zero] at HC1 k0 k1 k2 k3
      go_wp2_with fail
      refine HC1.out.mono ?_
      rintro e w4 hp
      obtain ⟨_, y, rfl, _⟩ := id hp
      have HS4 := hid (HSt.out w4 y hp)
      have HO4 := hid (HOw.out w4 y hp)
      have HB4 := hid (uBlk w4 y)
      clear hp HC1 HSt HOw
      obtain ⟨yn, ys, yra, yrl, yrc, yaa, yal, yac⟩ := y
      simp only [Uv.v, Uv.cs] at *
      go_wp2_with (at_builtin; refine Hid.out ?_)
      refine wpList_append_lies _ (by rfl) _ _ 31 (by rfl) w.heap.size 41 i0 uZ.v 4 80 Try.underlying31 hI0 hz0 hz1 hz2 rfl (by omega) (.slice va i vc) i (flatU X) (by rfl) HO4.out.1 ⟨w4.heap.size, 0, none⟩ 1 1 (Uv.cs ⟨yn, ys, yra, yrl, yrc, yaa, yal, yac⟩) (by rfl) (by rfl) (fun j u hu => by rw [Addr.add_lit, Nat.zero_add]; exact (HB4.out.cell j).trans hu) (uv_one _) (by omega) (by unfold maxLen; omega) (by omega) HO4.out.2 _ rfl ?_
      intro g5 c5 W5 o5 h5 hgb5 _
      have HO5 := hid (HS4.out g5 c5 W5 o5 h5 hgb5)
      clear o5 h5 hgb5
      go_wp2_with fail
      exact ⟨⟨i + 1, by omega, by go_num, HO5.out⟩, by simp [intOf]; omega⟩
    · obtain rfl : i = s.r.length := by omega
      have hkn : ¬ ((s.r.length : Nat) : Int) < ((s.r.length : Nat) : Int) := by omega
      have HO := hid hO
      clear hO
      go_wp2
      go_ret
      exact ⟨_, rfl, HO.out⟩
end
end Go.Proofs.Ytangnoicnogddaa.Tr
