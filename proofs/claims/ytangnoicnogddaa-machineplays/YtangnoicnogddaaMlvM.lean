import Derived.Test.YtangnoicnogddaaMdd
import Derived.Laws.MakeOwn
/- The contracts of New, Plan, Reset. -/
namespace Go.Proofs.Ytangnoicnogddaa.Tr
open Go.RowKit

theorem info4 : (Try.prog.info? 4).map (fun i => (i.zero, i.size, i.bytes)) = some (some (.bool false), 1, 1) := by kernel_rfl
def boolC (p : List Bool) : List Value := p.map .bool
theorem boolC_len (p : List Bool) : (boolC p).length = p.length := by simp [boolC]
theorem boolC_one (p : List Bool) : ∀ v ∈ boolC p, v.oneCell' = true := by
  intro v hv
  obtain ⟨s, _, rfl⟩ := List.mem_map.1 hv
  rfl
theorem bools_own {w : World} {B n cap : Nat} {ad : Option Addr} {p : List Bool} (h : w.ownsRow B 4 1 (.slice ad n cap) p.length (boolC p)) : Bools w ad p := fun hne => by
  obtain ⟨g, c, e, _, hc⟩ := own_cell h (fun e => hne (by simpa [boolC] using e))
  cases e
  exact ⟨g, 0, rfl, fun i hi => by
    have := hc i (.bool p[i]) (by simp [boolC, hi])
    rw [Nat.zero_add]; exact this⟩
theorem Bools.env {w W : World} {ad : Option Addr} {p : List Bool} (h : Bools w ad p) (e : Env w W) : Bools W ad p := fun hne => by
  obtain ⟨b, o, rfl, hc⟩ := h hne
  exact ⟨b, o, rfl, fun i hi => e.cell (hc i hi)⟩
set_option maxRecDepth 100000 in
set_option maxHeartbeats 1000000 in
theorem cloneP_any (w : World) (p : List Bool) (ad : Option Addr) (cap : Nat) (hs : Bools w ad p) (hl : p.length ≤ 140737488351232) :
    Calls Try.prog 18 #[.slice ad p.length cap] w fun e w' => (∃ v, e = .returned v ∧ w'.ownsRow w.heap.size 4 1 v p.length (boolC p)) ∧ Fr (fun _ => False) w w' := by
  have HS := hid hs
  clear hs
  obtain ⟨i0, hi0, hz0, hz1, hz2⟩ := info_parts info4
  have hq := fun W : World => Lib.run_eql_slice_nil (P := Try.prog) W 22 4 ad p.length cap 0 0 Try.underlying22
  cases ad with
  | none =>
    have h0 : p = [] := by
      by_cases h : p = []
      · exact h
      · obtain ⟨_, _, e, _⟩ := HS.out h
        cases e
    subst h0
    simp only [List.length_nil, Option.isNone_none] at hq
    go_enter Try.func18, Try.ntmps18
    go_wp2_with fail
    go_ret
    exact ⟨⟨_, rfl, World.ownsRow_nil _ _ _ _⟩, Fr.refl _ _⟩
  | some a0 =>
    have HO := hid (own_empty w 4 1)
    have HS2 := hid (HS.out.env (Env.alloc w (.cells #[] 4)))
    have HF := hid ((Fr.refl (fun _ => False) w).alloc (.cells #[] 4))
    by_cases h0 : p = []
    · subst h0
      have hl : ∀ (W : World) (x : Addr), (loadCells x 0).run Try.prog W = .ok #[] W := fun W x => by simpa using run_loadCells_list (P := Try.prog) W x [] (by simp)
      have hrun : ∀ ty, (Builtin.append_ #[22, 22] ty #[.slice (some ⟨w.heap.size, 0, none⟩) 0 0, .slice (some a0) 0 cap]).run Try.prog (w.alloc (.cells #[] 4)) = .ok (.slice (some ⟨w.heap.size, 0, none⟩) 0 0) (w.alloc (.cells #[] 4)) := fun ty => by
        simp [Builtin.append_, run_underlying Try.underlying22, sizeOf, typeInfo, hi0, Builtin.lenOf, Builtin.firstCells, storeCells, hl]
      simp only [List.length_nil] at *
      go_enter Try.func18, Try.ntmps18
      go_wp2_with (at_builtin; refine Lib.wpList_append_run _ rfl _ _ _ _ rfl _ _ rfl rfl _ _ (hrun _) ?_)
      go_ret
      exact ⟨⟨_, rfl, HO.out⟩, HF.out⟩
    · obtain ⟨bb, bo, e, hc⟩ := HS2.out h0
      cases e
      have hcell : ∀ j u, (boolC p)[j]? = some u → (w.alloc (.cells #[] 4)).cell? ((⟨bb, bo, none⟩ : Addr).add j) = some u := fun j u hu => by
        rw [Addr.add_mid]
        have hj : j < p.length := by have := (List.getElem?_eq_some_iff.1 hu).1; rwa [boolC_len] at this
        rw [hc j hj]
        simp [boolC, hj] at hu
        rw [← hu]
      have HC := hid hcell
      clear hcell
      have hpos : 0 < p.length := List.length_pos_iff.2 h0
      clear hc
      go_enter Try.func18, Try.ntmps18
      go_wp2_with (at_builtin; refine wpList_append_lies _ rfl _ _ 22 rfl w.heap.size 4 i0 _ 1 1 Try.underlying22 hi0 hz0 hz1 hz2 rfl (by omega) _ 0 [] rfl HO.out ⟨bb, bo, none⟩ p.length cap (boolC p) rfl (by rw [boolC_len]; omega) HC.out (boolC_one p) hpos (by unfold maxLen; omega) (by omega) (by simp) _ rfl ?_; intro g1 cap1 w1 h1 h2 h3 h4)
      go_ret
      simp only [Nat.zero_add, List.nil_append] at h1
      exact ⟨⟨.slice (some ⟨g1, 0, none⟩) p.length cap1, rfl, h1⟩, HF.out.grown h2 (fun k hk => .inr (by cases hk; exact Nat.le_refl _))⟩

/-- A machine that is new. -/
def NewPost (w : World) (e : Ending) (w' : World) : Prop := ∃ mb, e = .returned (.pointer (some ⟨mb, 0, none⟩)) ∧ Fr (fun _ => False) w w' ∧ w.heap.size ≤ mb ∧ MX (fun k => k = mb) w' mb ⟨[], [], [], []⟩
set_option maxRecDepth 100000 in
set_option maxHeartbeats 1000000 in
theorem new_any (w : World) : Calls Try.prog 7 #[] w fun e w' => NewPost w e w' := by
  have HE : Hid (NewPost w (.returned (.pointer (some ⟨w.heap.size, 0, none⟩))) (w.alloc (.cells #[.slice none 0 0, .slice none 0 0, .slice none 0 0, .slice none 0 0] 59))) := by
    refine ⟨w.heap.size, rfl, (Fr.refl _ w).alloc _, Nat.le_refl _, fun _ => False, .slice none 0 0, .slice none 0 0, .slice none 0 0, none, 0, [], [], ?_⟩
    exact {
      blk := Blk.new w _ _
      f := World.ownsRow_nil _ _ _ _
      u := World.ownsRow_nil _ _ _ _
      r := World.ownsRow_nil _ _ _ _
      p := fun h => absurd rfl h
      pd := fun h => absurd h (by simp)
      pl := Nat.le_refl _
      pm := by simp [maxLen]
      fl := rfl
      fe := fun i h => absurd h (by simp)
      rl := rfl
      re := fun i h => absurd h (by simp)
      om := rfl
      dm := fun h => h
      bf := fun k h => by cases h
      bu := fun k h => by cases h
      br := fun k h => by cases h
      fu := fun k h => by cases h
      fr := fun k h => by cases h
      ur := fun k h => by cases h
      od := fun k h => h.elim
      os := fun k h => by subst h; rw [World.size_alloc]; omega }
  go_enter Try.func7, Try.ntmps7
  go_wp2_with fail
  go_ret
  exact HE.out
section
variable {O D : Nat → Prop} {w : World} {mb : Nat} {s : St} {fv uv rv : Value} {pa : Option Addr} {pc : Nat} {XF : List Xv} {XR : List Uv}
set_option maxRecDepth 100000 in
set_option maxHeartbeats 1000000 in
theorem plan_any (h : MI O D w mb s fv uv rv pa pc XF XR) (p : List Bool) (ad : Option Addr) (cap : Nat) (hp : Bools w ad p) (hl : p.length ≤ 140737488351232) :
    Calls Try.prog 8 #[.pointer (some ⟨mb, 0, none⟩), .slice ad p.length cap] w fun e w' => e = .returned (.tuple #[]) ∧ Next O w mb { s with p := p } w' := by
  have HM := hid h
  have HC := hid (cloneP_any w p ad cap hp hl)
  clear h hp
  go_enter Try.func8, Try.ntmps8
  go_wp2_with fail
  refine HC.out.mono ?_
  rintro e w1 ⟨⟨v, rfl, o1⟩, f1⟩
  obtain ⟨a1, k1, rfl⟩ := own_len o1
  have m1 := (HM.out.keep0 f1).ext (E := Bt w.heap.size w1.heap.size) (fun i hi => ⟨fun ho => by have := HM.out.os i ho; have := hi.1; omega, hi.2⟩)
  have m2 := m1.plan p a1 k1 (bools_own o1) ((dn_own o1 (Nat.le_refl _)).mono (fun k hk => .inr hk)) (own_cap o1).2.1 (own_cap o1).2.2
  have c3 := (HM.out.keep0 f1).cells.2.2.2
  have z3 := (HM.out.keep0 f1).blk.frozen 3
  have HE : Hid (Next O w mb { s with p := p } (w1.setCell ⟨mb, 3, none⟩ (.slice a1 p.length k1))) := ⟨f1.upO.setCell (.inl HM.out.om) _, _, ⟨_, _, _, _, _, _, _, _, m2⟩, fun k hk => hk.elim .inl (fun hk => .inr hk.1)⟩
  clear o1 m1 m2 f1
  go_wp2_with fail
  go_end0
  exact ⟨rfl, HE.out⟩
set_option maxRecDepth 100000 in
set_option maxHeartbeats 1000000 in
theorem reset_any (h : MI O D w mb s fv uv rv pa pc XF XR) :
    Calls Try.prog 9 #[.pointer (some ⟨mb, 0, none⟩)] w fun e w' => e = .returned (.tuple #[]) ∧ Next O w mb ⟨[], [], [], s.p⟩ w' := by
  have m1 := h.files (f' := []) (XF' := []) (fv' := .slice none 0 0) (Fr.refl _ _) (World.ownsRow_nil _ _ _ _) (fun k hk => by cases hk) rfl (fun i h => absurd h (by simp))
  have m2 := m1.users (u' := []) (uv' := .slice none 0 0) (Fr.refl _ _) (World.ownsRow_nil _ _ _ _) (fun k hk => by cases hk)
  have m3 := m2.units (r' := []) (XR' := []) (rv' := .slice none 0 0) (Fr.refl _ _) (World.ownsRow_nil _ _ _ _) (fun k hk => by cases hk) rfl (fun i h => absurd h (by simp))
  obtain ⟨c0, c1, c2, _⟩ := h.cells
  have z0 := h.blk.frozen 0
  have z1 := h.blk.frozen 1
  have z2 := h.blk.frozen 2
  have HE : Hid (Next O w mb ⟨[], [], [], s.p⟩ (((w.setCell ⟨mb, 0, none⟩ (.slice none 0 0)).setCell ⟨mb, 1, none⟩ (.slice none 0 0)).setCell ⟨mb, 2, none⟩ (.slice none 0 0))) :=
    ⟨(((Fr.refl O w).setCell (p := ⟨mb, 0, none⟩) (.inl h.om) _).setCell (p := ⟨mb, 1, none⟩) (.inl h.om) _).setCell (p := ⟨mb, 2, none⟩) (.inl h.om) _, _, ⟨_, _, _, _, _, _, _, _, m3⟩, fun k hk => by
      rcases hk with ((hk | hk) | hk) | hk
      · exact .inl hk
      · cases hk
      · cases hk
      · cases hk⟩
  clear h m1 m2 m3
  go_enter Try.func9, Try.ntmps9
  go_wp2_with fail
  go_end0
  exact ⟨rfl, HE.out⟩
end
end Go.Proofs.Ytangnoicnogddaa.Tr
/- The contracts of filesNow, runningNow, usersNow. -/
namespace Go.Proofs.Ytangnoicnogddaa.Tr
open Go.RowKit

/-- Blocks made between w and W, but for v's own. -/
def Nb (w W : World) (v : Value) (k : Nat) : Prop := Bt w.heap.size W.heap.size k ∧ v.ownBlock ≠ some k

/-- The first i of L, copied into a row v. -/
def ObF (w W : World) (L : List Ent) (i : Nat) (v : Value) : Prop := Fr (fun _ => False) w W ∧ ∃ X : List Xv, X.length = i ∧ W.ownsRow w.heap.size 39 3 v i (flatE X) ∧ ∀ j (h1 : j < L.length) (h2 : j < X.length), EK (Nb w W v) W L[j] X[j]
theorem ObF.step {w wr : World} {L : List Ent} {i : Nat} {v : Value} {X : List Xv} (f : Fr (fun _ => False) w wr) (hX : X.length = i) (o : wr.ownsRow w.heap.size 39 3 v i (flatE X)) (he : ∀ j (h1 : j < L.length) (h2 : j < X.length), EK (Nb w wr v) wr L[j] X[j]) (hi : i < L.length)
    {W1 w4 : World} {y : Xv} (f1 : Fr (fun _ => False) wr W1) (hp : CofPost W1 L[i] (.returned (Xv.v y)) w4) {g c : Nat} {W5 : World} (o5 : W5.ownsRow w.heap.size 39 3 (.slice (some ⟨g, 0, none⟩) (i + 1) c) (i + 1) (flatE X ++ y.cs)) (hg : (xBox w4 y).grownBy W5 v.ownBlock) (hgb : v.ownBlock = some g ∨ g = (xBox w4 y).heap.size) :
    ObF w W5 L (i + 1) (.slice (some ⟨g, 0, none⟩) (i + 1) c) := by
  obtain ⟨f4, y', hy, uk⟩ := hp
  have hy' : y.v = y'.v := by injection hy
  have uk' := ek_cs uk (yv_inj hy').symm
  have fA : Fr (fun _ => False) w4 (xBox w4 y) := (Fr.refl _ _).alloc _
  have F4 : Fr (fun _ => False) wr (xBox w4 y) := (f1.trans f4 (fun _ h => h.elim)).trans fA (fun _ h => h.elim)
  have F5 : Fr (fun k => v.ownBlock = some k) (xBox w4 y) W5 := (Fr.refl _ _).grown hg (fun k hk => .inl hk)
  have hvb := own_lt o
  have s1 := f.size
  have s2 := f1.size
  have s3 := f4.size
  have s4 : (xBox w4 y).heap.size = w4.heap.size + 1 := by rw [World.size_alloc]
  have s5 := F5.size
  have hgk : ∀ k, (Value.slice (some ⟨g, 0, none⟩) (i + 1) c).ownBlock = some k → v.ownBlock = some k ∨ k = w4.heap.size + 1 := fun k hk => by
    obtain rfl : g = k := by simpa [Value.ownBlock] using hk
    rcases hgb with h | h
    · exact .inl h
    · exact .inr (by omega)
  refine ⟨(f.trans F4 (fun _ h => h.elim)).grown hg (fun k hk => .inr (hvb k hk).1), X ++ [y], by simp [hX], by rw [flatE_app]; simpa [flatE] using o5, fun j h1 h2 => ?_⟩
  by_cases hj : j < X.length
  · rw [List.getElem_append_left hj]
    refine ((he j h1 hj).on (fun k hk => ?_)).mono (fun k hk => ⟨⟨hk.1.1, by have := hk.1.2; omega⟩, fun e => (hgk k e).elim hk.2 (fun h => by have := hk.1.2; omega)⟩)
    have hlt : k < (xBox w4 y).heap.size := by have := hk.1.2; omega
    exact (F5.block k hlt hk.2).trans (F4.block k hk.1.2 (fun h => h))
  · have hj' : j = i := by simp at h2; omega
    subst hj'
    have e : (X ++ [y])[j] = y := by
      rw [List.getElem_append_right (by omega)]; simp [hX]
    rw [e]
    have hne : ∀ k, Bt W1.heap.size w4.heap.size k → v.ownBlock ≠ some k := fun k hk e => by
      have := (hvb k e).2
      have := hk.1
      omega
    refine (uk'.on (fun k hk => ?_)).mono (fun k hk => ⟨⟨by have := hk.1; omega, by have := hk.2; omega⟩, fun e => (hgk k e).elim (hne k hk) (fun h => by have := hk.2; omega)⟩)
    exact (F5.block k (by have := hk.2; omega) (hne k hk)).trans (fA.block k hk.2 (fun h => h))
theorem mkF (w : World) (m : Nat) (hm : m ≤ 1000000) : ∃ cur, (Instr.makeSlice 29 (.int .i64 0) (.int .i64 (m : Int))).run Try.prog w = .ok (.slice (some ⟨w.heap.size, 0, none⟩) 0 m) (w.alloc (.cells cur 39)) ∧ cur.size = m * 3 := by
  obtain ⟨i0, hi0, hz0, hz1, hz2⟩ := info_parts infoE
  have h := run_make (P := Try.prog) w 29 39 i0 xZ.v Try.underlying29 hi0 hz0 .i64 .i64 0 m (by omega) (by omega) (by rw [hz2]; omega) (by omega)
  refine ⟨_, h, ?_⟩
  rw [hz1, Int.toNat_natCast]
  exact size_madeCells _ _
section
variable {O D : Nat → Prop} {w : World} {mb : Nat} {s : St} {fv uv rv : Value} {pa : Option Addr} {pc : Nat} {XF : List Xv} {XR : List Uv}
set_option maxRecDepth 100000 in
set_option maxHeartbeats 8000000 in
theorem nowF_any (h : MI O D w mb s fv uv rv pa pc XF XR) (hl : s.f.length ≤ 24) :
    Calls Try.prog 25 #[.pointer (some ⟨mb, 0, none⟩)] w fun e w' => ∃ v, e = .returned v ∧ ObF w w' s.f s.f.length v := by
  have HM := hid h
  obtain ⟨fa, fc, ua, uc, ra, rc, rfl, rfl, rfl⟩ := h.rows
  have c0 := h.cells.1
  obtain ⟨cur, hmk, hcs⟩ := mkF w s.f.length (by omega)
  have f0 : Fr (fun _ => False) w (w.alloc (.cells cur 39)) := (Fr.refl _ w).alloc _
  have HO0 : Hid (ObF w (w.alloc (.cells cur 39)) s.f 0 (.slice (some ⟨w.heap.size, 0, none⟩) 0 s.f.length)) :=
    ⟨f0, [], rfl, World.ownsRow_made w cur _ (Nat.le_refl _) (by unfold maxLen; omega) hcs, fun j _ h => absurd h (by simp)⟩
  have c0' := cell_fr f0 c0
  have hne : ∀ i, i < s.f.length → flatE XF ≠ [] := fun i hi e => by have := flatE_len XF; rw [e] at this; simp at this; have := h.fl; omega
  have HEL : Hid (∀ i (hi : i < s.f.length), ∃ g, fa = some ⟨g, 0, none⟩ ∧ ∃ x, (∀ W, Fr (fun _ => False) w W → ∀ j v, (Xv.cs x)[j]? = some v → W.cell? ⟨g, i * 3 + j, none⟩ = some v) ∧ ∀ W, Fr (fun _ => False) w W → Calls Try.prog 45 #[x.v] W fun e w' => CofPost W s.f[i] e w') := fun i hi => by
    obtain ⟨g, c, e, _, hc⟩ := own_cell h.f (hne i hi)
    cases e
    have hx : i < XF.length := by rw [h.fl]; exact hi
    refine ⟨g, rfl, XF[i], fun W f j v hv => cell_fr f (hc _ v (by rw [flatE_at XF i j hx (List.getElem?_eq_some_iff.1 hv).1]; exact hv)), fun W f => ?_⟩
    have hk := h.fe i hi hx
    rw [hk.v_eq]; exact cofile_any W _ _ _ (hk.v.fr f)
  clear h hne f0 hcs
  go_enter Try.func25, Try.ntmps25
  go_wp2_with fail
  go_loopw [3, 5, 17] (fun ov _ iv wr => ∃ i : Nat, i ≤ s.f.length ∧ iv = .int .i64 (i : Int) ∧ ObF w wr s.f i ov) (fun _ _ iv _ => s.f.length - (intOf iv).toNat)
  case atStart => exact ⟨0, Nat.zero_le _, rfl, HO0.out⟩
  case round =>
    obtain ⟨i, hi, rfl, hO⟩ := hrel
    by_cases hlt : i < s.f.length
    · have hi1 : (i : Int) < ((s.f.length : Nat) : Int) := by omega
      have hi0 : (0 : Int) ≤ (i : Int) := Int.natCast_nonneg _
      obtain ⟨g, hg, x, hx1, hx2⟩ := HEL.out i hlt
      subst hg
      obtain ⟨f, X, hX, o, he⟩ := hO
      obtain ⟨va, vc, rfl⟩ := own_len o
      have k0 := hx1 _ f 0 _ rfl
      have k1 := hx1 _ f 1 _ rfl
      have k2 := hx1 _ f 2 _ rfl
      have HW1 : Hid (Fr (fun _ => False) wr (xBox wr x)) := (Fr.refl _ wr).alloc _
      have HC1 := hid (hx2 _ (f.trans HW1.out (fun _ h => h.elim)))
      have HSt := hid (fun (w4 : World) (y : Xv) (hp : CofPost (xBox wr x) s.f[i] (.returned (Xv.v y)) w4) (g c : Nat) (W5 : World) => ObF.step (g := g) (c := c) (W5 := W5) f hX o he hlt HW1.out hp)
      have HOw := hid (fun (w4 : World) (y : Xv) (hp : CofPost (xBox wr x) s.f[i] (.returned (Xv.v y)) w4) => show (xBox w4 y).ownsRow w.heap.size 39 3 (.slice va i vc) i (flatE X) ∧ w.heap.size ≤ (xBox w4 y).heap.size from ⟨own_fr o (((HW1.out.trans hp.1 (fun _ h => h.elim)).alloc _)) (fun _ _ h => h), by have := f.size; have := HW1.out.size; have := hp.1.size; rw [World.size_alloc]; omega⟩)
      clear hx1 hx2 f o he hX HEL HO0 c0 c0' hmk
      obtain ⟨i0, hI0, hz0, hz1, hz2⟩ := info_parts infoE
      obtain ⟨xp, xk, xa, xl, xc⟩ := x
      simp only [Xv.v, Xv.cs, Nat.add_zero] at HC1 k0 k1 k2
      go_wp2_with fail
      refine HC1.out.mono ?_
      rintro e w4 hp
      obtain ⟨_, y, rfl, _⟩ := id hp
      have HS4 := hid (HSt.out w4 y hp)
      have HO4 := hid (HOw.out w4 y hp)
      have HB4 := hid (xBlk w4 y)
      clear hp HC1 HSt HOw
      obtain ⟨yp, yk, ya, yl, yc⟩ := y
      simp only [Xv.v, Xv.cs] at *
      go_wp2_with (at_builtin; refine Hid.out ?_)
      refine wpList_append_lies _ (by rfl) _ _ 29 (by rfl) w.heap.size 39 i0 xZ.v 3 48 Try.underlying29 hI0 hz0 hz1 hz2 rfl (by omega) (.slice va i vc) i (flatE X) (by rfl) HO4.out.1 ⟨w4.heap.size, 0, none⟩ 1 1 (Xv.cs ⟨yp, yk, ya, yl, yc⟩) (by rfl) (by rfl) (fun j u hu => by rw [Addr.add_lit, Nat.zero_add]; exact (HB4.out.cell j).trans hu) (xv_one _) (by omega) (by unfold maxLen; omega) (by omega) HO4.out.2 _ rfl ?_
      intro g5 c5 W5 o5 h5 hgb5 _
      have HO5 := hid (HS4.out g5 c5 W5 o5 h5 hgb5)
      clear o5 h5 hgb5
      go_wp2_with fail
      exact ⟨⟨i + 1, by omega, by go_num, HO5.out⟩, by simp [intOf]; omega⟩
    · obtain rfl : i = s.f.length := by omega
      have hkn : ¬ ((s.f.length : Nat) : Int) < ((s.f.length : Nat) : Int) := by omega
      have HO := hid hO
      clear hO
      go_wp2
      go_ret
      exact ⟨_, rfl, HO.out⟩
end

/-- The first i of L, copied into a row v. -/
def ObU (w W : World) (L : List Ut) (i : Nat) (v : Value) : Prop := Fr (fun _ => False) w W ∧ ∃ X : List Uv, X.length = i ∧ W.ownsRow w.heap.size 41 4 v i (flatU X) ∧ ∀ j (h1 : j < L.length) (h2 : j < X.length), UK (Nb w W v) W L[j] X[j]
theorem ObU.step {w wr : World} {L : List Ut} {i : Nat} {v : Value} {X : List Uv} (f : Fr (fun _ => False) w wr) (hX : X.length = i) (o : wr.ownsRow w.heap.size 41 4 v i (flatU X)) (he : ∀ j (h1 : j < L.length) (h2 : j < X.length), UK (Nb w wr v) wr L[j] X[j]) (hi : i < L.length)
    {W1 w4 : World} {y : Uv} (f1 : Fr (fun _ => False) wr W1) (hp : CopPost W1 L[i] (.returned (Uv.v y)) w4) {g c : Nat} {W5 : World} (o5 : W5.ownsRow w.heap.size 41 4 (.slice (some ⟨g, 0, none⟩) (i + 1) c) (i + 1) (flatU X ++ y.cs)) (hg : (uBox w4 y).grownBy W5 v.ownBlock) (hgb : v.ownBlock = some g ∨ g = (uBox w4 y).heap.size) :
    ObU w W5 L (i + 1) (.slice (some ⟨g, 0, none⟩) (i + 1) c) := by
  obtain ⟨f4, y', hy, uk⟩ := hp
  have hy' : y.v = y'.v := by injection hy
  have uk' := uk_cs uk (uv_inj hy').symm
  have fA : Fr (fun _ => False) w4 (uBox w4 y) := (Fr.refl _ _).alloc _
  have F4 : Fr (fun _ => False) wr (uBox w4 y) := (f1.trans f4 (fun _ h => h.elim)).trans fA (fun _ h => h.elim)
  have F5 : Fr (fun k => v.ownBlock = some k) (uBox w4 y) W5 := (Fr.refl _ _).grown hg (fun k hk => .inl hk)
  have hvb := own_lt o
  have s1 := f.size
  have s2 := f1.size
  have s3 := f4.size
  have s4 : (uBox w4 y).heap.size = w4.heap.size + 1 := by rw [World.size_alloc]
  have s5 := F5.size
  have hgk : ∀ k, (Value.slice (some ⟨g, 0, none⟩) (i + 1) c).ownBlock = some k → v.ownBlock = some k ∨ k = w4.heap.size + 1 := fun k hk => by
    obtain rfl : g = k := by simpa [Value.ownBlock] using hk
    rcases hgb with h | h
    · exact .inl h
    · exact .inr (by omega)
  refine ⟨(f.trans F4 (fun _ h => h.elim)).grown hg (fun k hk => .inr (hvb k hk).1), X ++ [y], by simp [hX], by rw [flatU_app]; simpa [flatU] using o5, fun j h1 h2 => ?_⟩
  by_cases hj : j < X.length
  · rw [List.getElem_append_left hj]
    refine ((he j h1 hj).on (fun k hk => ?_)).mono (fun k hk => ⟨⟨hk.1.1, by have := hk.1.2; omega⟩, fun e => (hgk k e).elim hk.2 (fun h => by have := hk.1.2; omega)⟩)
    have hlt : k < (uBox w4 y).heap.size := by have := hk.1.2; omega
    exact (F5.block k hlt hk.2).trans (F4.block k hk.1.2 (fun h => h))
  · have hj' : j = i := by simp at h2; omega
    subst hj'
    have e : (X ++ [y])[j] = y := by
      rw [List.getElem_append_right (by omega)]; simp [hX]
    rw [e]
    have hne : ∀ k, Bt W1.heap.size w4.heap.size k → v.ownBlock ≠ some k := fun k hk e => by
      have := (hvb k e).2
      have := hk.1
      omega
    refine (uk'.on (fun k hk => ?_)).mono (fun k hk => ⟨⟨by have := hk.1; omega, by have := hk.2; omega⟩, fun e => (hgk k e).elim (hne k hk) (fun h => by have := hk.2; omega)⟩)
    exact (F5.block k (by have := hk.2; omega) (hne k hk)).trans (fA.block k hk.2 (fun h => h))
theorem mkU (w : World) (m : Nat) (hm : m ≤ 1000000) : ∃ cur, (Instr.makeSlice 31 (.int .i64 0) (.int .i64 (m : Int))).run Try.prog w = .ok (.slice (some ⟨w.heap.size, 0, none⟩) 0 m) (w.alloc (.cells cur 41)) ∧ cur.size = m * 4 := by
  obtain ⟨i0, hi0, hz0, hz1, hz2⟩ := info_parts infoU
  have h := run_make (P := Try.prog) w 31 41 i0 uZ.v Try.underlying31 hi0 hz0 .i64 .i64 0 m (by omega) (by omega) (by rw [hz2]; omega) (by omega)
  refine ⟨_, h, ?_⟩
  rw [hz1, Int.toNat_natCast]
  exact size_madeCells _ _
section
variable {O D : Nat → Prop} {w : World} {mb : Nat} {s : St} {fv uv rv : Value} {pa : Option Addr} {pc : Nat} {XF : List Xv} {XR : List Uv}
set_option maxRecDepth 100000 in
set_option maxHeartbeats 8000000 in
theorem nowU_any (h : MI O D w mb s fv uv rv pa pc XF XR) (hl : s.r.length ≤ 24) :
    Calls Try.prog 27 #[.pointer (some ⟨mb, 2, none⟩)] w fun e w' => ∃ v, e = .returned v ∧ ObU w w' s.r s.r.length v := by
  have HM := hid h
  obtain ⟨fa, fc, ua, uc, ra, rc, rfl, rfl, rfl⟩ := h.rows
  have c0 := h.cells.2.2.1
  obtain ⟨cur, hmk, hcs⟩ := mkU w s.r.length (by omega)
  have f0 : Fr (fun _ => False) w (w.alloc (.cells cur 41)) := (Fr.refl _ w).alloc _
  have HO0 : Hid (ObU w (w.alloc (.cells cur 41)) s.r 0 (.slice (some ⟨w.heap.size, 0, none⟩) 0 s.r.length)) :=
    ⟨f0, [], rfl, World.ownsRow_made w cur _ (Nat.le_refl _) (by unfold maxLen; omega) hcs, fun j _ h => absurd h (by simp)⟩
  have c0' := cell_fr f0 c0
  have hne : ∀ i, i < s.r.length → flatU XR ≠ [] := fun i hi e => by have := flatU_len XR; rw [e] at this; simp at this; have := h.rl; omega
  have HEL : Hid (∀ i (hi : i < s.r.length), ∃ g, ra = some ⟨g, 0, none⟩ ∧ ∃ x, (∀ W, Fr (fun _ => False) w W → ∀ j v, (Uv.cs x)[j]? = some v → W.cell? ⟨g, i * 4 + j, none⟩ = some v) ∧ ∀ W, Fr (fun _ => False) w W → Calls Try.prog 50 #[x.v] W fun e w' => CopPost W s.r[i] e w') := fun i hi => by
    obtain ⟨g, c, e, _, hc⟩ := own_cell h.r (hne i hi)
    cases e
    have hx : i < XR.length := by rw [h.rl]; exact hi
    refine ⟨g, rfl, XR[i], fun W f j v hv => cell_fr f (hc _ v (by rw [flatU_at XR i j hx (List.getElem?_eq_some_iff.1 hv).1]; exact hv)), fun W f => ?_⟩
    have hk := h.re i hi hx
    exact ucopy_any W _ _ (hk.u.env (Env.of f))
  clear h hne f0 hcs
  go_enter Try.func27, Try.ntmps27
  go_wp2_with fail
  go_loopw [3, 5, 17] (fun ov _ iv wr => ∃ i : Nat, i ≤ s.r.length ∧ iv = .int .i64 (i : Int) ∧ ObU w wr s.r i ov) (fun _ _ iv _ => s.r.length - (intOf iv).toNat)
  case atStart => exact ⟨0, Nat.zero_le _, rfl, HO0.out⟩
  case round =>
    obtain ⟨i, hi, rfl, hO⟩ := hrel
    by_cases hlt : i < s.r.length
    · have hi1 : (i : Int) < ((s.r.length : Nat) : Int) := by omega
      have hi0 : (0 : Int) ≤ (i : Int) := Int.natCast_nonneg _
      obtain ⟨g, hg, x, hx1, hx2⟩ := HEL.out i hlt
      subst hg
      obtain ⟨f, X, hX, o, he⟩ := hO
      obtain ⟨va, vc, rfl⟩ := own_len o
      have k0 := hx1 _ f 0 _ rfl
      have k1 := hx1 _ f 1 _ rfl
      have k2 := hx1 _ f 2 _ rfl
      have k3 := hx1 _ f 3 _ rfl
      have HW1 : Hid (Fr (fun _ => False) wr (uBox wr x)) := (Fr.refl _ wr).alloc _
      have HC1 := hid (hx2 _ (f.trans HW1.out (fun _ h => h.elim)))
      have HSt := hid (fun (w4 : World) (y : Uv) (hp : CopPost (uBox wr x) s.r[i] (.returned (Uv.v y)) w4) (g c : Nat) (W5 : World) => ObU.step (g := g) (c := c) (W5 := W5) f hX o he hlt HW1.out hp)
      have HOw := hid (fun (w4 : World) (y : Uv) (hp : CopPost (uBox wr x) s.r[i] (.returned (Uv.v y)) w4) => show (uBox w4 y).ownsRow w.heap.size 41 4 (.slice va i vc) i (flatU X) ∧ w.heap.size ≤ (uBox w4 y).heap.size from ⟨own_fr o (((HW1.out.trans hp.1 (fun _ h => h.elim)).alloc _)) (fun _ _ h => h), by have := f.size; have := HW1.out.size; have := hp.1.size; rw [World.size_alloc]; omega⟩)
      clear hx1 hx2 f o he hX HEL HO0 c0 c0' hmk
      obtain ⟨i0, hI0, hz0, hz1, hz2⟩ := info_parts infoU
      obtain ⟨xn, xs, xra, xrl, xrc, xaa, xal, xac⟩ := x
      simp only [Uv.v, Uv.cs, Nat.add_zero] at HC1 k0 k1 k2 k3
      go_wp2_with fail
      refine HC1.out.mono ?_
      rintro e w4 hp
      obtain ⟨_, y, rfl, _⟩ := id hp
      have HS4 := hid (HSt.out w4 y hp)
      have HO4 := hid (HOw.out w4 y hp)
      have HB4 := hid (uBlk w4 y)
      clear hp HC1 HSt HOw
      obtain ⟨yn, ys, yra, yrl, yrc, yaa, yal, yac⟩ := y
      simp only [Uv.v, Uv.cs] at *
      go_wp2_with (at_builtin; refine Hid.out ?_)
      refine wpList_append_lies _ (by rfl) _ _ 31 (by rfl) w.heap.size 41 i0 uZ.v 4 80 Try.underlying31 hI0 hz0 hz1 hz2 rfl (by omega) (.slice va i vc) i (flatU X) (by rfl) HO4.out.1 ⟨w4.heap.size, 0, none⟩ 1 1 (Uv.cs ⟨yn, ys, yra, yrl, yrc, yaa, yal, yac⟩) (by rfl) (by rfl) (fun j u hu => by rw [Addr.add_lit, Nat.zero_add]; exact (HB4.out.cell j).trans hu) (uv_one _) (by omega) (by unfold maxLen; omega) (by omega) HO4.out.2 _ rfl ?_
      intro g5 c5 W5 o5 h5 hgb5 _
      have HO5 := hid (HS4.out g5 c5 W5 o5 h5 hgb5)
      clear o5 h5 hgb5
      go_wp2_with fail
      exact ⟨⟨i + 1, by omega, by go_num, HO5.out⟩, by simp [intOf]; omega⟩
    · obtain rfl : i = s.r.length := by omega
      have hkn : ¬ ((s.r.length : Nat) : Int) < ((s.r.length : Nat) : Int) := by omega
      have HO := hid hO
      clear hO
      go_wp2
      go_ret
      exact ⟨_, rfl, HO.out⟩
end
end Go.Proofs.Ytangnoicnogddaa.Tr
/- The contracts of usersNow, Observe and of the document's Same. -/
namespace Go.Proofs.Ytangnoicnogddaa.Tr
open Go.RowKit

theorem ObF.ents {w W W' : World} {L : List Ent} {ad : Option Addr} {n cap : Nat} (h : ObF w W L L.length (.slice ad n cap)) (hO : On (Bt w.heap.size W.heap.size) W W') : Ents W' ad L := fun hne => by
  obtain ⟨_, X, hX, o, he⟩ := h
  have hpos : 0 < L.length := List.length_pos_iff.2 hne
  obtain ⟨g, c, e, hb, hc⟩ := own_cell o (fun e => by have := flatE_len X; rw [e] at this; simp at this; omega)
  cases e
  have hg := own_lt o g rfl
  refine ⟨g, 0, rfl, fun i hi => ?_⟩
  have hx : i < X.length := by omega
  have hcc : ∀ j v, (X[i]).cs[j]? = some v → W'.cell? ⟨g, i * 3 + j, none⟩ = some v := fun j v hv => hO.cell ⟨hg.1, hg.2⟩ (hc _ v (by rw [flatE_at X i j hx (List.getElem?_eq_some_iff.1 hv).1]; exact hv))
  have ek := (he i hi hx).on (fun k hk => hO k hk.1)
  have k0 := hcc 0 _ rfl
  have k1 := hcc 1 _ rfl
  have k2 := hcc 2 _ rfl
  rw [ek.p] at k0
  rw [ek.k] at k1
  rw [ek.l] at k2
  simp only [Nat.zero_add]
  exact ⟨_, _, k0, k1, k2, ek.v⟩
theorem ObU.us {w W W' : World} {L : List Ut} {ad : Option Addr} {n cap : Nat} (h : ObU w W L L.length (.slice ad n cap)) (hO : On (Bt w.heap.size W.heap.size) W W') : Us W' W' L ad := fun hne => by
  obtain ⟨_, X, hX, o, he⟩ := h
  have hpos : 0 < L.length := List.length_pos_iff.2 hne
  obtain ⟨g, c, e, hb, hc⟩ := own_cell o (fun e => by have := flatU_len X; rw [e] at this; simp at this; omega)
  cases e
  have hg := own_lt o g rfl
  refine ⟨g, 0, rfl, fun i hi => ?_⟩
  have hx : i < X.length := by omega
  refine ⟨X[i], fun j v hv => ?_, ((he i hi hx).on (fun k hk => hO k hk.1)).u⟩
  rw [Nat.zero_add]
  exact hO.cell ⟨hg.1, hg.2⟩ (hc _ v (by rw [flatU_at X i j hx (List.getElem?_eq_some_iff.1 hv).1]; exact hv))
theorem own_view {W W' : World} {L : List Nm} {ad : Option Addr} {n cap B : Nat} (o : W.ownsRow B 9 1 (.slice ad n cap) L.length (strC L)) (hO : ∀ k, Bt B W.heap.size k → W'.heap[k]? = W.heap[k]?) : Strs W' ad L := by
  refine (strs_own o).on (D := Bt B W.heap.size) (fun _ x hx => ?_) hO
  subst hx
  exact own_lt o x.block rfl
/-- An observed machine's three cells. -/
structure Ov where
  fa : Option Addr
  fl : Nat
  fc : Nat
  ua : Option Addr
  ul : Nat
  uc : Nat
  ra : Option Addr
  rl : Nat
  rc : Nat
def Ov.cs (o : Ov) : List Value := [.slice o.fa o.fl o.fc, .slice o.ua o.ul o.uc, .slice o.ra o.rl o.rc]
def Ov.v (o : Ov) : Value := .agg o.cs.toArray
abbrev oBox (w : World) (o : Ov) : World := w.alloc (.cells o.cs.toArray 33)
/-- What is told of s lies at o. -/
structure OIn (W : World) (s : St) (o : Ov) : Prop where
  fl : o.fl = s.f.length
  ul : o.ul = s.u.length
  rl : o.rl = s.r.length
  f : Ents W o.fa s.f
  u : Strs W o.ua s.u
  r : Us W W s.r o.ra
theorem OIn.env {W W' : World} {s : St} {o : Ov} (h : OIn W s o) (f : Fr (fun _ => False) W W') : OIn W' s o := ⟨h.fl, h.ul, h.rl, h.f.fr f, h.u.env (Env.of f), (h.r.env (Env.of f)).up (Env.of f)⟩
theorem OIn.like {W : World} {s t : St} {o : Ov} (h : OIn W s o) (l : Lk s t) : OIn W t o := by
  obtain ⟨h1, h2, h3⟩ := l
  exact ⟨by rw [h1]; exact h.fl, by rw [h2]; exact h.ul, by rw [h3]; exact h.rl, by rw [h1]; exact h.f, by rw [h2]; exact h.u, by rw [h3]; exact h.r⟩
theorem resO {fn : Func} {p : Tmp} (h : fn.results = #[.cell p 33]) {a : Act} {W : World} {b : Nat} {t : TypeId} {x : Ov} (ha : a.tmps.getD p undef = .pointer (some ⟨b, 0, none⟩)) (hb : Blk W b t x.cs) :
    (results fn a.tmps).run Try.prog W = .ok x.v W :=
  results_cell_row h a.tmps W b t x.cs.toArray (0, 0) _ ha hb Try.underlying33 rfl (by kernel_rfl)
def ObsPost (w : World) (s : St) (e : Ending) (w' : World) : Prop := Fr (fun _ => False) w w' ∧ ∃ o : Ov, e = .returned o.v ∧ ∀ W, On (Bt w.heap.size w'.heap.size) w' W → OIn W s o
section
variable {O D : Nat → Prop} {w : World} {mb : Nat} {s : St} {fv uv rv : Value} {pa : Option Addr} {pc : Nat} {XF : List Xv} {XR : List Uv}
set_option maxRecDepth 100000 in
set_option maxHeartbeats 1000000 in
theorem usersNow_any (h : MI O D w mb s fv uv rv pa pc XF XR) (hl : s.u.length ≤ lim16) :
    Calls Try.prog 26 #[.pointer (some ⟨mb, 0, none⟩)] w fun e w' => (∃ v, e = .returned v ∧ w'.ownsRow w.heap.size 9 1 v s.u.length (strC s.u)) ∧ Fr (fun _ => False) w w' := by
  obtain ⟨fa, fc, ua, uc, ra, rc, rfl, rfl, rfl⟩ := h.rows
  have c1 := h.cells.2.1
  have HC := hid (cloneS_any w s.u ua uc h.strs hl)
  clear h hl
  go_enter Try.func26, Try.ntmps26
  go_wp2_with fail
  refine HC.out.mono ?_
  rintro e w1 ⟨⟨v, rfl, o1⟩, f1⟩
  obtain ⟨a1, k1, rfl⟩ := own_len o1
  have HO := hid o1
  have HF := hid f1
  clear o1 f1
  go_wp2_with fail
  go_ret
  exact ⟨⟨_, rfl, HO.out⟩, HF.out⟩
set_option maxRecDepth 100000 in
set_option maxHeartbeats 4000000 in
theorem obs_any (h : MI O D w mb s fv uv rv pa pc XF XR) (hs : s.ok) :
    Calls Try.prog 13 #[.pointer (some ⟨mb, 0, none⟩)] w fun e w' => ObsPost w s e w' := by
  have F0 : Hid (Fr (fun _ => False) w (w.alloc (.cells #[.slice none 0 0, .slice none 0 0, .slice none 0 0] 33))) := (Fr.refl _ w).alloc _
  have B0 : Hid (Blk (w.alloc (.cells #[.slice none 0 0, .slice none 0 0, .slice none 0 0] 33)) w.heap.size 33 [.slice none 0 0, .slice none 0 0, .slice none 0 0]) := Blk.new w _ _
  have hz : Hid ((w.alloc (.cells #[.slice none 0 0, .slice none 0 0, .slice none 0 0] 33)).heap.size = w.heap.size + 1) := by unfold Hid; rw [World.size_alloc]
  have HM := hid h
  have F0d : Hid (Fr (fun _ => False) w (w.alloc (.cells #[.slice none 0 0, .slice none 0 0, .slice none 0 0] 33)).drew) := F0.out.drew
  have B0d : Hid (Blk (w.alloc (.cells #[.slice none 0 0, .slice none 0 0, .slice none 0 0] 33)).drew w.heap.size 33 [.slice none 0 0, .slice none 0 0, .slice none 0 0]) := B0.out.drew
  have hzd : Hid ((w.alloc (.cells #[.slice none 0 0, .slice none 0 0, .slice none 0 0] 33)).drew.heap.size = w.heap.size + 1) := hz
  have HC1 := hid (nowF_any (HM.out.keep0 F0d.out) hs.fl)
  have HC2 := hid (fun (W : World) (f : Fr (fun _ => False) w W) => usersNow_any (HM.out.keep0 f) (by have := hs.ul; unfold lim16; omega))
  have HC3 := hid (fun (W : World) (f : Fr (fun _ => False) w W) => nowU_any (HM.out.keep0 f) hs.rl)
  clear h hs
  go_enter Try.func13, Try.ntmps13
  go_wp2_with fail
  go_region_with (first
    | (go_at_call 25; refine HC1.out.mono ?_; rintro e w1 ⟨v1, rfl, hO1⟩; have o1 := hO1.2.choose_spec.2.1; obtain ⟨a1, c1, rfl⟩ := own_len o1; have F1 := hid (F0d.out.trans hO1.1 (fun _ h => h.elim)); have O1 := hid hO1; clear hO1 o1)
    | (go_at_call 26; refine (HC2.out _ F1.out).mono ?_; rintro e w2 ⟨⟨v2, rfl, o2⟩, f2⟩; obtain ⟨a2, c2, rfl⟩ := own_len o2; have F2 := hid (F1.out.trans f2 (fun _ h => h.elim)); have O2 := hid o2; have G2 := hid f2; clear o2 f2)
    | (go_at_call 27; refine (HC3.out _ F2.out).mono ?_; rintro e w3 ⟨v3, rfl, hO3⟩; have o3 := hO3.2.choose_spec.2.1; obtain ⟨a3, c3, rfl⟩ := own_len o3; have F3 := hid (F2.out.trans hO3.1 (fun _ h => h.elim)); have O3 := hid hO3
       have B3 := hid ((((B0d.out.of_eq (O1.out.1.block _ B0d.out.lt (fun h => h))).of_eq (G2.out.block _ (Nat.lt_of_lt_of_le B0d.out.lt O1.out.1.size) (fun h => h))).of_eq (hO3.1.block _ (Nat.lt_of_lt_of_le (Nat.lt_of_lt_of_le B0d.out.lt O1.out.1.size) G2.out.size) (fun h => h))))
       clear hO3 o3; have d0 := B3.out.cell 0; have d1 := B3.out.cell 1; have d2 := B3.out.cell 2; simp only [List.getElem?_cons_zero, List.getElem?_cons_succ] at d0 d1 d2; have z0 := B3.out.frozen 0; have z1 := B3.out.frozen 1; have z2 := B3.out.frozen 2))
  go_wp2_with fail
  have B4 : Blk (((w3.setCell ⟨w.heap.size, 0, none⟩ (.slice a1 s.f.length c1)).setCell ⟨w.heap.size, 1, none⟩ (.slice a2 s.u.length c2)).setCell ⟨w.heap.size, 2, none⟩ (.slice a3 s.r.length c3)) w.heap.size 33 (Ov.cs ⟨a1, s.f.length, c1, a2, s.u.length, c2, a3, s.r.length, c3⟩) := ((B3.out.setCell 0 _).setCell 1 _).setCell 2 _
  have F4 : Fr (fun _ => False) w (((w3.setCell ⟨w.heap.size, 0, none⟩ (.slice a1 s.f.length c1)).setCell ⟨w.heap.size, 1, none⟩ (.slice a2 s.u.length c2)).setCell ⟨w.heap.size, 2, none⟩ (.slice a3 s.r.length c3)) :=
    ((F3.out.setCell (p := ⟨w.heap.size, 0, none⟩) (.inr (Nat.le_refl _)) _).setCell (p := ⟨w.heap.size, 1, none⟩) (.inr (Nat.le_refl _)) _).setCell (p := ⟨w.heap.size, 2, none⟩) (.inr (Nat.le_refl _)) _
  have e4 : ∀ k, w.heap.size < k → (((w3.setCell ⟨w.heap.size, 0, none⟩ (.slice a1 s.f.length c1)).setCell ⟨w.heap.size, 1, none⟩ (.slice a2 s.u.length c2)).setCell ⟨w.heap.size, 2, none⟩ (.slice a3 s.r.length c3)).heap[k]? = w3.heap[k]? := fun k hk => by
    rw [Below.heap_setCell _ _ _ k (by simp; omega), Below.heap_setCell _ _ _ k (by simp; omega), Below.heap_setCell _ _ _ k (by simp; omega)]
  have z4 : (((w3.setCell ⟨w.heap.size, 0, none⟩ (.slice a1 s.f.length c1)).setCell ⟨w.heap.size, 1, none⟩ (.slice a2 s.u.length c2)).setCell ⟨w.heap.size, 2, none⟩ (.slice a3 s.r.length c3)).heap.size = w3.heap.size := by simp [World.setCell]
  refine bodyPost_ret (resO rfl rfl B4) rfl ?_
  generalize ((w3.setCell ⟨w.heap.size, 0, none⟩ (.slice a1 s.f.length c1)).setCell ⟨w.heap.size, 1, none⟩ (.slice a2 s.u.length c2)).setCell ⟨w.heap.size, 2, none⟩ (.slice a3 s.r.length c3) = W4 at *
  have s1 := O1.out.1.size
  have s2 := G2.out.size
  have s3 := O3.out.1.size
  have s0 := hzd.out
  refine ⟨F4, ⟨a1, s.f.length, c1, a2, s.u.length, c2, a3, s.r.length, c3⟩, rfl, fun W hW => ⟨rfl, rfl, rfl, O1.out.ents (fun k hk => ?_), own_view O2.out (fun k hk => ?_), O3.out.us (fun k hk => ?_)⟩⟩
  · obtain ⟨k1, k2⟩ := hk
    rw [hW k ⟨by omega, by omega⟩, e4 k (by omega), O3.out.1.block k (by omega) (fun h => h), G2.out.block k (by omega) (fun h => h)]
  · obtain ⟨k1, k2⟩ := hk
    rw [hW k ⟨by omega, by omega⟩, e4 k (by omega), O3.out.1.block k (by omega) (fun h => h)]
  · obtain ⟨k1, k2⟩ := hk
    rw [hW k ⟨by omega, by omega⟩, e4 k (by omega)]
end
set_option maxRecDepth 100000 in
set_option maxHeartbeats 4000000 in
theorem osame_any (w : World) (s t : St) (a b : Ov) (ha : OIn w s a) (hb : OIn w t b) (h1 : s.f.length ≤ 24) (h2 : s.u.length ≤ 24) (h3 : s.r.length ≤ 24) :
    Calls Try.prog 15 #[a.v, b.v] w fun e w' => e = .returned (.bool (decide (s.f = t.f) && decide (s.u = t.u) && decide (s.r = t.r))) ∧ Fr (fun _ => False) w w' := by
  have HF : Hid (Fr (fun _ => False) w (oBox (oBox w a) b)) := ((Fr.refl _ w).alloc _).alloc _
  have HBa : Hid (Blk (oBox (oBox w a) b) w.heap.size 33 a.cs) := (Blk.new w _ a.cs).alloc _
  have HBb : Hid (Blk (oBox (oBox w a) b) (w.heap.size + 1) 33 b.cs) := by
    have := Blk.new (oBox w a) 33 b.cs
    rw [World.size_alloc] at this
    exact this
  have HC1 := hid (fun (W : World) (f : Fr (fun _ => False) w W) => same_any W a.fa b.fa s.f t.f a.fc b.fc (ha.f.fr f) (hb.f.fr f) (by omega))
  have HC2 := hid (fun (W : World) (f : Fr (fun _ => False) w W) => sameList_any W a.ua b.ua s.u t.u a.uc b.uc (ha.u.env (Env.of f)) (hb.u.env (Env.of f)) (by unfold lim; omega))
  have HC3 := hid (fun (W : World) (f : Fr (fun _ => False) w W) => usameAll_any W W (Env.refl W) s.r t.r a.ra b.ra a.rc b.rc ((ha.r.env (Env.of f)).up (Env.of f)) ((hb.r.env (Env.of f)).up (Env.of f)) (by unfold lim; omega))
  rw [← ha.fl, ← hb.fl] at HC1
  rw [← ha.ul, ← hb.ul] at HC2
  rw [← ha.rl, ← hb.rl] at HC3
  have HCL : Hid (∀ W, Fr (fun _ => False) (oBox (oBox w a) b) W → (W.cell? ⟨w.heap.size, 0, none⟩ = some (.slice a.fa a.fl a.fc) ∧ W.cell? ⟨w.heap.size, 1, none⟩ = some (.slice a.ua a.ul a.uc) ∧ W.cell? ⟨w.heap.size, 2, none⟩ = some (.slice a.ra a.rl a.rc)) ∧ W.cell? ⟨w.heap.size + 1, 0, none⟩ = some (.slice b.fa b.fl b.fc) ∧ W.cell? ⟨w.heap.size + 1, 1, none⟩ = some (.slice b.ua b.ul b.uc) ∧ W.cell? ⟨w.heap.size + 1, 2, none⟩ = some (.slice b.ra b.rl b.rc)) := fun W f => by
    have A := f.blk HBa.out (fun h => h)
    have B := f.blk HBb.out (fun h => h)
    exact ⟨⟨A.cell 0, A.cell 1, A.cell 2⟩, B.cell 0, B.cell 1, B.cell 2⟩
  clear ha hb h1 h2 h3
  generalize decide (s.f = t.f) = p at *
  generalize decide (s.u = t.u) = q at *
  generalize decide (s.r = t.r) = r at *
  obtain ⟨a1, a2, a3, a4, a5, a6, a7, a8, a9⟩ := a
  obtain ⟨b1, b2, b3, b4, b5, b6, b7, b8, b9⟩ := b
  simp only [Ov.v] at *
  obtain ⟨⟨k0, k1, k2⟩, l0, l1, l2⟩ := HCL.out _ (Fr.refl _ _)
  go_enter Try.func15, Try.ntmps15
  go_wp2_with fail
  refine (HC1.out _ HF.out).mono ?_
  rintro e w1 ⟨rfl, n1, hw1⟩
  have G1 : Hid (Fr (fun _ => False) (oBox (oBox w ⟨a1, a2, a3, a4, a5, a6, a7, a8, a9⟩) ⟨b1, b2, b3, b4, b5, b6, b7, b8, b9⟩) w1) := by rw [hw1]; exact (Fr.refl _ _).drewN n1
  have F1 := hid (HF.out.trans G1.out (fun _ h => h.elim))
  clear hw1 k0 k1 k2 l0 l1 l2
  obtain ⟨⟨k0, k1, k2⟩, l0, l1, l2⟩ := HCL.out _ G1.out
  go_wp2_with fail
  refine (HC2.out _ F1.out).mono ?_
  rintro e w2 ⟨rfl, f2⟩
  have G2 := hid (G1.out.trans f2 (fun _ h => h.elim))
  have F2 := hid (F1.out.trans f2 (fun _ h => h.elim))
  clear f2 k0 k1 k2 l0 l1 l2
  obtain ⟨⟨k0, k1, k2⟩, l0, l1, l2⟩ := HCL.out _ G2.out
  cases p with
  | false =>
    go_wp2_with fail
    go_ret
    exact ⟨rfl, F2.out⟩
  | true =>
    cases q with
    | false =>
      go_wp2_with fail
      go_ret
      exact ⟨rfl, F2.out⟩
    | true =>
      go_wp2_with fail
      refine (HC3.out _ F2.out).mono ?_
      rintro e w3 ⟨rfl, f3⟩
      have F3 := hid (F2.out.trans f3 (fun _ h => h.elim))
      clear f3
      go_wp2_with fail
      go_ret
      exact ⟨rfl, F3.out⟩
end Go.Proofs.Ytangnoicnogddaa.Tr
/- The contract of the law's copied. -/
namespace Go.Proofs.Ytangnoicnogddaa.Tr
open Go.RowKit

theorem obk {b n c k : Nat} (h : (Value.slice (some ⟨b, 0, none⟩) n c).ownBlock = some k) : b = k := by simpa [Value.ownBlock] using h
theorem resZ {fn : Func} {p : Tmp} (h : fn.results = #[.cell p 43]) {a : Act} {W : World} {b : Nat} {t : TypeId} {x : Zv} (ha : a.tmps.getD p undef = .pointer (some ⟨b, 0, none⟩)) (hb : Blk W b t x.cs) :
    (results fn a.tmps).run Try.prog W = .ok x.v W :=
  results_cell_row h a.tmps W b t x.cs.toArray (0, 0) _ ha hb Try.underlying43 rfl (by kernel_rfl)
/-- The cells z are the act a. -/
structure AIn (w : World) (a : Ac) (z : Zv) : Prop where
  k : z.k = a.k
  n : z.n = a.n
  p : z.x.p = a.f.path
  q : z.x.k = a.f.kind
  l : z.x.dl = a.f.data.length
  f : EntV w a.f z.x.da z.x.dc
  u : UIn w a.u z.y
theorem AIn.env {w W : World} {a : Ac} {z : Zv} (h : AIn w a z) (f : Fr (fun _ => False) w W) : AIn W a z := { h with f := h.f.fr f, u := h.u.env (Env.of f) }
theorem AIn.frO {O : Nat → Prop} {w W : World} {a : Ac} {z : Zv} (h : AIn w a z) (f : Fr O w W) (hO : ∀ k, O k → w.heap.size ≤ k) : AIn W a z :=
  h.env ⟨f.os, f.tape, f.output, f.size, fun k hk _ => f.block k hk (fun ho => by have := hO k ho; omega)⟩
def CdPost (w : World) (a : Ac) (e : Ending) (w' : World) : Prop := Fr (fun _ => False) w w' ∧ ∃ z : Zv, e = .returned z.v ∧ AK (Bt w.heap.size w'.heap.size) w' a z
set_option maxRecDepth 100000 in
set_option maxHeartbeats 8000000 in
theorem cd_any (w : World) (a : Ac) (z : Zv) (h : AIn w a z) : Calls Try.prog 10 #[z.v] w fun e w' => CdPost w a e w' := by
  have HA := hid h
  obtain ⟨hk, hn, hp, hq, hl, hf, hu⟩ := h
  have hrl := hu.rl
  have hal := hu.al
  have hun := hu.n
  have hus := hu.s
  have HF := hid hf
  have HU := hid hu
  clear hf hu
  obtain ⟨k, n, ⟨xp, xk, xa, xl, xc⟩, ⟨yn, ys, yra, yrl, yrc, yaa, yal, yac⟩⟩ := z
  obtain ⟨k', n', ⟨fp, fk, fd⟩, ⟨un, us, ur, ua⟩⟩ := a
  simp only at hk hn hp hq hl hrl hal hun hus
  subst hk hn hp hq hl hrl hal hun hus
  obtain ⟨Z0, hZ0⟩ : ∃ Z0 : Zv, Z0 = ⟨k, n, ⟨xp, xk, xa, fd.length, xc⟩, ⟨yn, ys, yra, ur.length, yrc, yaa, ua.length, yac⟩⟩ := ⟨_, rfl⟩
  have hB1 : Blk (zBox (zBox w Z0) zZ) w.heap.size 43 Z0.cs := (Blk.new w _ Z0.cs).alloc _
  have hB2 : Blk (zBox (zBox w Z0) zZ) (w.heap.size + 1) 43 zZ.cs := by
    have := Blk.new (zBox w Z0) 43 zZ.cs
    rw [World.size_alloc] at this
    exact this
  have hF0 : Fr (fun _ => False) w (zBox (zBox w Z0) zZ) := ((Fr.refl _ w).alloc _).alloc _
  have hs0 : (zBox (zBox w Z0) zZ).heap.size = w.heap.size + 1 + 1 := by rw [World.size_alloc, World.size_alloc]
  -- the bytes
  have E1 := own_empty (zBox (zBox w Z0) zZ) 5 1
  rw [hs0] at E1
  have FA1 : Fr (fun _ => False) w ((zBox (zBox w Z0) zZ).alloc (.cells #[] 5)) := hF0.alloc _
  have HE1 := hid E1
  have HS1 := hid (HF.out.src.fr FA1)
  have HL1 : Hid (0 + fd.length ≤ 140737488355328) := by have := HF.out.len; unfold Hid; simp only at this; omega
  have HB1 := hid (hB1.alloc (.cells #[] 5))
  have HB2 := hid (hB2.alloc (.cells #[] 5))
  have HFA1 := hid FA1
  have HS0 : Hid (w.heap.size + 1 + 1 ≤ ((zBox (zBox w Z0) zZ).alloc (.cells #[] 5)).heap.size) := by unfold Hid; rw [World.size_alloc]; omega
  have k4 := HB1.out.cell 4
  subst hZ0
  clear hB1 hB2 hF0 E1 FA1 hs0
  simp only [Zv.cs, List.getElem?_cons_zero, List.getElem?_cons_succ] at k4
  simp only [Zv.v, Zv.cs]
  go_enter Try.func10, Try.ntmps10
  go_wp2_with (at_builtin; refine Hid.out ?_)
  refine wpList_append_bytes (by rfl) _ _ (by rfl) (w.heap.size + 1 + 1) 0 _ [] fd xa xc (by rfl) (by rfl) HE1.out HS0.out HL1.out HS1.out ?_
  intro v1 W1 o1 g1
  rw [Nat.zero_add, List.nil_append] at o1
  obtain ⟨a1, c1, rfl⟩ := own_len o1
  have hn1 : ∀ k, k < w.heap.size + 1 + 1 → (some k : Option Nat) ≠ (Value.slice (some ⟨w.heap.size + 1 + 1, 0, none⟩) 0 0).ownBlock := fun k hk e => by simp [Value.ownBlock] at e; omega
  have b1 := HB1.out.of_eq (g1.block w.heap.size HB1.out.lt (hn1 _ (by omega)))
  have b2 := HB2.out.of_eq (g1.block (w.heap.size + 1) HB2.out.lt (hn1 _ (by omega)))
  have HF1 := hid (HFA1.out.grown g1 (fun k hk => .inr (by have := obk hk; omega)))
  have q4 := b1.cell 4
  have z4 := b1.frozen 4
  simp only [Zv.cs, List.getElem?_cons_zero, List.getElem?_cons_succ] at q4
  -- behind the first store
  have HC1 : Hid (Blk (W1.setCell ⟨w.heap.size, 4, none⟩ (.slice a1 fd.length c1)) w.heap.size 43 (Zv.cs ⟨k, n, ⟨xp, xk, a1, fd.length, c1⟩, ⟨yn, ys, yra, ur.length, yrc, yaa, ua.length, yac⟩⟩)) := b1.setCell 4 _
  have HC2 : Hid (Blk (W1.setCell ⟨w.heap.size, 4, none⟩ (.slice a1 fd.length c1)) (w.heap.size + 1) 43 zZ.cs) := b2.setCell_ne (by simp) _
  have HG1 : Hid (Fr (fun _ => False) w (W1.setCell ⟨w.heap.size, 4, none⟩ (.slice a1 fd.length c1))) := HF1.out.setCell (p := ⟨w.heap.size, 4, none⟩) (.inr (Nat.le_refl _)) _
  have HO1 : Hid ((W1.setCell ⟨w.heap.size, 4, none⟩ (.slice a1 fd.length c1)).ownsRow (w.heap.size + 1 + 1) 5 1 (.slice a1 fd.length c1) fd.length (bs fd)) := owns_of_eq o1 (fun k hk => by
    have := (own_lt o1 k hk).1
    exact Below.heap_setCell _ _ _ k (by simp; omega))
  have hsz1 : (W1.setCell ⟨w.heap.size, 4, none⟩ (.slice a1 fd.length c1)).heap.size = W1.heap.size := by simp [World.setCell]
  have E2 := own_empty (W1.setCell ⟨w.heap.size, 4, none⟩ (.slice a1 fd.length c1)) 9 1
  rw [hsz1] at E2
  have HE2 := hid E2
  have HA1 : Hid (W1.heap.size ≤ ((W1.setCell ⟨w.heap.size, 4, none⟩ (.slice a1 fd.length c1)).alloc (.cells #[] 9)).heap.size ∧ w.heap.size + 1 + 1 ≤ W1.heap.size) := ⟨by rw [World.size_alloc, hsz1]; omega, Nat.le_trans HS0.out g1.size⟩
  have HS2 := hid (HU.out.r.env (Env.of (HG1.out.alloc (.cells #[] 9))))
  have HL2 := hid HU.out.ok.r
  have HL3 := hid HU.out.ok.a
  have HZ1 := hid hsz1
  have k7 := (HC1.out.alloc (.cells #[] 9)).cell 7
  simp only [Zv.cs, List.getElem?_cons_zero, List.getElem?_cons_succ] at k7
  clear o1 g1 hn1 b1 b2 E2 k4 hsz1
  go_wp2_with (at_builtin; refine Hid.out ?_)
  refine wpList_app_S (by rfl) _ _ (by rfl) W1.heap.size _ [] ur yra yrc (by rfl) (by rfl) HE2.out HS2.out HA1.out.1 (by have := HL2.out; simpa using this) ?_
  intro v2 W2 o2 g2 _
  simp only [List.nil_append] at o2
  obtain ⟨a2, c2, rfl⟩ := own_len o2
  have hn2 : ∀ k, k < W1.heap.size → (some k : Option Nat) ≠ (Value.slice (some ⟨W1.heap.size, 0, none⟩) 0 0).ownBlock := fun k hk e => by simp [Value.ownBlock] at e; omega
  have hW1 := HA1.out.2
  have hl2 : ∀ k, k < W1.heap.size → W2.heap[k]? = (W1.setCell ⟨w.heap.size, 4, none⟩ (.slice a1 fd.length c1)).heap[k]? := fun k hk =>
    (g2.block k (by have := HA1.out.1; omega) (hn2 k hk)).trans (Below.heap_alloc _ _ k (by rw [HZ1.out]; exact hk))
  have b1 := HC1.out.of_eq (hl2 w.heap.size (by omega))
  have b2 := HC2.out.of_eq (hl2 (w.heap.size + 1) (by omega))
  have HF2 := hid ((HG1.out.alloc (.cells #[] 9)).grown g2 (fun k hk => .inr (by have := obk hk; omega)))
  have ow1 := owns_of_eq HO1.out (fun k hk => hl2 k (by have := (own_lt HO1.out k hk).2; rw [HZ1.out] at this; exact this))
  have q7 := b1.cell 7
  have z7 := b1.frozen 7
  simp only [Zv.cs, List.getElem?_cons_zero, List.getElem?_cons_succ] at q7
  have HD1 : Hid (Blk (W2.setCell ⟨w.heap.size, 7, none⟩ (.slice a2 ur.length c2)) w.heap.size 43 (Zv.cs ⟨k, n, ⟨xp, xk, a1, fd.length, c1⟩, ⟨yn, ys, a2, ur.length, c2, yaa, ua.length, yac⟩⟩)) := b1.setCell 7 _
  have HD2 : Hid (Blk (W2.setCell ⟨w.heap.size, 7, none⟩ (.slice a2 ur.length c2)) (w.heap.size + 1) 43 zZ.cs) := b2.setCell_ne (by simp) _
  have HG2 : Hid (Fr (fun _ => False) w (W2.setCell ⟨w.heap.size, 7, none⟩ (.slice a2 ur.length c2))) := HF2.out.setCell (p := ⟨w.heap.size, 7, none⟩) (.inr (Nat.le_refl _)) _
  have hsc2 : ∀ k, w.heap.size < k → (W2.setCell ⟨w.heap.size, 7, none⟩ (.slice a2 ur.length c2)).heap[k]? = W2.heap[k]? := fun k hk => Below.heap_setCell _ _ _ k (by simp; omega)
  have HO12 : Hid ((W2.setCell ⟨w.heap.size, 7, none⟩ (.slice a2 ur.length c2)).ownsRow (w.heap.size + 1 + 1) 5 1 (.slice a1 fd.length c1) fd.length (bs fd)) := owns_of_eq ow1 (fun k hk => hsc2 k (by have := (own_lt ow1 k hk).1; omega))
  have HO22 : Hid ((W2.setCell ⟨w.heap.size, 7, none⟩ (.slice a2 ur.length c2)).ownsRow W1.heap.size 9 1 (.slice a2 ur.length c2) ur.length (strC ur)) := owns_of_eq o2 (fun k hk => hsc2 k (by have := (own_lt o2 k hk).1; omega))
  have hsz2 : (W2.setCell ⟨w.heap.size, 7, none⟩ (.slice a2 ur.length c2)).heap.size = W2.heap.size := by simp [World.setCell]
  have E3 := own_empty (W2.setCell ⟨w.heap.size, 7, none⟩ (.slice a2 ur.length c2)) 9 1
  rw [hsz2] at E3
  have HE3 := hid E3
  have HA2 : Hid (W2.heap.size ≤ ((W2.setCell ⟨w.heap.size, 7, none⟩ (.slice a2 ur.length c2)).alloc (.cells #[] 9)).heap.size ∧ w.heap.size + 1 + 1 ≤ W2.heap.size ∧ W1.heap.size ≤ W2.heap.size) := ⟨by rw [World.size_alloc, hsz2]; omega, by have := g2.size; have := HA1.out.1; omega, by have := g2.size; have := HA1.out.1; omega⟩
  have HS3 := hid (HU.out.a.env (Env.of (HG2.out.alloc (.cells #[] 9))))
  have HZ2 := hid hsz2
  have k8 := (HD1.out.alloc (.cells #[] 9)).cell 8
  simp only [Zv.cs, List.getElem?_cons_zero, List.getElem?_cons_succ] at k8
  clear o2 g2 hn2 b1 b2 E3 hsz2 k7 q4 z4 ow1 hl2 hsc2 HC1 HC2
  go_wp2_with (at_builtin; refine Hid.out ?_)
  refine wpList_app_S (by rfl) _ _ (by rfl) W2.heap.size _ [] ua yaa yac (by rfl) (by rfl) HE3.out HS3.out HA2.out.1 (by have := HL3.out; simpa using this) ?_
  intro v3 W3 o3 g3 _
  simp only [List.nil_append] at o3
  obtain ⟨a3, c3, rfl⟩ := own_len o3
  have hn3 : ∀ k, k < W2.heap.size → (some k : Option Nat) ≠ (Value.slice (some ⟨W2.heap.size, 0, none⟩) 0 0).ownBlock := fun k hk e => by simp [Value.ownBlock] at e; omega
  have hW2 := HA2.out.2.1
  have hW12 := HA2.out.2.2
  have hl3 : ∀ k, k < W2.heap.size → W3.heap[k]? = (W2.setCell ⟨w.heap.size, 7, none⟩ (.slice a2 ur.length c2)).heap[k]? := fun k hk =>
    (g3.block k (by have := HA2.out.1; omega) (hn3 k hk)).trans (Below.heap_alloc _ _ k (by rw [HZ2.out]; exact hk))
  have b1 := HD1.out.of_eq (hl3 w.heap.size (by omega))
  have b2 := HD2.out.of_eq (hl3 (w.heap.size + 1) (by omega))
  have HF3 := hid ((HG2.out.alloc (.cells #[] 9)).grown g3 (fun k hk => .inr (by have := obk hk; omega)))
  have ow1 := owns_of_eq HO12.out (fun k hk => hl3 k (by have := (own_lt HO12.out k hk).2; rw [HZ2.out] at this; exact this))
  have ow2 := owns_of_eq HO22.out (fun k hk => hl3 k (by have := (own_lt HO22.out k hk).2; rw [HZ2.out] at this; exact this))
  have hB4 : Blk (W3.setCell ⟨w.heap.size, 8, none⟩ (.slice a3 ua.length c3)) w.heap.size 43 (Zv.cs ⟨k, n, ⟨xp, xk, a1, fd.length, c1⟩, ⟨yn, ys, a2, ur.length, c2, a3, ua.length, c3⟩⟩) := b1.setCell 8 _
  have HB5 : Hid (Blk (W3.setCell ⟨w.heap.size, 8, none⟩ (.slice a3 ua.length c3)) (w.heap.size + 1) 43 zZ.cs) := b2.setCell_ne (by simp) _
  have HG3 : Hid (Fr (fun _ => False) w (W3.setCell ⟨w.heap.size, 8, none⟩ (.slice a3 ua.length c3))) := HF3.out.setCell (p := ⟨w.heap.size, 8, none⟩) (.inr (Nat.le_refl _)) _
  have hsc3 : ∀ k, w.heap.size < k → (W3.setCell ⟨w.heap.size, 8, none⟩ (.slice a3 ua.length c3)).heap[k]? = W3.heap[k]? := fun k hk => Below.heap_setCell _ _ _ k (by simp; omega)
  have HO13 : Hid ((W3.setCell ⟨w.heap.size, 8, none⟩ (.slice a3 ua.length c3)).ownsRow (w.heap.size + 1 + 1) 5 1 (.slice a1 fd.length c1) fd.length (bs fd)) := owns_of_eq ow1 (fun k hk => hsc3 k (by have := (own_lt ow1 k hk).1; omega))
  have HO23 : Hid ((W3.setCell ⟨w.heap.size, 8, none⟩ (.slice a3 ua.length c3)).ownsRow (w.heap.size + 1 + 1) 9 1 (.slice a2 ur.length c2) ur.length (strC ur)) := owns_down (owns_of_eq ow2 (fun k hk => hsc3 k (by have := (own_lt ow2 k hk).1; omega))) (by omega)
  have HO33 : Hid ((W3.setCell ⟨w.heap.size, 8, none⟩ (.slice a3 ua.length c3)).ownsRow (w.heap.size + 1 + 1) 9 1 (.slice a3 ua.length c3) ua.length (strC ua)) := owns_down (owns_of_eq o3 (fun k hk => hsc3 k (by have := (own_lt o3 k hk).1; omega))) (by omega)
  have q8 := b1.cell 8
  have z8 := b1.frozen 8
  have m0 := b1.cell 0
  have m1 := b1.cell 1
  have m2 := b1.cell 2
  have m3 := b1.cell 3
  have m4 := b1.cell 4
  have m5 := b1.cell 5
  have m6 := b1.cell 6
  have m7 := b1.cell 7
  have n0 := b2.cell 0
  have n1 := b2.cell 1
  have n2 := b2.cell 2
  have n3 := b2.cell 3
  have n4 := b2.cell 4
  have n5 := b2.cell 5
  have n6 := b2.cell 6
  have n7 := b2.cell 7
  have n8 := b2.cell 8
  simp only [Zv.cs, zZ, xZ, uZ, List.getElem?_cons_zero, List.getElem?_cons_succ] at q8 m0 m1 m2 m3 m4 m5 m6 m7 n0 n1 n2 n3 n4 n5 n6 n7 n8
  have f0 := b2.frozen 0
  have f1 := b2.frozen 1
  have f2 := b2.frozen 2
  have f3 := b2.frozen 3
  have f4 := b2.frozen 4
  have f5 := b2.frozen 5
  have f6 := b2.frozen 6
  have f7 := b2.frozen 7
  have f8 := b2.frozen 8
  clear o3 g3 hn3 b1 b2 k8 q7 z7 ow1 ow2 hl3 hsc3 HD1 HD2 hB4
  go_wp2_with fail
  clear q8 z8 m0 m1 m2 m3 m4 m5 m6 m7 n0 n1 n2 n3 n4 n5 n6 n7 n8 f0 f1 f2 f3 f4 f5 f6 f7 f8
  generalize W3.setCell ⟨w.heap.size, 8, none⟩ (.slice a3 ua.length c3) = W4 at *
  have B6 : Blk (((((((((W4.setCell ⟨w.heap.size + 1, 0, none⟩ (.int .i64 k)).setCell ⟨w.heap.size + 1, 1, none⟩ (.string ⟨n.toArray⟩)).setCell ⟨w.heap.size + 1, 2, none⟩ (.string ⟨xp.toArray⟩)).setCell ⟨w.heap.size + 1, 3, none⟩ (.int .i64 xk)).setCell ⟨w.heap.size + 1, 4, none⟩ (.slice a1 fd.length c1)).setCell ⟨w.heap.size + 1, 5, none⟩ (.string ⟨yn.toArray⟩)).setCell ⟨w.heap.size + 1, 6, none⟩ (.string ⟨ys.toArray⟩)).setCell ⟨w.heap.size + 1, 7, none⟩ (.slice a2 ur.length c2)).setCell ⟨w.heap.size + 1, 8, none⟩ (.slice a3 ua.length c3)) (w.heap.size + 1) 43 (Zv.cs ⟨k, n, ⟨xp, xk, a1, fd.length, c1⟩, ⟨yn, ys, a2, ur.length, c2, a3, ua.length, c3⟩⟩) :=
    ((((((((HB5.out.setCell 0 _).setCell 1 _).setCell 2 _).setCell 3 _).setCell 4 _).setCell 5 _).setCell 6 _).setCell 7 _).setCell 8 _
  have hle : w.heap.size ≤ w.heap.size + 1 := Nat.le_succ _
  have F6 : Fr (fun _ => False) w (((((((((W4.setCell ⟨w.heap.size + 1, 0, none⟩ (.int .i64 k)).setCell ⟨w.heap.size + 1, 1, none⟩ (.string ⟨n.toArray⟩)).setCell ⟨w.heap.size + 1, 2, none⟩ (.string ⟨xp.toArray⟩)).setCell ⟨w.heap.size + 1, 3, none⟩ (.int .i64 xk)).setCell ⟨w.heap.size + 1, 4, none⟩ (.slice a1 fd.length c1)).setCell ⟨w.heap.size + 1, 5, none⟩ (.string ⟨yn.toArray⟩)).setCell ⟨w.heap.size + 1, 6, none⟩ (.string ⟨ys.toArray⟩)).setCell ⟨w.heap.size + 1, 7, none⟩ (.slice a2 ur.length c2)).setCell ⟨w.heap.size + 1, 8, none⟩ (.slice a3 ua.length c3)) :=
    ((((((((HG3.out.setCell (p := ⟨w.heap.size + 1, 0, none⟩) (.inr hle) _).setCell (p := ⟨w.heap.size + 1, 1, none⟩) (.inr hle) _).setCell (p := ⟨w.heap.size + 1, 2, none⟩) (.inr hle) _).setCell (p := ⟨w.heap.size + 1, 3, none⟩) (.inr hle) _).setCell (p := ⟨w.heap.size + 1, 4, none⟩) (.inr hle) _).setCell (p := ⟨w.heap.size + 1, 5, none⟩) (.inr hle) _).setCell (p := ⟨w.heap.size + 1, 6, none⟩) (.inr hle) _).setCell (p := ⟨w.heap.size + 1, 7, none⟩) (.inr hle) _).setCell (p := ⟨w.heap.size + 1, 8, none⟩) (.inr hle) _
  have hG : ∀ k', w.heap.size + 1 < k' → (((((((((W4.setCell ⟨w.heap.size + 1, 0, none⟩ (.int .i64 k)).setCell ⟨w.heap.size + 1, 1, none⟩ (.string ⟨n.toArray⟩)).setCell ⟨w.heap.size + 1, 2, none⟩ (.string ⟨xp.toArray⟩)).setCell ⟨w.heap.size + 1, 3, none⟩ (.int .i64 xk)).setCell ⟨w.heap.size + 1, 4, none⟩ (.slice a1 fd.length c1)).setCell ⟨w.heap.size + 1, 5, none⟩ (.string ⟨yn.toArray⟩)).setCell ⟨w.heap.size + 1, 6, none⟩ (.string ⟨ys.toArray⟩)).setCell ⟨w.heap.size + 1, 7, none⟩ (.slice a2 ur.length c2)).setCell ⟨w.heap.size + 1, 8, none⟩ (.slice a3 ua.length c3)).heap[k']? = W4.heap[k']? := fun k' hk => by
    have hne : ∀ j, k' ≠ (⟨w.heap.size + 1, j, none⟩ : Addr).block := fun j => by simp; omega
    rw [Below.heap_setCell _ _ _ k' (hne _), Below.heap_setCell _ _ _ k' (hne _), Below.heap_setCell _ _ _ k' (hne _), Below.heap_setCell _ _ _ k' (hne _), Below.heap_setCell _ _ _ k' (hne _), Below.heap_setCell _ _ _ k' (hne _), Below.heap_setCell _ _ _ k' (hne _), Below.heap_setCell _ _ _ k' (hne _), Below.heap_setCell _ _ _ k' (hne _)]
  refine bodyPost_ret (resZ rfl rfl B6) rfl ?_
  generalize (((((((((W4.setCell ⟨w.heap.size + 1, 0, none⟩ (.int .i64 k)).setCell ⟨w.heap.size + 1, 1, none⟩ (.string ⟨n.toArray⟩)).setCell ⟨w.heap.size + 1, 2, none⟩ (.string ⟨xp.toArray⟩)).setCell ⟨w.heap.size + 1, 3, none⟩ (.int .i64 xk)).setCell ⟨w.heap.size + 1, 4, none⟩ (.slice a1 fd.length c1)).setCell ⟨w.heap.size + 1, 5, none⟩ (.string ⟨yn.toArray⟩)).setCell ⟨w.heap.size + 1, 6, none⟩ (.string ⟨ys.toArray⟩)).setCell ⟨w.heap.size + 1, 7, none⟩ (.slice a2 ur.length c2)).setCell ⟨w.heap.size + 1, 8, none⟩ (.slice a3 ua.length c3)) = W6 at *
  have p1 := owns_of_eq HO13.out (fun k' hk => hG k' (by have := (own_lt HO13.out k' hk).1; omega))
  have p2 := owns_of_eq HO23.out (fun k' hk => hG k' (by have := (own_lt HO23.out k' hk).1; omega))
  have p3 := owns_of_eq HO33.out (fun k' hk => hG k' (by have := (own_lt HO33.out k' hk).1; omega))
  exact ⟨F6, ⟨k, n, ⟨xp, xk, a1, fd.length, c1⟩, ⟨yn, ys, a2, ur.length, c2, a3, ua.length, c3⟩⟩, rfl, rfl, rfl,
    ⟨rfl, rfl, rfl, ⟨src_own p1, (own_cap p1).2.1, HF.out.len, HF.out.path, HF.out.k0, HF.out.k1⟩, dn_own p1 (by omega)⟩,
    ⟨⟨rfl, rfl, rfl, rfl, strs_own p2, strs_own p3, HU.out.ok⟩, dn_own p2 (by omega), dn_own p3 (by omega)⟩⟩
end Go.Proofs.Ytangnoicnogddaa.Tr
/- A machine in hand: what a law knows of it. -/
namespace Go.Proofs.Ytangnoicnogddaa.Tr
open Go.RowKit

/-- The machine at mb is s; the blocks of K are others'. -/
structure Lv (K : Nat → Prop) (w : World) (mb : Nat) (s : St) : Prop where
  ok : s.ok
  mx : ∃ O, MX O w mb s ∧ ∀ k, O k → ¬ K k
  kk : ∀ k, K k → k < w.heap.size
/-- What the machine leaves alone. -/
abbrev Kp (K : Nat → Prop) (w w' : World) : Prop := Fr (fun k => ¬ K k) w w'
theorem Kp.on {K : Nat → Prop} {w w' : World} (f : Kp K w w') (hk : ∀ k, K k → k < w.heap.size) : On K w w' := fun k h => f.block k (hk k h) (fun hn => hn h)
theorem Lv.more {K : Nat → Prop} {w w' : World} {mb : Nat} {s : St} (h : Lv K w mb s) (f : Fr (fun _ => False) w w') : Lv (fun k => K k ∨ Bt w.heap.size w'.heap.size k) w' mb s := by
  obtain ⟨hok, ⟨O, ⟨D, fv, uv, rv, pa, pc, XF, XR, m⟩, ho⟩, hk⟩ := h
  exact ⟨hok, ⟨O, ⟨D, fv, uv, rv, pa, pc, XF, XR, m.keep0 f⟩, fun k hO hK => hK.elim (ho k hO) (fun hb => by have := m.os k hO; have := hb.1; omega)⟩, fun k hK => hK.elim (fun h => Nat.lt_of_lt_of_le (hk k h) f.size) (fun h => h.2)⟩
theorem Lv.keep {K : Nat → Prop} {w w' : World} {mb : Nat} {s : St} (h : Lv K w mb s) (f : Fr (fun _ => False) w w') : Lv K w' mb s := by
  obtain ⟨hok, ⟨O, ⟨D, fv, uv, rv, pa, pc, XF, XR, m⟩, ho⟩, hk⟩ := h
  exact ⟨hok, ⟨O, ⟨D, fv, uv, rv, pa, pc, XF, XR, m.keep0 f⟩, ho⟩, fun k hK => Nat.lt_of_lt_of_le (hk k hK) f.size⟩
theorem Lv.less {K K' : Nat → Prop} {w : World} {mb : Nat} {s : St} (h : Lv K w mb s) (hK : ∀ k, K' k → K k) : Lv K' w mb s := by
  obtain ⟨hok, ⟨O, m, ho⟩, hk⟩ := h
  exact ⟨hok, ⟨O, m, fun k hO hk' => ho k hO (hK k hk')⟩, fun k h => hk k (hK k h)⟩
theorem Lv.next {K : Nat → Prop} {w W : World} {mb : Nat} {s s' : St} {O : Nat → Prop} (h : Lv K w mb s) (ho : ∀ k, O k → ¬ K k) (hs : s'.ok) (n : Next O w mb s' W) : Lv K W mb s' ∧ Kp K w W := by
  obtain ⟨f, O', m, ho'⟩ := n
  exact ⟨⟨hs, ⟨O', m, fun k hk hK => (ho' k hk).elim (fun h => ho k h hK) (fun hge => by have := h.kk k hK; omega)⟩, fun k hK => Nat.lt_of_lt_of_le (h.kk k hK) f.size⟩, f.mono (fun k hk => ho k hk)⟩
theorem AK.on {D : Nat → Prop} {w w' : World} {a : Ac} {z : Zv} (h : AK D w a z) (o : On D w w') : AK D w' a z := ⟨h.k, h.n, h.f.on o, h.u.on o⟩
theorem AK.mono {D D' : Nat → Prop} {w : World} {a : Ac} {z : Zv} (h : AK D w a z) (hD : ∀ k, D k → D' k) : AK D' w a z := ⟨h.k, h.n, h.f.mono hD, h.u.mono hD⟩
def LvNew (w : World) (e : Ending) (w' : World) : Prop := ∃ mb, e = .returned (.pointer (some ⟨mb, 0, none⟩)) ∧ Fr (fun _ => False) w w' ∧ Lv (fun k => k < w.heap.size) w' mb ⟨[], [], [], []⟩
theorem lv_new (w : World) : Calls Try.prog 7 #[] w fun e w' => LvNew w e w' := (new_any w).mono (by
  rintro e w' ⟨mb, rfl, f, hmb, m⟩
  exact ⟨mb, rfl, f, ok_nil [], ⟨_, m, fun k hk h => by subst hk; omega⟩, fun k hk => Nat.lt_of_lt_of_le hk f.size⟩)
theorem lv_do {K : Nat → Prop} {w : World} {mb : Nat} {s : St} (h : Lv K w mb s) (a : Ac) (z : Zv) (hz : AK K w a z) :
    Calls Try.prog 11 #[.pointer (some ⟨mb, 0, none⟩), z.v] w fun e w' => e = .returned (.int .i64 (doF s a).2) ∧ Lv K w' mb (doF s a).1 ∧ Kp K w w' := by
  obtain ⟨O, ⟨D, fv, uv, rv, pa, pc, XF, XR, m⟩, ho⟩ := h.mx
  refine (do_any m h.ok a z (hz.mono (fun k hK hO => ho k hO hK))).mono ?_
  rintro e w' ⟨rfl, n⟩
  exact ⟨rfl, h.next ho (ok_do h.ok a) n⟩
theorem lv_plan {K : Nat → Prop} {w : World} {mb : Nat} {s : St} (h : Lv K w mb s) (p : List Bool) (ad : Option Addr) (cap : Nat) (hp : Bools w ad p) (hl : p.length ≤ 140737488351232) :
    Calls Try.prog 8 #[.pointer (some ⟨mb, 0, none⟩), .slice ad p.length cap] w fun e w' => e = .returned (.tuple #[]) ∧ Lv K w' mb { s with p := p } ∧ Kp K w w' := by
  obtain ⟨O, ⟨D, fv, uv, rv, pa, pc, XF, XR, m⟩, ho⟩ := h.mx
  refine (plan_any m p ad cap hp hl).mono ?_
  rintro e w' ⟨rfl, n⟩
  exact ⟨rfl, h.next ho (ok_plan h.ok p) n⟩
theorem lv_obs {K : Nat → Prop} {w : World} {mb : Nat} {s : St} (h : Lv K w mb s) :
    Calls Try.prog 13 #[.pointer (some ⟨mb, 0, none⟩)] w fun e w' => ObsPost w s e w' := by
  obtain ⟨O, ⟨D, fv, uv, rv, pa, pc, XF, XR, m⟩, ho⟩ := h.mx
  exact obs_any m h.ok
end Go.Proofs.Ytangnoicnogddaa.Tr
