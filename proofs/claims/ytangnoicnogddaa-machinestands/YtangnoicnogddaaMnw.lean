/- The contracts of New, Plan, Reset. -/
import Derived.Test.YtangnoicnogddaaMdd
namespace Go.Proofs.Ytangnoicnogddaa.Tr
open Go.RowKit

theorem info4 : (Try.prog.info? 4).map (fun i => (i.zero, i.size, i.bytes)) = some (some (.bool false), 1, 1) := by kernel_rfl
def boolC (p : List Bool) : List Value := p.map .bool
theorem boolC_len (p : List Bool) : (boolC p).length = p.length := by simp [boolC]
theorem boolC_one (p : List Bool) : ∀ v ∈ boolC p, v.oneCell' = true := by
  intro v hv
  obtain ⟨s, _, rfl⟩ := List.mem_map.1 hv
  rfl
theorem bools_own {w : World} {B n cap : Nat} {ad : Option Addr} {p : List Bool} (h : w.ownsRow B 4 1 (.slice ad n cap) p.length (boolC p)) : Bools w ad p := fun hne => by
  obtain ⟨g, c, e, _, hc⟩ := own_cell h (fun e => hne (by simpa [boolC] using e))
  cases e
  exact ⟨g, 0, rfl, fun i hi => by
    have := hc i (.bool p[i]) (by simp [boolC, hi])
    rw [Nat.zero_add]; exact this⟩
theorem Bools.env {w W : World} {ad : Option Addr} {p : List Bool} (h : Bools w ad p) (e : Env w W) : Bools W ad p := fun hne => by
  obtain ⟨b, o, rfl, hc⟩ := h hne
  exact ⟨b, o, rfl, fun i hi => e.cell (hc i hi)⟩
set_option maxRecDepth 100000 in
set_option maxHeartbeats 1000000 in
theorem cloneP_any (w : World) (p : List Bool) (ad : Option Addr) (cap : Nat) (hs : Bools w ad p) (hl : p.length ≤ 140737488351232) :
    Calls Try.prog 18 #[.slice ad p.length cap] w fun e w' => (∃ v, e = .returned v ∧ w'.ownsRow w.heap.size 4 1 v p.length (boolC p)) ∧ Fr (fun _ => False) w w' := by
  have HS := hid hs
  clear hs
  obtain ⟨i0, hi0, hz0, hz1, hz2⟩ := info_parts info4
  have hq := fun W : World => Lib.run_eql_slice_nil (P := Try.prog) W 22 4 ad p.length cap 0 0 Try.underlying22
  cases ad with
  | none =>
    have h0 : p = [] := by
      by_cases h : p = []
      · exact h
      · obtain ⟨_, _, e, _⟩ := HS.out h
        cases e
    subst h0
    simp only [List.length_nil, Option.isNone_none] at hq
    go_enter Try.func18, Try.ntmps18
    go_wp2_with fail
    go_ret
    exact ⟨⟨_, rfl, World.ownsRow_nil _ _ _ _⟩, Fr.refl _ _⟩
  | some a0 =>
    have HO := hid (own_empty w 4 1)
    have HS2 := hid (HS.out.env (Env.alloc w (.cells #[] 4)))
    have HF := hid ((Fr.refl (fun _ => False) w).alloc (.cells #[] 4))
    by_cases h0 : p = []
    · subst h0
      have hl : ∀ (W : World) (x : Addr), (loadCells x 0).run Try.prog W = .ok #[] W := fun W x => by simpa using run_loadCells_list (P := Try.prog) W x [] (by simp)
      have hrun : ∀ ty, (Builtin.append_ #[22, 22] ty #[.slice (some ⟨w.heap.size, 0, none⟩) 0 0, .slice (some a0) 0 cap]).run Try.prog (w.alloc (.cells #[] 4)) = .ok (.slice (some ⟨w.heap.size, 0, none⟩) 0 0) (w.alloc (.cells #[] 4)) := fun ty => by
        simp [Builtin.append_, run_underlying Try.underlying22, sizeOf, typeInfo, hi0, Builtin.lenOf, Builtin.firstCells, storeCells, hl]
      simp only [List.length_nil] at *
      go_enter Try.func18, Try.ntmps18
      go_wp2_with (at_builtin; refine Lib.wpList_append_run _ rfl _ _ _ _ rfl _ _ rfl rfl _ _ (hrun _) ?_)
      go_ret
      exact ⟨⟨_, rfl, HO.out⟩, HF.out⟩
    · obtain ⟨bb, bo, e, hc⟩ := HS2.out h0
      cases e
      have hcell : ∀ j u, (boolC p)[j]? = some u → (w.alloc (.cells #[] 4)).cell? ((⟨bb, bo, none⟩ : Addr).add j) = some u := fun j u hu => by
        rw [Addr.add_mid]
        have hj : j < p.length := by have := (List.getElem?_eq_some_iff.1 hu).1; rwa [boolC_len] at this
        rw [hc j hj]
        simp [boolC, hj] at hu
        rw [← hu]
      have HC := hid hcell
      clear hcell
      have hpos : 0 < p.length := List.length_pos_iff.2 h0
      clear hc
      go_enter Try.func18, Try.ntmps18
      go_wp2_with (at_builtin; refine wpList_append_lies _ rfl _ _ 22 rfl w.heap.size 4 i0 _ 1 1 Try.underlying22 hi0 hz0 hz1 hz2 rfl (by omega) _ 0 [] rfl HO.out ⟨bb, bo, none⟩ p.length cap (boolC p) rfl (by rw [boolC_len]; omega) HC.out (boolC_one p) hpos (by unfold maxLen; omega) (by omega) (by simp) _ rfl ?_; intro g1 cap1 w1 h1 h2 h3 h4)
      go_ret
      simp only [Nat.zero_add, List.nil_append] at h1
      exact ⟨⟨.slice (some ⟨g1, 0, none⟩) p.length cap1, rfl, h1⟩, HF.out.grown h2 (fun k hk => .inr (by cases hk; exact Nat.le_refl _))⟩

/-- A machine that is new. -/
def NewPost (w : World) (e : Ending) (w' : World) : Prop := ∃ mb, e = .returned (.pointer (some ⟨mb, 0, none⟩)) ∧ Fr (fun _ => False) w w' ∧ w.heap.size ≤ mb ∧ MX (fun k => k = mb) w' mb ⟨[], [], [], []⟩
set_option maxRecDepth 100000 in
set_option maxHeartbeats 1000000 in
theorem new_any (w : World) : Calls Try.prog 7 #[] w fun e w' => NewPost w e w' := by
  have HE : Hid (NewPost w (.returned (.pointer (some ⟨w.heap.size, 0, none⟩))) (w.alloc (.cells #[.slice none 0 0, .slice none 0 0, .slice none 0 0, .slice none 0 0] 59))) := by
    refine ⟨w.heap.size, rfl, (Fr.refl _ w).alloc _, Nat.le_refl _, fun _ => False, .slice none 0 0, .slice none 0 0, .slice none 0 0, none, 0, [], [], ?_⟩
    exact {
      blk := Blk.new w _ _
      f := World.ownsRow_nil _ _ _ _
      u := World.ownsRow_nil _ _ _ _
      r := World.ownsRow_nil _ _ _ _
      p := fun h => absurd rfl h
      pd := fun h => absurd h (by simp)
      pl := Nat.le_refl _
      pm := by simp [maxLen]
      fl := rfl
      fe := fun i h => absurd h (by simp)
      rl := rfl
      re := fun i h => absurd h (by simp)
      om := rfl
      dm := fun h => h
      bf := fun k h => by cases h
      bu := fun k h => by cases h
      br := fun k h => by cases h
      fu := fun k h => by cases h
      fr := fun k h => by cases h
      ur := fun k h => by cases h
      od := fun k h => h.elim
      os := fun k h => by subst h; rw [World.size_alloc]; omega }
  go_enter Try.func7, Try.ntmps7
  go_wp2_with fail
  go_ret
  exact HE.out
section
variable {O D : Nat → Prop} {w : World} {mb : Nat} {s : St} {fv uv rv : Value} {pa : Option Addr} {pc : Nat} {XF : List Xv} {XR : List Uv}
set_option maxRecDepth 100000 in
set_option maxHeartbeats 1000000 in
theorem plan_any (h : MI O D w mb s fv uv rv pa pc XF XR) (p : List Bool) (ad : Option Addr) (cap : Nat) (hp : Bools w ad p) (hl : p.length ≤ 140737488351232) :
    Calls Try.prog 8 #[.pointer (some ⟨mb, 0, none⟩), .slice ad p.length cap] w fun e w' => e = .returned (.tuple #[]) ∧ Next O w mb { s with p := p } w' := by
  have HM := hid h
  have HC := hid (cloneP_any w p ad cap hp hl)
  clear h hp
  go_enter Try.func8, Try.ntmps8
  go_wp2_with fail
  refine HC.out.mono ?_
  rintro e w1 ⟨⟨v, rfl, o1⟩, f1⟩
  obtain ⟨a1, k1, rfl⟩ := own_len o1
  have m1 := (HM.out.keep0 f1).ext (E := Bt w.heap.size w1.heap.size) (fun i hi => ⟨fun ho => by have := HM.out.os i ho; have := hi.1; omega, hi.2⟩)
  have m2 := m1.plan p a1 k1 (bools_own o1) ((dn_own o1 (Nat.le_refl _)).mono (fun k hk => .inr hk)) (own_cap o1).2.1 (own_cap o1).2.2
  have c3 := (HM.out.keep0 f1).cells.2.2.2
  have z3 := (HM.out.keep0 f1).blk.frozen 3
  have HE : Hid (Next O w mb { s with p := p } (w1.setCell ⟨mb, 3, none⟩ (.slice a1 p.length k1))) := ⟨f1.upO.setCell (.inl HM.out.om) _, _, ⟨_, _, _, _, _, _, _, _, m2⟩, fun k hk => hk.elim .inl (fun hk => .inr hk.1)⟩
  clear o1 m1 m2 f1
  go_wp2_with fail
  go_end0
  exact ⟨rfl, HE.out⟩
set_option maxRecDepth 100000 in
set_option maxHeartbeats 1000000 in
theorem reset_any (h : MI O D w mb s fv uv rv pa pc XF XR) :
    Calls Try.prog 9 #[.pointer (some ⟨mb, 0, none⟩)] w fun e w' => e = .returned (.tuple #[]) ∧ Next O w mb ⟨[], [], [], s.p⟩ w' := by
  have m1 := h.files (f' := []) (XF' := []) (fv' := .slice none 0 0) (Fr.refl _ _) (World.ownsRow_nil _ _ _ _) (fun k hk => by cases hk) rfl (fun i h => absurd h (by simp))
  have m2 := m1.users (u' := []) (uv' := .slice none 0 0) (Fr.refl _ _) (World.ownsRow_nil _ _ _ _) (fun k hk => by cases hk)
  have m3 := m2.units (r' := []) (XR' := []) (rv' := .slice none 0 0) (Fr.refl _ _) (World.ownsRow_nil _ _ _ _) (fun k hk => by cases hk) rfl (fun i h => absurd h (by simp))
  obtain ⟨c0, c1, c2, _⟩ := h.cells
  have z0 := h.blk.frozen 0
  have z1 := h.blk.frozen 1
  have z2 := h.blk.frozen 2
  have HE : Hid (Next O w mb ⟨[], [], [], s.p⟩ (((w.setCell ⟨mb, 0, none⟩ (.slice none 0 0)).setCell ⟨mb, 1, none⟩ (.slice none 0 0)).setCell ⟨mb, 2, none⟩ (.slice none 0 0))) :=
    ⟨(((Fr.refl O w).setCell (p := ⟨mb, 0, none⟩) (.inl h.om) _).setCell (p := ⟨mb, 1, none⟩) (.inl h.om) _).setCell (p := ⟨mb, 2, none⟩) (.inl h.om) _, _, ⟨_, _, _, _, _, _, _, _, m3⟩, fun k hk => by
      rcases hk with ((hk | hk) | hk) | hk
      · exact .inl hk
      · cases hk
      · cases hk
      · cases hk⟩
  clear h m1 m2 m3
  go_enter Try.func9, Try.ntmps9
  go_wp2_with fail
  go_end0
  exact ⟨rfl, HE.out⟩
end
end Go.Proofs.Ytangnoicnogddaa.Tr
