/- The contract of put. -/
import Derived.Test.YtangnoicnogddaaMpt
namespace Go.Proofs.Ytangnoicnogddaa.Tr
open Go.RowKit

section
variable {O D : Nat → Prop} {w : World} {mb : Nat} {s : St} {fv uv rv : Value} {pa : Option Addr} {pc : Nat} {XF : List Xv} {XR : List Uv}
/-- One entry in a new block. -/
theorem ents_one (w : World) (e : Ent) (ad : Option Addr) (cap : Nat) (h : EntV w e ad cap) : Ents (xBox w ⟨e.path, e.kind, ad, e.data.length, cap⟩) (some ⟨w.heap.size, 0, none⟩) [e] := fun _ => by
  refine ⟨w.heap.size, 0, rfl, fun i hi => ?_⟩
  obtain rfl : i = 0 := by simpa using hi
  have B := xBlk w ⟨e.path, e.kind, ad, e.data.length, cap⟩
  exact ⟨ad, cap, B.cell 0, B.cell 1, B.cell 2, h.fr ((Fr.refl _ w).alloc _)⟩

theorem Src.frO {O : Nat → Prop} {w W : World} {ad : Option Addr} {b : List UInt8} (h : Src w ad b) (hd : Dn (fun k => ¬ O k) ad b.length) (f : Fr O w W) : Src W ad b := fun hne => by
  obtain ⟨bb, bo, rfl, hc⟩ := h hne
  refine ⟨bb, bo, rfl, fun i u hu => ?_⟩
  have hcc := hc i u hu
  have hlt := World.block_lt_of_cell? w _ hcc
  rw [World.cell?_of_block (w := w) (f.block bb hlt (hd (List.length_pos_iff.2 hne) _ rfl))]
  exact hcc
theorem EntV.frO {O : Nat → Prop} {w W : World} {e : Ent} {ad : Option Addr} {cap : Nat} (h : EntV w e ad cap) (hd : Dn (fun k => ¬ O k) ad e.data.length) (f : Fr O w W) : EntV W e ad cap := { h with src := h.src.frO hd f }
theorem Next.next {O O' : Nat → Prop} {w W W' : World} {mb : Nat} {s' : St} (f : Fr O w W) (ho : ∀ k, O' k → O k ∨ w.heap.size ≤ k) (n : Next O' W mb s' W') : Next O w mb s' W' := by
  obtain ⟨f1, O2, m, ho2⟩ := n
  exact ⟨f.trans f1 ho, O2, m, fun k hk => (ho2 k hk).elim (ho k) (fun h => .inr (Nat.le_trans f.size h))⟩
theorem Next.put_end {W : World} (nx : Next O w mb s W) {a : Option Addr} {n c : Nat} (hc : W.cell? ⟨mb, 0, none⟩ = some (.slice a n c)) {k : Nat} (hk : k < s.f.length) (e : Ent) :
    ∃ g, a = some ⟨g, 0, none⟩ ∧ n = s.f.length ∧ ∀ (W1 : World), Fr (fun _ => False) W W1 → ∀ w3 y, CofPost W1 e (.returned (Xv.v y)) w3 →
    w3.cell? ⟨mb, 0, none⟩ = some (.slice a n c) ∧ (∃ u, w3.cell? ⟨g, k * 3, none⟩ = some u) ∧ (∃ u, w3.cell? ⟨g, k * 3 + 1, none⟩ = some u) ∧ (∃ u, w3.cell? ⟨g, k * 3 + 2, none⟩ = some u) ∧
    w3.frozen? ⟨g, k * 3, none⟩ = false ∧ w3.frozen? ⟨g, k * 3 + 1, none⟩ = false ∧ w3.frozen? ⟨g, k * 3 + 2, none⟩ = false ∧ Next O w mb { s with f := s.f.set k e } (set3 w3 g (k * 3) y) := by
  obtain ⟨f, O', ⟨D', fv', uv', rv', pa', pc', XF', XR', m⟩, ho⟩ := nx
  have e0 := m.cells.1
  rw [hc] at e0
  obtain rfl := Option.some.inj e0
  obtain ⟨g, c', hge, H⟩ := m.put_end hk e
  have hg := hge
  simp only [Value.slice.injEq, List.length_set] at hg
  obtain ⟨h1, h2, h3⟩ := hg
  subst h1 h2 h3
  refine ⟨g, rfl, rfl, fun W1 f1 w3 y hp => ?_⟩
  obtain ⟨q0, q1, q2, q3, q4, q5, q6, q7⟩ := H W1 f1 w3 y hp
  exact ⟨q0, q1, q2, q3, q4, q5, q6, Next.next f ho q7⟩

set_option maxRecDepth 100000 in
set_option maxHeartbeats 8000000 in
theorem put_any (h : MI O D w mb s fv uv rv pa pc XF XR) (hs : s.ok) (n : Nm) (e : Ent) (ad : Option Addr) (cap : Nat) (hx : EntV w e ad cap) (hxo : Dn (fun k => ¬ O k) ad e.data.length) :
    Calls Try.prog 22 #[.pointer (some ⟨mb, 0, none⟩), .string ⟨n.toArray⟩, entV e ad cap] w fun r w' => DoPost O w mb (fileF s n e) r w' := by
  have HM := hid h
  obtain ⟨fa, fc, ua, uc, ra, rc, rfl, rfl, rfl⟩ := h.rows
  have HX := hid hx
  have HXO := hid hxo
  have hfl := hs.fl
  have HB : Hid (Blk (xBox w ⟨e.path, e.kind, ad, e.data.length, cap⟩) w.heap.size 39 (Xv.cs ⟨e.path, e.kind, ad, e.data.length, cap⟩)) := xBlk w _
  have HF : Hid (Fr (fun _ => False) w (xBox w ⟨e.path, e.kind, ad, e.data.length, cap⟩)) := (Fr.refl _ w).alloc _
  have HS := hid (place_any (HM.out.keep0 HF.out) hs n)
  have HRt : Hid (∀ W, Fr (fun _ => False) w W → Calls Try.prog 43 #[.slice (some ⟨W.heap.size, 0, none⟩) 1 1] (xBox W ⟨e.path, e.kind, ad, e.data.length, cap⟩) fun r w' => r = .returned (.bool (rightB [e])) ∧ Fr (fun _ => False) (xBox W ⟨e.path, e.kind, ad, e.data.length, cap⟩) w') :=
    fun W f => right_any _ _ [e] 1 (ents_one W e ad cap (HX.out.fr f)) (Nat.le_refl _)
  have HBX : Hid (∀ W : World, Fr (fun _ => False) W (xBox W ⟨e.path, e.kind, ad, e.data.length, cap⟩)) := fun W => (Fr.refl _ W).alloc _
  have HCL : Hid (∀ W, Fr (fun _ => False) (xBox w ⟨e.path, e.kind, ad, e.data.length, cap⟩) W → W.cell? ⟨w.heap.size, 0, none⟩ = some (.string ⟨e.path.toArray⟩) ∧ W.cell? ⟨w.heap.size, 1, none⟩ = some (.int .i64 e.kind) ∧ W.cell? ⟨w.heap.size, 2, none⟩ = some (.slice ad e.data.length cap)) := fun W f => by
    have B := f.blk HB.out (fun h => h)
    exact ⟨B.cell 0, B.cell 1, B.cell 2⟩
  have HMC : Hid (∀ W, Fr (fun _ => False) w W → W.cell? ⟨mb, 0, none⟩ = some (.slice fa s.f.length fc)) := fun W f => (HM.out.keep0 f).cells.1
  obtain ⟨k0, k1, k2⟩ := HCL.out _ (Fr.refl _ _)
  clear h hx hxo
  cases hr : rightB [e] with
  | false =>
    have HR : Hid (fileF s n e = (s, 70)) := by unfold Hid fileF fileOk; rw [hr]; rfl
    rw [HR.out]
    rw [hr] at HRt
    generalize pos (paths s.f) n = k at *
    generalize isAt (paths s.f) n = b at *
    clear HR hr
    go_enter Try.func22, Try.ntmps22
    go_wp2_with (first
      | (go_at_call 39; refine HS.out.mono ?_; rintro e w1 ⟨rfl, f1⟩; have F1 := hid (HF.out.trans f1 (fun _ h => h.elim)); obtain ⟨k0', k1', k2'⟩ := HCL.out _ f1; clear f1)
      | (go_at_call 43; refine (HRt.out _ F1.out).mono ?_; rintro e w2 ⟨rfl, f2⟩; have F2 := hid ((F1.out.trans (HBX.out _) (fun _ h => h.elim)).trans f2 (fun _ h => h.elim)); clear f2))
    go_ret
    exact DoPost.of (r := (s, 70)) (Next.of F2.out.upO ⟨_, _, _, _, _, _, _, _, HM.out.keep0 F2.out⟩)
  | true =>
    rw [hr] at HRt
    by_cases hn : n = e.path
    · have hnn : (n == e.path) = true := by simpa using hn
      cases ha : isAt (paths s.f) n with
      | true =>
        have HR : Hid (fileF s n e = ({ s with f := s.f.set (pos (paths s.f) n) e }, 0)) := by unfold Hid fileF fileOk; rw [hr, ha, decide_eq_true hn]; rfl
        rw [HR.out]
        rw [ha] at HS
        have hk : pos (paths s.f) n < s.f.length := by have := pos_lt_of ha; simpa [paths] using this
        generalize pos (paths s.f) n = k at *
        obtain ⟨g, c, hge, HPE⟩ := HM.out.put_end hk e
        obtain ⟨rfl, rfl⟩ : fa = some ⟨g, 0, none⟩ ∧ fc = c := by
          have := hge
          simp only [Value.slice.injEq] at this
          exact ⟨this.1, this.2.2⟩
        clear hge
        have HPE := hid HPE
        have HCF : Hid (∀ W, Fr (fun _ => False) w W → Calls Try.prog 45 #[entV e ad cap] W fun r w' => CofPost W e r w') := fun W f => cofile_any W e ad cap (HX.out.fr f)
        have hk' : (k : Int) < ((s.f.length : Nat) : Int) := by omega
        clear HR hr ha hn
        go_enter Try.func22, Try.ntmps22
        go_wp2_with (first
          | (go_at_call 39; refine HS.out.mono ?_; rintro e w1 ⟨rfl, f1⟩; have F1 := hid (HF.out.trans f1 (fun _ h => h.elim)); have G1 := hid f1; obtain ⟨k0', k1', k2'⟩ := HCL.out _ f1; clear f1)
          | (go_at_call 43; refine (HRt.out _ F1.out).mono ?_; rintro e w2 ⟨rfl, f2⟩; have F2 := hid ((F1.out.trans (HBX.out _) (fun _ h => h.elim)).trans f2 (fun _ h => h.elim)); have G2 := hid ((G1.out.trans (HBX.out _) (fun _ h => h.elim)).trans f2 (fun _ h => h.elim)); obtain ⟨k0'', k1'', k2''⟩ := HCL.out _ G2.out; clear f2))
        have m0 := HMC.out _ F2.out.drew
        go_region_with (go_at_call 45; refine (HCF.out _ F2.out.drew).mono ?_; rintro r w3 ⟨f3, y, rfl, ek⟩; obtain ⟨x0, ⟨u1, x1⟩, ⟨u2, x2⟩, ⟨u3, x3⟩, z1, z2, z3, nx⟩ := HPE.out _ F2.out.drew w3 y ⟨f3, y, rfl, ek⟩; have NX := hid nx; clear nx f3 ek; obtain ⟨yp, yk, yda, ydl, ydc⟩ := y; simp only [Xv.v, Xv.cs])
        all_goals
          go_wp2_with fail
          go_ret
          exact DoPost.of (r := (_, 0)) NX.out
      | false =>
        rw [ha] at HS
        by_cases h24 : s.f.length = 24
        · have HR : Hid (fileF s n e = (s, 70)) := by unfold Hid fileF fileOk; rw [hr, ha, decide_eq_true hn, h24]; rfl
          rw [HR.out]
          generalize pos (paths s.f) n = k at *
          clear HR hr ha hn hfl
          rw [h24] at HMC
          clear h24
          go_enter Try.func22, Try.ntmps22
          go_wp2_with (first
          | (go_at_call 39; refine HS.out.mono ?_; rintro e w1 ⟨rfl, f1⟩; have F1 := hid (HF.out.trans f1 (fun _ h => h.elim)); have G1 := hid f1; obtain ⟨k0', k1', k2'⟩ := HCL.out _ f1; clear f1)
          | (go_at_call 43; refine (HRt.out _ F1.out).mono ?_; rintro e w2 ⟨rfl, f2⟩; have F2 := hid ((F1.out.trans (HBX.out _) (fun _ h => h.elim)).trans f2 (fun _ h => h.elim)); have G2 := hid ((G1.out.trans (HBX.out _) (fun _ h => h.elim)).trans f2 (fun _ h => h.elim)); obtain ⟨k0'', k1'', k2''⟩ := HCL.out _ G2.out; have m0' := HMC.out _ F2.out; clear f2))
          go_ret
          exact DoPost.of (r := (s, 70)) (Next.of F2.out.upO ⟨_, _, _, _, _, _, _, _, HM.out.keep0 F2.out⟩)
        · have HR : Hid (fileF s n e = ({ s with f := ins s.f (pos (paths s.f) n) e }, 0)) := by unfold Hid fileF fileOk; rw [hr, ha, decide_eq_true hn, decide_eq_true h24]; rfl
          rw [HR.out]
          have hk : pos (paths s.f) n ≤ s.f.length := by have := pos_le (paths s.f) n; simpa [paths] using this
          have h24' : (((s.f.length : Nat) : Int) == 24) = false := by simp; omega
          generalize pos (paths s.f) n = k at *
          have hset : Hid ((ins s.f k ⟨[], 0, []⟩).set k e = ins s.f k e) := by
            refine List.ext_getElem? (fun i => ?_)
            rw [List.getElem?_set, ins_get _ _ hk, ins_get _ _ hk, ins_len]
            by_cases h1 : k = i
            · subst h1
              rw [if_pos rfl, if_pos (show k < s.f.length + 1 by omega), if_neg (show ¬ k < k by omega), if_pos rfl]
            · rw [if_neg h1]
              by_cases h2 : i < k
              · rw [if_pos h2, if_pos h2]
              · rw [if_neg h2, if_neg h2, if_neg (fun h => h1 h.symm), if_neg (fun h => h1 h.symm)]
          have HI := hid (fun (W : World) (f : Fr (fun _ => False) w W) => ((HM.out.keep0 f).keep0 ((Fr.refl (fun _ => False) W).alloc (.cells #[.string ⟨#[]⟩, .int .i64 0, .slice none 0 0] 39))).ins_f hk (by omega) _ 1 39 (Blk.new W 39 xZ.cs) (fun ho => Nat.lt_irrefl _ (Nat.lt_of_lt_of_le (HM.out.os _ ho) f.size)))
          have HA : Hid (∀ W : World, Fr O W (W.alloc (.cells #[.string ⟨#[]⟩, .int .i64 0, .slice none 0 0] 39))) := fun W => (Fr.refl _ W).alloc _
          have HCF : Hid (∀ W, Fr (fun _ => False) w W → Calls Try.prog 45 #[entV e ad cap] W fun r w' => CofPost W e r w') := fun W f => cofile_any W e ad cap (HX.out.fr f)
          have hk' : (k : Int) < (((ins s.f k (⟨[], 0, []⟩ : Ent)).length : Nat) : Int) := by rw [ins_len]; omega
          clear HR hr ha hn h24
          go_enter Try.func22, Try.ntmps22
          go_wp2_with (first
          | (go_at_call 39; refine HS.out.mono ?_; rintro e w1 ⟨rfl, f1⟩; have F1 := hid (HF.out.trans f1 (fun _ h => h.elim)); have G1 := hid f1; obtain ⟨k0', k1', k2'⟩ := HCL.out _ f1; clear f1)
          | (go_at_call 43; refine (HRt.out _ F1.out).mono ?_; rintro e w2 ⟨rfl, f2⟩; have F2 := hid ((F1.out.trans (HBX.out _) (fun _ h => h.elim)).trans f2 (fun _ h => h.elim)); have G2 := hid ((G1.out.trans (HBX.out _) (fun _ h => h.elim)).trans f2 (fun _ h => h.elim)); obtain ⟨k0'', k1'', k2''⟩ := HCL.out _ G2.out; have m0' := HMC.out _ F2.out; clear f2)
          | (go_at_call 44; refine (HI.out _ F2.out).mono ?_; rintro e w4 ⟨a3, n3, q3, rfl, ⟨u3, c3⟩, z3, nx⟩; have NX := hid nx; clear nx))
          obtain ⟨g, ha3, hn3, HP⟩ := NX.out.put_end (World.cell?_setCell_same' _ _ _ (by rw [c3]; rfl)) (k := k) (by show k < (ins s.f k _).length; rw [ins_len]; omega) e
          subst ha3
          simp only at hn3
          subst hn3
          simp only [hset.out] at HP
          have HPE := hid HP
          have hbox : ¬ O w.heap.size := fun ho => Nat.lt_irrefl _ (HM.out.os _ ho)
          have HG : Hid (Fr O w (w4.setCell ⟨mb, 0, none⟩ (.slice (some ⟨g, 0, none⟩) (ins s.f k ⟨[], 0, []⟩).length q3))) := (F2.out.upO.trans (HA.out _) (fun _ h => .inl h)).trans NX.out.1 (fun _ h => .inl h)
          have HB5 := hid (NX.out.1.blk (((G2.out.blk HB.out (fun h => h)).alloc _)) hbox)
          have b0 := HB5.out.drew.cell 0
          have b1 := HB5.out.drew.cell 1
          have b2 := HB5.out.drew.cell 2
          simp only [Xv.cs, List.getElem?_cons_zero, List.getElem?_cons_succ] at b0 b1 b2
          have m0 : ((w4.setCell ⟨mb, 0, none⟩ (.slice (some ⟨g, 0, none⟩) (ins s.f k ⟨[], 0, []⟩).length q3)).drew).cell? ⟨mb, 0, none⟩ = some (.slice (some ⟨g, 0, none⟩) (ins s.f k ⟨[], 0, []⟩).length q3) := World.cell?_setCell_same' w4 _ _ (by rw [c3]; rfl)
          clear HP hset HI HCF c3 z3
          obtain ⟨W5, hW5⟩ : ∃ W5, W5 = w4.setCell ⟨mb, 0, none⟩ (.slice (some ⟨g, 0, none⟩) (ins s.f k ⟨[], 0, []⟩).length q3) := ⟨_, rfl⟩
          rw [← hW5] at m0 b0 b1 b2 HPE HG HB5 ⊢
          clear hW5 NX
          have HCF : Hid (∀ W, Fr (fun _ => False) W5 W → Calls Try.prog 45 #[entV e ad cap] W fun r w' => CofPost W e r w') := fun W f => cofile_any W e ad cap ((HX.out.frO HXO.out HG.out).fr f)
          have HD5 : Hid (Fr (fun _ => False) W5 W5.drew) := (Fr.refl _ _).drew
          generalize (ins s.f k (⟨[], 0, []⟩ : Ent)).length = nl at *
          go_region_with (go_at_call 45; refine (HCF.out _ HD5.out).mono ?_; rintro r w6 ⟨f3, y, rfl, ek⟩; obtain ⟨x0, ⟨u1, x1⟩, ⟨u2, x2⟩, ⟨u3, x3⟩, z1, z2, z3, nx⟩ := HPE.out _ HD5.out w6 y ⟨f3, y, rfl, ek⟩; have NX := hid nx; clear nx f3 ek; obtain ⟨yp, yk, yda, ydl, ydc⟩ := y; simp only [Xv.v, Xv.cs])
          all_goals
            go_wp2_with fail
            go_ret
            exact DoPost.of (r := (_, 0)) (NX.out.after (F2.out.upO.trans (HA.out _) (fun _ h => .inl h)))
    · have hnn : (n == e.path) = false := by simpa using hn
      have HR : Hid (fileF s n e = (s, 70)) := by unfold Hid fileF fileOk; rw [hr, decide_eq_false hn]; rfl
      rw [HR.out]
      generalize pos (paths s.f) n = k at *
      generalize isAt (paths s.f) n = b at *
      clear HR hr hn
      go_enter Try.func22, Try.ntmps22
      go_wp2_with (first
          | (go_at_call 39; refine HS.out.mono ?_; rintro e w1 ⟨rfl, f1⟩; have F1 := hid (HF.out.trans f1 (fun _ h => h.elim)); have G1 := hid f1; obtain ⟨k0', k1', k2'⟩ := HCL.out _ f1; clear f1)
          | (go_at_call 43; refine (HRt.out _ F1.out).mono ?_; rintro e w2 ⟨rfl, f2⟩; have F2 := hid ((F1.out.trans (HBX.out _) (fun _ h => h.elim)).trans f2 (fun _ h => h.elim)); have G2 := hid ((G1.out.trans (HBX.out _) (fun _ h => h.elim)).trans f2 (fun _ h => h.elim)); obtain ⟨k0'', k1'', k2''⟩ := HCL.out _ G2.out; have m0' := HMC.out _ F2.out; clear f2))
      go_ret
      exact DoPost.of (r := (s, 70)) (Next.of F2.out.upO ⟨_, _, _, _, _, _, _, _, HM.out.keep0 F2.out⟩)
end
end Go.Proofs.Ytangnoicnogddaa.Tr
