/- The contracts of slices.Clone at the disk's two types, and of Clone; two disks side by side. -/
import Derived.Test.YtagcpjekeogkbaaHms
namespace Go.Proofs.Ytagcpjekeogkbaa.Dk
open Go.RowKit
open Go.Proofs.Ytagcpjekeogkbaa.Wl (hid)

theorem Kp.fr0 {G : Nat → Prop} {w w' : World} (f : Fr (fun _ => False) w w') : Kp G w w' := f.mono (fun _ h => h.elim)
/-- 's == nil'. -/
theorem run_eql_nil (w : World) (t e : TypeId) (a : Option Addr) (l c : Nat) (h : Try.prog.underlying t = some (.slice e)) : (binOp .eql t (.slice a l c) (.slice none 0 0)).run Try.prog w = .ok (.bool a.isNone) w := by
  exact Lib.run_eql_slice_nil w t e a l c 0 0 h

def CloneLPost (w : World) (n : Nat) (X : List UInt8) (e : Ending) (w' : World) : Prop := ∃ g cap' Z, e = .returned (.slice (some ⟨g, 0, none⟩) n cap') ∧ n ≤ cap' ∧ w.heap.size ≤ g ∧ Blk w' g 79 (bs X ++ Z) ∧ Fr (fun _ => False) w w'

set_option maxRecDepth 100000 in
set_option maxHeartbeats 400000 in
theorem cloneL_any (w : World) (b n cap : Nat) (X : List UInt8) (Z : List Value) (hb : Blk w b 79 (bs X ++ Z)) (hX : X.length = n * 128) (h1 : 1 ≤ n) (h2 : n ≤ 1024) :
    Calls Try.prog 64 #[.slice (some ⟨b, 0, none⟩) n cap] w fun e w' => CloneLPost w n X e w' := by
  obtain ⟨i0, hi0, hz0, hz1, hz2⟩ := info_parts info59
  have hO : Hid ((w.alloc (.cells #[] 79)).ownsRow w.heap.size 79 128 (.slice (some ⟨w.heap.size, 0, none⟩) 0 0) 0 []) := World.ownsRow_made (base := w.heap.size) (e := 79) (size := 128) w #[] 0 (Nat.le_refl _) (by unfold maxLen; omega) (by simp)
  have hnews : Hid (∀ j u, (bs X)[j]? = some u → (w.alloc (.cells #[] 79)).cell? ((⟨b, 0, none⟩ : Addr).add j) = some u) := fun j u hu => by
    rw [Addr.add_mid, Nat.zero_add, (hb.alloc _).cell, List.getElem?_append_left (List.getElem?_eq_some_iff.1 hu).1]; exact hu
  have hXl : Hid ((bs X).length = n * 128) := by unfold Hid; rw [bs_length, hX]
  have hz := zero59
  have hne := fun W => run_eql_nil W 69 79 (some ⟨b, 0, none⟩) n cap Try.underlying69
  clear hb
  go_enter Try.func64, Try.ntmps64
  go_wp2_with (at_builtin; refine wpList_append_lies _ (by rfl) _ _ _ (by rfl) w.heap.size 79 i0 _ 128 128 Try.underlying69 hi0 hz0 hz1 hz2 zs_size (by omega) (.slice (some ⟨w.heap.size, 0, none⟩) 0 0) 0 [] (by rfl) (by exact hO.out) ⟨b, 0, none⟩ n cap (bs X) (by rfl) hXl.out (by exact hnews.out) (bs_one _) (by omega) (by unfold maxLen; omega) (by omega) (by simp) (w.heap.size + 1) (by simp) ?_; intro g cap2 w2 hown hgrow hat hlt)
  have hown' : w2.ownsRow w.heap.size 79 128 (.slice (some ⟨g, 0, none⟩) (0 + n) cap2) (0 + n) (bs X) := by simpa using hown
  have HP : Hid (CloneLPost w n X (.returned (.slice (some ⟨g, 0, none⟩) n cap2)) w2) := by
    obtain ⟨g', cap', cur, e1, e2, e3, e4, e5, e6, e7⟩ := hown'.2.resolve_left (fun h => by simp at h)
    simp only [Value.slice.injEq, Option.some.injEq, Addr.mk.injEq] at e1
    obtain ⟨⟨rfl, _⟩, _, rfl⟩ := e1
    refine ⟨g, cap2, cur.toList.drop ((0 + n) * 128), rfl, by omega, e2, ?_, ((Fr.refl _ w).alloc _).grown hgrow (fun k hk => ?_)⟩
    · have : bs X ++ cur.toList.drop ((0 + n) * 128) = cur.toList := by rw [← e7]; exact List.take_append_drop _ _
      rw [this]
      simpa [Blk] using e3
    · have : w.heap.size = k := by simpa [Value.ownBlock] using hk
      exact .inr (by omega)
  clear hown hown' hgrow hat hlt
  go_ret
  exact HP.out

def CloneQPost (w : World) (n : Nat) (xs : List Value) (e : Ending) (w' : World) : Prop := ∃ v, e = .returned v ∧ w'.ownsRow w.heap.size 81 129 v n xs ∧ Fr (fun _ => False) w w'

set_option maxRecDepth 100000 in
set_option maxHeartbeats 400000 in
theorem cloneQ_any (w : World) (B n : Nat) (lv : Value) (xs : List Value) (h : w.ownsRow B 81 129 lv n xs) (hone : ∀ u ∈ xs, u.oneCell' = true) (h2 : n < 1073741824) :
    Calls Try.prog 65 #[lv] w fun e w' => CloneQPost w n xs e w' := by
  obtain ⟨i0, hi0, hz0, hz1, hz2⟩ := info_parts info62
  have hO : Hid ((w.alloc (.cells #[] 81)).ownsRow w.heap.size 81 129 (.slice (some ⟨w.heap.size, 0, none⟩) 0 0) 0 []) := World.ownsRow_made (base := w.heap.size) (e := 81) (size := 129) w #[] 0 (Nat.le_refl _) (by unfold maxLen; omega) (by simp)
  have hz := zero62
  have HH := hid h
  have hxl := hid h.1
  have HOne := hid hone
  rcases h.2 with ⟨rfl, rfl⟩ | ⟨g, cap, cur, rfl, _⟩
  · have hx0 : xs = [] := List.eq_nil_of_length_eq_zero (by rw [hxl.out])
    subst hx0
    have hne := fun W => run_eql_nil W 70 81 none 0 0 Try.underlying70
    clear h hone
    go_enter Try.func65, Try.ntmps65
    go_wp2
    go_ret
    exact ⟨_, rfl, World.ownsRow_nil _ _ _ _, Fr.refl _ _⟩
  · have hne := fun W => run_eql_nil W 70 81 (some ⟨g, 0, none⟩) n cap Try.underlying70
    have hnews : Hid (∀ j u, xs[j]? = some u → (w.alloc (.cells #[] 81)).cell? ((⟨g, 0, none⟩ : Addr).add j) = some u) := (h.alloc _).cells rfl
    clear h hone
    by_cases h0 : n = 0
    · subst h0
      have hx0 : xs = [] := List.eq_nil_of_length_eq_zero (by rw [hxl.out])
      subst hx0
      have hl : ∀ (W : World) (x : Addr), (loadCells x 0).run Try.prog W = .ok #[] W := fun W x => by simpa using run_loadCells_list (P := Try.prog) W x [] (by simp)
      go_enter Try.func65, Try.ntmps65
      go_wp2
      go_ret
      exact ⟨_, rfl, hO.out, (Fr.refl _ w).alloc _⟩
    · go_enter Try.func65, Try.ntmps65
      go_wp2_with (at_builtin; refine wpList_append_lies _ (by rfl) _ _ _ (by rfl) w.heap.size 81 i0 _ 129 136 Try.underlying70 hi0 hz0 hz1 hz2 zw_size (by omega) (.slice (some ⟨w.heap.size, 0, none⟩) 0 0) 0 [] (by rfl) (by exact hO.out) ⟨g, 0, none⟩ n cap xs (by rfl) hxl.out (by exact hnews.out) HOne.out (by omega) (by unfold maxLen; omega) (by omega) (by simp) (w.heap.size + 1) (by simp) ?_; intro g2 cap2 w2 hown hgrow hat hlt)
      have HP : Hid (CloneQPost w n xs (.returned (.slice (some ⟨g2, 0, none⟩) n cap2)) w2) := ⟨_, rfl, by simpa using hown, ((Fr.refl _ w).alloc _).grown hgrow (fun k hk => by
        have : w.heap.size = k := by simpa [Value.ownBlock] using hk
        exact .inr (by omega))⟩
      clear hown hgrow hat hlt
      go_ret
      exact HP.out

theorem enc_one : ∀ (Q : List (Nat × List UInt8)), ∀ u ∈ enc Q, u.oneCell' = true
  | [], _, h => by cases h
  | q :: r, u, h => by
    rcases List.mem_append.1 h with h | h
    · exact wc_one q u h
    · exact enc_one r u h

/-- Two disks that share nothing. -/
def Own2 (G : Nat → Prop) (w : World) (p : Nat) (D : Dsk) (p2 : Nat) (D2 : Dsk) : Prop := ∃ bl bn lv bl2 bn2 lv2, Rep 0 w p bl bn lv D ∧ Rep 0 w p2 bl2 bn2 lv2 D2 ∧
  (∀ k, G k → k < w.heap.size ∧ ¬ foot p bl bn lv k ∧ ¬ foot p2 bl2 bn2 lv2 k) ∧ ∀ k, foot p bl bn lv k → ¬ foot p2 bl2 bn2 lv2 k

theorem Own2.swap {G : Nat → Prop} {w : World} {p p2 : Nat} {D D2 : Dsk} (h : Own2 G w p D p2 D2) : Own2 G w p2 D2 p D := by
  obtain ⟨bl, bn, lv, bl2, bn2, lv2, r1, r2, g, d⟩ := h
  exact ⟨bl2, bn2, lv2, bl, bn, lv, r2, r1, fun k hk => ⟨(g k hk).1, (g k hk).2.2, (g k hk).2.1⟩, fun k hk h' => d k h' hk⟩
/-- What is done to the first leaves the second alone. -/
theorem Own2.first {G : Nat → Prop} {w : World} {p p2 : Nat} {D D2 : Dsk} (h : Own2 G w p D p2 D2) : ∃ F : Nat → Prop, Own (fun k => G k ∨ F k) w p D ∧
    ∀ w' D', Own (fun k => G k ∨ F k) w' p D' → Kp (fun k => G k ∨ F k) w w' → Own2 G w' p D' p2 D2 ∧ Kp G w w' := by
  obtain ⟨bl, bn, lv, bl2, bn2, lv2, r1, r2, g, d⟩ := h
  refine ⟨foot p2 bl2 bn2 lv2, ⟨bl, bn, lv, r1, fun k hk => ?_⟩, fun w' D' h' kp => ⟨?_, Kp.less kp (fun _ hk => .inl hk)⟩⟩
  · rcases hk with hk | hk
    · exact ⟨(g k hk).1, (g k hk).2.1⟩
    · exact ⟨r2.foot_lt k hk, fun h1 => d k h1 hk⟩
  · obtain ⟨bl', bn', lv', r', g'⟩ := h'
    refine ⟨bl', bn', lv', bl2, bn2, lv2, r', r2.of_same (fun k hk => kp.block k (r2.foot_lt k hk) (fun hn => hn (.inr hk))), fun k hk => ?_, fun k hk h2 => (g' k (.inr h2)).2 hk⟩
    exact ⟨Nat.lt_of_lt_of_le (g k hk).1 kp.size, (g' k (.inl hk)).2, (g k hk).2.2⟩
theorem Own2.one {G : Nat → Prop} {w : World} {p p2 : Nat} {D D2 : Dsk} (h : Own2 G w p D p2 D2) : Own G w p D := by
  obtain ⟨bl, bn, lv, bl2, bn2, lv2, r1, r2, g, d⟩ := h
  exact ⟨bl, bn, lv, r1, fun k hk => ⟨(g k hk).1, (g k hk).2.1⟩⟩

def ClonePost (G : Nat → Prop) (w : World) (p : Nat) (D : Dsk) (e : Ending) (w' : World) : Prop := ∃ p2 cl cn zl zn, e = .returned (pv p2) ∧ Own2 G w' p D p2 { D with cl := cl, cn := cn, zl := zl, zn := zn } ∧ Kp G w w'

set_option maxRecDepth 100000 in
set_option maxHeartbeats 1000000 in
theorem clone_any {G : Nat → Prop} {w : World} {p : Nat} {D : Dsk} (h : Own G w p D) (hQ : D.Q.length < 1073741824) : Calls Try.prog 45 #[pv p] w fun e w' => ClonePost G w p D e w' := by
  obtain ⟨bl, bn, lv, r, g⟩ := h
  have c0 := r.c0
  have c1 := r.c1
  have c2 := r.c2
  have c3 := r.c3
  have c4 := r.c4
  have c5 := r.c5
  have c6 := r.c6
  have c7 := r.c7
  obtain ⟨la, lc, rfl⟩ := own_len r.hq
  have R := hid r
  have Gd := hid g
  have ra := r.alloc (.cells #[.slice (some ⟨bl, 0, none⟩) D.n D.cl, .slice (some ⟨bn, 0, none⟩) D.n D.cn, .slice la D.Q.length lc, .bool D.up, .int .i64 (D.deeds : Int), .bool D.bound, .int .i64 D.after, .int .u64 (D.keep : Int)] 72)
  have ca0 := ra.c0
  have RA := hid ra
  have BA : Hid (Blk (w.alloc (.cells #[.slice (some ⟨bl, 0, none⟩) D.n D.cl, .slice (some ⟨bn, 0, none⟩) D.n D.cn, .slice la D.Q.length lc, .bool D.up, .int .i64 (D.deeds : Int), .bool D.bound, .int .i64 D.after, .int .u64 (D.keep : Int)] 72)) w.heap.size 72 (D.head bl bn (.slice la D.Q.length lc))) := Blk.new w 72 (D.head bl bn (.slice la D.Q.length lc))
  have FA : Hid (Fr (fun _ => False) w (w.alloc (.cells #[.slice (some ⟨bl, 0, none⟩) D.n D.cl, .slice (some ⟨bn, 0, none⟩) D.n D.cn, .slice la D.Q.length lc, .bool D.up, .int .i64 (D.deeds : Int), .bool D.bound, .int .i64 D.after, .int .u64 (D.keep : Int)] 72))) := (Fr.refl _ w).alloc _
  clear r g ra
  go_enter Try.func45, Try.ntmps45
  go_wp2_with fail
  generalize hW0 : w.alloc (.cells #[.slice (some ⟨bl, 0, none⟩) D.n D.cl, .slice (some ⟨bn, 0, none⟩) D.n D.cn, .slice la D.Q.length lc, .bool D.up, .int .i64 (D.deeds : Int), .bool D.bound, .int .i64 D.after, .int .u64 (D.keep : Int)] 72) = W0 at *
  have hW0s : W0.heap.size = w.heap.size + 1 := by rw [← hW0]; simp
  clear hW0 c0 c1 c2 c3 c4 c5 c6 c7 ca0
  refine (cloneL_any W0 bl D.n D.cl D.L D.zl RA.out.hl RA.out.ok.lL RA.out.ok.n1 RA.out.ok.n2).mono ?_
  rintro e w1 ⟨g1, k1, z1, rfl, hk1, hg1, hb1, hf1⟩
  -- the first list is stored
  have R1 := RA.out.frame hf1 (fun _ _ h => h)
  have B1 := Fr.blk hf1 BA.out (fun h => h)
  have hnp : w.heap.size ≠ p := Ne.symm (Nat.ne_of_lt R.out.hp.lt)
  have sC := B1.cell 0
  have sF := B1.frozen
  have R1' := hid (R1.of_same (w' := w1.setCell ⟨w.heap.size, 0, none⟩ (.slice (some ⟨g1, 0, none⟩) D.n k1)) (fun k hk => Below.heap_setCell w1 _ _ k (fun e => by
    have := R.out.foot_lt k hk; simp only at e; omega)))
  have B1' := hid (B1.setCell 0 (.slice (some ⟨g1, 0, none⟩) D.n k1))
  have G1' := hid (hb1.setCell_ne (a := ⟨w.heap.size, 0, none⟩) (by simp only; omega) (.slice (some ⟨g1, 0, none⟩) D.n k1))
  have F1' : Hid (Fr (fun _ => False) w (w1.setCell ⟨w.heap.size, 0, none⟩ (.slice (some ⟨g1, 0, none⟩) D.n k1))) := (FA.out.trans hf1 (fun _ h => h.elim)).setCell (.inr (Nat.le_refl _)) _
  have d1 := R1'.out.c1
  have hs1 : w1.heap.size ≥ w.heap.size + 1 := by have := hf1.size; omega
  have hg1' : Hid (w.heap.size + 1 ≤ g1) := by unfold Hid; omega
  clear hf1 hb1 R1 B1 hg1
  simp only [Dsk.head, List.getElem?_cons_zero] at sC
  go_wp2_with fail
  generalize hW1 : w1.setCell ⟨w.heap.size, 0, none⟩ (.slice (some ⟨g1, 0, none⟩) D.n k1) = W1 at *
  have hW1s : W1.heap.size = w1.heap.size := by rw [← hW1]; simp [World.setCell]
  clear hW1 sC sF d1
  refine (cloneL_any W1 bn D.n D.cn D.N D.zn R1'.out.hn R1'.out.ok.lN R1'.out.ok.n1 R1'.out.ok.n2).mono ?_
  rintro e w2 ⟨g2, k2, z2, rfl, hk2, hg2, hb2, hf2⟩
  have R2 := R1'.out.frame hf2 (fun _ _ h => h)
  have B2 := Fr.blk hf2 B1'.out (fun h => h)
  have G2 := Fr.blk hf2 G1'.out (fun h => h)
  have sC := B2.cell 1
  have sF := B2.frozen
  have hlt1 := G1'.out.lt
  have R2' := hid (R2.of_same (w' := w2.setCell ⟨w.heap.size, 1, none⟩ (.slice (some ⟨g2, 0, none⟩) D.n k2)) (fun k hk => Below.heap_setCell w2 _ _ k (fun e => by
    have := R.out.foot_lt k hk; simp only at e; omega)))
  have B2' := hid (B2.setCell 1 (.slice (some ⟨g2, 0, none⟩) D.n k2))
  have G2' := hid (G2.setCell_ne (a := ⟨w.heap.size, 1, none⟩) (by have := hg1'.out; simp only; omega) (.slice (some ⟨g2, 0, none⟩) D.n k2))
  have H2' := hid (hb2.setCell_ne (a := ⟨w.heap.size, 1, none⟩) (by simp only; omega) (.slice (some ⟨g2, 0, none⟩) D.n k2))
  have F2' : Hid (Fr (fun _ => False) w (w2.setCell ⟨w.heap.size, 1, none⟩ (.slice (some ⟨g2, 0, none⟩) D.n k2))) := (F1'.out.trans hf2 (fun _ h => h.elim)).setCell (.inr (Nat.le_refl _)) _
  have d2 := R2'.out.c2
  have hg2' : Hid (g1 < g2 ∧ w.heap.size + 1 ≤ g2) := by unfold Hid; omega
  clear hf2 hb2 R2 B2 G2 hg2 hlt1 R1' B1' G1' F1'
  simp only [Dsk.head, List.set_cons_zero, List.getElem?_cons_succ, List.getElem?_cons_zero] at sC
  go_wp2_with fail
  generalize hW2 : w2.setCell ⟨w.heap.size, 1, none⟩ (.slice (some ⟨g2, 0, none⟩) D.n k2) = W2 at *
  clear hW2 sC sF d2
  refine (cloneQ_any W2 0 D.Q.length _ (enc D.Q) R2'.out.hq (enc_one _) hQ).mono ?_
  rintro e w3 ⟨v3, rfl, ho3, hf3⟩
  have R3 := R2'.out.frame hf3 (fun _ _ h => h)
  have B3 := Fr.blk hf3 B2'.out (fun h => h)
  have G3 := Fr.blk hf3 G2'.out (fun h => h)
  have H3 := Fr.blk hf3 H2'.out (fun h => h)
  have sC := B3.cell 2
  have sF := B3.frozen
  have hlt2 := H2'.out.lt
  have hv3 : ∀ k, v3.ownBlock = some k → W2.heap.size ≤ k := fun k hk => (ho3.lt k hk).1
  obtain ⟨va, vc, hv⟩ := own_len ho3
  have R3' := hid (R3.of_same (w' := w3.setCell ⟨w.heap.size, 2, none⟩ v3) (fun k hk => Below.heap_setCell w3 _ _ k (fun e => by
    have := R.out.foot_lt k hk; simp only at e; omega)))
  have F3' : Hid (Fr (fun _ => False) w (w3.setCell ⟨w.heap.size, 2, none⟩ v3)) := (F2'.out.trans hf3 (fun _ h => h.elim)).setCell (.inr (Nat.le_refl _)) _
  have hF2s := F2'.out.size
  have C3 : Hid (Rep 0 (w3.setCell ⟨w.heap.size, 2, none⟩ v3) w.heap.size g1 g2 v3 { D with cl := k1, cn := k2, zl := z1, zn := z2 }) := by
    have a1 := hg1'.out
    have a2 := hg2'.out
    exact
      { hp := B3.setCell 2 v3
        hl := G3.setCell_ne (a := ⟨w.heap.size, 2, none⟩) (by simp only; omega) v3
        hn := H3.setCell_ne (a := ⟨w.heap.size, 2, none⟩) (by simp only; omega) v3
        hq := owns_of_eq (w := w3) ⟨ho3.1, by
          rcases ho3.2 with h0 | ⟨q, c, cur, q1, q2, q3⟩
          · exact .inl h0
          · exact .inr ⟨q, c, cur, q1, Nat.zero_le _, q3⟩⟩ (fun k hk => Below.heap_setCell w3 _ _ k (fun e => by
            have := hv3 k hk; simp only at e; omega))
        pB := Nat.zero_le _
        lB := Nat.zero_le _
        nB := Nat.zero_le _
        pl := by omega
        pn := by omega
        ln := by omega
        qp := fun h => by have := hv3 _ h; omega
        ql := fun h => by have := hv3 _ h; omega
        qn := fun h => by have := hv3 _ h; omega
        ok := { R.out.ok with kl := hk1, kn := hk2 } }
  have C4 : Hid (ClonePost G w p D (.returned (pv w.heap.size)) (w3.setCell ⟨w.heap.size, 2, none⟩ v3)) := by
    have a1 := hg1'.out
    have a2 := hg2'.out
    have hfoot : ∀ k, foot w.heap.size g1 g2 v3 k → w.heap.size ≤ k := fun k hk => by
      rcases hk with hk | hk | hk | hk
      · omega
      · omega
      · omega
      · have := hv3 k hk; omega
    refine ⟨w.heap.size, k1, k2, z1, z2, rfl, ⟨bl, bn, _, g1, g2, v3, R3'.out, C3.out, fun k hk => ?_, fun k hk h2 => ?_⟩, Kp.fr0 F3'.out⟩
    · have := Gd.out k hk
      exact ⟨Nat.lt_of_lt_of_le this.1 F3'.out.size, this.2, fun h2 => by have := hfoot k h2; omega⟩
    · have := R.out.foot_lt k hk
      have := hfoot k h2
      omega
  clear hf3 R3 B3 G3 H3 ho3 hv3 R3' F3' C3 hlt2 hF2s R2' B2' G2' H2' F2'
  subst hv
  simp only [Dsk.head, List.set_cons_zero, List.set_cons_succ, List.getElem?_cons_succ, List.getElem?_cons_zero] at sC
  go_wp2
  go_ret
  exact C4.out

end Go.Proofs.Ytagcpjekeogkbaa.Dk
