/- The contract of start. -/
import Derived.Test.YtangnoicnogddaaMms
namespace Go.Proofs.Ytangnoicnogddaa.Tr
open Go.RowKit

theorem Strs.frO {O : Nat → Prop} {w W : World} {ad : Option Addr} {ns : List Nm} (h : Strs w ad ns) (hd : Dn (fun k => ¬ O k) ad ns.length) (f : Fr O w W) : Strs W ad ns := fun hne => by
  obtain ⟨bb, bo, rfl, hc⟩ := h hne
  refine ⟨bb, bo, rfl, fun i hi => ?_⟩
  have hcc := hc i hi
  have hlt := World.block_lt_of_cell? w _ hcc
  rw [World.cell?_of_block (w := w) (f.block bb hlt (hd (List.length_pos_iff.2 hne) _ rfl))]
  exact hcc
theorem UIn.frO {O : Nat → Prop} {w W : World} {u : Ut} {x : Uv} (h : UIn w u x) (h1 : Dn (fun k => ¬ O k) x.ra u.r.length) (h2 : Dn (fun k => ¬ O k) x.aa u.a.length) (f : Fr O w W) : UIn W u x := { h with r := h.r.frO h1 f, a := h.a.frO h2 f }
theorem uv_inj {x y : Uv} (h : x.v = y.v) : x.cs = y.cs := by
  have := congrArg (fun v => match v with | Value.agg l => l.toList | _ => []) h
  simpa [Uv.v] using this
theorem uk_cs {D : Nat → Prop} {w : World} {u : Ut} {x y : Uv} (h : UK D w u x) (hc : x.cs = y.cs) : UK D w u y := by
  obtain ⟨p, k, a, l, c, a2, l2, c2⟩ := x
  obtain ⟨p', k', a', l', c', a2', l2', c2'⟩ := y
  simp only [Uv.cs, List.cons.injEq, Value.string.injEq, ByteArray.mk.injEq, Value.slice.injEq, and_true] at hc
  obtain ⟨h1, h2, ⟨rfl, rfl, rfl⟩, rfl, rfl, rfl⟩ := hc
  obtain rfl : p = p' := by simpa using congrArg Array.toList h1
  obtain rfl : k = k' := by simpa using congrArg Array.toList h2
  exact h
theorem pair_snoc {α β : Type} (P : α → β → Prop) (A : List α) (B : List β) (hl : B.length = A.length) (x : α) (y : β) (hx : P x y) (hP : ∀ i (h : i < A.length) (h' : i < B.length), P A[i] B[i]) : ∀ i (h : i < (A ++ [x]).length) (h' : i < (B ++ [y]).length), P (A ++ [x])[i] (B ++ [y])[i] := fun i h h' => by
  by_cases hi : i < A.length
  · rw [List.getElem_append_left hi, List.getElem_append_left (by omega)]; exact hP _ _ _
  · rw [List.getElem_append_right (by omega), List.getElem_append_right (by omega)]
    simpa using hx
section
variable {O D : Nat → Prop} {w : World} {mb : Nat} {s : St} {fv uv rv : Value} {pa : Option Addr} {pc : Nat} {XF : List Xv} {XR : List Uv}
/-- The last step of start. -/
theorem MI.start_end (h : MI O D w mb s fv uv rv pa pc XF XR) (u : Ut) {W : World} (f : Fr (fun _ => False) w W) {w3 : World} {y : Uv} (hp : CopPost W u (.returned y.v) w3) :
    w3.cell? ⟨mb, 2, none⟩ = some rv ∧ (uBox w3 y).ownsRow 0 41 4 rv s.r.length (flatU XR) ∧
    ∀ g cap w5, w5.ownsRow 0 41 4 (.slice (some ⟨g, 0, none⟩) (s.r.length + 1) cap) (s.r.length + 1) (flatU XR ++ y.cs) → (uBox w3 y).grownBy w5 rv.ownBlock → (rv.ownBlock = some g ∨ g = (uBox w3 y).heap.size) →
      (∃ u, w5.cell? ⟨mb, 2, none⟩ = some u) ∧ w5.frozen? ⟨mb, 2, none⟩ = false ∧ Next O w mb { s with r := s.r ++ [u] } (w5.setCell ⟨mb, 2, none⟩ (.slice (some ⟨g, 0, none⟩) (s.r.length + 1) cap)) := by
  obtain ⟨f3, y', hy, uk⟩ := hp
  have hy' : y.v = y'.v := by injection hy
  have uk' := uk_cs uk (uv_inj hy').symm
  have F3 := f.trans f3 (fun _ h => h.elim)
  have m3 := (h.keep0 F3).ext (E := Bt W.heap.size w3.heap.size) (fun i hi => ⟨fun ho => by have := h.os i ho; have := f.size; have := hi.1; omega, hi.2⟩)
  have fA : Fr (fun _ => False) w3 (uBox w3 y) := (Fr.refl _ _).alloc _
  have m4 := m3.keep0 fA
  refine ⟨(h.keep0 F3).cells.2.2.1, m4.r, fun g cap w5 o hg hgb => ?_⟩
  have Fw : Fr (fun k => rv.ownBlock = some k) (uBox w3 y) w5 := (Fr.refl _ _).grown hg (fun k hk => .inl hk)
  have e1 : flatU XR ++ y.cs = flatU (XR ++ [y]) := by rw [flatU_app]; simp [flatU]
  rw [e1] at o
  have hD : On (fun k => D k ∨ Bt W.heap.size w3.heap.size k) w3 (uBox w3 y) := fun k hk => fA.block k (m3.os k (m3.od k hk)) (fun h => h)
  obtain ⟨a5, n5, c5, hv, hu, hz, nx⟩ := m4.nxt_r (r' := s.r ++ [u]) (XR' := XR ++ [y]) Fw (by rw [List.length_append]; exact o) (fun k hk => by
    obtain rfl : g = k := by simpa [Value.ownBlock] using hk
    rcases hgb with h1 | h1
    · exact .inl h1
    · exact .inr (by omega)) (by simp [h.rl]) (pair_snoc _ _ _ h.rl _ _ ((uk'.mono (fun k hk => .inr hk)).on hD) m4.re)
  have hv' : (Value.slice (some ⟨g, 0, none⟩) (s.r.length + 1) cap) = .slice a5 n5 c5 := by injection hv
  rw [← hv'] at nx
  exact ⟨hu, hz, Next.next (F3.upO.trans fA.upO (fun _ h => .inl h)) (fun k hk => hk.elim .inl (fun hk => .inr (Nat.le_trans f.size hk.1))) nx⟩

set_option maxRecDepth 100000 in
set_option maxHeartbeats 8000000 in
theorem start_any (h : MI O D w mb s fv uv rv pa pc XF XR) (hs : s.ok) (n : Nm) (u : Ut) (x : Uv) (hx : UIn w u x) (h1 : Dn (fun k => ¬ O k) x.ra u.r.length) (h2 : Dn (fun k => ¬ O k) x.aa u.a.length) :
    Calls Try.prog 24 #[.pointer (some ⟨mb, 2, none⟩), .string ⟨n.toArray⟩, x.v] w fun e w' => DoPost O w mb (startF s n u) e w' := by
  have HM := hid h
  have hrl := hs.rl
  obtain ⟨fa, fc, ua, uc, ra, rc, rfl, rfl, rfl⟩ := h.rows
  have HF := hid (uFr w x)
  have HB := hid (uBlk w x)
  have HS := hid (slot_any (HM.out.keep0 HF.out) (by unfold lim; omega) n)
  have HCL : Hid (∀ W, Fr (fun _ => False) (uBox w x) W → fourB W w.heap.size 0 x) := fun W f => (f.blk HB.out (fun h => h)).fourU
  have HMB : Hid (∀ W, Fr (fun _ => False) w W → Calls Try.prog 48 #[x.v] W fun e w' => e = .returned (.bool (mayU u)) ∧ Fr (fun _ => False) W w') := fun W f => ubox_any W u x (hx.env (Env.of f))
  have HMS : Hid (n = u.n → ∀ W, Fr (fun _ => False) w W → Calls Try.prog 49 #[.pointer (some ⟨mb, 2, none⟩), x.v, .int .i64 (fiI s.r n)] W fun e w' => e = .returned (.bool (standB s.r u)) ∧ Fr (fun _ => False) W w') := fun e W f => by
    rw [e]; exact mayStand_any (HM.out.keep0 f) hrl u x (hx.env (Env.of f))
  have HT := hid (fun (W : World) (f : Fr (fun _ => False) w W) => fails_any (HM.out.keep0 f))
  have HCU : Hid (∀ W, Fr O w W → Calls Try.prog 50 #[x.v] W fun e w' => CopPost W u e w') := fun W f => ucopy_any W u x (hx.frO h1 h2 f)
  have hxn := hx.n
  obtain ⟨St, hSt⟩ : ∃ St, St = startF s n u := ⟨_, rfl⟩
  rw [← hSt]
  have HSt := hid hSt
  clear h hx hSt h1 h2
  simp only [TryPost] at HT
  obtain ⟨n', st, xra, rl, xrc, aa, al, ac⟩ := x
  simp only [Uv.v] at *
  obtain ⟨c0, c1, c2, c3⟩ := HCL.out _ (Fr.refl _ _)
  have hmax : max 0 s.r.length = s.r.length := by omega
  clear hmax
  by_cases hn : n = u.n
  · have hnn : (n == n') = true := by rw [hxn]; simpa using hn
    have HMS := hid (HMS.out hn)
    generalize hq : mayU u = q at *
    cases q with
    | false =>
      have HR : Hid (St = (s, 70)) := by unfold Hid; rw [HSt.out]; unfold startF startOk; rw [hq]; simp
      rw [HR.out]
      generalize fiI s.r n = k at *
      clear HR HSt hxn hn hq
      go_enter Try.func24, Try.ntmps24
      go_wp2_with (first
        | (go_at_call 36; refine HS.out.mono ?_; rintro e w1 ⟨rfl, f1⟩; have F1 := hid (HF.out.trans f1 (fun _ h => h.elim)); obtain ⟨c0', c1', c2', c3'⟩ := HCL.out _ f1; clear f1)
        | (go_at_call 48; refine (HMB.out _ F1.out).mono ?_; rintro e w2 ⟨rfl, f2⟩; have F2 := hid (F1.out.trans f2 (fun _ h => h.elim)); clear f2))
      go_ret
      exact DoPost.of (r := (s, 70)) (Next.of F2.out.upO ⟨_, _, _, _, _, _, _, _, HM.out.keep0 F2.out⟩)
    | true =>
      generalize hg : standB s.r u = g at *
      cases g with
      | false =>
        have HR : Hid (St = (s, 70)) := by unfold Hid; rw [HSt.out]; unfold startF startOk; rw [hg]; simp
        rw [HR.out]
        generalize fiI s.r n = k at *
        clear HR HSt hxn hn hq hg
        go_enter Try.func24, Try.ntmps24
        go_wp2_with (first
          | (go_at_call 36; refine HS.out.mono ?_; rintro e w1 ⟨rfl, f1⟩; have F1 := hid (HF.out.trans f1 (fun _ h => h.elim)); have G1 := hid f1; obtain ⟨c0', c1', c2', c3'⟩ := HCL.out _ f1; clear f1)
          | (go_at_call 48; refine (HMB.out _ F1.out).mono ?_; rintro e w2 ⟨rfl, f2⟩; have F2 := hid (F1.out.trans f2 (fun _ h => h.elim)); have G2 := hid (G1.out.trans f2 (fun _ h => h.elim)); obtain ⟨c0'', c1'', c2'', c3''⟩ := HCL.out _ G2.out; clear f2)
          | (go_at_call 49; refine (HMS.out _ F2.out).mono ?_; rintro e w3 ⟨rfl, f3⟩; have F3 := hid (F2.out.trans f3 (fun _ h => h.elim)); clear f3))
        go_ret
        exact DoPost.of (r := (s, 70)) (Next.of F3.out.upO ⟨_, _, _, _, _, _, _, _, HM.out.keep0 F3.out⟩)
      | true =>
        have hok : startOk s n u = true := by unfold startOk; rw [hq, hg, decide_eq_true hn]; rfl
        cases hf : fi s.r u.n with
        | some i =>
          have HR : Hid (St = (s, 0)) := by unfold Hid; rw [HSt.out]; unfold startF; rw [hok, hf]; rfl
          rw [HR.out]
          have e0 : fiI s.r n = (i : Int) := by rw [hn]; exact fiI_some hf
          rw [e0] at HS HMS
          have hi0 : (0 : Int) ≤ (i : Int) := Int.natCast_nonneg _
          clear HR HSt hxn hn hq hg hok hf e0
          go_enter Try.func24, Try.ntmps24
          go_wp2_with (first
            | (go_at_call 36; refine HS.out.mono ?_; rintro e w1 ⟨rfl, f1⟩; have F1 := hid (HF.out.trans f1 (fun _ h => h.elim)); have G1 := hid f1; obtain ⟨c0', c1', c2', c3'⟩ := HCL.out _ f1; clear f1)
            | (go_at_call 48; refine (HMB.out _ F1.out).mono ?_; rintro e w2 ⟨rfl, f2⟩; have F2 := hid (F1.out.trans f2 (fun _ h => h.elim)); have G2 := hid (G1.out.trans f2 (fun _ h => h.elim)); obtain ⟨c0'', c1'', c2'', c3''⟩ := HCL.out _ G2.out; clear f2)
            | (go_at_call 49; refine (HMS.out _ F2.out).mono ?_; rintro e w3 ⟨rfl, f3⟩; have F3 := hid (F2.out.trans f3 (fun _ h => h.elim)); clear f3))
          go_ret
          exact DoPost.of (r := (s, 0)) (Next.of F3.out.upO ⟨_, _, _, _, _, _, _, _, HM.out.keep0 F3.out⟩)
        | none =>
          have e0 : fiI s.r n = -1 := by rw [hn]; exact fiI_none hf
          rw [e0] at HS HMS
          cases hb : s.p.headD false with
          | true =>
            have HR : Hid (St = ({ s with p := s.p.tail }, 71)) := by unfold Hid; rw [HSt.out]; unfold startF; rw [hok, hf]; simp only [hb, if_true, Option.isSome_none, Bool.false_eq_true, if_false]
            rw [HR.out]
            simp only [hb] at HT
            clear HR HSt hxn hn hq hg hok hf e0 hb
            go_enter Try.func24, Try.ntmps24
            go_wp2_with (first
              | (go_at_call 36; refine HS.out.mono ?_; rintro e w1 ⟨rfl, f1⟩; have F1 := hid (HF.out.trans f1 (fun _ h => h.elim)); have G1 := hid f1; obtain ⟨c0', c1', c2', c3'⟩ := HCL.out _ f1; clear f1)
              | (go_at_call 48; refine (HMB.out _ F1.out).mono ?_; rintro e w2 ⟨rfl, f2⟩; have F2 := hid (F1.out.trans f2 (fun _ h => h.elim)); have G2 := hid (G1.out.trans f2 (fun _ h => h.elim)); obtain ⟨c0'', c1'', c2'', c3''⟩ := HCL.out _ G2.out; clear f2)
              | (go_at_call 49; refine (HMS.out _ F2.out).mono ?_; rintro e w3 ⟨rfl, f3⟩; have F3 := hid (F2.out.trans f3 (fun _ h => h.elim)); clear f3)
              | (go_at_call 37; refine (HT.out _ F3.out).mono ?_; rintro e w4 ⟨rfl, f4, pa4, pc4, h4⟩; have F4 := hid f4; have H4 := hid h4; clear f4 h4))
            go_ret
            exact DoPost.of (r := (_, 71)) ((Next.of F4.out ⟨_, _, _, _, _, _, _, _, H4.out⟩).after F3.out.upO)
          | false =>
            have HR : Hid (St = ({ s with r := s.r ++ [u], p := s.p.tail }, 0)) := by unfold Hid; rw [HSt.out]; unfold startF; rw [hok, hf]; simp only [hb, if_true, Option.isSome_none, Bool.false_eq_true, if_false]
            rw [HR.out]
            simp only [hb] at HT
            clear HR HSt hxn hn hq hg hok hf e0 hb
            have hbox : Hid (¬ O w.heap.size) := fun ho => Nat.lt_irrefl _ (HM.out.os _ ho)
            go_enter Try.func24, Try.ntmps24
            go_wp2_with (first
              | (go_at_call 36; refine HS.out.mono ?_; rintro e w1 ⟨rfl, f1⟩; have F1 := hid (HF.out.trans f1 (fun _ h => h.elim)); have G1 := hid f1; obtain ⟨c0', c1', c2', c3'⟩ := HCL.out _ f1; clear f1)
              | (go_at_call 48; refine (HMB.out _ F1.out).mono ?_; rintro e w2 ⟨rfl, f2⟩; have F2 := hid (F1.out.trans f2 (fun _ h => h.elim)); have G2 := hid (G1.out.trans f2 (fun _ h => h.elim)); obtain ⟨c0'', c1'', c2'', c3''⟩ := HCL.out _ G2.out; clear f2)
              | (go_at_call 49; refine (HMS.out _ F2.out).mono ?_; rintro e w3 ⟨rfl, f3⟩; have F3 := hid (F2.out.trans f3 (fun _ h => h.elim)); have G3 := hid (G2.out.trans f3 (fun _ h => h.elim)); clear f3)
              | (go_at_call 37; refine (HT.out _ F3.out).mono ?_; rintro e w4 ⟨rfl, f4, pa4, pc4, h4⟩; have F4 := hid f4; have H4 := hid h4; clear f4 h4))
            have F40 : Hid (Fr O w w4) := F3.out.upO.trans F4.out (fun _ h => .inl h)
            have HB4 := hid (F4.out.blk (G3.out.blk HB.out (fun h => h)) hbox.out)
            obtain ⟨b0, b1, b2, b3⟩ := HB4.out.drew.fourU
            have m2 := (H4.out.keep0 ((Fr.refl (fun _ => False) w4).drew)).cells.2.2.1
            obtain ⟨i0, hi0, hz0, hz1, hz2⟩ := info_parts infoU
            have FD4 : Hid (Fr (fun _ => False) w4 w4.drew) := (Fr.refl _ _).drew
            have F40d : Hid (Fr O w w4.drew) := F40.out.drew
            clear c0 c1 c2 c3 c0' c1' c2' c3' c0'' c1'' c2'' c3'' HS HMB HMS HT HCL
            go_region_law ((first
              | (rw [if_pos (by rfl)]; go_simp; go_at_call 50; refine (HCU.out _ F40d.out).mono ?_; rintro e w5 ⟨f5, y, rfl, uk⟩; obtain ⟨m2', ho5, he5⟩ := H4.out.start_end u FD4.out ⟨f5, y, rfl, uk⟩; have HO5 := hid ho5; have HE5 := hid he5; have m2a : ∀ o, (w5.alloc o).cell? ⟨mb, 2, none⟩ = some (.slice ra s.r.length rc) := fun o => cell_fr ((Fr.refl (fun _ => False) w5).alloc o) m2'; clear f5 uk ho5 he5; obtain ⟨yn, ys, yra, yrl, yrc, yaa, yal, yac⟩ := y; simp only [Uv.v, Uv.cs])
              | (refine step_append_lies _ (by rfl) (.tmp 34) (.tmp 37) 31 (by rfl) 0 41 i0 uZ.v 4 80 Try.underlying31 hi0 hz0 hz1 hz2 rfl (by decide) (.slice ra s.r.length rc) s.r.length (flatU XR) (by rfl) HO5.out ⟨w5.heap.size, 0, none⟩ 1 1 (Uv.cs ⟨yn, ys, yra, yrl, yrc, yaa, yal, yac⟩) (by rfl) (by rfl) (fun j u hu => by rw [Addr.add_lit, Nat.zero_add]; exact ((uBlk w5 ⟨yn, ys, yra, yrl, yrc, yaa, yal, yac⟩).cell j).trans hu) (uv_one _) (by decide) (by unfold maxLen; omega) (by omega) (Nat.zero_le _) _ rfl ?_; intro g9 cap9 w9 ho9 hg9 hat9 _; obtain ⟨⟨u9, x9⟩, z9, nx9⟩ := HE5.out g9 cap9 w9 ho9 hg9 hat9; have NX := hid nx9; clear ho9 hg9 hat9 nx9)))
            all_goals
              go_wp2_with fail
              go_ret
              exact DoPost.of (r := (_, 0)) ((NX.out.after F4.out).after F3.out.upO)
  · have hnn : (n == n') = false := by rw [hxn]; simpa using hn
    have HR : Hid (St = (s, 70)) := by unfold Hid; rw [HSt.out]; unfold startF startOk; rw [decide_eq_false hn]; simp
    rw [HR.out]
    generalize fiI s.r n = k at *
    clear HR HSt hxn hn HMS
    go_enter Try.func24, Try.ntmps24
    go_wp2_with (go_at_call 36; refine HS.out.mono ?_; rintro e w1 ⟨rfl, f1⟩; have F1 := hid (HF.out.trans f1 (fun _ h => h.elim)); obtain ⟨c0', c1', c2', c3'⟩ := HCL.out _ f1; clear f1)
    go_ret
    exact DoPost.of (r := (s, 70)) (Next.of F1.out.upO ⟨_, _, _, _, _, _, _, _, HM.out.keep0 F1.out⟩)
end
end Go.Proofs.Ytangnoicnogddaa.Tr
