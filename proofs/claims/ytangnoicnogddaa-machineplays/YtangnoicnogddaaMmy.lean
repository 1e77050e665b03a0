/- The contract of the document's May. -/
import Derived.Test.YtangnoicnogddaaMlvM
namespace Go.Proofs.Ytangnoicnogddaa.Tr
open Go.RowKit

/-- 'append(l, more...)' of texts. -/
theorem wp_app_S {o : Oper} {a : Act} {W : World} {K : Act → World → Prop} {Q : Exit → Act → World → Prop} (d s : Operand) (ho : o.op = .call { callee := .builtin .append, args := #[d, s], argTypes := #[30, 30] })
    (base : Nat) (v : Value) (X Y : List Nm) (ad : Option Addr) (cap : Nat) (hd : a.eval d = v) (hs : a.eval s = .slice ad Y.length cap) (hown : W.ownsRow base 9 1 v X.length (strC X)) (hsrc : Strs W ad Y) (hb : base ≤ W.heap.size) (hl : X.length + Y.length ≤ lim16)
    (h : ∀ v' W', W'.ownsRow base 9 1 v' (X ++ Y).length (strC (X ++ Y)) → W.grownBy W' v.ownBlock → (∀ k, v'.ownBlock = some k → v.ownBlock = some k ∨ W.heap.size ≤ k) → K (a.put o.dst v') W') : o.wp Try.prog a W K Q := by
  unfold lim16 at hl
  obtain ⟨i0, hi0, hz0, hz1, hz2⟩ := info_parts info9
  by_cases hy : Y = []
  · subst hy
    have hl : ∀ (x : Addr), (loadCells x 0).run Try.prog W = .ok #[] W := fun x => by simpa using run_loadCells_list (P := Try.prog) W x [] (by simp)
    have hrun : (Builtin.append_ #[30, 30] o.type #[v, .slice ad 0 cap]).run Try.prog W = .ok v W := by
      rcases hown.2 with ⟨rfl, h00⟩ | ⟨g, cap', cur, rfl, _, _, hnc, _⟩
      · cases ad <;> simp [Builtin.append_, run_underlying Try.underlying30, sizeOf, typeInfo, hi0, Builtin.lenOf, Builtin.firstCells, hl]
      · cases ad <;> simp [Builtin.append_, run_underlying Try.underlying30, sizeOf, typeInfo, hi0, Builtin.lenOf, Builtin.firstCells, hnc, storeCells, hl]
    unfold Oper.wp
    simp only [List.length_nil] at hs
    simp [execOp, ho, resolve, invoke, builtin, hd, hs, hrun, Result.andThen]
    exact (h v W (by simpa using hown) ⟨rfl, rfl, rfl, Nat.le_refl _, fun _ _ _ => rfl⟩ (fun k hk => .inl hk))
  · obtain ⟨bb, bo, rfl, hr⟩ := hsrc hy
    have hpos : 0 < Y.length := List.length_pos_iff.2 hy
    refine wp_append_lies W d s 30 ho base 9 i0 _ 1 16 Try.underlying30 hi0 hz0 hz1 hz2 rfl (by omega) v X.length (strC X) hd hown ⟨bb, bo, none⟩ Y.length cap (strC Y) hs (by rw [strC_len]; omega) (fun j u hu => by
      rw [Addr.add_mid]
      have hj : j < Y.length := by have := (List.getElem?_eq_some_iff.1 hu).1; rwa [strC_len] at this
      rw [hr j hj]
      simp [strC, hj] at hu
      rw [← hu]) (strC_one Y) hpos (by unfold maxLen; omega) (by omega) hb _ rfl ?_
    intro g cap' W' h1 h2 h3 h4
    refine h _ _ ?_ h2 ?_
    · rw [List.length_append, strC_app]
      exact h1
    · intro k hk
      cases hk
      rcases h3 with h3 | h3
      · exact .inl h3
      · exact .inr (by rw [h3]; exact Nat.le_refl _)

theorem step_app_S {ops : Array Oper} {o : Oper} {a : Act} {W : World} {K : Act → World → Prop} {Q : Exit → Act → World → Prop} {E : Prop} (hgd : o.guard = none) (d s : Operand) (ho : o.op = .call { callee := .builtin .append, args := #[d, s], argTypes := #[30, 30] })
    (base : Nat) (v : Value) (X Y : List Nm) (ad : Option Addr) (cap : Nat) (hd : a.eval d = v) (hs : a.eval s = .slice ad Y.length cap) (hown : W.ownsRow base 9 1 v X.length (strC X)) (hsrc : Strs W ad Y) (hb : base ≤ W.heap.size) (hl : X.length + Y.length ≤ lim16)
    (h : ∀ v' W', W'.ownsRow base 9 1 v' (X ++ Y).length (strC (X ++ Y)) → W.grownBy W' v.ownBlock → (∀ k, v'.ownBlock = some k → v.ownBlock = some k ∨ W.heap.size ≤ k) → K (a.put o.dst v') W') : if Region.wanted o (yielded ops a.tmps) = true then Oper.wp Try.prog o a W K Q else E := by
  have hw : Region.wanted o (yielded ops a.tmps) = true := by simp [Region.wanted, hgd]
  rw [if_pos hw]
  exact wp_app_S d s ho base v X Y ad cap hd hs hown hsrc hb hl h
theorem own_down {w : World} {B B' e k n : Nat} {v : Value} {xs : List Value} (h : w.ownsRow B e k v n xs) (hb : ∀ b, v.ownBlock = some b → B' ≤ b) : w.ownsRow B' e k v n xs := by
  refine ⟨h.1, ?_⟩
  rcases h.2 with h0 | ⟨g, cap, cur, hv, h1, h2⟩
  · exact .inl h0
  · exact .inr ⟨g, cap, cur, hv, hb g (by rw [hv]; rfl), h2⟩
theorem mayU_eq (u : Ut) : mayU u = ((u.n :: (u.r ++ u.a)).all nameB && (u.s.all startC && (decide (1 ≤ u.s.length) && decide (u.s.length ≤ 120)))) := by
  unfold mayU
  rw [startB_eq]
  simp only [List.all_cons, List.all_append]
  cases nameB u.n <;> cases u.r.all nameB <;> cases u.a.all nameB <;> cases u.s.all startC <;> cases decide (1 ≤ u.s.length) <;> cases decide (u.s.length ≤ 120) <;> rfl
set_option maxRecDepth 100000 in
set_option maxHeartbeats 8000000 in
theorem rmay_any (w : World) (u : Ut) (x : Uv) (hx : UIn w u x) (hl : u.r.length + u.a.length ≤ 1048576) : Calls Try.prog 17 #[x.v] w fun e w' => e = .returned (.bool (mayU u)) ∧ Fr (fun _ => False) w w' := by
  have HX := hid hx
  have hxn := hx.n
  have hxs := hx.s
  have p3 := hx.rl
  have p4 := hx.al
  rw [mayU_eq]
  obtain ⟨n, s, r, a⟩ := u
  obtain ⟨n', s', ra, rl, rc, aa, al, ac⟩ := x
  simp only at hxn hxs p3 p4 hl
  subst hxn hxs p3 p4
  have hsl : s'.length ≤ 140737488351232 := HX.out.ok.s
  obtain ⟨W0, hW0⟩ : ∃ W0, W0 = uBox w ⟨n', s', ra, r.length, rc, aa, a.length, ac⟩ := ⟨_, rfl⟩
  have hB0 : Blk W0 w.heap.size 41 (Uv.cs ⟨n', s', ra, r.length, rc, aa, a.length, ac⟩) := by rw [hW0]; exact uBlk w _
  have hF0 : Fr (fun _ => False) w W0 := by rw [hW0]; exact uFr w _
  have hs0 : W0.heap.size = w.heap.size + 1 := by rw [hW0, World.size_alloc]
  have HB := hid hB0
  have HF := hid hF0
  have HW := hid hW0
  have HS := hid hs0
  have HCL : Hid (∀ W, Fr (fun _ => False) W0 W → W.cell? ⟨w.heap.size, 0, none⟩ = some (.string ⟨n'.toArray⟩) ∧ W.cell? ⟨w.heap.size, 1, none⟩ = some (.string ⟨s'.toArray⟩) ∧ W.cell? ⟨w.heap.size, 2, none⟩ = some (.slice ra r.length rc) ∧ W.cell? ⟨w.heap.size, 3, none⟩ = some (.slice aa a.length ac)) := fun W f => (f.blk HB.out (fun h => h)).fourU
  clear hW0 hB0 hF0 hs0 hx
  simp only [Uv.v]
  have HO0 : Hid (∀ V : World, V.heap.size = w.heap.size + 1 → (V.alloc (.cells #[.string ⟨n'.toArray⟩] 9)).ownsRow (w.heap.size + 1) 9 1 (.slice (some ⟨w.heap.size + 1, 0, none⟩) 1 1) [n'].length (strC [n'])) := fun V hV => by
    have hb := Blk.new V 9 [.string ⟨n'.toArray⟩]
    rw [hV] at hb
    exact own_down (own_mk (k := 1) hb rfl (Nat.le_refl 1) (by unfold maxLen; omega) rfl) (fun b hb => by cases hb; exact Nat.le_refl _)
  obtain ⟨P, hP⟩ : ∃ P, P = ((n' :: (r ++ a)).all nameB && (s'.all startC && (decide (1 ≤ s'.length) && decide (s'.length ≤ 120)))) := ⟨_, rfl⟩
  rw [← hP]
  have HP := hid hP
  clear hP
  have HR := hid HX.out.r
  have HAa := hid HX.out.a
  go_enter Try.func17, Try.ntmps17
  go_wp2_with fail
  have hW' : w.alloc (.cells (Uv.cs ⟨n', s', ra, r.length, rc, aa, a.length, ac⟩).toArray 41) = W0 := HW.out.symm
  rw [hW']
  clear hW'
  have FD : Hid (Fr (fun _ => False) W0 W0.drew) := (Fr.refl _ _).drew
  have FA : Hid (Fr (fun _ => False) W0 (W0.alloc (.cells #[.string ⟨n'.toArray⟩] 9)).drew) := ((Fr.refl _ _).alloc _).drew
  have hsz : W0.heap.size = w.heap.size + 1 := HS.out
  go_region_held3 (fun W => W.cell? ⟨w.heap.size, 0, none⟩ = some (.string ⟨n'.toArray⟩) ∧ W.cell? ⟨w.heap.size, 2, none⟩ = some (.slice ra r.length rc) ∧ W.cell? ⟨w.heap.size, 3, none⟩ = some (.slice aa a.length ac))
    (first | exact ⟨(HCL.out _ FD.out).1, (HCL.out _ FD.out).2.2⟩ | exact ⟨(HCL.out _ FA.out).1, (HCL.out _ FA.out).2.2⟩ | exact ⟨(HCL.out _ F1.out).1, (HCL.out _ F1.out).2.2⟩ | exact ⟨(HCL.out _ F2.out).1, (HCL.out _ F2.out).2.2⟩)
    ((first
      | (refine step_app_S (by rfl) (.tmp 9) (.tmp 11) (by rfl) (w.heap.size + 1) (.slice (some ⟨w.heap.size + 1, 0, none⟩) 1 1) [n'] r ra rc (by rfl) (by rfl) (HO0.out _ hsz) (HR.out.env (Env.of (HF.out.trans FA.out (fun _ h => h.elim)))) (by have := FA.out.size; omega) (by unfold lim16; simp; omega) ?_; intro v1 W1 o1 g1 b1; obtain ⟨a1, c1, rfl⟩ := own_len o1; have O1 := hid o1; have F1 := hid (FA.out.grown g1 (fun k hk => .inr (by have := obk hk; omega))); have Q1 := hid F1.out.size; clear o1 g1 b1)
      | (refine step_app_S (by rfl) (.tmp 12) (.tmp 14) (by rfl) (w.heap.size + 1) (.slice a1 ([n'] ++ r).length c1) ([n'] ++ r) a aa ac (by rfl) (by rfl) O1.out (HAa.out.env (Env.of (HF.out.trans F1.out (fun _ h => h.elim)))) (by have := Q1.out; omega) (by unfold lim16; simp; omega) ?_; intro v2 W2 o2 g2 b2; obtain ⟨a2, c2, rfl⟩ := own_len o2; have O2 := hid o2; have F2 := hid (F1.out.grown g2 (fun k hk => .inr (by have := (own_lt O1.out k hk).1; omega))); clear o2 g2 b2)))
  obtain ⟨l, hll⟩ : ∃ l, l = [n'] ++ r ++ a := ⟨_, rfl⟩
  have hle : r.length + a.length + 1 = l.length := by rw [hll]; simp
  have hle2 : ([n'] ++ r ++ a).length = l.length := by rw [hll]
  have HY : Hid (Strs W2 a2 l) := by
    have := O2.out
    rw [← hll] at this
    exact strs_own this
  have HN : Hid ((n' :: (r ++ a)).all nameB = l.all nameB) := by unfold Hid; rw [hll]; simp
  have hl1 : l.length ≤ 1048577 := by omega
  have HP2 : Hid (P = (l.all nameB && (s'.all startC && (decide (1 ≤ s'.length) && decide (s'.length ≤ 120))))) := by unfold Hid; rw [HP.out, HN.out]
  simp only [hle, hle2]
  generalize ([n'] ++ r).length = m1
  clear O1 O2 F1 Q1 HO0 HR HAa hle hle2 hll FA FD HX
  have c1 := (HCL.out _ F2.out).2.1
  have HF2 := hid (HF.out.trans F2.out (fun _ h => h.elim))
  go_wp2_with fail
  go_loopw [4, 5] (fun iv _ wr => ∃ i : Nat, i ≤ l.length ∧ iv = .int .i64 (i : Int) ∧ (l.take i).all nameB = true ∧ Fr (fun _ => False) W2 wr) (fun iv _ _ => l.length - (intOf iv).toNat)
  case atStart => exact ⟨0, Nat.zero_le _, rfl, rfl, Fr.refl _ _⟩
  case round =>
    obtain ⟨i, hi, rfl, ha, hF⟩ := hrel
    have HA := hid ha
    have HG := hid hF
    clear ha hF
    by_cases hlt : i < l.length
    · have hi1 : (i : Int) < ((l.length : Nat) : Int) := by omega
      have hi0 : (0 : Int) ≤ (i : Int) := Int.natCast_nonneg _
      obtain ⟨b, o, rfl, k0⟩ := (HY.out.env (Env.of HG.out)).at i hlt
      have HSt := hid (all_take_succ nameB l i hlt)
      have HBad := hid (all_false_of nameB l i hlt)
      have HK := hid (rname_any wr l[i])
      generalize hq : nameB l[i] = q at *
      generalize l[i] = x at *
      cases q with
      | true =>
        go_wp2_with fail
        refine HK.out.mono ?_
        rintro e w3 ⟨rfl, f3⟩
        have HG3 := hid (HG.out.trans f3 (fun _ h => h.elim))
        clear f3
        go_wp2_with fail
        exact ⟨⟨i + 1, by omega, by go_num, by rw [HSt.out, HA.out]; rfl, HG3.out⟩, by simp [intOf]; omega⟩
      | false =>
        have HBd := hid (HBad.out rfl)
        go_wp2_with fail
        refine HK.out.mono ?_
        rintro e w3 ⟨rfl, f3⟩
        have HG3 := hid (HG.out.trans f3 (fun _ h => h.elim))
        clear f3
        go_wp2_with fail
        go_ret
        exact ⟨by rw [HP2.out, HBd.out]; rfl, HF2.out.trans HG3.out (fun _ h => h.elim)⟩
    · obtain rfl : i = l.length := by omega
      have hkn : ¬ ((l.length : Nat) : Int) < ((l.length : Nat) : Int) := by omega
      rw [List.take_length] at HA
      have HP3 : Hid (P = (s'.all startC && (decide (1 ≤ s'.length) && decide (s'.length ≤ 120)))) := by unfold Hid; rw [HP2.out, HA.out, Bool.true_and]
      have HF3 := hid (HF2.out.trans HG.out (fun _ h => h.elim))
      have d1 := (HCL.out _ (F2.out.trans HG.out (fun _ h => h.elim))).2.1
      clear HA HN HG HY F2 HCL HF HF2 hi HP HP2
      go_wp2_with fail
      go_loopw [6] (fun iv wq => ∃ k : Nat, k ≤ s'.length ∧ iv = .int .i64 (k : Int) ∧ (s'.take k).all startC = true ∧ wq = wr) (fun iv _ => s'.length - (intOf iv).toNat)
      case atStart => exact ⟨0, Nat.zero_le _, rfl, rfl, rfl⟩
      case round =>
        obtain ⟨k, hk, rfl, ha, rfl⟩ := hrel
        have HA := hid ha
        clear ha
        by_cases hlt : k < s'.length
        · have hkl' : (k : Int) < ((s'.length : Nat) : Int) := by omega
          have hk0 : (0 : Int) ≤ (k : Int) := Int.natCast_nonneg _
          have HSt := hid (all_take_succ startC s' k hlt)
          have HBad := hid (all_false_of startC s' k hlt)
          by_cases hb : startC s'[k] = true
          · rw [hb] at HSt
            have q : 32 ≤ s'[k].toNat ∧ s'[k].toNat ≤ 126 := by unfold startC at hb; simpa using hb
            have q1 : decide (((((ByteArray.mk s'.toArray)[k]'(by simpa [ByteArray.size] using hlt)).toNat : Nat) : Int) < 32) = false := by rw [str_at s' k hlt]; simp; omega
            have q2 : decide ((126 : Int) < ((((ByteArray.mk s'.toArray)[k]'(by simpa [ByteArray.size] using hlt)).toNat : Nat) : Int)) = false := by rw [str_at s' k hlt]; simp; omega
            clear HBad hb
            go_wp2_with fail
            exact ⟨⟨k + 1, by omega, by go_num, by rw [HSt.out, HA.out]; rfl, trivial⟩, by simp [intOf]; omega⟩
          · have hb' : startC s'[k] = false := by simpa using hb
            have HB := hid (HBad.out hb')
            by_cases q1' : s'[k].toNat < 32
            · have q1 : decide (((((ByteArray.mk s'.toArray)[k]'(by simpa [ByteArray.size] using hlt)).toNat : Nat) : Int) < 32) = true := by rw [str_at s' k hlt]; simp; omega
              clear HBad hb hb' HSt
              go_wp2_with fail
              go_ret
              exact ⟨by rw [HP3.out, HB.out]; rfl, HF3.out⟩
            · have q1 : decide (((((ByteArray.mk s'.toArray)[k]'(by simpa [ByteArray.size] using hlt)).toNat : Nat) : Int) < 32) = false := by rw [str_at s' k hlt]; simp; omega
              have q2 : decide ((126 : Int) < ((((ByteArray.mk s'.toArray)[k]'(by simpa [ByteArray.size] using hlt)).toNat : Nat) : Int)) = true := by
                rw [str_at s' k hlt]
                unfold startC at hb'
                simp at hb'
                simp
                have := hb' (by omega)
                omega
              clear HBad hb hb' HSt
              go_wp2_with fail
              go_ret
              exact ⟨by rw [HP3.out, HB.out]; rfl, HF3.out⟩
        · obtain rfl : k = s'.length := by omega
          have hkn : ¬ ((s'.length : Nat) : Int) < ((s'.length : Nat) : Int) := by omega
          rw [List.take_length] at HA
          have HP4 : Hid (P = (decide (1 ≤ s'.length) && decide (s'.length ≤ 120))) := by unfold Hid; rw [HP3.out, HA.out, Bool.true_and]
          clear HA hk HP3
          by_cases h1 : 1 ≤ s'.length
          · have h1' : decide (((s'.length : Nat) : Int) ≥ 1) = true := by simp; omega
            by_cases h2 : s'.length ≤ 120
            · have h2' : decide (((s'.length : Nat) : Int) ≤ 120) = true := by simp; omega
              rw [decide_eq_true h1, decide_eq_true h2] at HP4
              clear h1 h2
              go_wp2_with fail
              go_ret
              exact ⟨by rw [HP4.out]; rfl, HF3.out⟩
            · have h2' : decide (((s'.length : Nat) : Int) ≤ 120) = false := by simp; omega
              rw [decide_eq_true h1, decide_eq_false h2] at HP4
              clear h1 h2
              go_wp2_with fail
              go_ret
              exact ⟨by rw [HP4.out]; rfl, HF3.out⟩
          · have h1' : decide (((s'.length : Nat) : Int) ≥ 1) = false := by simp; omega
            rw [decide_eq_false h1, Bool.false_and] at HP4
            clear h1
            go_wp2_with fail
            go_ret
            exact ⟨by rw [HP4.out]; rfl, HF3.out⟩
end Go.Proofs.Ytangnoicnogddaa.Tr
