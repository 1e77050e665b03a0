/- The contract of the document's file (none). -/
import Derived.Test.YtangnoicnogddaaRfh
import Derived.Test.YtangnoicnogddaaTll
import Derived.Deep.CutBlock
import Derived.Deep.DeepCutAuto
import Derived.BigQuiet
import Derived.Deep.QuietTactic
namespace Go.Proofs.Ytangnoicnogddaa.Tr
open Go.RowKit

section
variable {E : Nat → Prop} {w : World} {rb : Nat} {s : St} {o : Ov} {pa : Option Addr} {pc : Nat} {XF : List Xv} {XR : List Uv}
set_option maxRecDepth 100000 in
set_option maxHeartbeats 8000000 in
set_option linter.unusedSimpArgs false in
theorem rfile_none (h : RI E w rb s o pa pc XF XR) (hs : s.ok) (a : Ac) (z : Zv) (hz : AK E w a z) (hu0 : o.fa = none) :
    Calls Try.prog 29 #[.pointer (some ⟨rb, 0, none⟩), z.v] w fun e w' => RPost E w rb (fileF s a.n a.f) e w' := by
  have hfl := hs.fl
  have hxfl := h.fl
  have HRgA : Hid (∀ (W : World) (j : Nat), Fr (fun _ => False) w W → Blk W j 39 z.x.cs → Calls Try.prog 54 #[.slice (some ⟨j, 0, none⟩) 1 1] W fun e w' => e = .returned (.bool (oneB a.f)) ∧ Fr (fun _ => False) W w') := fun W j e hb => by
    have := rright_any W (some ⟨j, 0, none⟩) [a.f] 1 (ents_oneK hz.f e hb)
    rw [rightB_one] at this; exact this
  have HFC := hid (fun (i : Nat) (hi : i < s.f.length) => h.fcell hi)
  have HBad : Hid (∀ r, r = (s, 70) → ∀ W, Fr (fun _ => False) w W → RPost E w rb r (.returned (.int .i64 70)) W) := fun r hr W f => by subst hr; exact ⟨rfl, f.upO, _, _, _, _, _, h.grow f⟩
  have HEnd := hid (fun (W : World) (f : Fr (fun _ => False) w W) (a : Option Addr) (m c B : Nat) (hB : w.heap.size ≤ B) (f' : List Ent) (X' : List Xv) (ow : W.ownsRow B 39 3 (.slice a m c) X'.length (flatE X')) (hX : X'.length = f'.length) (he : ∀ i (h1 : i < f'.length) (h2 : i < X'.length), EK (fun k => E k ∨ Bt w.heap.size W.heap.size k) W f'[i] X'[i]) => h.endF f ow hB hX he)
  have HON : Hid (∀ W, Fr (fun _ => False) w W → ∀ i (h1 : i < s.f.length) (h2 : i < XF.length), EK (fun k => E k ∨ Bt w.heap.size W.heap.size k) W s.f[i] XF[i]) := fun W f i h1 h2 => ((h.fe i h1 h2).on (h.on f)).mono (fun _ => .inl)
  have HLF := hid h.f
  have hcf := h.cf
  have c0 := h.cells.1
  have hsz := h.blk.lt
  have HZ := hid hz
  have HR : Hid (fileF s a.n a.f = if oneB a.f && decide (a.n = a.f.path) && (isAt (paths s.f) a.n || decide (s.f.length ≠ 24)) then ({ s with f := if isAt (paths s.f) a.n then s.f.set (pos (paths s.f) a.n) a.f else ins s.f (pos (paths s.f) a.n) a.f }, 0) else (s, 70)) := by
    unfold Hid fileF fileOk; rw [rightB_one]
  obtain ⟨r, hr⟩ : ∃ r, r = fileF s a.n a.f := ⟨_, rfl⟩
  rw [← hr]
  rw [← hr] at HR
  clear hr
  obtain ⟨W0, hW0⟩ : ∃ W0, W0 = (zBox w z).alloc (.cells z.x.cs.toArray 39) := ⟨_, rfl⟩
  have hF0 : Fr (fun _ => False) w W0 := by rw [hW0]; exact ((Fr.refl _ w).alloc _).alloc _
  have hBz : Blk W0 w.heap.size 43 z.cs := by rw [hW0]; exact (Blk.new w _ z.cs).alloc _
  have hBx : Blk W0 (w.heap.size + 1) 39 z.x.cs := by
    rw [hW0]; have := Blk.new (zBox w z) 39 z.x.cs; rw [World.size_alloc] at this; exact this
  have HRg := hid (HRgA.out W0 (w.heap.size + 1) hF0 hBx)
  have HCL : Hid (∀ W, Fr (fun _ => False) W0 W → W.cell? ⟨w.heap.size, 1, none⟩ = some (.string ⟨z.n.toArray⟩) ∧ W.cell? ⟨w.heap.size, 2, none⟩ = some (.string ⟨z.x.p.toArray⟩) ∧ W.cell? ⟨w.heap.size, 3, none⟩ = some (.int .i64 z.x.k) ∧ W.cell? ⟨w.heap.size, 4, none⟩ = some (.slice z.x.da z.x.dl z.x.dc) ∧ W.cell? ⟨rb, 0, none⟩ = some (.slice o.fa s.f.length o.fc)) := fun W f =>
    ⟨(f.blk hBz (fun h => h)).cell 1, (f.blk hBz (fun h => h)).cell 2, (f.blk hBz (fun h => h)).cell 3, (f.blk hBz (fun h => h)).cell 4, cell_fr (hF0.trans f (fun _ h => h.elim)) c0⟩
  have b2 := (Blk.new w 43 z.cs).cell 2
  have b3 := (Blk.new w 43 z.cs).cell 3
  have b4 := (Blk.new w 43 z.cs).cell 4
  have HW := hid hW0
  have HF0 := hid hF0
  have hs0 : W0.heap.size = w.heap.size + 1 + 1 := by rw [hW0, World.size_alloc, World.size_alloc]
  have HS0 := hid hs0
  clear hW0 hF0 hBz hBx hs0 h hz hs c0 HRgA
  have hzn := HZ.out.n
  have hp := HZ.out.f.p
  have hk := HZ.out.f.k
  have hdl := HZ.out.f.l
  obtain ⟨k', n', ⟨xp, xk, xa, xl, xc⟩, ⟨yn, ys, yra, yrl, yrc, yaa, yal, yac⟩⟩ := z
  obtain ⟨ak, n, ⟨fp, fk, fd⟩, fu⟩ := a
  obtain ⟨fs, us, rs, p⟩ := s
  obtain ⟨fa, fl, fc, oua, oul, ouc, ra, rl, rc⟩ := o
  simp only at hzn hp hk hdl hfl hcf hxfl
  subst hu0
  subst hzn hp hk hdl
  simp only [Zv.v, Zv.cs, List.getElem?_cons_zero, List.getElem?_cons_succ] at *
  have hfl' : fs.length ≤ 24 := hfl
  clear hfl
  have hcm : fc ≤ 9223372036854775807 := by have := hcf.2; unfold maxLen at this; omega
  have hcf1 := hcf.1
  clear hcf
  cases hm : oneB ⟨xp, xk, fd⟩ with
  | false =>
    rw [hm] at HRg
    have HRr : Hid (r = (⟨fs, us, rs, p⟩, 70)) := HR.out.trans (by rw [hm]; simp)
    clear HR hm
    go_enter Try.func29, Try.ntmps29
    go_wp2_with fail
    have hW' : (w.alloc (.cells (Zv.cs ⟨k', n', ⟨xp, xk, xa, fd.length, xc⟩, ⟨yn, ys, yra, yrl, yrc, yaa, yal, yac⟩⟩).toArray 43)).alloc (.cells (Xv.cs ⟨xp, xk, xa, fd.length, xc⟩).toArray 39) = W0 := HW.out.symm
    simp only [Zv.cs, Xv.cs] at hW'
    rw [hW']
    clear hW'
    go_wp2_with (go_at_call 54; refine HRg.out.mono ?_; rintro e w1 ⟨rfl, f1⟩; obtain ⟨d1, d2, d3, d4, d0⟩ := HCL.out _ f1; have F1 := hid (HF0.out.trans f1 (fun _ h => h.elim)); have G1 := hid f1; clear f1 b2 b3 b4)
    go_ret
    exact HBad.out _ HRr.out _ F1.out
  | true =>
    rw [hm] at HRg
    by_cases hn : n' = xp
    case neg =>
      have HRr : Hid (r = (⟨fs, us, rs, p⟩, 70)) := HR.out.trans (by rw [decide_eq_false hn]; simp)
      have hn' : (!(n' == xp)) = true := by simpa using hn
      clear HR hm hn
      go_enter Try.func29, Try.ntmps29
      go_wp2_with fail
      have hW' : (w.alloc (.cells (Zv.cs ⟨k', n', ⟨xp, xk, xa, fd.length, xc⟩, ⟨yn, ys, yra, yrl, yrc, yaa, yal, yac⟩⟩).toArray 43)).alloc (.cells (Xv.cs ⟨xp, xk, xa, fd.length, xc⟩).toArray 39) = W0 := HW.out.symm
      simp only [Zv.cs, Xv.cs] at hW'
      rw [hW']
      clear hW'
      go_wp2_with (go_at_call 54; refine HRg.out.mono ?_; rintro e w1 ⟨rfl, f1⟩; obtain ⟨d1, d2, d3, d4, d0⟩ := HCL.out _ f1; have F1 := hid (HF0.out.trans f1 (fun _ h => h.elim)); have G1 := hid f1; clear f1 b2 b3 b4)
      go_ret
      exact HBad.out _ HRr.out _ F1.out
    case pos =>
      subst hn
      have hn' : (!(n' == n')) = false := by simp
      have HR2 : Hid (r = if (isAt (paths fs) n' || decide (fs.length ≠ 24)) then ({ f := if isAt (paths fs) n' then fs.set (pos (paths fs) n') ⟨n', xk, fd⟩ else ins fs (pos (paths fs) n') ⟨n', xk, fd⟩, u := us, r := rs, p := p }, 0) else (⟨fs, us, rs, p⟩, 70)) := HR.out.trans (by rw [hm]; simp)
      clear hm HR
      have HSr := hid HZ.out.f.v.src
      have HFd := hid HZ.out.f.v.len
      have HEV := hid HZ.out.f.v
      go_enter Try.func29, Try.ntmps29
      go_wp2_with fail
      have hW' : (w.alloc (.cells (Zv.cs ⟨k', n', ⟨n', xk, xa, fd.length, xc⟩, ⟨yn, ys, yra, yrl, yrc, yaa, yal, yac⟩⟩).toArray 43)).alloc (.cells (Xv.cs ⟨n', xk, xa, fd.length, xc⟩).toArray 39) = W0 := HW.out.symm
      simp only [Zv.cs, Xv.cs] at hW'
      rw [hW']
      clear hW'
      go_wp2_with (first | (go_at_call 54; refine HRg.out.mono ?_; rintro e w1 ⟨rfl, f1⟩; obtain ⟨d1, d2, d3, d4, d0⟩ := HCL.out _ f1; have F1 := hid (HF0.out.trans f1 (fun _ h => h.elim)); have G1 := hid f1; clear f1 b2 b3 b4) | (at_builtin; refine Hid.out ?_))
      have HB2 := hid (xBlk w1 ⟨n', xk, xa, fd.length, xc⟩)
      have hw1 : w.heap.size + 2 ≤ w1.heap.size := by have := G1.out.size; have := HS0.out; omega
      have e2 := own_empty (xBox w1 ⟨n', xk, xa, fd.length, xc⟩) 5 1
      rw [World.size_alloc] at e2
      have HE2 := hid e2
      have HS2 := hid (HSr.out.fr ((F1.out.alloc (.cells (Xv.cs ⟨n', xk, xa, fd.length, xc⟩).toArray 39)).alloc (.cells #[] 5)))
      have hfd := HFd.out
      have k2 := (HB2.out.alloc (.cells #[] 5)).cell 2
      simp only [Xv.cs, List.getElem?_cons_zero, List.getElem?_cons_succ] at k2
      clear e2 HSr HFd HRg
      refine wpList_append_bytes (by rfl) _ _ (by rfl) (w1.heap.size + 1) 0 _ [] fd xa xc (by rfl) (by rfl) HE2.out (by rw [World.size_alloc, World.size_alloc]; omega) (by omega) HS2.out ?_
      intro v5 W5 o5 g5
      rw [Nat.zero_add, List.nil_append] at o5
      obtain ⟨a2, c2, rfl⟩ := own_len o5
      have FN5 : Fr (fun _ => False) (xBox w1 ⟨n', xk, xa, fd.length, xc⟩) W5 := ((Fr.refl _ _).alloc _).grown g5 (fun k hk => .inr (by have := obk hk; rw [World.size_alloc]; omega))
      have hB5 := FN5.blk HB2.out (fun h => h)
      have q2 := hB5.cell 2
      have z2 := hB5.frozen 2
      simp only [Xv.cs, List.getElem?_cons_zero, List.getElem?_cons_succ] at q2
      have HD5 : Hid (Blk (W5.setCell ⟨w1.heap.size, 2, none⟩ (.slice a2 fd.length c2)) w1.heap.size 39 (Xv.cs ⟨n', xk, a2, fd.length, c2⟩)) := hB5.setCell 2 _
      have hF5 : Fr (fun _ => False) w1 W5 := ((Fr.refl _ w1).alloc _).trans FN5 (fun _ h => h.elim)
      have HV : Hid (Fr (fun _ => False) w (W5.setCell ⟨w1.heap.size, 2, none⟩ (.slice a2 fd.length c2))) := (F1.out.trans hF5 (fun _ h => h.elim)).setCell (p := ⟨w1.heap.size, 2, none⟩) (.inr (by show w.heap.size ≤ w1.heap.size; omega)) _
      have HGV : Hid (Fr (fun _ => False) W0 (W5.setCell ⟨w1.heap.size, 2, none⟩ (.slice a2 fd.length c2))) := (G1.out.trans hF5 (fun _ h => h.elim)).setCell (p := ⟨w1.heap.size, 2, none⟩) (.inr G1.out.size) _
      have HO5 : Hid ((W5.setCell ⟨w1.heap.size, 2, none⟩ (.slice a2 fd.length c2)).ownsRow (w1.heap.size + 1) 5 1 (.slice a2 fd.length c2) fd.length (bs fd)) := owns_of_eq o5 (fun k hk => Below.heap_setCell _ _ _ k (by have := (own_lt o5 k hk).1; show k ≠ w1.heap.size; omega))
      clear o5 g5 hB5 FN5 hF5 HE2 HS2 HB2 k2
      go_upto_block 0 with fail
      clear q2 z2 d1 d2 d3 d4 d0
      generalize W5.setCell ⟨w1.heap.size, 2, none⟩ (.slice a2 fd.length c2) = V at *
      have HEKx : Hid (EK (Bt w.heap.size V.heap.size) V ⟨n', xk, fd⟩ ⟨n', xk, a2, fd.length, c2⟩) := ⟨rfl, rfl, rfl, ⟨src_own HO5.out, (own_cap HO5.out).2.1, HEV.out.len, HEV.out.path, HEV.out.k0, HEV.out.k1⟩, dn_own HO5.out (by omega)⟩
      have HCV : Hid (∀ W, Fr (fun _ => False) V W → W.cell? ⟨w.heap.size, 1, none⟩ = some (.string ⟨n'.toArray⟩) ∧ W.cell? ⟨rb, 0, none⟩ = some (.slice none fs.length fc) ∧ W.cell? ⟨w1.heap.size, 0, none⟩ = some (.string ⟨n'.toArray⟩) ∧ W.cell? ⟨w1.heap.size, 1, none⟩ = some (.int .i64 xk) ∧ W.cell? ⟨w1.heap.size, 2, none⟩ = some (.slice a2 fd.length c2)) := fun W f => by
        obtain ⟨d1, _, _, _, d0⟩ := HCL.out W (HGV.out.trans f (fun _ h => h.elim))
        have hB := f.blk HD5.out (fun h => h)
        exact ⟨d1, d0, hB.cell 0, hB.cell 1, hB.cell 2⟩
      obtain ⟨q, hq⟩ : ∃ q, q = pos (paths fs) n' := ⟨_, rfl⟩
      have HP := hid hq.symm
      have hqn : q ≤ fs.length := by rw [hq]; have := pos_le (paths fs) n'; unfold paths at this ⊢; rw [List.length_map] at this; exact this
      have HQ : Hid (∀ h : q < fs.length, ¬ fs[q].path < n') := fun h => by subst hq; exact pos_map_ge h
      obtain ⟨b, hb⟩ : ∃ b, b = isAt (paths fs) n' := ⟨_, rfl⟩
      have HB := hid hb
      rw [← hb, ← hq] at HR2
      clear hq hb HGV HCL HD5 HO5 HZ HEV
      have hn0 : fs.length = 0 := by
        rcases Nat.eq_zero_or_pos fs.length with h | h
        · exact h
        · obtain ⟨_, _, _, e, _⟩ := HFC.out 0 h; cases e
      go_cut [7] (fun iv wx => iv = .int .i64 (q : Int) ∧ Hid (Fr (fun _ => False) V wx))
      case first =>
        go_wp2_with fail
        go_loopw [7] (fun iv wr => ∃ i : Nat, i ≤ q ∧ iv = .int .i64 (i : Int) ∧ Hid (Fr (fun _ => False) V wr)) (fun iv _ => fs.length - (intOf iv).toNat)
        case atStart => exact ⟨0, Nat.zero_le _, rfl, Fr.refl _ _⟩
        case round =>
          obtain ⟨i, hi, rfl, HF⟩ := hrel
          have hi0 : (0 : Int) ≤ (i : Int) := Int.natCast_nonneg _
          obtain ⟨d1, d0, _, _, _⟩ := HCV.out _ HF.out
          by_cases hlt : i < q
          · have hil : i < fs.length := by omega
            exfalso; omega
          · obtain rfl : i = q := by omega
            by_cases hil : i < fs.length
            · exfalso; omega
            · have hi1 : ¬ (i : Int) < ((fs.length : Nat) : Int) := by omega
              have HN0 := hid hn0
              clear hn0
              go_wp2_with fail
              go_quiet (fail)
              have HFn : Hid (Fr (fun _ => False) V (wr.drewN nq)) := HF.out.drewN nq
              go_wp2
              go_meet
              exact ⟨rfl, HFn⟩
      case rest =>
        obtain ⟨rfl, HFc⟩ := hcut
        rename World => wr
        have hq0 : (0 : Int) ≤ (q : Int) := Int.natCast_nonneg _
        obtain ⟨d1, d0, dx0, dx1, dx2⟩ := HCV.out _ HFc.out
        go_upto_region 9 with fail
        go_cut [75] (fun c wx => c = .bool b ∧ Hid (Fr (fun _ => False) V wx))
        case first =>
          by_cases hil : q < fs.length
          · exfalso; omega
          · have hi1 : ¬ (q : Int) < ((fs.length : Nat) : Int) := by omega
            obtain rfl : b = false := by rw [HB.out]; exact isAt_map_no HP.out hil
            have HN0 := hid hn0
            clear hn0
            go_quiet (fail)
            have HFn : Hid (Fr (fun _ => False) V (wr.drewN nq)) := HFc.out.drewN nq
            go_wp2
            go_meet
            exact ⟨rfl, HFn⟩
        case rest =>
          obtain ⟨rfl, HFd⟩ := hcut
          clear HFc d1 d0 dx0 dx1 dx2 HQ
          rename World => w2
          obtain ⟨d1, d0, x0, x1, x2⟩ := HCV.out _ HFd.out
          cases b with
          | true =>
            obtain ⟨hk, _⟩ := isAt_get HB.out.symm
            rw [HP.out] at hk
            unfold paths at hk; rw [List.length_map] at hk
            exfalso; omega
          | false =>
            have HR3 := hid (HR2.out.trans (show _ = (if fs.length = 24 then ((⟨fs, us, rs, p⟩ : St), (70 : Int)) else ({ f := ins fs q ⟨n', xk, fd⟩, u := us, r := rs, p := p }, 0)) by by_cases h : fs.length = 24 <;> simp [h]))
            by_cases h24 : fs.length = 24
            · exfalso; omega
            · have hz : (((fs.length : Nat) : Int) == 24) = false := by simp; omega
              have HRr := hid (HR3.out.trans (by rw [if_neg h24]))
              clear h24 HR2 HR3
              have HN0 := hid hn0
              clear hn0
              go_wp2_with fail
              have hn0 := HN0.out
              have hq1 : (q : Int) ≤ ((fs.length : Nat) : Int) := by omega
              have hq2 : (q : Int) ≤ (fc : Int) := by omega
              have hq3 : ((fs.length : Nat) : Int) ≤ (fc : Int) := by omega
              have hqc : q ≤ fc := by omega
              have HSD : Hid (∀ W, Fr (fun _ => False) w W → XF.drop q ≠ [] → ∃ bb bo, (none : Option Addr) = some ⟨bb, bo, none⟩ ∧ ∀ j u, (flatE (XF.drop q))[j]? = some u → W.cell? ⟨bb, bo + j, none⟩ = some u) := fun W f hne => absurd (List.drop_eq_nil_of_le (by omega)) hne
              have HXl := hid hxfl
              have hVw : V.heap.size ≤ w2.heap.size := HFd.out.size
              have hwV : w.heap.size ≤ V.heap.size := HV.out.size
              have HT : Hid (∀ W, Fr (fun _ => False) w2 W → Fr (fun _ => False) w W) := fun W f => (HV.out.trans HFd.out (fun _ h => h.elim)).trans f (fun _ h => h.elim)
              have HST : Hid (∀ W, Fr (fun _ => False) w W → XF.take q ≠ [] → ∃ bb bo, (none : Option Addr) = some ⟨bb, bo, none⟩ ∧ ∀ j u, (flatE (XF.take q))[j]? = some u → W.cell? ⟨bb, bo + j, none⟩ = some u) := fun W f hne => by
                obtain ⟨bb, bo, e, _, hc⟩ := HLF.out (fun e => hne (by
                  have h0 : XF = [] := List.eq_nil_of_length_eq_zero (by have := flatE_len XF; rw [e] at this; simp at this; omega)
                  rw [h0]; simp))
                refine ⟨bb, bo, e, fun j u hj => ?_⟩
                rw [← flatE_take, List.getElem?_take] at hj
                split at hj
                · exact cell_fr f (hc j u hj)
                · cases hj
              have hl1 : (XF.take q).length = q := by rw [List.length_take]; omega
              have hl2 : (XF.drop q).length = fs.length - q := by rw [List.length_drop, hxfl]
              have he1 : (XF.take q ++ [(⟨n', xk, a2, fd.length, c2⟩ : Xv)]) ++ XF.drop q = ins XF q ⟨n', xk, a2, fd.length, c2⟩ := by rw [List.append_assoc]; rfl
              have hil : (ins XF q ⟨n', xk, a2, fd.length, c2⟩).length = (ins fs q ⟨n', xk, fd⟩).length := by rw [ins_len, ins_len, hxfl]
              have HFin := hid (fun (W : World) (f : Fr (fun _ => False) w2 W) (a : Option Addr) (m c : Nat) (ow : W.ownsRow w2.heap.size 39 3 (.slice a m c) (ins XF q ⟨n', xk, a2, fd.length, c2⟩).length (flatE (ins XF q ⟨n', xk, a2, fd.length, c2⟩))) =>
                HEnd.out W (HT.out W f) a m c w2.heap.size (by omega) (ins fs q ⟨n', xk, fd⟩) (ins XF q ⟨n', xk, a2, fd.length, c2⟩) ow hil
                  (pair_ins (EK (fun k => E k ∨ Bt w.heap.size W.heap.size k) W) fs XF hxfl q hqn _ _
                    ((HEKx.out.on (fun k hk => (HFd.out.trans f (fun _ h => h.elim)).block k hk.2 (fun h => h))).mono (fun k hk => .inr ⟨hk.1, by have := f.size; have := hk.2; omega⟩))
                    (fun i h1 h2 => HON.out W (HT.out W f) i h1 h2)))
              have HSx : Hid (∀ W, Fr (fun _ => False) w2 W → W.cell? ⟨w1.heap.size, 0, none⟩ = some (.string ⟨n'.toArray⟩) ∧ W.cell? ⟨w1.heap.size, 1, none⟩ = some (.int .i64 xk) ∧ W.cell? ⟨w1.heap.size, 2, none⟩ = some (.slice a2 fd.length c2)) := fun W f => (HCV.out W (HFd.out.trans f (fun _ h => h.elim))).2.2
              have HD0 : Hid (∀ W, Fr (fun _ => False) w2 W → W.cell? ⟨rb, 0, none⟩ = some (.slice none fs.length fc)) := fun W f => (HCV.out W (HFd.out.trans f (fun _ h => h.elim))).2.1
              have HKK : Hid (∀ W, Fr (fun _ => False) w2 W → ((fun w' => w'.cell? ⟨w1.heap.size, 0, none⟩ = some (.string ⟨n'.toArray⟩) ∧ w'.cell? ⟨w1.heap.size, 1, none⟩ = some (.int .i64 xk) ∧ w'.cell? ⟨w1.heap.size, 2, none⟩ = some (.slice a2 fd.length c2)) W) ∧ ((fun w' => w'.cell? ⟨rb, 0, none⟩ = some (.slice none fs.length fc)) W)) := fun W f => ⟨HSx.out W f, HD0.out W f⟩
              have HXb : Hid (w1.heap.size ≠ rb) := by unfold Hid; omega
              have HKT : Hid (∀ (W : World) (v : Value), (fun w' => w'.cell? ⟨w1.heap.size, 0, none⟩ = some (.string ⟨n'.toArray⟩) ∧ w'.cell? ⟨w1.heap.size, 1, none⟩ = some (.int .i64 xk) ∧ w'.cell? ⟨w1.heap.size, 2, none⟩ = some (.slice a2 fd.length c2)) W → (fun w' => w'.cell? ⟨w1.heap.size, 0, none⟩ = some (.string ⟨n'.toArray⟩) ∧ w'.cell? ⟨w1.heap.size, 1, none⟩ = some (.int .i64 xk) ∧ w'.cell? ⟨w1.heap.size, 2, none⟩ = some (.slice a2 fd.length c2)) (W.setCell ⟨rb, 0, none⟩ v)) := fun W v h => ⟨On.cell (D := fun k => k ≠ rb) (fun k hk => Below.heap_setCell W _ v k hk) HXb.out h.1, On.cell (D := fun k => k ≠ rb) (fun k hk => Below.heap_setCell W _ v k hk) HXb.out h.2.1, On.cell (D := fun k => k ≠ rb) (fun k hk => Below.heap_setCell W _ v k hk) HXb.out h.2.2⟩
              have HF0 : Hid (Fr (fun _ => False) w2 w2.drew) := (Fr.refl _ w2).drew
              clear hn0
              clear d1 x0 x1 x2 d0 HON HEKx HEnd HB HP
              refine wp_region_noPanic ?_
              refine region_till (fun w' => w'.cell? ⟨w1.heap.size, 0, none⟩ = some (.string ⟨n'.toArray⟩) ∧ w'.cell? ⟨w1.heap.size, 1, none⟩ = some (.int .i64 xk) ∧ w'.cell? ⟨w1.heap.size, 2, none⟩ = some (.slice a2 fd.length c2)) (fun w' => w'.cell? ⟨rb, 0, none⟩ = some (.slice none fs.length fc)) 24 (by kernel_rfl) ?_
              generalize w2.drew = W0 at *
              refine takeT (fun _ => True) (i := 0) (d := some 99) (.pointer (some ⟨rb, 0, none⟩)) rfl (by kernel_rfl) (by decide) (by kernel_rfl) (by kernel_rfl) (by kernel_rfl) (fun _ _ _ _ h => h) (HKK.out _ HF0.out).1 (fun _ => (HKK.out _ HF0.out).2) (.inl (fun _ _ => trivial)) (fun o ho => by cases ho; exact .inl ⟨by rfl, fun w hSw => by (go_simp)⟩) ?_
              simp only [Act.put, List.setIfInBounds_toArray, List.set_cons_zero, List.set_cons_succ]
              refine takeT (fun _ => True) (i := 2) (d := some 101) (.pointer (some ⟨rb, 0, none⟩)) rfl (by kernel_rfl) (by decide) (by kernel_rfl) (by kernel_rfl) (by kernel_rfl) (fun _ _ _ _ h => h) (HKK.out _ HF0.out).1 (fun _ => (HKK.out _ HF0.out).2) (.inl (fun _ _ => trivial)) (fun o ho => by cases ho; exact .inl ⟨by rfl, fun w hSw => by (go_simp)⟩) ?_
              simp only [Act.put, List.setIfInBounds_toArray, List.set_cons_zero, List.set_cons_succ]
              refine takeT (fun _ => True) (i := 3) (d := some 102) (.pointer (some ⟨rb, 0, none⟩)) rfl (by kernel_rfl) (by decide) (by kernel_rfl) (by kernel_rfl) (by kernel_rfl) (fun _ _ _ _ h => h) (HKK.out _ HF0.out).1 (fun _ => (HKK.out _ HF0.out).2) (.inl (fun _ _ => trivial)) (fun o ho => by cases ho; exact .inl ⟨by rfl, fun w hSw => by (go_simp)⟩) ?_
              simp only [Act.put, List.setIfInBounds_toArray, List.set_cons_zero, List.set_cons_succ]
              refine takeT (fun _ => True) (i := 4) (d := some 103) (.pointer (some ⟨rb, 0, none⟩)) rfl (by kernel_rfl) (by decide) (by kernel_rfl) (by kernel_rfl) (by kernel_rfl) (fun _ _ _ _ h => h) (HKK.out _ HF0.out).1 (fun _ => (HKK.out _ HF0.out).2) (.inl (fun _ _ => trivial)) (fun o ho => by cases ho; exact .inl ⟨by rfl, fun w hSw => by (go_simp)⟩) ?_
              simp only [Act.put, List.setIfInBounds_toArray, List.set_cons_zero, List.set_cons_succ]
              refine takeT (fun _ => True) (i := 5) (d := some 104) (.pointer (some ⟨rb, 0, none⟩)) rfl (by kernel_rfl) (by decide) (by kernel_rfl) (by kernel_rfl) (by kernel_rfl) (fun _ _ _ _ h => h) (HKK.out _ HF0.out).1 (fun _ => (HKK.out _ HF0.out).2) (.inl (fun _ _ => trivial)) (fun o ho => by cases ho; exact .inl ⟨by rfl, fun w hSw => by (go_simp)⟩) ?_
              simp only [Act.put, List.setIfInBounds_toArray, List.set_cons_zero, List.set_cons_succ]
              refine takeT (fun w' => w'.cell? ⟨rb, 0, none⟩ = some (.slice none fs.length fc)) (i := 6) (d := some 105) (.slice none fs.length fc) rfl (by kernel_rfl) (by decide) (by kernel_rfl) (by kernel_rfl) (by kernel_rfl) (fun _ _ _ _ h => h) (HKK.out _ HF0.out).1 (fun _ => (HKK.out _ HF0.out).2) (.inr ⟨fun _ h1 h2 => h2, by kernel_rfl, by kernel_rfl⟩) (fun o ho => by cases ho; exact .inl ⟨by rfl, fun w hSw => by (have hs0 := hSw; go_simp)⟩) ?_
              simp only [Act.put, List.setIfInBounds_toArray, List.set_cons_zero, List.set_cons_succ]
              refine takeT (fun _ => True) (i := 7) (d := some 106) (.int .i64 (q : Int)) rfl (by kernel_rfl) (by decide) (by kernel_rfl) (by kernel_rfl) (by kernel_rfl) (fun _ _ _ _ h => h) (HKK.out _ HF0.out).1 (fun _ => (HKK.out _ HF0.out).2) (.inl (fun _ _ => trivial)) (fun o ho => by cases ho; exact .inl ⟨by rfl, fun w hSw => by (go_simp)⟩) ?_
              simp only [Act.put, List.setIfInBounds_toArray, List.set_cons_zero, List.set_cons_succ]
              refine takeT (fun _ => True) (i := 8) (d := some 107) (.slice none q fc) rfl (by kernel_rfl) (by decide) (by kernel_rfl) (by kernel_rfl) (by kernel_rfl) (fun _ _ _ _ h => h) (HKK.out _ HF0.out).1 (fun _ => (HKK.out _ HF0.out).2) (.inl (fun _ _ => trivial)) (fun o ho => by cases ho; exact .inl ⟨by rfl, fun w hSw => by (go_simp)⟩) ?_
              simp only [Act.put, List.setIfInBounds_toArray, List.set_cons_zero, List.set_cons_succ]
              refine takeT (fun w' => w'.cell? ⟨w1.heap.size, 0, none⟩ = some (.string ⟨n'.toArray⟩) ∧ w'.cell? ⟨w1.heap.size, 1, none⟩ = some (.int .i64 xk) ∧ w'.cell? ⟨w1.heap.size, 2, none⟩ = some (.slice a2 fd.length c2)) (i := 10) (d := some 109) (.agg #[.string ⟨n'.toArray⟩, .int .i64 xk, .slice a2 fd.length c2]) rfl (by kernel_rfl) (by decide) (by kernel_rfl) (by kernel_rfl) (by kernel_rfl) (fun _ _ _ _ h => h) (HKK.out _ HF0.out).1 (fun _ => (HKK.out _ HF0.out).2) (.inl (fun _ h => h)) (fun o ho => by cases ho; exact .inl ⟨by rfl, fun w hSw => by (obtain ⟨hs0, hs1, hs2⟩ := hSw; go_simp)⟩) ?_
              simp only [Act.put, List.setIfInBounds_toArray, List.set_cons_zero, List.set_cons_succ]
              refine takeT (fun _ => True) (i := 13) (d := some 112) (.pointer (some ⟨rb, 0, none⟩)) rfl (by kernel_rfl) (by decide) (by kernel_rfl) (by kernel_rfl) (by kernel_rfl) (fun _ _ _ _ h => h) (HKK.out _ HF0.out).1 (fun _ => (HKK.out _ HF0.out).2) (.inl (fun _ _ => trivial)) (fun o ho => by cases ho; exact .inl ⟨by rfl, fun w hSw => by (go_simp)⟩) ?_
              simp only [Act.put, List.setIfInBounds_toArray, List.set_cons_zero, List.set_cons_succ]
              refine takeT (fun _ => True) (i := 14) (d := some 113) (.pointer (some ⟨rb, 0, none⟩)) rfl (by kernel_rfl) (by decide) (by kernel_rfl) (by kernel_rfl) (by kernel_rfl) (fun _ _ _ _ h => h) (HKK.out _ HF0.out).1 (fun _ => (HKK.out _ HF0.out).2) (.inl (fun _ _ => trivial)) (fun o ho => by cases ho; exact .inl ⟨by rfl, fun w hSw => by (go_simp)⟩) ?_
              simp only [Act.put, List.setIfInBounds_toArray, List.set_cons_zero, List.set_cons_succ]
              refine takeT (fun _ => True) (i := 15) (d := some 114) (.pointer (some ⟨rb, 0, none⟩)) rfl (by kernel_rfl) (by decide) (by kernel_rfl) (by kernel_rfl) (by kernel_rfl) (fun _ _ _ _ h => h) (HKK.out _ HF0.out).1 (fun _ => (HKK.out _ HF0.out).2) (.inl (fun _ _ => trivial)) (fun o ho => by cases ho; exact .inl ⟨by rfl, fun w hSw => by (go_simp)⟩) ?_
              simp only [Act.put, List.setIfInBounds_toArray, List.set_cons_zero, List.set_cons_succ]
              refine takeT (fun _ => True) (i := 16) (d := some 115) (.pointer (some ⟨rb, 0, none⟩)) rfl (by kernel_rfl) (by decide) (by kernel_rfl) (by kernel_rfl) (by kernel_rfl) (fun _ _ _ _ h => h) (HKK.out _ HF0.out).1 (fun _ => (HKK.out _ HF0.out).2) (.inl (fun _ _ => trivial)) (fun o ho => by cases ho; exact .inl ⟨by rfl, fun w hSw => by (go_simp)⟩) ?_
              simp only [Act.put, List.setIfInBounds_toArray, List.set_cons_zero, List.set_cons_succ]
              refine takeT (fun w' => w'.cell? ⟨rb, 0, none⟩ = some (.slice none fs.length fc)) (i := 17) (d := some 116) (.slice none fs.length fc) rfl (by kernel_rfl) (by decide) (by kernel_rfl) (by kernel_rfl) (by kernel_rfl) (fun _ _ _ _ h => h) (HKK.out _ HF0.out).1 (fun _ => (HKK.out _ HF0.out).2) (.inr ⟨fun _ h1 h2 => h2, by kernel_rfl, by kernel_rfl⟩) (fun o ho => by cases ho; exact .inl ⟨by rfl, fun w hSw => by (have hs0 := hSw; go_simp)⟩) ?_
              simp only [Act.put, List.setIfInBounds_toArray, List.set_cons_zero, List.set_cons_succ]
              refine takeT (fun _ => True) (i := 18) (d := some 117) (.int .i64 (q : Int)) rfl (by kernel_rfl) (by decide) (by kernel_rfl) (by kernel_rfl) (by kernel_rfl) (fun _ _ _ _ h => h) (HKK.out _ HF0.out).1 (fun _ => (HKK.out _ HF0.out).2) (.inl (fun _ _ => trivial)) (fun o ho => by cases ho; exact .inl ⟨by rfl, fun w hSw => by (go_simp)⟩) ?_
              simp only [Act.put, List.setIfInBounds_toArray, List.set_cons_zero, List.set_cons_succ]
              refine takeT (fun _ => True) (i := 19) (d := some 118) (.slice none (fs.length - q) (fc - q)) rfl (by kernel_rfl) (by decide) (by kernel_rfl) (by kernel_rfl) (by kernel_rfl) (fun _ _ _ _ h => h) (HKK.out _ HF0.out).1 (fun _ => (HKK.out _ HF0.out).2) (.inl (fun _ _ => trivial)) (fun o ho => by cases ho; exact .inl ⟨by rfl, fun w hSw => by (go_simp)⟩) ?_
              simp only [Act.put, List.setIfInBounds_toArray, List.set_cons_zero, List.set_cons_succ]
              refine twoT (i := 1) (j := 11) (by kernel_rfl) (by decide) (by decide) (fun o ho K' hK => ?_) (fun o ho K' hK => ?_)
              · skip
                cases ho
                rw [if_pos (by rfl)]
                go_simp
                have HFA : Hid (Fr (fun _ => False) w2 (W0.alloc (.cells #[] 39))) := HF0.out.alloc _
                have HWA : Hid ((W0.alloc (.cells #[] 39)).heap.size = W0.heap.size + 1) := World.size_alloc _ _
                have HOA : Hid ((W0.alloc (.cells #[] 39)).ownsRow W0.heap.size 39 3 (.slice (some ⟨W0.heap.size, 0, none⟩) 0 0) ([] : List Xv).length (flatE [])) := own_empty W0 _ _
                have HZ : Hid (w2.heap.size ≤ W0.heap.size) := HF0.out.size
                refine hK.out _ _ (HKK.out _ HFA.out).1 (fun _ _ => (HKK.out _ HFA.out).2) ?_
                clear hK K'
                try simp only [Act.put, List.setIfInBounds_toArray, List.set_cons_zero, List.set_cons_succ]
                generalize W0.alloc (.cells #[] 39) = WA at *
                refine twoT (i := 9) (j := 11) (by kernel_rfl) (by decide) (by decide) (fun o ho K' hK => ?_) (fun o ho K' hK => ?_)
                · skip
                  have HSZA : Hid (W0.heap.size ≤ WA.heap.size) := by unfold Hid; have := HWA.out; omega
                  cases ho
                  rw [if_pos (by rfl)]
                  refine wp_app_E (.tmp 100) (.tmp 107) (by rfl) W0.heap.size (.slice (some ⟨W0.heap.size, 0, none⟩) 0 0) [] (XF.take q) none fc (by rfl) (by rw [hl1]; rfl) HOA.out (HST.out _ (HT.out _ HFA.out)) (by have := HSZA.out; omega) (by rw [hl1]; simp; omega) ?_
                  intro v1 WC o1 g1 b1
                  rw [List.nil_append] at o1
                  obtain ⟨a1, q1, hv1⟩ := own_len o1
                  obtain ⟨n1, hn1⟩ : ∃ n1, n1 = (XF.take q).length := ⟨_, rfl⟩
                  rw [← hn1] at hv1
                  subst hv1
                  have HFC := hid (HFA.out.grown g1 (fun k hk => .inr (by have := obk hk; have := HZ.out; omega)))
                  have HOC := hid (own_down o1 (fun b hb => Nat.le_trans HZ.out (own_lt o1 b hb).1))
                  clear o1 g1 b1 hn1
                  refine hK.out _ _ (HKK.out _ HFC.out).1 (fun _ _ => (HKK.out _ HFC.out).2) ?_
                  clear hK K'
                  try simp only [Act.put, List.setIfInBounds_toArray, List.set_cons_zero, List.set_cons_succ]
                  refine oneT (i := 11) (by kernel_rfl) (by decide) (fun o ho K' hK => ?_)
                  cases ho
                  rw [if_pos (by rfl)]
                  go_simp
                  have HFD : Hid (Fr (fun _ => False) w2 (WC.alloc (.cells #[.string ⟨n'.toArray⟩, .int .i64 xk, .slice a2 fd.length c2] 39))) := HFC.out.alloc _
                  have HWD : Hid ((WC.alloc (.cells #[.string ⟨n'.toArray⟩, .int .i64 xk, .slice a2 fd.length c2] 39)).heap.size = WC.heap.size + 1) := World.size_alloc _ _
                  have HND : Hid (Blk (WC.alloc (.cells #[.string ⟨n'.toArray⟩, .int .i64 xk, .slice a2 fd.length c2] 39)) WC.heap.size 39 (Xv.cs ⟨n', xk, a2, fd.length, c2⟩)) := Blk.new _ _ _
                  have HOD := hid (own_fr0 HOC.out ((Fr.refl (fun _ => False) WC).alloc (.cells #[.string ⟨n'.toArray⟩, .int .i64 xk, .slice a2 fd.length c2] 39)))
                  refine hK.out _ _ (HKK.out _ HFD.out).1 (fun _ _ => (HKK.out _ HFD.out).2) ?_
                  clear hK K'
                  try simp only [Act.put, List.setIfInBounds_toArray, List.set_cons_zero, List.set_cons_succ]
                  generalize WC.alloc (.cells #[.string ⟨n'.toArray⟩, .int .i64 xk, .slice a2 fd.length c2] 39) = WD at *
                  refine oneT (i := 12) (by kernel_rfl) (by decide) (fun o ho K' hK => ?_)
                  cases ho
                  rw [if_pos (by rfl)]
                  refine wp_app_E (.tmp 108) (.tmp 110) (by rfl) w2.heap.size (.slice a1 n1 q1) (XF.take q) [⟨n', xk, a2, fd.length, c2⟩] (some ⟨WC.heap.size, 0, none⟩) 1 (by rfl) (by rfl) HOD.out (entry_src HND.out) HFD.out.size (by rw [hl1]; simp; omega) ?_
                  intro v2 WX o2 g2 b2
                  obtain ⟨a4, q4, hv2⟩ := own_len o2
                  obtain ⟨n2, hn2⟩ : ∃ n2, n2 = (XF.take q ++ [(⟨n', xk, a2, fd.length, c2⟩ : Xv)]).length := ⟨_, rfl⟩
                  rw [← hn2] at hv2
                  subst hv2
                  have HOX := hid o2
                  have HFX := hid (HFD.out.grown g2 (fun k hk => .inr (own_lt HOD.out k hk).1))
                  clear o2 g2 b2 hn2
                  refine hK.out _ _ (HKK.out _ HFX.out).1 (fun _ _ => (HKK.out _ HFX.out).2) ?_
                  clear hK K'
                  try simp only [Act.put, List.setIfInBounds_toArray, List.set_cons_zero, List.set_cons_succ]
                  refine oneT (i := 20) (by kernel_rfl) (by decide) (fun o ho K' hK => ?_)
                  cases ho
                  rw [if_pos (by rfl)]
                  refine wp_app_E (.tmp 111) (.tmp 118) (by rfl) w2.heap.size (.slice a4 n2 q4) (XF.take q ++ [⟨n', xk, a2, fd.length, c2⟩]) (XF.drop q) none (fc - q) (by rfl) (by rw [hl2]; rfl) HOX.out (HSD.out _ (HT.out _ HFX.out)) HFX.out.size (by rw [hl2, List.length_append, hl1]; simp; omega) ?_
                  intro v3 WY o3 g3 b3
                  rw [he1] at o3
                  obtain ⟨a3, q3, hv3⟩ := own_len o3
                  obtain ⟨n3, hn3⟩ : ∃ n3, n3 = (ins XF q (⟨n', xk, a2, fd.length, c2⟩ : Xv)).length := ⟨_, rfl⟩
                  rw [← hn3] at hv3
                  subst hv3
                  have HFY := hid (HFX.out.grown g3 (fun k hk => .inr (own_lt HOX.out k hk).1))
                  obtain ⟨cc, zz, ff, xx⟩ := HFin.out _ HFY.out _ _ _ o3
                  have FF := hid ff
                  have XX := hid xx
                  clear o3 g3 b3 ff xx hn3
                  refine hK.out _ _ (HKK.out _ HFY.out).1 (fun _ _ => (HKK.out _ HFY.out).2) ?_
                  clear hK K'
                  try simp only [Act.put, List.setIfInBounds_toArray, List.set_cons_zero, List.set_cons_succ]
                  refine takeT (fun _ => True) (i := 21) (d := some 120) (.pointer (some ⟨rb, 0, none⟩)) rfl (by kernel_rfl) (by decide) (by kernel_rfl) (by kernel_rfl) (by kernel_rfl) (fun _ _ _ _ h => h) (HKK.out _ HFY.out).1 (fun _ => (HKK.out _ HFY.out).2) (.inl (fun _ _ => trivial)) (fun o ho => by cases ho; exact .inl ⟨by rfl, fun w hSw => by (go_simp)⟩) ?_
                  simp only [Act.put, List.setIfInBounds_toArray, List.set_cons_zero, List.set_cons_succ]
                  refine takeT (fun _ => True) (i := 22) (d := some 121) (.pointer (some ⟨rb, 0, none⟩)) rfl (by kernel_rfl) (by decide) (by kernel_rfl) (by kernel_rfl) (by kernel_rfl) (fun _ _ _ _ h => h) (HKK.out _ HFY.out).1 (fun _ => (HKK.out _ HFY.out).2) (.inl (fun _ _ => trivial)) (fun o ho => by cases ho; exact .inl ⟨by rfl, fun w hSw => by (go_simp)⟩) ?_
                  simp only [Act.put, List.setIfInBounds_toArray, List.set_cons_zero, List.set_cons_succ]
                  refine takeT (fun _ => True) (i := 23) (d := some 122) (.pointer (some ⟨rb, 0, none⟩)) rfl (by kernel_rfl) (by decide) (by kernel_rfl) (by kernel_rfl) (by kernel_rfl) (fun _ _ _ _ h => h) (HKK.out _ HFY.out).1 (fun _ => (HKK.out _ HFY.out).2) (.inl (fun _ _ => trivial)) (fun o ho => by cases ho; exact .inl ⟨by rfl, fun w hSw => by (go_simp)⟩) ?_
                  simp only [Act.put, List.setIfInBounds_toArray, List.set_cons_zero, List.set_cons_succ]
                  refine oneT (i := 24) (by kernel_rfl) (by decide) (fun o ho K' hK => ?_)
                  cases ho
                  rw [if_pos (by rfl)]
                  go_simp
                  refine hK.out _ _ (HKT.out _ _ (HKK.out _ HFY.out).1) (fun h => absurd rfl h) ?_
                  clear hK K'
                  try simp only [Act.put, List.setIfInBounds_toArray, List.set_cons_zero, List.set_cons_succ]
                  refine doneT (by kernel_rfl) (NoPanic.normal ?_)
                  go_wp2_with fail
                  go_ret
                  rw [HRr.out]
                  exact ⟨rfl, FF.out, XX.out⟩
                · skip
                  cases ho
                  rw [if_pos (by rfl)]
                  go_simp
                  have HFB : Hid (Fr (fun _ => False) w2 (WA.alloc (.cells #[.string ⟨n'.toArray⟩, .int .i64 xk, .slice a2 fd.length c2] 39))) := HFA.out.alloc _
                  have HWB : Hid ((WA.alloc (.cells #[.string ⟨n'.toArray⟩, .int .i64 xk, .slice a2 fd.length c2] 39)).heap.size = WA.heap.size + 1) := World.size_alloc _ _
                  have HNB : Hid (Blk (WA.alloc (.cells #[.string ⟨n'.toArray⟩, .int .i64 xk, .slice a2 fd.length c2] 39)) WA.heap.size 39 (Xv.cs ⟨n', xk, a2, fd.length, c2⟩)) := Blk.new _ _ _
                  have HOB := hid (own_fr0 HOA.out ((Fr.refl (fun _ => False) WA).alloc (.cells #[.string ⟨n'.toArray⟩, .int .i64 xk, .slice a2 fd.length c2] 39)))
                  refine hK.out _ _ (HKK.out _ HFB.out).1 (fun _ _ => (HKK.out _ HFB.out).2) ?_
                  clear hK K'
                  try simp only [Act.put, List.setIfInBounds_toArray, List.set_cons_zero, List.set_cons_succ]
                  generalize WA.alloc (.cells #[.string ⟨n'.toArray⟩, .int .i64 xk, .slice a2 fd.length c2] 39) = WB at *
                  have HSZB : Hid (W0.heap.size ≤ WB.heap.size ∧ W0.heap.size < WA.heap.size) := by unfold Hid; have := HWA.out; have := HWB.out; omega
                  refine oneT (i := 9) (by kernel_rfl) (by decide) (fun o ho K' hK => ?_)
                  cases ho
                  rw [if_pos (by rfl)]
                  refine wp_app_E (.tmp 100) (.tmp 107) (by rfl) W0.heap.size (.slice (some ⟨W0.heap.size, 0, none⟩) 0 0) [] (XF.take q) none fc (by rfl) (by rw [hl1]; rfl) HOB.out (HST.out _ (HT.out _ HFB.out)) (by have := HSZB.out; omega) (by rw [hl1]; simp; omega) ?_
                  intro v1 WC o1 g1 b1
                  rw [List.nil_append] at o1
                  obtain ⟨a1, q1, hv1⟩ := own_len o1
                  obtain ⟨n1, hn1⟩ : ∃ n1, n1 = (XF.take q).length := ⟨_, rfl⟩
                  rw [← hn1] at hv1
                  subst hv1
                  have HFC := hid (HFB.out.grown g1 (fun k hk => .inr (by have := obk hk; have := HZ.out; omega)))
                  have HOC := hid (own_down o1 (fun b hb => Nat.le_trans HZ.out (own_lt o1 b hb).1))
                  have HNC := hid (HNB.out.of_eq (g1.block _ HNB.out.lt (fun e => by simp only [Value.ownBlock, Option.some.injEq] at e; have := HSZB.out; omega)))
                  clear o1 g1 b1 hn1
                  refine hK.out _ _ (HKK.out _ HFC.out).1 (fun _ _ => (HKK.out _ HFC.out).2) ?_
                  clear hK K'
                  try simp only [Act.put, List.setIfInBounds_toArray, List.set_cons_zero, List.set_cons_succ]
                  refine oneT (i := 12) (by kernel_rfl) (by decide) (fun o ho K' hK => ?_)
                  cases ho
                  rw [if_pos (by rfl)]
                  refine wp_app_E (.tmp 108) (.tmp 110) (by rfl) w2.heap.size (.slice a1 n1 q1) (XF.take q) [⟨n', xk, a2, fd.length, c2⟩] (some ⟨WA.heap.size, 0, none⟩) 1 (by rfl) (by rfl) HOC.out (entry_src HNC.out) HFC.out.size (by rw [hl1]; simp; omega) ?_
                  intro v2 WX o2 g2 b2
                  obtain ⟨a4, q4, hv2⟩ := own_len o2
                  obtain ⟨n2, hn2⟩ : ∃ n2, n2 = (XF.take q ++ [(⟨n', xk, a2, fd.length, c2⟩ : Xv)]).length := ⟨_, rfl⟩
                  rw [← hn2] at hv2
                  subst hv2
                  have HOX := hid o2
                  have HFX := hid (HFC.out.grown g2 (fun k hk => .inr (own_lt HOC.out k hk).1))
                  clear o2 g2 b2 hn2
                  refine hK.out _ _ (HKK.out _ HFX.out).1 (fun _ _ => (HKK.out _ HFX.out).2) ?_
                  clear hK K'
                  try simp only [Act.put, List.setIfInBounds_toArray, List.set_cons_zero, List.set_cons_succ]
                  refine oneT (i := 20) (by kernel_rfl) (by decide) (fun o ho K' hK => ?_)
                  cases ho
                  rw [if_pos (by rfl)]
                  refine wp_app_E (.tmp 111) (.tmp 118) (by rfl) w2.heap.size (.slice a4 n2 q4) (XF.take q ++ [⟨n', xk, a2, fd.length, c2⟩]) (XF.drop q) none (fc - q) (by rfl) (by rw [hl2]; rfl) HOX.out (HSD.out _ (HT.out _ HFX.out)) HFX.out.size (by rw [hl2, List.length_append, hl1]; simp; omega) ?_
                  intro v3 WY o3 g3 b3
                  rw [he1] at o3
                  obtain ⟨a3, q3, hv3⟩ := own_len o3
                  obtain ⟨n3, hn3⟩ : ∃ n3, n3 = (ins XF q (⟨n', xk, a2, fd.length, c2⟩ : Xv)).length := ⟨_, rfl⟩
                  rw [← hn3] at hv3
                  subst hv3
                  have HFY := hid (HFX.out.grown g3 (fun k hk => .inr (own_lt HOX.out k hk).1))
                  obtain ⟨cc, zz, ff, xx⟩ := HFin.out _ HFY.out _ _ _ o3
                  have FF := hid ff
                  have XX := hid xx
                  clear o3 g3 b3 ff xx hn3
                  refine hK.out _ _ (HKK.out _ HFY.out).1 (fun _ _ => (HKK.out _ HFY.out).2) ?_
                  clear hK K'
                  try simp only [Act.put, List.setIfInBounds_toArray, List.set_cons_zero, List.set_cons_succ]
                  refine takeT (fun _ => True) (i := 21) (d := some 120) (.pointer (some ⟨rb, 0, none⟩)) rfl (by kernel_rfl) (by decide) (by kernel_rfl) (by kernel_rfl) (by kernel_rfl) (fun _ _ _ _ h => h) (HKK.out _ HFY.out).1 (fun _ => (HKK.out _ HFY.out).2) (.inl (fun _ _ => trivial)) (fun o ho => by cases ho; exact .inl ⟨by rfl, fun w hSw => by (go_simp)⟩) ?_
                  simp only [Act.put, List.setIfInBounds_toArray, List.set_cons_zero, List.set_cons_succ]
                  refine takeT (fun _ => True) (i := 22) (d := some 121) (.pointer (some ⟨rb, 0, none⟩)) rfl (by kernel_rfl) (by decide) (by kernel_rfl) (by kernel_rfl) (by kernel_rfl) (fun _ _ _ _ h => h) (HKK.out _ HFY.out).1 (fun _ => (HKK.out _ HFY.out).2) (.inl (fun _ _ => trivial)) (fun o ho => by cases ho; exact .inl ⟨by rfl, fun w hSw => by (go_simp)⟩) ?_
                  simp only [Act.put, List.setIfInBounds_toArray, List.set_cons_zero, List.set_cons_succ]
                  refine takeT (fun _ => True) (i := 23) (d := some 122) (.pointer (some ⟨rb, 0, none⟩)) rfl (by kernel_rfl) (by decide) (by kernel_rfl) (by kernel_rfl) (by kernel_rfl) (fun _ _ _ _ h => h) (HKK.out _ HFY.out).1 (fun _ => (HKK.out _ HFY.out).2) (.inl (fun _ _ => trivial)) (fun o ho => by cases ho; exact .inl ⟨by rfl, fun w hSw => by (go_simp)⟩) ?_
                  simp only [Act.put, List.setIfInBounds_toArray, List.set_cons_zero, List.set_cons_succ]
                  refine oneT (i := 24) (by kernel_rfl) (by decide) (fun o ho K' hK => ?_)
                  cases ho
                  rw [if_pos (by rfl)]
                  go_simp
                  refine hK.out _ _ (HKT.out _ _ (HKK.out _ HFY.out).1) (fun h => absurd rfl h) ?_
                  clear hK K'
                  try simp only [Act.put, List.setIfInBounds_toArray, List.set_cons_zero, List.set_cons_succ]
                  refine doneT (by kernel_rfl) (NoPanic.normal ?_)
                  go_wp2_with fail
                  go_ret
                  rw [HRr.out]
                  exact ⟨rfl, FF.out, XX.out⟩
              · skip
                cases ho
                rw [if_pos (by rfl)]
                go_simp
                have HFB : Hid (Fr (fun _ => False) w2 (W0.alloc (.cells #[.string ⟨n'.toArray⟩, .int .i64 xk, .slice a2 fd.length c2] 39))) := HF0.out.alloc _
                have HWB : Hid ((W0.alloc (.cells #[.string ⟨n'.toArray⟩, .int .i64 xk, .slice a2 fd.length c2] 39)).heap.size = W0.heap.size + 1) := World.size_alloc _ _
                have HNB : Hid (Blk (W0.alloc (.cells #[.string ⟨n'.toArray⟩, .int .i64 xk, .slice a2 fd.length c2] 39)) W0.heap.size 39 (Xv.cs ⟨n', xk, a2, fd.length, c2⟩)) := Blk.new _ _ _
                refine hK.out _ _ (HKK.out _ HFB.out).1 (fun _ _ => (HKK.out _ HFB.out).2) ?_
                clear hK K'
                try simp only [Act.put, List.setIfInBounds_toArray, List.set_cons_zero, List.set_cons_succ]
                generalize W0.alloc (.cells #[.string ⟨n'.toArray⟩, .int .i64 xk, .slice a2 fd.length c2] 39) = WB at *
                refine oneT (i := 1) (by kernel_rfl) (by decide) (fun o ho K' hK => ?_)
                cases ho
                rw [if_pos (by rfl)]
                go_simp
                have HFA : Hid (Fr (fun _ => False) w2 (WB.alloc (.cells #[] 39))) := HFB.out.alloc _
                have HWA : Hid ((WB.alloc (.cells #[] 39)).heap.size = WB.heap.size + 1) := World.size_alloc _ _
                have HOA : Hid ((WB.alloc (.cells #[] 39)).ownsRow WB.heap.size 39 3 (.slice (some ⟨WB.heap.size, 0, none⟩) 0 0) ([] : List Xv).length (flatE [])) := own_empty WB _ _
                have HZ : Hid (w2.heap.size ≤ WB.heap.size) := HFB.out.size
                have HNA := hid (HNB.out.alloc (.cells #[] 39))
                refine hK.out _ _ (HKK.out _ HFA.out).1 (fun _ _ => (HKK.out _ HFA.out).2) ?_
                clear hK K'
                try simp only [Act.put, List.setIfInBounds_toArray, List.set_cons_zero, List.set_cons_succ]
                generalize WB.alloc (.cells #[] 39) = WA at *
                have HSZA : Hid (WB.heap.size ≤ WA.heap.size ∧ W0.heap.size < WB.heap.size) := by unfold Hid; have := HWA.out; have := HWB.out; omega
                refine oneT (i := 9) (by kernel_rfl) (by decide) (fun o ho K' hK => ?_)
                cases ho
                rw [if_pos (by rfl)]
                refine wp_app_E (.tmp 100) (.tmp 107) (by rfl) WB.heap.size (.slice (some ⟨WB.heap.size, 0, none⟩) 0 0) [] (XF.take q) none fc (by rfl) (by rw [hl1]; rfl) HOA.out (HST.out _ (HT.out _ HFA.out)) (by have := HSZA.out; omega) (by rw [hl1]; simp; omega) ?_
                intro v1 WC o1 g1 b1
                rw [List.nil_append] at o1
                obtain ⟨a1, q1, hv1⟩ := own_len o1
                obtain ⟨n1, hn1⟩ : ∃ n1, n1 = (XF.take q).length := ⟨_, rfl⟩
                rw [← hn1] at hv1
                subst hv1
                have HFC := hid (HFA.out.grown g1 (fun k hk => .inr (by have := obk hk; have := HZ.out; omega)))
                have HOC := hid (own_down o1 (fun b hb => Nat.le_trans HZ.out (own_lt o1 b hb).1))
                have HNC := hid (HNA.out.of_eq (g1.block _ HNA.out.lt (fun e => by simp only [Value.ownBlock, Option.some.injEq] at e; have := HSZA.out; omega)))
                clear o1 g1 b1 hn1
                refine hK.out _ _ (HKK.out _ HFC.out).1 (fun _ _ => (HKK.out _ HFC.out).2) ?_
                clear hK K'
                try simp only [Act.put, List.setIfInBounds_toArray, List.set_cons_zero, List.set_cons_succ]
                refine oneT (i := 12) (by kernel_rfl) (by decide) (fun o ho K' hK => ?_)
                cases ho
                rw [if_pos (by rfl)]
                refine wp_app_E (.tmp 108) (.tmp 110) (by rfl) w2.heap.size (.slice a1 n1 q1) (XF.take q) [⟨n', xk, a2, fd.length, c2⟩] (some ⟨W0.heap.size, 0, none⟩) 1 (by rfl) (by rfl) HOC.out (entry_src HNC.out) HFC.out.size (by rw [hl1]; simp; omega) ?_
                intro v2 WX o2 g2 b2
                obtain ⟨a4, q4, hv2⟩ := own_len o2
                obtain ⟨n2, hn2⟩ : ∃ n2, n2 = (XF.take q ++ [(⟨n', xk, a2, fd.length, c2⟩ : Xv)]).length := ⟨_, rfl⟩
                rw [← hn2] at hv2
                subst hv2
                have HOX := hid o2
                have HFX := hid (HFC.out.grown g2 (fun k hk => .inr (own_lt HOC.out k hk).1))
                clear o2 g2 b2 hn2
                refine hK.out _ _ (HKK.out _ HFX.out).1 (fun _ _ => (HKK.out _ HFX.out).2) ?_
                clear hK K'
                try simp only [Act.put, List.setIfInBounds_toArray, List.set_cons_zero, List.set_cons_succ]
                refine oneT (i := 20) (by kernel_rfl) (by decide) (fun o ho K' hK => ?_)
                cases ho
                rw [if_pos (by rfl)]
                refine wp_app_E (.tmp 111) (.tmp 118) (by rfl) w2.heap.size (.slice a4 n2 q4) (XF.take q ++ [⟨n', xk, a2, fd.length, c2⟩]) (XF.drop q) none (fc - q) (by rfl) (by rw [hl2]; rfl) HOX.out (HSD.out _ (HT.out _ HFX.out)) HFX.out.size (by rw [hl2, List.length_append, hl1]; simp; omega) ?_
                intro v3 WY o3 g3 b3
                rw [he1] at o3
                obtain ⟨a3, q3, hv3⟩ := own_len o3
                obtain ⟨n3, hn3⟩ : ∃ n3, n3 = (ins XF q (⟨n', xk, a2, fd.length, c2⟩ : Xv)).length := ⟨_, rfl⟩
                rw [← hn3] at hv3
                subst hv3
                have HFY := hid (HFX.out.grown g3 (fun k hk => .inr (own_lt HOX.out k hk).1))
                obtain ⟨cc, zz, ff, xx⟩ := HFin.out _ HFY.out _ _ _ o3
                have FF := hid ff
                have XX := hid xx
                clear o3 g3 b3 ff xx hn3
                refine hK.out _ _ (HKK.out _ HFY.out).1 (fun _ _ => (HKK.out _ HFY.out).2) ?_
                clear hK K'
                try simp only [Act.put, List.setIfInBounds_toArray, List.set_cons_zero, List.set_cons_succ]
                refine takeT (fun _ => True) (i := 21) (d := some 120) (.pointer (some ⟨rb, 0, none⟩)) rfl (by kernel_rfl) (by decide) (by kernel_rfl) (by kernel_rfl) (by kernel_rfl) (fun _ _ _ _ h => h) (HKK.out _ HFY.out).1 (fun _ => (HKK.out _ HFY.out).2) (.inl (fun _ _ => trivial)) (fun o ho => by cases ho; exact .inl ⟨by rfl, fun w hSw => by (go_simp)⟩) ?_
                simp only [Act.put, List.setIfInBounds_toArray, List.set_cons_zero, List.set_cons_succ]
                refine takeT (fun _ => True) (i := 22) (d := some 121) (.pointer (some ⟨rb, 0, none⟩)) rfl (by kernel_rfl) (by decide) (by kernel_rfl) (by kernel_rfl) (by kernel_rfl) (fun _ _ _ _ h => h) (HKK.out _ HFY.out).1 (fun _ => (HKK.out _ HFY.out).2) (.inl (fun _ _ => trivial)) (fun o ho => by cases ho; exact .inl ⟨by rfl, fun w hSw => by (go_simp)⟩) ?_
                simp only [Act.put, List.setIfInBounds_toArray, List.set_cons_zero, List.set_cons_succ]
                refine takeT (fun _ => True) (i := 23) (d := some 122) (.pointer (some ⟨rb, 0, none⟩)) rfl (by kernel_rfl) (by decide) (by kernel_rfl) (by kernel_rfl) (by kernel_rfl) (fun _ _ _ _ h => h) (HKK.out _ HFY.out).1 (fun _ => (HKK.out _ HFY.out).2) (.inl (fun _ _ => trivial)) (fun o ho => by cases ho; exact .inl ⟨by rfl, fun w hSw => by (go_simp)⟩) ?_
                simp only [Act.put, List.setIfInBounds_toArray, List.set_cons_zero, List.set_cons_succ]
                refine oneT (i := 24) (by kernel_rfl) (by decide) (fun o ho K' hK => ?_)
                cases ho
                rw [if_pos (by rfl)]
                go_simp
                refine hK.out _ _ (HKT.out _ _ (HKK.out _ HFY.out).1) (fun h => absurd rfl h) ?_
                clear hK K'
                try simp only [Act.put, List.setIfInBounds_toArray, List.set_cons_zero, List.set_cons_succ]
                refine doneT (by kernel_rfl) (NoPanic.normal ?_)
                go_wp2_with fail
                go_ret
                rw [HRr.out]
                exact ⟨rfl, FF.out, XX.out⟩
end
end Go.Proofs.Ytangnoicnogddaa.Tr
