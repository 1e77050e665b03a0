/- MachinePlays' walk, over the contract of the document's Do. -/
import Derived.Test.YtangnoicnogddaaWtw
import Derived.Test.YtangnoicnogddaaMan
import Derived.Deep.CutBlock
import Derived.Deep.DeepCutAuto
namespace Go.Proofs.Ytangnoicnogddaa.Tr
open Go.RowKit

theorem Nums.env {w W : World} {ad : Option Addr} {l : List Int} (h : Nums w ad l) (e : Env w W) : Nums W ad l := fun hne => by
  obtain ⟨b, o, rfl, hc⟩ := h hne
  exact ⟨b, o, rfl, fun i hi => e.cell (hc i hi)⟩
/-- What the contract of the document's Do says. -/
def DocC : Prop := ∀ (E : Nat → Prop) (w : World) (rb : Nat) (s : St), RX E w rb s → s.ok → s.p.length ≤ 140737488351232 → ∀ (a : Ac) (z : Zv), AK E w a z → Bnd a.u →
  Calls Try.prog 14 #[.pointer (some ⟨rb, 0, none⟩), z.v] w fun e w' => RPost E w rb (doF s a) e w'
set_option maxRecDepth 100000 in
set_option maxHeartbeats 16000000 in
theorem plays_walk (hdoc : DocC) (w : World) (p : List Bool) (ad : Option Addr) (cap : Nat) (L : List Ac) (la : Option Addr) (lc : Nat) (R : List Int) (ra : Option Addr) (rc : Nat)
    (hp : Bools w ad p) (hpl : p.length ≤ 140737488351232) (hL : Acs w L la) (hLl : L.length ≤ lim) (hLb : ∀ a ∈ L, Bnd a.u) (hR : Nums w ra R) (hRl : R.length ≤ 140737488351232) :
    Calls Try.prog 3 #[.slice ad p.length cap, .slice la L.length lc, .slice ra R.length rc] w fun e w' => e = .returned (.bool true) ∧ Fr (fun _ => False) w w' := by
  have HP := hid hp
  have HL := hid hL
  have HLb := hid hLb
  have HR := hid hR
  have HDoc := hid hdoc
  have HPl := hid hpl
  have hl' : L.length ≤ 140737488351232 := hLl
  clear hp hL hLl hLb hR hdoc hpl
  go_enter Try.func3, Try.ntmps3
  go_wp2_with fail
  refine (shown_any w).mono ?_
  rintro e w1 ⟨rfl, f1⟩
  have F1 := hid f1
  clear f1
  go_wp2_with fail
  refine (lv_new w1).mono ?_
  rintro e w2 ⟨mb, rfl, f2, l2⟩
  have F2 := hid (F1.out.trans f2 (fun _ h => h.elim))
  have L2 : Hid (Lv (fun k => k < w.heap.size) w2 mb ⟨[], [], [], []⟩) := l2.less (fun k hk => Nat.lt_of_lt_of_le hk F1.out.size)
  clear f2 l2
  have HO := hid (own_empty w2 4 1)
  have HS : Hid (Bools (w2.alloc (.cells #[] 4)) ad p) := (HP.out.env (Env.of F2.out)).env (Env.alloc w2 (.cells #[] 4))
  go_wp2_with (at_builtin; refine Hid.out ?_)
  refine wpList_app_P (by rfl) _ _ (by rfl) w2.heap.size _ [] p ad cap (by rfl) (by rfl) HO.out HS.out (by rw [World.size_alloc]; omega) (by have := HPl.out; simpa using this) ?_
  intro v3 W3 o3 g3 _
  simp only [List.nil_append] at o3
  obtain ⟨pa, pc, rfl⟩ := own_len o3
  have F3 : Hid (Fr (fun _ => False) w2 W3) := ((Fr.refl _ w2).alloc _).grown g3 (fun k hk => .inr (by have := obk hk; omega))
  have T4 := hid (two_new F2.out L2.out F3.out o3)
  obtain ⟨W4, hW4⟩ : ∃ W4, W4 = W3.alloc (.cells #[.slice none 0 0, .slice none 0 0, .slice none 0 0, .slice pa p.length pc] 35) := ⟨_, rfl⟩
  have hz4 : Hid (W4.heap.size = W3.heap.size + 1) := by unfold Hid; rw [hW4, World.size_alloc]
  have HO4 := hid (own_empty W4 4 1)
  rw [hz4.out] at HO4
  have HW4 := hid hW4
  rw [← hW4] at T4
  have HS4 : Hid (Bools (W4.alloc (.cells #[] 4)) ad p) := (HP.out.env (Env.of T4.out.f)).env (Env.alloc W4 (.cells #[] 4))
  clear o3 g3 HO HS hW4
  go_wp2_with (at_builtin; refine Hid.out ?_)
  rw [← HW4.out]
  refine wpList_app_P (by rfl) _ _ (by rfl) (W3.heap.size + 1) _ [] p ad cap (by rfl) (by rfl) HO4.out HS4.out (by rw [World.size_alloc, hz4.out]; omega) (by have := HPl.out; simpa using this) ?_
  intro v5 W5 o5 g5 _
  simp only [List.nil_append] at o5
  obtain ⟨a5, c5, rfl⟩ := own_len o5
  have F5 : Hid (Fr (fun _ => False) W4 W5) := ((Fr.refl _ W4).alloc _).grown g5 (fun k hk => .inr (by have := obk hk; have := hz4.out; omega))
  have T5 := hid (T4.out.made F5.out)
  have OB5 := hid (ownb_own o5 (Nat.le_of_eq hz4.out))
  have BO5 := hid (bools_own o5)
  clear o5 g5
  go_wp2_with fail
  refine (lv_plan T5.out.l p a5 c5 BO5.out HPl.out).mono ?_
  rintro e w6 ⟨rfl, l6, k6⟩
  have T6 := hid (T5.out.prog l6 k6)
  have OB6 : Hid (OwnB (Bt W4.heap.size W5.heap.size) w6 a5 p.length) := OB5.out.of_eq (fun k hk => k6.block k hk.2 (fun hn => hn (.inr hk)))
  obtain ⟨rb, hrb⟩ : ∃ rb, rb = W3.heap.size := ⟨_, rfl⟩
  have HOw : Hid (∀ k, Bt W4.heap.size W5.heap.size k → ((k < w.heap.size ∨ Bt w2.heap.size W4.heap.size k) ∨ Bt W4.heap.size W5.heap.size k) ∧ ¬ Bt w2.heap.size rb k ∧ k ≠ rb ∧ w.heap.size ≤ k) := fun k hk => by
    have h1 := hz4.out
    have h2 := F2.out.size
    have h3 := F3.out.size
    have h4 := hk.1
    exact ⟨.inr hk, fun h => by have := h.2; omega, by omega, by omega⟩
  rw [← hrb] at T6
  rw [← hrb]
  obtain ⟨K, hK⟩ : ∃ K : Nat → Prop, K = fun k => (k < w.heap.size ∨ Bt w2.heap.size W4.heap.size k) ∨ Bt W4.heap.size W5.heap.size k := ⟨_, rfl⟩
  obtain ⟨E, hE⟩ : ∃ E : Nat → Prop, E = Bt w2.heap.size rb := ⟨_, rfl⟩
  obtain ⟨O, hO⟩ : ∃ O : Nat → Prop, O = Bt W4.heap.size W5.heap.size := ⟨_, rfl⟩
  replace T6 : Hid (Two w w6 K E mb rb ⟨[], [], [], p⟩ ⟨[], [], [], p⟩) := by rw [hK, hE]; exact T6
  replace OB6 : Hid (OwnB O w6 a5 p.length) := by rw [hO]; exact OB6
  replace HOw : Hid (∀ k, O k → K k ∧ ¬ E k ∧ k ≠ rb ∧ w.heap.size ≤ k) := by rw [hO, hK, hE]; exact HOw
  clear l6 k6 hK hE hO hrb T5 T4 OB5 BO5 F5 F3 hz4 HO4 HW4 HS4 F2 F1 L2
  go_wp2_with fail
  go_loopw [11] (fun iv wr => ∃ i : Nat, i ≤ p.length ∧ iv = .int .i64 (i : Int) ∧ Hid (Two w wr K E mb rb ⟨[], [], [], p⟩ ⟨[], [], [], p⟩) ∧ Hid (OwnB O wr a5 p.length)) (fun iv _ => p.length - (intOf iv).toNat)
  case atStart => exact ⟨0, Nat.zero_le _, rfl, T6, OB6⟩
  case round =>
    obtain ⟨i, hi, rfl, HT, HB⟩ := hrel
    have hpl := HPl.out
    clear T6 OB6
    have hi0 : (0 : Int) ≤ (i : Int) := Int.natCast_nonneg _
    by_cases hlt : i < p.length
    · have hi1 : (i : Int) < ((p.length : Nat) : Int) := by omega
      obtain ⟨g, cur, e, hO, hB, hl, hb⟩ := HB.out (by omega)
      obtain ⟨bb, hbb⟩ := hb i hlt
      subst e
      have y0 := (hB.cell i).trans hbb
      have z0 := hB.frozen i
      have HT2 : Hid (Two w (wr.setCell ⟨g, i, none⟩ (.bool (!bb))) K E mb rb ⟨[], [], [], p⟩ ⟨[], [], [], p⟩) := HT.out.other (O := fun k => k = g) ((Fr.refl (fun k => k = g) wr).setCell (p := ⟨g, i, none⟩) (.inl rfl) _) (fun k hk => by subst hk; exact HOw.out _ hO)
      have HB2 := hid (HB.out.set i (!bb))
      clear hB hb hbb
      go_wp2
      exact ⟨⟨i + 1, by omega, by go_num, HT2, HB2⟩, by simp [intOf]; omega⟩
    · have hi1 : ¬ (i : Int) < ((p.length : Nat) : Int) := by omega
      clear HB HOw
      go_wp2_with fail
      have HT0 : Hid (∃ K E, Two w wr K E mb rb ⟨[], [], [], p⟩ ⟨[], [], [], p⟩) := ⟨K, E, HT.out⟩
      clear HT hlt hi1
      go_loopw [12, 13, 14, 15] (fun iv _ _ _ wr => ∃ (i : Nat) (s : St), i ≤ L.length ∧ iv = .int .i64 (i : Int) ∧ (∃ K E, Two w wr K E mb rb s s) ∧ s.p.length ≤ 140737488351232) (fun iv _ _ _ _ => L.length - (intOf iv).toNat)
      case atStart => exact ⟨0, _, Nat.zero_le _, rfl, HT0.out, hpl⟩
      case round =>
        obtain ⟨i, s, hi, rfl, ⟨K, E, HT⟩, hpl⟩ := hrel
        have HT := hid HT
        clear HT0
        rename World => w7
        have hi0 : (0 : Int) ≤ (i : Int) := Int.natCast_nonneg _
        have hFw := hid HT.out.f
        by_cases hlt : i < L.length
        · have hi1 : (i : Int) < ((L.length : Nat) : Int) := by omega
          obtain ⟨b, ao, z, rfl, hc, ha⟩ := HL.out i hlt
          have HC := hid hc
          have HA := hid ha
          have HBd := hid (HLb.out _ (List.getElem_mem hlt))
          generalize L[i] = a at *
          clear hc ha
          by_cases hr : i < R.length
          · have hr1 : decide ((i : Int) < ((R.length : Nat) : Int)) = true := by simp; omega
            obtain ⟨gb, go', e, hc⟩ := HR.out (fun e => by rw [e] at hr; simp at hr)
            subst e
            have g0 := (Env.of hFw.out).cell (hc i hr)
            clear hc
            have hr2 : (i : Int) < ((R.length : Nat) : Int) := by omega
            generalize R[i] = x at g0
            obtain ⟨o0, pa0, pc0, XF0, XR0, x0⟩ := HT.out.r
            have X0 := hid x0
            clear x0
            have c0 := (Env.of hFw.out).cell (HC.out 0 _ rfl)
            have c1 := (Env.of hFw.out).cell (HC.out 1 _ rfl)
            have c2 := (Env.of hFw.out).cell (HC.out 2 _ rfl)
            have c3 := (Env.of hFw.out).cell (HC.out 3 _ rfl)
            have c4 := (Env.of hFw.out).cell (HC.out 4 _ rfl)
            have c5 := (Env.of hFw.out).cell (HC.out 5 _ rfl)
            have c6 := (Env.of hFw.out).cell (HC.out 6 _ rfl)
            have c7 := (Env.of hFw.out).cell (HC.out 7 _ rfl)
            have c8 := (Env.of hFw.out).cell (HC.out 8 _ rfl)
            simp only [Nat.add_zero] at c0 c1 c2 c3 c4 c5 c6 c7 c8
            go_wp2_with fail
            · refine (lv_reset HT.out.l).mono ?_
              rintro e w8 ⟨rfl, l8, k8⟩
              have HT8 := hid (HT.out.prog l8 k8)
              obtain ⟨o1, pa1, pc1, XF1, XR1, x1⟩ := HT8.out.r
              obtain ⟨r0, r1, r2, _⟩ := x1.cells
              have z0 := x1.blk.frozen 0
              have z1 := x1.blk.frozen 1
              have z2 := x1.blk.frozen 2
              have HT9 := hid HT8.out.reset
              have hF9 := hid HT9.out.f
              clear l8 k8 x1 c0 c1 c2 c3 c4 c5 c6 c7 c8
              have c0 := (Env.of hF9.out).cell (HC.out 0 _ rfl)
              have c1 := (Env.of hF9.out).cell (HC.out 1 _ rfl)
              have c2 := (Env.of hF9.out).cell (HC.out 2 _ rfl)
              have c3 := (Env.of hF9.out).cell (HC.out 3 _ rfl)
              have c4 := (Env.of hF9.out).cell (HC.out 4 _ rfl)
              have c5 := (Env.of hF9.out).cell (HC.out 5 _ rfl)
              have c6 := (Env.of hF9.out).cell (HC.out 6 _ rfl)
              have c7 := (Env.of hF9.out).cell (HC.out 7 _ rfl)
              have c8 := (Env.of hF9.out).cell (HC.out 8 _ rfl)
              simp only [Nat.add_zero] at c0 c1 c2 c3 c4 c5 c6 c7 c8
              go_wp2_with fail
              clear r0 r1 r2 z0 z1 z2 g0 X0 HT HT8
              generalize ((w8.setCell ⟨rb, 0, none⟩ (.slice none 0 0)).setCell ⟨rb, 1, none⟩ (.slice none 0 0)).setCell ⟨rb, 2, none⟩ (.slice none 0 0) = w9 at *
              have hps : (St.mk [] [] [] s.p).p.length ≤ 140737488351232 := hpl
              generalize (St.mk [] [] [] s.p) = s1 at *
              -- the round behind the reset: W is the world, s1 the state of both
              have HPl2 := hid hps
              have T7 := hid HT9.out
              have H0 := hid HT9.out.l.ok
              have T7F := hid HT9.out.f
              obtain ⟨s', hs'⟩ : ∃ s', s' = (doF s1 a).1 := ⟨_, rfl⟩
              obtain ⟨code, hcode⟩ : ∃ c, c = (doF s1 a).2 := ⟨_, rfl⟩
              have HPl3 : Hid (s'.p.length ≤ 140737488351232) := by unfold Hid; rw [hs']; exact Nat.le_trans (do_plan s1 a) HPl2.out
              have HDoX : Hid (∀ (E' : Nat → Prop) (V : World) (z' : Zv), RX E' V rb s1 → AK E' V a z' → Calls Try.prog 14 #[.pointer (some ⟨rb, 0, none⟩), z'.v] V fun e w' => e = .returned (.int .i64 code) ∧ RPost E' V rb (s', code) e w') := fun E' V z' h k => by
                refine (HDoc.out E' V rb s1 h H0.out HPl2.out a z' k HBd.out).mono ?_
                intro e w' hp
                have e2 : doF s1 a = (s', code) := by rw [hs', hcode]
                rw [e2] at hp
                exact ⟨hp.1, hp⟩
              refine (cdw_any w9 a z (HA.out.env T7F.out)).mono ?_
              rintro e w10 ⟨f10, z1, rfl, hk1, hw1⟩
              have s10 : w9.heap.size ≤ w10.heap.size := f10.size
              have hz10 : (zBox w10 z1).heap.size = w10.heap.size + 1 := World.size_alloc _ _
              have T10 := hid (T7.out.made (f10.alloc (.cells z1.cs.toArray 43)))
              have AK10 : Hid (AK (fun k => K k ∨ Bt w9.heap.size (zBox w10 z1).heap.size k) (zBox w10 z1) a z1) := (hk1.on (fun k hk => Below.heap_alloc _ _ k hk.2)).mono (fun k hk => .inr ⟨hk.1, by have := hk.2; omega⟩)
              have ZB := hid (show Blk (zBox w10 z1) w10.heap.size 43 z1.cs from Blk.new w10 _ z1.cs)
              have HW1 := hid hw1
              have Hz10 := hid hz10
              have S10 := hid s10
              have Bd1 : Hid (z1.x.dl ≤ 140737488351232 ∧ z1.y.rl ≤ 140737488351232 ∧ z1.y.al ≤ 140737488351232) := by
                have h1 := hk1.f.l
                have h2 := hk1.f.v.len
                have h3 := hk1.u.u.rl
                have h4 := hk1.u.u.al
                have h5 := hk1.u.u.ok.r
                have h6 := hk1.u.u.ok.a
                unfold lim16 at h5 h6
                exact ⟨by omega, by omega, by omega⟩
              have HDo := hid (lv_do T10.out.l a z1 AK10.out)
              rw [← hs', ← hcode] at HDo
              have d0 := ZB.out.cell 0
              have d1 := ZB.out.cell 1
              have d2 := ZB.out.cell 2
              have d3 := ZB.out.cell 3
              have d4 := ZB.out.cell 4
              have d5 := ZB.out.cell 5
              have d6 := ZB.out.cell 6
              have d7 := ZB.out.cell 7
              have d8 := ZB.out.cell 8
              clear f10 hk1 hw1 s10 hz10 AK10 hs' hcode
              clear c0 c1 c2 c3 c4 c5 c6 c7 c8
              simp only [zBox, Zv.cs, List.getElem?_cons_zero, List.getElem?_cons_succ] at d0 d1 d2 d3 d4 d5 d6 d7 d8
              simp only [Zv.v, Zv.cs]
              go_wp2_with fail
              refine HDo.out.mono ?_
              rintro e w11 ⟨rfl, l11, k11⟩
              have T11 := hid (T10.out.prog l11 k11)
              have B11 := hid (k11.blk ZB.out (fun hn => hn (.inr ⟨S10.out, by rw [Hz10.out]; omega⟩)))
              have On11 : Hid (∀ k, Bt w9.heap.size w10.heap.size k → w11.heap[k]? = w10.heap[k]?) := fun k hk =>
                (k11.block k (by rw [Hz10.out]; have := hk.2; omega) (fun hn => hn (.inr ⟨hk.1, by rw [Hz10.out]; have := hk.2; omega⟩))).trans (Below.heap_alloc _ _ k hk.2)
              have HW11 : Hid (WrA (Bt w9.heap.size w10.heap.size) w11 z1) := ⟨HW1.out.d.of_eq On11.out, HW1.out.r.of_eq On11.out, HW1.out.a.of_eq On11.out⟩
              have S11 : Hid (w9.heap.size ≤ w10.heap.size ∧ w10.heap.size + 1 ≤ w11.heap.size) := ⟨S10.out, by have := k11.size; rw [Hz10.out] at this; exact this⟩
              have HSp := hid (spoil_any (Bt w9.heap.size w10.heap.size) w11 z1 HW11.out (fun k hk => by have := hk.2; have := S11.out.2; omega) Bd1.out.1 Bd1.out.2.1 Bd1.out.2.2)
              clear d0 d1 d2 d3 d4 d5 d6 d7 d8
              have d0 := B11.out.cell 0
              have d1 := B11.out.cell 1
              have d2 := B11.out.cell 2
              have d3 := B11.out.cell 3
              have d4 := B11.out.cell 4
              have d5 := B11.out.cell 5
              have d6 := B11.out.cell 6
              have d7 := B11.out.cell 7
              have d8 := B11.out.cell 8
              simp only [Zv.cs, List.getElem?_cons_zero, List.getElem?_cons_succ] at d0 d1 d2 d3 d4 d5 d6 d7 d8
              have HZ : Hid (z1.v = .agg #[.int .i64 z1.k, .string ⟨z1.n.toArray⟩, .string ⟨z1.x.p.toArray⟩, .int .i64 z1.x.k, .slice z1.x.da z1.x.dl z1.x.dc, .string ⟨z1.y.n.toArray⟩, .string ⟨z1.y.s.toArray⟩, .slice z1.y.ra z1.y.rl z1.y.rc, .slice z1.y.aa z1.y.al z1.y.ac]) := rfl
              clear l11 k11 HDo On11 HW11 HW1 ZB B11
              go_wp2_with fail
              refine HSp.out.mono ?_
              rintro e w12 ⟨rfl, f12, _⟩
              have T12 := hid (T11.out.other f12 (fun k hk => ⟨.inr ⟨hk.1, by rw [Hz10.out]; have := hk.2; omega⟩, fun hE => by have := T7.out.r.es k hE; have := hk.1; omega, fun e => by have := T7.out.r.lt; have := hk.1; omega, Nat.le_trans T7F.out.size hk.1⟩))
              have S12 : Hid (w10.heap.size + 1 ≤ w12.heap.size) := Nat.le_trans S11.out.2 f12.size
              clear f12 HSp d0 d1 d2 d3 d4 d5 d6 d7 d8 HZ T11 T10
              go_wp2_with fail
              refine (lv_obsw T12.out.l).mono ?_
              rintro e w13 ⟨f13, o, rfl, v13⟩
              have T14 := hid (T12.out.made (f13.trans (oFr w13 o) (fun _ h => h.elim)))
              have V13 := hid v13
              have S13 : Hid (w12.heap.size ≤ w13.heap.size ∧ (oBox w13 o).heap.size = w13.heap.size + 1) := ⟨f13.size, oSz w13 o⟩
              have OB := hid (oBlk w13 o)
              have F14 := hid (oFr w13 o)
              clear f13 v13 T12
              simp only [Ov.v, Ov.cs]
              go_upto_region 22 with fail
              have HOx : Hid (w13.alloc (.cells #[.slice o.fa o.fl o.fc, .slice o.ua o.ul o.uc, .slice o.ra o.rl o.rc] 33) = oBox w13 o) := rfl
              rw [HOx.out]
              clear HOx
              generalize oBox w13 o = w14 at *
              have T14d := hid T14.out.drew
              have T14F := hid T14d.out.f
              have c0 := (Env.of T14F.out).cell (HC.out 0 _ rfl)
              have c1 := (Env.of T14F.out).cell (HC.out 1 _ rfl)
              have c2 := (Env.of T14F.out).cell (HC.out 2 _ rfl)
              have c3 := (Env.of T14F.out).cell (HC.out 3 _ rfl)
              have c4 := (Env.of T14F.out).cell (HC.out 4 _ rfl)
              have c5 := (Env.of T14F.out).cell (HC.out 5 _ rfl)
              have c6 := (Env.of T14F.out).cell (HC.out 6 _ rfl)
              have c7 := (Env.of T14F.out).cell (HC.out 7 _ rfl)
              have c8 := (Env.of T14F.out).cell (HC.out 8 _ rfl)
              simp only [Nat.add_zero] at c0 c1 c2 c3 c4 c5 c6 c7 c8
              have HCd := hid (cdw_any w14.drew a z (HA.out.env T14F.out))
              simp only [Zv.v, Zv.cs] at HCd
              have V14 : Hid (∀ V, (∀ k, k < w14.heap.size → k ≠ rb → V.heap[k]? = w14.heap[k]?) → OIn V s' o ∧ (V.cell? ⟨w13.heap.size, 0, none⟩ = some (.slice o.fa o.fl o.fc) ∧ V.cell? ⟨w13.heap.size, 1, none⟩ = some (.slice o.ua o.ul o.uc) ∧ V.cell? ⟨w13.heap.size, 2, none⟩ = some (.slice o.ra o.rl o.rc)) ∧ WrF (Bt w12.heap.size w13.heap.size) V o.fa o.fl 0 ∧ Wr (Bt w12.heap.size w13.heap.size) V 9 o.ua o.ul ∧ WrR (Bt w12.heap.size w13.heap.size) V o.ra o.rl 0) := fun V hV => by
                have hlt := T7.out.r.lt
                have h1 := S11.out
                have h2 := S12.out
                have h3 := S13.out
                have hb : Blk V w13.heap.size 33 o.cs := OB.out.of_eq (hV _ (by omega) (by omega))
                have hv := V13.out V (fun k hk => (hV k (by have := hk.2; omega) (by have := hk.1; omega)).trans (F14.out.block k hk.2 (fun h => h)))
                exact ⟨hv.1, hb.three, hv.2⟩
              clear V13 OB F14 T14
              have HSS : Hid (∀ V, Fr (fun _ => False) w V → (∀ k, k < w14.heap.size → k ≠ rb → V.heap[k]? = w14.heap[k]?) → (fun w' => (w'.cell? ⟨b, ao + i * 9, none⟩ = some (.int .i64 z.k) ∧ w'.cell? ⟨b, ao + i * 9 + 1, none⟩ = some (.string ⟨z.n.toArray⟩) ∧ w'.cell? ⟨b, ao + i * 9 + 2, none⟩ = some (.string ⟨z.x.p.toArray⟩) ∧ w'.cell? ⟨b, ao + i * 9 + 3, none⟩ = some (.int .i64 z.x.k) ∧ w'.cell? ⟨b, ao + i * 9 + 4, none⟩ = some (.slice z.x.da z.x.dl z.x.dc) ∧ w'.cell? ⟨b, ao + i * 9 + 5, none⟩ = some (.string ⟨z.y.n.toArray⟩) ∧ w'.cell? ⟨b, ao + i * 9 + 6, none⟩ = some (.string ⟨z.y.s.toArray⟩) ∧ w'.cell? ⟨b, ao + i * 9 + 7, none⟩ = some (.slice z.y.ra z.y.rl z.y.rc) ∧ w'.cell? ⟨b, ao + i * 9 + 8, none⟩ = some (.slice z.y.aa z.y.al z.y.ac)) ∧ (w'.cell? ⟨w13.heap.size, 0, none⟩ = some (.slice o.fa o.fl o.fc) ∧ w'.cell? ⟨w13.heap.size, 1, none⟩ = some (.slice o.ua o.ul o.uc) ∧ w'.cell? ⟨w13.heap.size, 2, none⟩ = some (.slice o.ra o.rl o.rc))) V) := fun V f hV => ⟨⟨(Env.of f).cell (HC.out 0 _ rfl), (Env.of f).cell (HC.out 1 _ rfl), (Env.of f).cell (HC.out 2 _ rfl), (Env.of f).cell (HC.out 3 _ rfl), (Env.of f).cell (HC.out 4 _ rfl), (Env.of f).cell (HC.out 5 _ rfl), (Env.of f).cell (HC.out 6 _ rfl), (Env.of f).cell (HC.out 7 _ rfl), (Env.of f).cell (HC.out 8 _ rfl)⟩, (V14.out V hV).2.1⟩
              have P14 := hid (HSS.out w14.drew T14F.out (fun k _ _ => rfl))
              refine wp_region_noPanic ?_
              refine wp_region_held_drew (S := (fun w' => (w'.cell? ⟨b, ao + i * 9, none⟩ = some (.int .i64 z.k) ∧ w'.cell? ⟨b, ao + i * 9 + 1, none⟩ = some (.string ⟨z.n.toArray⟩) ∧ w'.cell? ⟨b, ao + i * 9 + 2, none⟩ = some (.string ⟨z.x.p.toArray⟩) ∧ w'.cell? ⟨b, ao + i * 9 + 3, none⟩ = some (.int .i64 z.x.k) ∧ w'.cell? ⟨b, ao + i * 9 + 4, none⟩ = some (.slice z.x.da z.x.dl z.x.dc) ∧ w'.cell? ⟨b, ao + i * 9 + 5, none⟩ = some (.string ⟨z.y.n.toArray⟩) ∧ w'.cell? ⟨b, ao + i * 9 + 6, none⟩ = some (.string ⟨z.y.s.toArray⟩) ∧ w'.cell? ⟨b, ao + i * 9 + 7, none⟩ = some (.slice z.y.ra z.y.rl z.y.rc) ∧ w'.cell? ⟨b, ao + i * 9 + 8, none⟩ = some (.slice z.y.aa z.y.al z.y.ac)) ∧ (w'.cell? ⟨w13.heap.size, 0, none⟩ = some (.slice o.fa o.fl o.fc) ∧ w'.cell? ⟨w13.heap.size, 1, none⟩ = some (.slice o.ua o.ul o.uc) ∧ w'.cell? ⟨w13.heap.size, 2, none⟩ = some (.slice o.ra o.rl o.rc)))) (by kernel_rfl) P14.out (fun _ => ?_)
              refine takeH (i := 0) (d := some 85) (.int .i64 code) rfl (by kernel_rfl) (by kernel_rfl) (by kernel_rfl) (fun _ _ _ _ h => h) P14.out (fun o ho => by cases ho; exact .inl ⟨by rfl, fun w hSw => by (obtain ⟨⟨hs0, hs1, hs2, hs3, hs4, hs5, hs6, hs7, hs8⟩, ⟨ht0, ht1, ht2⟩⟩ := hSw; go_simp)⟩) ?_
              simp only [Act.put, List.setIfInBounds_toArray, List.set_cons_zero, List.set_cons_succ]
              refine takeH (i := 1) (d := some 86) (.pointer (some ⟨rb, 0, none⟩)) rfl (by kernel_rfl) (by kernel_rfl) (by kernel_rfl) (fun _ _ _ _ h => h) P14.out (fun o ho => by cases ho; exact .inl ⟨by rfl, fun w hSw => by (obtain ⟨⟨hs0, hs1, hs2, hs3, hs4, hs5, hs6, hs7, hs8⟩, ⟨ht0, ht1, ht2⟩⟩ := hSw; go_simp)⟩) ?_
              simp only [Act.put, List.setIfInBounds_toArray, List.set_cons_zero, List.set_cons_succ]
              refine takeH (i := 2) (d := some 87) (.slice (some ⟨b, ao, none⟩) L.length lc) rfl (by kernel_rfl) (by kernel_rfl) (by kernel_rfl) (fun _ _ _ _ h => h) P14.out (fun o ho => by cases ho; exact .inl ⟨by rfl, fun w hSw => by (obtain ⟨⟨hs0, hs1, hs2, hs3, hs4, hs5, hs6, hs7, hs8⟩, ⟨ht0, ht1, ht2⟩⟩ := hSw; go_simp)⟩) ?_
              simp only [Act.put, List.setIfInBounds_toArray, List.set_cons_zero, List.set_cons_succ]
              refine takeH (i := 3) (d := some 88) (.int .i64 (i : Int)) rfl (by kernel_rfl) (by kernel_rfl) (by kernel_rfl) (fun _ _ _ _ h => h) P14.out (fun o ho => by cases ho; exact .inl ⟨by rfl, fun w hSw => by (obtain ⟨⟨hs0, hs1, hs2, hs3, hs4, hs5, hs6, hs7, hs8⟩, ⟨ht0, ht1, ht2⟩⟩ := hSw; go_simp)⟩) ?_
              simp only [Act.put, List.setIfInBounds_toArray, List.set_cons_zero, List.set_cons_succ]
              refine takeH (i := 4) (d := some 89) (.pointer (some ⟨b, ao + i * 9, none⟩)) rfl (by kernel_rfl) (by kernel_rfl) (by kernel_rfl) (fun _ _ _ _ h => h) P14.out (fun o ho => by cases ho; exact .inl ⟨by rfl, fun w hSw => by (obtain ⟨⟨hs0, hs1, hs2, hs3, hs4, hs5, hs6, hs7, hs8⟩, ⟨ht0, ht1, ht2⟩⟩ := hSw; go_simp)⟩) ?_
              simp only [Act.put, List.setIfInBounds_toArray, List.set_cons_zero, List.set_cons_succ]
              refine takeH (i := 5) (d := some 90) (.agg #[.int .i64 z.k, .string ⟨z.n.toArray⟩, .string ⟨z.x.p.toArray⟩, .int .i64 z.x.k, .slice z.x.da z.x.dl z.x.dc, .string ⟨z.y.n.toArray⟩, .string ⟨z.y.s.toArray⟩, .slice z.y.ra z.y.rl z.y.rc, .slice z.y.aa z.y.al z.y.ac]) rfl (by kernel_rfl) (by kernel_rfl) (by kernel_rfl) (fun _ _ _ _ h => h) P14.out (fun o ho => by cases ho; exact .inl ⟨by rfl, fun w hSw => by (obtain ⟨⟨hs0, hs1, hs2, hs3, hs4, hs5, hs6, hs7, hs8⟩, ⟨ht0, ht1, ht2⟩⟩ := hSw; go_simp)⟩) ?_
              simp only [Act.put, List.setIfInBounds_toArray, List.set_cons_zero, List.set_cons_succ]
              refine oneH (i := 6) (by kernel_rfl) (fun o ho K' hK => ?_) (by decide)
              cases ho
              rw [if_pos (by rfl)]
              go_simp
              refine HCd.out.mono ?_
              rintro e w15 ⟨f15, z2, rfl, hk2, _⟩
              have T15 := hid (T14d.out.madeE f15)
              have F15 := hid f15
              have P15 := hid (HSS.out w15 T15.out.f (fun k hk _ => F15.out.block k hk (fun h => h)))
              have HC2 := hid (HDoX.out _ _ z2 T15.out.r (hk2.mono (fun k hk => .inr hk)))
              clear f15 hk2
              simp only [Zv.v, Zv.cs] at HC2
              try simp only [Zv.v, Zv.cs]
              refine hK.out _ _ P15.out ?_
              clear hK K'
              try simp only [Act.put, List.setIfInBounds_toArray, List.set_cons_zero, List.set_cons_succ]
              refine oneH (i := 7) (by kernel_rfl) (fun o ho K' hK => ?_) (by decide)
              cases ho
              rw [if_pos (by rfl)]
              go_simp
              refine HC2.out.mono ?_
              rintro e w16 ⟨rfl, hp⟩
              have T16 := hid (T15.out.doc hp)
              have F16 := hid hp.2.1
              clear hp
              have VV := hid (V14.out w16 (fun k hk hn => (F16.out.block k (Nat.lt_of_lt_of_le hk F15.out.size) hn).trans (F15.out.block k hk (fun h => h))))
              have P16 := hid (HSS.out w16 T16.out.f (fun k hk hn => (F16.out.block k (Nat.lt_of_lt_of_le hk F15.out.size) hn).trans (F15.out.block k hk (fun h => h))))
              obtain ⟨o2, pa2, pc2, XF2, XR2, x2⟩ := T16.out.r
              obtain ⟨r0, r1, r2, _⟩ := x2.cells
              have I2 := hid x2.oin
              clear x2
              refine hK.out _ _ P16.out ?_
              clear hK K'
              try simp only [Act.put, List.setIfInBounds_toArray, List.set_cons_zero, List.set_cons_succ]
              refine takeH (i := 8) (d := some 93) (.bool false) rfl (by kernel_rfl) (by kernel_rfl) (by kernel_rfl) (fun _ _ _ _ h => h) P16.out (fun o ho => by cases ho; exact .inl ⟨by rfl, fun w hSw => by (obtain ⟨⟨hs0, hs1, hs2, hs3, hs4, hs5, hs6, hs7, hs8⟩, ⟨ht0, ht1, ht2⟩⟩ := hSw; go_simp)⟩) ?_
              simp only [Act.put, List.setIfInBounds_toArray, List.set_cons_zero, List.set_cons_succ]
              refine takeH (i := 9) (d := some 94) (.bool false) rfl (by kernel_rfl) (by kernel_rfl) (by kernel_rfl) (fun _ _ _ _ h => h) P16.out (fun o ho => by cases ho; exact .inl ⟨by rfl, fun w hSw => by (obtain ⟨⟨hs0, hs1, hs2, hs3, hs4, hs5, hs6, hs7, hs8⟩, ⟨ht0, ht1, ht2⟩⟩ := hSw; go_simp)⟩) ?_
              simp only [Act.put, List.setIfInBounds_toArray, List.set_cons_zero, List.set_cons_succ]
              refine takeH (i := 10) (d := some 95) (.agg #[.slice o.fa o.fl o.fc, .slice o.ua o.ul o.uc, .slice o.ra o.rl o.rc]) rfl (by kernel_rfl) (by kernel_rfl) (by kernel_rfl) (fun _ _ _ _ h => h) P16.out (fun o ho => by cases ho; exact .inl ⟨by rfl, fun w hSw => by (obtain ⟨⟨hs0, hs1, hs2, hs3, hs4, hs5, hs6, hs7, hs8⟩, ⟨ht0, ht1, ht2⟩⟩ := hSw; go_simp)⟩) ?_
              simp only [Act.put, List.setIfInBounds_toArray, List.set_cons_zero, List.set_cons_succ]
              refine takeH (i := 11) (d := some 96) (.pointer (some ⟨rb, 0, none⟩)) rfl (by kernel_rfl) (by kernel_rfl) (by kernel_rfl) (fun _ _ _ _ h => h) P16.out (fun o ho => by cases ho; exact .inl ⟨by rfl, fun w hSw => by (obtain ⟨⟨hs0, hs1, hs2, hs3, hs4, hs5, hs6, hs7, hs8⟩, ⟨ht0, ht1, ht2⟩⟩ := hSw; go_simp)⟩) ?_
              simp only [Act.put, List.setIfInBounds_toArray, List.set_cons_zero, List.set_cons_succ]
              refine takeH (i := 12) (d := some 97) (.pointer (some ⟨rb, 0, none⟩)) rfl (by kernel_rfl) (by kernel_rfl) (by kernel_rfl) (fun _ _ _ _ h => h) P16.out (fun o ho => by cases ho; exact .inl ⟨by rfl, fun w hSw => by (obtain ⟨⟨hs0, hs1, hs2, hs3, hs4, hs5, hs6, hs7, hs8⟩, ⟨ht0, ht1, ht2⟩⟩ := hSw; go_simp)⟩) ?_
              simp only [Act.put, List.setIfInBounds_toArray, List.set_cons_zero, List.set_cons_succ]
              refine takeH (i := 13) (d := some 98) (.pointer (some ⟨rb, 0, none⟩)) rfl (by kernel_rfl) (by kernel_rfl) (by kernel_rfl) (fun _ _ _ _ h => h) P16.out (fun o ho => by cases ho; exact .inl ⟨by rfl, fun w hSw => by (obtain ⟨⟨hs0, hs1, hs2, hs3, hs4, hs5, hs6, hs7, hs8⟩, ⟨ht0, ht1, ht2⟩⟩ := hSw; go_simp)⟩) ?_
              simp only [Act.put, List.setIfInBounds_toArray, List.set_cons_zero, List.set_cons_succ]
              refine oneH (i := 14) (by kernel_rfl) (fun o ho K' hK => ?_) (by decide)
              cases ho
              rw [if_pos (by rfl)]
              go_simp
              refine hK.out _ _ P16.out ?_
              clear hK K'
              try simp only [Act.put, List.setIfInBounds_toArray, List.set_cons_zero, List.set_cons_succ]
              refine oneH (i := 15) (by kernel_rfl) (fun o ho K' hK => ?_) (by decide)
              cases ho
              rw [if_pos (by rfl)]
              go_simp
              refine (show Calls Try.prog 15 #[o.v, Ov.v { o2 with fl := s'.f.length, ul := s'.u.length, rl := s'.r.length }] w16 _ from osame_any w16 s' s' o _ VV.out.1 I2.out T16.out.l.ok.fl (by have := T16.out.l.ok.ul; omega) T16.out.l.ok.rl).mono ?_
              rintro e w17 ⟨he, f17⟩
              rw [lk_same ⟨rfl, rfl, rfl⟩] at he
              subst he
              have T17 := hid (T16.out.keep f17)
              have F17 := hid f17
              clear f17 r0 r1 r2
              have S17 : Hid (w14.heap.size ≤ w16.heap.size) := Nat.le_trans (show w14.heap.size ≤ w15.heap.size from F15.out.size) F16.out.size
              have VV2 := hid (V14.out w17 (fun k hk hn => (F17.out.block k (Nat.lt_of_lt_of_le hk S17.out) (fun h => h)).trans ((F16.out.block k (Nat.lt_of_lt_of_le hk F15.out.size) hn).trans (F15.out.block k hk (fun h => h)))))
              have P17 := hid (HSS.out w17 T17.out.f (fun k hk hn => (F17.out.block k (Nat.lt_of_lt_of_le hk S17.out) (fun h => h)).trans ((F16.out.block k (Nat.lt_of_lt_of_le hk F15.out.size) hn).trans (F15.out.block k hk (fun h => h)))))
              refine hK.out _ _ P17.out ?_
              clear hK K'
              try simp only [Act.put, List.setIfInBounds_toArray, List.set_cons_zero, List.set_cons_succ]
              refine takeH (i := 16) (d := some 101) (.bool false) rfl (by kernel_rfl) (by kernel_rfl) (by kernel_rfl) (fun _ _ _ _ h => h) P17.out (fun o ho => by cases ho; exact .inl ⟨by rfl, fun w hSw => by (obtain ⟨⟨hs0, hs1, hs2, hs3, hs4, hs5, hs6, hs7, hs8⟩, ⟨ht0, ht1, ht2⟩⟩ := hSw; go_simp)⟩) ?_
              simp only [Act.put, List.setIfInBounds_toArray, List.set_cons_zero, List.set_cons_succ]
              refine takeH (i := 17) (d := some 102) (.bool false) rfl (by kernel_rfl) (by kernel_rfl) (by kernel_rfl) (fun _ _ _ _ h => h) P17.out (fun o ho => by cases ho; exact .inl ⟨by rfl, fun w hSw => by (obtain ⟨⟨hs0, hs1, hs2, hs3, hs4, hs5, hs6, hs7, hs8⟩, ⟨ht0, ht1, ht2⟩⟩ := hSw; go_simp)⟩) ?_
              simp only [Act.put, List.setIfInBounds_toArray, List.set_cons_zero, List.set_cons_succ]
              refine wpAnyH_done (by kernel_rfl) (NoPanic.normal ?_) _
              obtain ⟨q0, q1, q2⟩ := VV2.out.2.1
              go_wp2_with fail
              have hI := VV2.out.1
              have hok := T17.out.l.ok
              refine (wreck_any (Bt w12.heap.size w13.heap.size) w17 o VV2.out.2.2.1 VV2.out.2.2.2.1 VV2.out.2.2.2.2 (fun k hk => by have h1 := hk.2; have h2 := S17.out; have h3 := F17.out.size; have h4 := S13.out.2; omega) (by have := hI.fl; have := hok.fl; omega) (by have := hI.ul; have := hok.ul; omega) (by have := hI.rl; have := hok.rl; omega)).mono ?_
              rintro e w18 ⟨rfl, f18⟩
              have T18 := hid (T17.out.other f18 (fun k hk => ⟨.inl (.inl (.inr ⟨hk.1, by have := hk.2; have := S13.out.2; omega⟩)), fun hE => by
                have h1 := hk.1
                have h2 := hk.2
                have h3 := S13.out
                have h4 := S12.out
                have h5 := S11.out
                have h6 := F15.out.size
                simp only [World.drew] at h6
                rcases hE with (hE | hE) | hE
                · have := T7.out.r.es k hE; omega
                · have := hE.1; simp only [World.drew] at this; omega
                · have := hE.1; omega, fun e => by have := T7.out.r.lt; have := hk.1; have := S12.out; have := S11.out; omega, Nat.le_trans T7F.out.size (by have := hk.1; have := S12.out; have := S11.out; omega)⟩))
              clear q0 q1 q2 f18 hI hok
              go_wp2_with fail
              exact ⟨⟨i + 1, s', by omega, by go_num, ⟨_, _, T18.out⟩, HPl3.out⟩, by simp [intOf]; omega⟩
            · clear g0 X0

              -- the round behind the reset: W is the world, s the state of both
              have HPl2 := hid hpl
              have T7 := hid HT.out
              have H0 := hid HT.out.l.ok
              have T7F := hid HT.out.f
              obtain ⟨s', hs'⟩ : ∃ s', s' = (doF s a).1 := ⟨_, rfl⟩
              obtain ⟨code, hcode⟩ : ∃ c, c = (doF s a).2 := ⟨_, rfl⟩
              have HPl3 : Hid (s'.p.length ≤ 140737488351232) := by unfold Hid; rw [hs']; exact Nat.le_trans (do_plan s a) HPl2.out
              have HDoX : Hid (∀ (E' : Nat → Prop) (V : World) (z' : Zv), RX E' V rb s → AK E' V a z' → Calls Try.prog 14 #[.pointer (some ⟨rb, 0, none⟩), z'.v] V fun e w' => e = .returned (.int .i64 code) ∧ RPost E' V rb (s', code) e w') := fun E' V z' h k => by
                refine (HDoc.out E' V rb s h H0.out HPl2.out a z' k HBd.out).mono ?_
                intro e w' hp
                have e2 : doF s a = (s', code) := by rw [hs', hcode]
                rw [e2] at hp
                exact ⟨hp.1, hp⟩
              refine (cdw_any w7 a z (HA.out.env T7F.out)).mono ?_
              rintro e w10 ⟨f10, z1, rfl, hk1, hw1⟩
              have s10 : w7.heap.size ≤ w10.heap.size := f10.size
              have hz10 : (zBox w10 z1).heap.size = w10.heap.size + 1 := World.size_alloc _ _
              have T10 := hid (T7.out.made (f10.alloc (.cells z1.cs.toArray 43)))
              have AK10 : Hid (AK (fun k => K k ∨ Bt w7.heap.size (zBox w10 z1).heap.size k) (zBox w10 z1) a z1) := (hk1.on (fun k hk => Below.heap_alloc _ _ k hk.2)).mono (fun k hk => .inr ⟨hk.1, by have := hk.2; omega⟩)
              have ZB := hid (show Blk (zBox w10 z1) w10.heap.size 43 z1.cs from Blk.new w10 _ z1.cs)
              have HW1 := hid hw1
              have Hz10 := hid hz10
              have S10 := hid s10
              have Bd1 : Hid (z1.x.dl ≤ 140737488351232 ∧ z1.y.rl ≤ 140737488351232 ∧ z1.y.al ≤ 140737488351232) := by
                have h1 := hk1.f.l
                have h2 := hk1.f.v.len
                have h3 := hk1.u.u.rl
                have h4 := hk1.u.u.al
                have h5 := hk1.u.u.ok.r
                have h6 := hk1.u.u.ok.a
                unfold lim16 at h5 h6
                exact ⟨by omega, by omega, by omega⟩
              have HDo := hid (lv_do T10.out.l a z1 AK10.out)
              rw [← hs', ← hcode] at HDo
              have d0 := ZB.out.cell 0
              have d1 := ZB.out.cell 1
              have d2 := ZB.out.cell 2
              have d3 := ZB.out.cell 3
              have d4 := ZB.out.cell 4
              have d5 := ZB.out.cell 5
              have d6 := ZB.out.cell 6
              have d7 := ZB.out.cell 7
              have d8 := ZB.out.cell 8
              clear f10 hk1 hw1 s10 hz10 AK10 hs' hcode
              clear c0 c1 c2 c3 c4 c5 c6 c7 c8
              simp only [zBox, Zv.cs, List.getElem?_cons_zero, List.getElem?_cons_succ] at d0 d1 d2 d3 d4 d5 d6 d7 d8
              simp only [Zv.v, Zv.cs]
              go_wp2_with fail
              refine HDo.out.mono ?_
              rintro e w11 ⟨rfl, l11, k11⟩
              have T11 := hid (T10.out.prog l11 k11)
              have B11 := hid (k11.blk ZB.out (fun hn => hn (.inr ⟨S10.out, by rw [Hz10.out]; omega⟩)))
              have On11 : Hid (∀ k, Bt w7.heap.size w10.heap.size k → w11.heap[k]? = w10.heap[k]?) := fun k hk =>
                (k11.block k (by rw [Hz10.out]; have := hk.2; omega) (fun hn => hn (.inr ⟨hk.1, by rw [Hz10.out]; have := hk.2; omega⟩))).trans (Below.heap_alloc _ _ k hk.2)
              have HW11 : Hid (WrA (Bt w7.heap.size w10.heap.size) w11 z1) := ⟨HW1.out.d.of_eq On11.out, HW1.out.r.of_eq On11.out, HW1.out.a.of_eq On11.out⟩
              have S11 : Hid (w7.heap.size ≤ w10.heap.size ∧ w10.heap.size + 1 ≤ w11.heap.size) := ⟨S10.out, by have := k11.size; rw [Hz10.out] at this; exact this⟩
              have HSp := hid (spoil_any (Bt w7.heap.size w10.heap.size) w11 z1 HW11.out (fun k hk => by have := hk.2; have := S11.out.2; omega) Bd1.out.1 Bd1.out.2.1 Bd1.out.2.2)
              clear d0 d1 d2 d3 d4 d5 d6 d7 d8
              have d0 := B11.out.cell 0
              have d1 := B11.out.cell 1
              have d2 := B11.out.cell 2
              have d3 := B11.out.cell 3
              have d4 := B11.out.cell 4
              have d5 := B11.out.cell 5
              have d6 := B11.out.cell 6
              have d7 := B11.out.cell 7
              have d8 := B11.out.cell 8
              simp only [Zv.cs, List.getElem?_cons_zero, List.getElem?_cons_succ] at d0 d1 d2 d3 d4 d5 d6 d7 d8
              have HZ : Hid (z1.v = .agg #[.int .i64 z1.k, .string ⟨z1.n.toArray⟩, .string ⟨z1.x.p.toArray⟩, .int .i64 z1.x.k, .slice z1.x.da z1.x.dl z1.x.dc, .string ⟨z1.y.n.toArray⟩, .string ⟨z1.y.s.toArray⟩, .slice z1.y.ra z1.y.rl z1.y.rc, .slice z1.y.aa z1.y.al z1.y.ac]) := rfl
              clear l11 k11 HDo On11 HW11 HW1 ZB B11
              go_wp2_with fail
              refine HSp.out.mono ?_
              rintro e w12 ⟨rfl, f12, _⟩
              have T12 := hid (T11.out.other f12 (fun k hk => ⟨.inr ⟨hk.1, by rw [Hz10.out]; have := hk.2; omega⟩, fun hE => by have := T7.out.r.es k hE; have := hk.1; omega, fun e => by have := T7.out.r.lt; have := hk.1; omega, Nat.le_trans T7F.out.size hk.1⟩))
              have S12 : Hid (w10.heap.size + 1 ≤ w12.heap.size) := Nat.le_trans S11.out.2 f12.size
              clear f12 HSp d0 d1 d2 d3 d4 d5 d6 d7 d8 HZ T11 T10
              go_wp2_with fail
              refine (lv_obsw T12.out.l).mono ?_
              rintro e w13 ⟨f13, o, rfl, v13⟩
              have T14 := hid (T12.out.made (f13.trans (oFr w13 o) (fun _ h => h.elim)))
              have V13 := hid v13
              have S13 : Hid (w12.heap.size ≤ w13.heap.size ∧ (oBox w13 o).heap.size = w13.heap.size + 1) := ⟨f13.size, oSz w13 o⟩
              have OB := hid (oBlk w13 o)
              have F14 := hid (oFr w13 o)
              clear f13 v13 T12
              simp only [Ov.v, Ov.cs]
              go_upto_region 22 with fail
              have HOx : Hid (w13.alloc (.cells #[.slice o.fa o.fl o.fc, .slice o.ua o.ul o.uc, .slice o.ra o.rl o.rc] 33) = oBox w13 o) := rfl
              rw [HOx.out]
              clear HOx
              generalize oBox w13 o = w14 at *
              have T14d := hid T14.out.drew
              have T14F := hid T14d.out.f
              have c0 := (Env.of T14F.out).cell (HC.out 0 _ rfl)
              have c1 := (Env.of T14F.out).cell (HC.out 1 _ rfl)
              have c2 := (Env.of T14F.out).cell (HC.out 2 _ rfl)
              have c3 := (Env.of T14F.out).cell (HC.out 3 _ rfl)
              have c4 := (Env.of T14F.out).cell (HC.out 4 _ rfl)
              have c5 := (Env.of T14F.out).cell (HC.out 5 _ rfl)
              have c6 := (Env.of T14F.out).cell (HC.out 6 _ rfl)
              have c7 := (Env.of T14F.out).cell (HC.out 7 _ rfl)
              have c8 := (Env.of T14F.out).cell (HC.out 8 _ rfl)
              simp only [Nat.add_zero] at c0 c1 c2 c3 c4 c5 c6 c7 c8
              have HCd := hid (cdw_any w14.drew a z (HA.out.env T14F.out))
              simp only [Zv.v, Zv.cs] at HCd
              have V14 : Hid (∀ V, (∀ k, k < w14.heap.size → k ≠ rb → V.heap[k]? = w14.heap[k]?) → OIn V s' o ∧ (V.cell? ⟨w13.heap.size, 0, none⟩ = some (.slice o.fa o.fl o.fc) ∧ V.cell? ⟨w13.heap.size, 1, none⟩ = some (.slice o.ua o.ul o.uc) ∧ V.cell? ⟨w13.heap.size, 2, none⟩ = some (.slice o.ra o.rl o.rc)) ∧ WrF (Bt w12.heap.size w13.heap.size) V o.fa o.fl 0 ∧ Wr (Bt w12.heap.size w13.heap.size) V 9 o.ua o.ul ∧ WrR (Bt w12.heap.size w13.heap.size) V o.ra o.rl 0) := fun V hV => by
                have hlt := T7.out.r.lt
                have h1 := S11.out
                have h2 := S12.out
                have h3 := S13.out
                have hb : Blk V w13.heap.size 33 o.cs := OB.out.of_eq (hV _ (by omega) (by omega))
                have hv := V13.out V (fun k hk => (hV k (by have := hk.2; omega) (by have := hk.1; omega)).trans (F14.out.block k hk.2 (fun h => h)))
                exact ⟨hv.1, hb.three, hv.2⟩
              clear V13 OB F14 T14
              have HSS : Hid (∀ V, Fr (fun _ => False) w V → (∀ k, k < w14.heap.size → k ≠ rb → V.heap[k]? = w14.heap[k]?) → (fun w' => (w'.cell? ⟨b, ao + i * 9, none⟩ = some (.int .i64 z.k) ∧ w'.cell? ⟨b, ao + i * 9 + 1, none⟩ = some (.string ⟨z.n.toArray⟩) ∧ w'.cell? ⟨b, ao + i * 9 + 2, none⟩ = some (.string ⟨z.x.p.toArray⟩) ∧ w'.cell? ⟨b, ao + i * 9 + 3, none⟩ = some (.int .i64 z.x.k) ∧ w'.cell? ⟨b, ao + i * 9 + 4, none⟩ = some (.slice z.x.da z.x.dl z.x.dc) ∧ w'.cell? ⟨b, ao + i * 9 + 5, none⟩ = some (.string ⟨z.y.n.toArray⟩) ∧ w'.cell? ⟨b, ao + i * 9 + 6, none⟩ = some (.string ⟨z.y.s.toArray⟩) ∧ w'.cell? ⟨b, ao + i * 9 + 7, none⟩ = some (.slice z.y.ra z.y.rl z.y.rc) ∧ w'.cell? ⟨b, ao + i * 9 + 8, none⟩ = some (.slice z.y.aa z.y.al z.y.ac)) ∧ (w'.cell? ⟨w13.heap.size, 0, none⟩ = some (.slice o.fa o.fl o.fc) ∧ w'.cell? ⟨w13.heap.size, 1, none⟩ = some (.slice o.ua o.ul o.uc) ∧ w'.cell? ⟨w13.heap.size, 2, none⟩ = some (.slice o.ra o.rl o.rc))) V) := fun V f hV => ⟨⟨(Env.of f).cell (HC.out 0 _ rfl), (Env.of f).cell (HC.out 1 _ rfl), (Env.of f).cell (HC.out 2 _ rfl), (Env.of f).cell (HC.out 3 _ rfl), (Env.of f).cell (HC.out 4 _ rfl), (Env.of f).cell (HC.out 5 _ rfl), (Env.of f).cell (HC.out 6 _ rfl), (Env.of f).cell (HC.out 7 _ rfl), (Env.of f).cell (HC.out 8 _ rfl)⟩, (V14.out V hV).2.1⟩
              have P14 := hid (HSS.out w14.drew T14F.out (fun k _ _ => rfl))
              refine wp_region_noPanic ?_
              refine wp_region_held_drew (S := (fun w' => (w'.cell? ⟨b, ao + i * 9, none⟩ = some (.int .i64 z.k) ∧ w'.cell? ⟨b, ao + i * 9 + 1, none⟩ = some (.string ⟨z.n.toArray⟩) ∧ w'.cell? ⟨b, ao + i * 9 + 2, none⟩ = some (.string ⟨z.x.p.toArray⟩) ∧ w'.cell? ⟨b, ao + i * 9 + 3, none⟩ = some (.int .i64 z.x.k) ∧ w'.cell? ⟨b, ao + i * 9 + 4, none⟩ = some (.slice z.x.da z.x.dl z.x.dc) ∧ w'.cell? ⟨b, ao + i * 9 + 5, none⟩ = some (.string ⟨z.y.n.toArray⟩) ∧ w'.cell? ⟨b, ao + i * 9 + 6, none⟩ = some (.string ⟨z.y.s.toArray⟩) ∧ w'.cell? ⟨b, ao + i * 9 + 7, none⟩ = some (.slice z.y.ra z.y.rl z.y.rc) ∧ w'.cell? ⟨b, ao + i * 9 + 8, none⟩ = some (.slice z.y.aa z.y.al z.y.ac)) ∧ (w'.cell? ⟨w13.heap.size, 0, none⟩ = some (.slice o.fa o.fl o.fc) ∧ w'.cell? ⟨w13.heap.size, 1, none⟩ = some (.slice o.ua o.ul o.uc) ∧ w'.cell? ⟨w13.heap.size, 2, none⟩ = some (.slice o.ra o.rl o.rc)))) (by kernel_rfl) P14.out (fun _ => ?_)
              refine takeH (i := 0) (d := some 85) (.int .i64 code) rfl (by kernel_rfl) (by kernel_rfl) (by kernel_rfl) (fun _ _ _ _ h => h) P14.out (fun o ho => by cases ho; exact .inl ⟨by rfl, fun w hSw => by (obtain ⟨⟨hs0, hs1, hs2, hs3, hs4, hs5, hs6, hs7, hs8⟩, ⟨ht0, ht1, ht2⟩⟩ := hSw; go_simp)⟩) ?_
              simp only [Act.put, List.setIfInBounds_toArray, List.set_cons_zero, List.set_cons_succ]
              refine takeH (i := 1) (d := some 86) (.pointer (some ⟨rb, 0, none⟩)) rfl (by kernel_rfl) (by kernel_rfl) (by kernel_rfl) (fun _ _ _ _ h => h) P14.out (fun o ho => by cases ho; exact .inl ⟨by rfl, fun w hSw => by (obtain ⟨⟨hs0, hs1, hs2, hs3, hs4, hs5, hs6, hs7, hs8⟩, ⟨ht0, ht1, ht2⟩⟩ := hSw; go_simp)⟩) ?_
              simp only [Act.put, List.setIfInBounds_toArray, List.set_cons_zero, List.set_cons_succ]
              refine takeH (i := 2) (d := some 87) (.slice (some ⟨b, ao, none⟩) L.length lc) rfl (by kernel_rfl) (by kernel_rfl) (by kernel_rfl) (fun _ _ _ _ h => h) P14.out (fun o ho => by cases ho; exact .inl ⟨by rfl, fun w hSw => by (obtain ⟨⟨hs0, hs1, hs2, hs3, hs4, hs5, hs6, hs7, hs8⟩, ⟨ht0, ht1, ht2⟩⟩ := hSw; go_simp)⟩) ?_
              simp only [Act.put, List.setIfInBounds_toArray, List.set_cons_zero, List.set_cons_succ]
              refine takeH (i := 3) (d := some 88) (.int .i64 (i : Int)) rfl (by kernel_rfl) (by kernel_rfl) (by kernel_rfl) (fun _ _ _ _ h => h) P14.out (fun o ho => by cases ho; exact .inl ⟨by rfl, fun w hSw => by (obtain ⟨⟨hs0, hs1, hs2, hs3, hs4, hs5, hs6, hs7, hs8⟩, ⟨ht0, ht1, ht2⟩⟩ := hSw; go_simp)⟩) ?_
              simp only [Act.put, List.setIfInBounds_toArray, List.set_cons_zero, List.set_cons_succ]
              refine takeH (i := 4) (d := some 89) (.pointer (some ⟨b, ao + i * 9, none⟩)) rfl (by kernel_rfl) (by kernel_rfl) (by kernel_rfl) (fun _ _ _ _ h => h) P14.out (fun o ho => by cases ho; exact .inl ⟨by rfl, fun w hSw => by (obtain ⟨⟨hs0, hs1, hs2, hs3, hs4, hs5, hs6, hs7, hs8⟩, ⟨ht0, ht1, ht2⟩⟩ := hSw; go_simp)⟩) ?_
              simp only [Act.put, List.setIfInBounds_toArray, List.set_cons_zero, List.set_cons_succ]
              refine takeH (i := 5) (d := some 90) (.agg #[.int .i64 z.k, .string ⟨z.n.toArray⟩, .string ⟨z.x.p.toArray⟩, .int .i64 z.x.k, .slice z.x.da z.x.dl z.x.dc, .string ⟨z.y.n.toArray⟩, .string ⟨z.y.s.toArray⟩, .slice z.y.ra z.y.rl z.y.rc, .slice z.y.aa z.y.al z.y.ac]) rfl (by kernel_rfl) (by kernel_rfl) (by kernel_rfl) (fun _ _ _ _ h => h) P14.out (fun o ho => by cases ho; exact .inl ⟨by rfl, fun w hSw => by (obtain ⟨⟨hs0, hs1, hs2, hs3, hs4, hs5, hs6, hs7, hs8⟩, ⟨ht0, ht1, ht2⟩⟩ := hSw; go_simp)⟩) ?_
              simp only [Act.put, List.setIfInBounds_toArray, List.set_cons_zero, List.set_cons_succ]
              refine oneH (i := 6) (by kernel_rfl) (fun o ho K' hK => ?_) (by decide)
              cases ho
              rw [if_pos (by rfl)]
              go_simp
              refine HCd.out.mono ?_
              rintro e w15 ⟨f15, z2, rfl, hk2, _⟩
              have T15 := hid (T14d.out.madeE f15)
              have F15 := hid f15
              have P15 := hid (HSS.out w15 T15.out.f (fun k hk _ => F15.out.block k hk (fun h => h)))
              have HC2 := hid (HDoX.out _ _ z2 T15.out.r (hk2.mono (fun k hk => .inr hk)))
              clear f15 hk2
              simp only [Zv.v, Zv.cs] at HC2
              try simp only [Zv.v, Zv.cs]
              refine hK.out _ _ P15.out ?_
              clear hK K'
              try simp only [Act.put, List.setIfInBounds_toArray, List.set_cons_zero, List.set_cons_succ]
              refine oneH (i := 7) (by kernel_rfl) (fun o ho K' hK => ?_) (by decide)
              cases ho
              rw [if_pos (by rfl)]
              go_simp
              refine HC2.out.mono ?_
              rintro e w16 ⟨rfl, hp⟩
              have T16 := hid (T15.out.doc hp)
              have F16 := hid hp.2.1
              clear hp
              have VV := hid (V14.out w16 (fun k hk hn => (F16.out.block k (Nat.lt_of_lt_of_le hk F15.out.size) hn).trans (F15.out.block k hk (fun h => h))))
              have P16 := hid (HSS.out w16 T16.out.f (fun k hk hn => (F16.out.block k (Nat.lt_of_lt_of_le hk F15.out.size) hn).trans (F15.out.block k hk (fun h => h))))
              obtain ⟨o2, pa2, pc2, XF2, XR2, x2⟩ := T16.out.r
              obtain ⟨r0, r1, r2, _⟩ := x2.cells
              have I2 := hid x2.oin
              clear x2
              refine hK.out _ _ P16.out ?_
              clear hK K'
              try simp only [Act.put, List.setIfInBounds_toArray, List.set_cons_zero, List.set_cons_succ]
              refine takeH (i := 8) (d := some 93) (.bool false) rfl (by kernel_rfl) (by kernel_rfl) (by kernel_rfl) (fun _ _ _ _ h => h) P16.out (fun o ho => by cases ho; exact .inl ⟨by rfl, fun w hSw => by (obtain ⟨⟨hs0, hs1, hs2, hs3, hs4, hs5, hs6, hs7, hs8⟩, ⟨ht0, ht1, ht2⟩⟩ := hSw; go_simp)⟩) ?_
              simp only [Act.put, List.setIfInBounds_toArray, List.set_cons_zero, List.set_cons_succ]
              refine takeH (i := 9) (d := some 94) (.bool false) rfl (by kernel_rfl) (by kernel_rfl) (by kernel_rfl) (fun _ _ _ _ h => h) P16.out (fun o ho => by cases ho; exact .inl ⟨by rfl, fun w hSw => by (obtain ⟨⟨hs0, hs1, hs2, hs3, hs4, hs5, hs6, hs7, hs8⟩, ⟨ht0, ht1, ht2⟩⟩ := hSw; go_simp)⟩) ?_
              simp only [Act.put, List.setIfInBounds_toArray, List.set_cons_zero, List.set_cons_succ]
              refine takeH (i := 10) (d := some 95) (.agg #[.slice o.fa o.fl o.fc, .slice o.ua o.ul o.uc, .slice o.ra o.rl o.rc]) rfl (by kernel_rfl) (by kernel_rfl) (by kernel_rfl) (fun _ _ _ _ h => h) P16.out (fun o ho => by cases ho; exact .inl ⟨by rfl, fun w hSw => by (obtain ⟨⟨hs0, hs1, hs2, hs3, hs4, hs5, hs6, hs7, hs8⟩, ⟨ht0, ht1, ht2⟩⟩ := hSw; go_simp)⟩) ?_
              simp only [Act.put, List.setIfInBounds_toArray, List.set_cons_zero, List.set_cons_succ]
              refine takeH (i := 11) (d := some 96) (.pointer (some ⟨rb, 0, none⟩)) rfl (by kernel_rfl) (by kernel_rfl) (by kernel_rfl) (fun _ _ _ _ h => h) P16.out (fun o ho => by cases ho; exact .inl ⟨by rfl, fun w hSw => by (obtain ⟨⟨hs0, hs1, hs2, hs3, hs4, hs5, hs6, hs7, hs8⟩, ⟨ht0, ht1, ht2⟩⟩ := hSw; go_simp)⟩) ?_
              simp only [Act.put, List.setIfInBounds_toArray, List.set_cons_zero, List.set_cons_succ]
              refine takeH (i := 12) (d := some 97) (.pointer (some ⟨rb, 0, none⟩)) rfl (by kernel_rfl) (by kernel_rfl) (by kernel_rfl) (fun _ _ _ _ h => h) P16.out (fun o ho => by cases ho; exact .inl ⟨by rfl, fun w hSw => by (obtain ⟨⟨hs0, hs1, hs2, hs3, hs4, hs5, hs6, hs7, hs8⟩, ⟨ht0, ht1, ht2⟩⟩ := hSw; go_simp)⟩) ?_
              simp only [Act.put, List.setIfInBounds_toArray, List.set_cons_zero, List.set_cons_succ]
              refine takeH (i := 13) (d := some 98) (.pointer (some ⟨rb, 0, none⟩)) rfl (by kernel_rfl) (by kernel_rfl) (by kernel_rfl) (fun _ _ _ _ h => h) P16.out (fun o ho => by cases ho; exact .inl ⟨by rfl, fun w hSw => by (obtain ⟨⟨hs0, hs1, hs2, hs3, hs4, hs5, hs6, hs7, hs8⟩, ⟨ht0, ht1, ht2⟩⟩ := hSw; go_simp)⟩) ?_
              simp only [Act.put, List.setIfInBounds_toArray, List.set_cons_zero, List.set_cons_succ]
              refine oneH (i := 14) (by kernel_rfl) (fun o ho K' hK => ?_) (by decide)
              cases ho
              rw [if_pos (by rfl)]
              go_simp
              refine hK.out _ _ P16.out ?_
              clear hK K'
              try simp only [Act.put, List.setIfInBounds_toArray, List.set_cons_zero, List.set_cons_succ]
              refine oneH (i := 15) (by kernel_rfl) (fun o ho K' hK => ?_) (by decide)
              cases ho
              rw [if_pos (by rfl)]
              go_simp
              refine (show Calls Try.prog 15 #[o.v, Ov.v { o2 with fl := s'.f.length, ul := s'.u.length, rl := s'.r.length }] w16 _ from osame_any w16 s' s' o _ VV.out.1 I2.out T16.out.l.ok.fl (by have := T16.out.l.ok.ul; omega) T16.out.l.ok.rl).mono ?_
              rintro e w17 ⟨he, f17⟩
              rw [lk_same ⟨rfl, rfl, rfl⟩] at he
              subst he
              have T17 := hid (T16.out.keep f17)
              have F17 := hid f17
              clear f17 r0 r1 r2
              have S17 : Hid (w14.heap.size ≤ w16.heap.size) := Nat.le_trans (show w14.heap.size ≤ w15.heap.size from F15.out.size) F16.out.size
              have VV2 := hid (V14.out w17 (fun k hk hn => (F17.out.block k (Nat.lt_of_lt_of_le hk S17.out) (fun h => h)).trans ((F16.out.block k (Nat.lt_of_lt_of_le hk F15.out.size) hn).trans (F15.out.block k hk (fun h => h)))))
              have P17 := hid (HSS.out w17 T17.out.f (fun k hk hn => (F17.out.block k (Nat.lt_of_lt_of_le hk S17.out) (fun h => h)).trans ((F16.out.block k (Nat.lt_of_lt_of_le hk F15.out.size) hn).trans (F15.out.block k hk (fun h => h)))))
              refine hK.out _ _ P17.out ?_
              clear hK K'
              try simp only [Act.put, List.setIfInBounds_toArray, List.set_cons_zero, List.set_cons_succ]
              refine takeH (i := 16) (d := some 101) (.bool false) rfl (by kernel_rfl) (by kernel_rfl) (by kernel_rfl) (fun _ _ _ _ h => h) P17.out (fun o ho => by cases ho; exact .inl ⟨by rfl, fun w hSw => by (obtain ⟨⟨hs0, hs1, hs2, hs3, hs4, hs5, hs6, hs7, hs8⟩, ⟨ht0, ht1, ht2⟩⟩ := hSw; go_simp)⟩) ?_
              simp only [Act.put, List.setIfInBounds_toArray, List.set_cons_zero, List.set_cons_succ]
              refine takeH (i := 17) (d := some 102) (.bool false) rfl (by kernel_rfl) (by kernel_rfl) (by kernel_rfl) (fun _ _ _ _ h => h) P17.out (fun o ho => by cases ho; exact .inl ⟨by rfl, fun w hSw => by (obtain ⟨⟨hs0, hs1, hs2, hs3, hs4, hs5, hs6, hs7, hs8⟩, ⟨ht0, ht1, ht2⟩⟩ := hSw; go_simp)⟩) ?_
              simp only [Act.put, List.setIfInBounds_toArray, List.set_cons_zero, List.set_cons_succ]
              refine wpAnyH_done (by kernel_rfl) (NoPanic.normal ?_) _
              obtain ⟨q0, q1, q2⟩ := VV2.out.2.1
              go_wp2_with fail
              have hI := VV2.out.1
              have hok := T17.out.l.ok
              refine (wreck_any (Bt w12.heap.size w13.heap.size) w17 o VV2.out.2.2.1 VV2.out.2.2.2.1 VV2.out.2.2.2.2 (fun k hk => by have h1 := hk.2; have h2 := S17.out; have h3 := F17.out.size; have h4 := S13.out.2; omega) (by have := hI.fl; have := hok.fl; omega) (by have := hI.ul; have := hok.ul; omega) (by have := hI.rl; have := hok.rl; omega)).mono ?_
              rintro e w18 ⟨rfl, f18⟩
              have T18 := hid (T17.out.other f18 (fun k hk => ⟨.inl (.inl (.inr ⟨hk.1, by have := hk.2; have := S13.out.2; omega⟩)), fun hE => by
                have h1 := hk.1
                have h2 := hk.2
                have h3 := S13.out
                have h4 := S12.out
                have h5 := S11.out
                have h6 := F15.out.size
                simp only [World.drew] at h6
                rcases hE with (hE | hE) | hE
                · have := T7.out.r.es k hE; omega
                · have := hE.1; simp only [World.drew] at this; omega
                · have := hE.1; omega, fun e => by have := T7.out.r.lt; have := hk.1; have := S12.out; have := S11.out; omega, Nat.le_trans T7F.out.size (by have := hk.1; have := S12.out; have := S11.out; omega)⟩))
              clear q0 q1 q2 f18 hI hok
              go_wp2_with fail
              exact ⟨⟨i + 1, s', by omega, by go_num, ⟨_, _, T18.out⟩, HPl3.out⟩, by simp [intOf]; omega⟩
          · have hr1 : decide ((i : Int) < ((R.length : Nat) : Int)) = false := by simp; omega
            have hr2 : ¬ (i : Int) < ((R.length : Nat) : Int) := by omega
            have c0 := (Env.of hFw.out).cell (HC.out 0 _ rfl)
            have c1 := (Env.of hFw.out).cell (HC.out 1 _ rfl)
            have c2 := (Env.of hFw.out).cell (HC.out 2 _ rfl)
            have c3 := (Env.of hFw.out).cell (HC.out 3 _ rfl)
            have c4 := (Env.of hFw.out).cell (HC.out 4 _ rfl)
            have c5 := (Env.of hFw.out).cell (HC.out 5 _ rfl)
            have c6 := (Env.of hFw.out).cell (HC.out 6 _ rfl)
            have c7 := (Env.of hFw.out).cell (HC.out 7 _ rfl)
            have c8 := (Env.of hFw.out).cell (HC.out 8 _ rfl)
            simp only [Nat.add_zero] at c0 c1 c2 c3 c4 c5 c6 c7 c8
            go_wp2_with fail

            -- the round behind the reset: W is the world, s the state of both
            have HPl2 := hid hpl
            have T7 := hid HT.out
            have H0 := hid HT.out.l.ok
            have T7F := hid HT.out.f
            obtain ⟨s', hs'⟩ : ∃ s', s' = (doF s a).1 := ⟨_, rfl⟩
            obtain ⟨code, hcode⟩ : ∃ c, c = (doF s a).2 := ⟨_, rfl⟩
            have HPl3 : Hid (s'.p.length ≤ 140737488351232) := by unfold Hid; rw [hs']; exact Nat.le_trans (do_plan s a) HPl2.out
            have HDoX : Hid (∀ (E' : Nat → Prop) (V : World) (z' : Zv), RX E' V rb s → AK E' V a z' → Calls Try.prog 14 #[.pointer (some ⟨rb, 0, none⟩), z'.v] V fun e w' => e = .returned (.int .i64 code) ∧ RPost E' V rb (s', code) e w') := fun E' V z' h k => by
              refine (HDoc.out E' V rb s h H0.out HPl2.out a z' k HBd.out).mono ?_
              intro e w' hp
              have e2 : doF s a = (s', code) := by rw [hs', hcode]
              rw [e2] at hp
              exact ⟨hp.1, hp⟩
            refine (cdw_any w7 a z (HA.out.env T7F.out)).mono ?_
            rintro e w10 ⟨f10, z1, rfl, hk1, hw1⟩
            have s10 : w7.heap.size ≤ w10.heap.size := f10.size
            have hz10 : (zBox w10 z1).heap.size = w10.heap.size + 1 := World.size_alloc _ _
            have T10 := hid (T7.out.made (f10.alloc (.cells z1.cs.toArray 43)))
            have AK10 : Hid (AK (fun k => K k ∨ Bt w7.heap.size (zBox w10 z1).heap.size k) (zBox w10 z1) a z1) := (hk1.on (fun k hk => Below.heap_alloc _ _ k hk.2)).mono (fun k hk => .inr ⟨hk.1, by have := hk.2; omega⟩)
            have ZB := hid (show Blk (zBox w10 z1) w10.heap.size 43 z1.cs from Blk.new w10 _ z1.cs)
            have HW1 := hid hw1
            have Hz10 := hid hz10
            have S10 := hid s10
            have Bd1 : Hid (z1.x.dl ≤ 140737488351232 ∧ z1.y.rl ≤ 140737488351232 ∧ z1.y.al ≤ 140737488351232) := by
              have h1 := hk1.f.l
              have h2 := hk1.f.v.len
              have h3 := hk1.u.u.rl
              have h4 := hk1.u.u.al
              have h5 := hk1.u.u.ok.r
              have h6 := hk1.u.u.ok.a
              unfold lim16 at h5 h6
              exact ⟨by omega, by omega, by omega⟩
            have HDo := hid (lv_do T10.out.l a z1 AK10.out)
            rw [← hs', ← hcode] at HDo
            have d0 := ZB.out.cell 0
            have d1 := ZB.out.cell 1
            have d2 := ZB.out.cell 2
            have d3 := ZB.out.cell 3
            have d4 := ZB.out.cell 4
            have d5 := ZB.out.cell 5
            have d6 := ZB.out.cell 6
            have d7 := ZB.out.cell 7
            have d8 := ZB.out.cell 8
            clear f10 hk1 hw1 s10 hz10 AK10 hs' hcode
            clear c0 c1 c2 c3 c4 c5 c6 c7 c8
            simp only [zBox, Zv.cs, List.getElem?_cons_zero, List.getElem?_cons_succ] at d0 d1 d2 d3 d4 d5 d6 d7 d8
            simp only [Zv.v, Zv.cs]
            go_wp2_with fail
            refine HDo.out.mono ?_
            rintro e w11 ⟨rfl, l11, k11⟩
            have T11 := hid (T10.out.prog l11 k11)
            have B11 := hid (k11.blk ZB.out (fun hn => hn (.inr ⟨S10.out, by rw [Hz10.out]; omega⟩)))
            have On11 : Hid (∀ k, Bt w7.heap.size w10.heap.size k → w11.heap[k]? = w10.heap[k]?) := fun k hk =>
              (k11.block k (by rw [Hz10.out]; have := hk.2; omega) (fun hn => hn (.inr ⟨hk.1, by rw [Hz10.out]; have := hk.2; omega⟩))).trans (Below.heap_alloc _ _ k hk.2)
            have HW11 : Hid (WrA (Bt w7.heap.size w10.heap.size) w11 z1) := ⟨HW1.out.d.of_eq On11.out, HW1.out.r.of_eq On11.out, HW1.out.a.of_eq On11.out⟩
            have S11 : Hid (w7.heap.size ≤ w10.heap.size ∧ w10.heap.size + 1 ≤ w11.heap.size) := ⟨S10.out, by have := k11.size; rw [Hz10.out] at this; exact this⟩
            have HSp := hid (spoil_any (Bt w7.heap.size w10.heap.size) w11 z1 HW11.out (fun k hk => by have := hk.2; have := S11.out.2; omega) Bd1.out.1 Bd1.out.2.1 Bd1.out.2.2)
            clear d0 d1 d2 d3 d4 d5 d6 d7 d8
            have d0 := B11.out.cell 0
            have d1 := B11.out.cell 1
            have d2 := B11.out.cell 2
            have d3 := B11.out.cell 3
            have d4 := B11.out.cell 4
            have d5 := B11.out.cell 5
            have d6 := B11.out.cell 6
            have d7 := B11.out.cell 7
            have d8 := B11.out.cell 8
            simp only [Zv.cs, List.getElem?_cons_zero, List.getElem?_cons_succ] at d0 d1 d2 d3 d4 d5 d6 d7 d8
            have HZ : Hid (z1.v = .agg #[.int .i64 z1.k, .string ⟨z1.n.toArray⟩, .string ⟨z1.x.p.toArray⟩, .int .i64 z1.x.k, .slice z1.x.da z1.x.dl z1.x.dc, .string ⟨z1.y.n.toArray⟩, .string ⟨z1.y.s.toArray⟩, .slice z1.y.ra z1.y.rl z1.y.rc, .slice z1.y.aa z1.y.al z1.y.ac]) := rfl
            clear l11 k11 HDo On11 HW11 HW1 ZB B11
            go_wp2_with fail
            refine HSp.out.mono ?_
            rintro e w12 ⟨rfl, f12, _⟩
            have T12 := hid (T11.out.other f12 (fun k hk => ⟨.inr ⟨hk.1, by rw [Hz10.out]; have := hk.2; omega⟩, fun hE => by have := T7.out.r.es k hE; have := hk.1; omega, fun e => by have := T7.out.r.lt; have := hk.1; omega, Nat.le_trans T7F.out.size hk.1⟩))
            have S12 : Hid (w10.heap.size + 1 ≤ w12.heap.size) := Nat.le_trans S11.out.2 f12.size
            clear f12 HSp d0 d1 d2 d3 d4 d5 d6 d7 d8 HZ T11 T10
            go_wp2_with fail
            refine (lv_obsw T12.out.l).mono ?_
            rintro e w13 ⟨f13, o, rfl, v13⟩
            have T14 := hid (T12.out.made (f13.trans (oFr w13 o) (fun _ h => h.elim)))
            have V13 := hid v13
            have S13 : Hid (w12.heap.size ≤ w13.heap.size ∧ (oBox w13 o).heap.size = w13.heap.size + 1) := ⟨f13.size, oSz w13 o⟩
            have OB := hid (oBlk w13 o)
            have F14 := hid (oFr w13 o)
            clear f13 v13 T12
            simp only [Ov.v, Ov.cs]
            go_upto_region 22 with fail
            have HOx : Hid (w13.alloc (.cells #[.slice o.fa o.fl o.fc, .slice o.ua o.ul o.uc, .slice o.ra o.rl o.rc] 33) = oBox w13 o) := rfl
            rw [HOx.out]
            clear HOx
            generalize oBox w13 o = w14 at *
            have T14d := hid T14.out.drew
            have T14F := hid T14d.out.f
            have c0 := (Env.of T14F.out).cell (HC.out 0 _ rfl)
            have c1 := (Env.of T14F.out).cell (HC.out 1 _ rfl)
            have c2 := (Env.of T14F.out).cell (HC.out 2 _ rfl)
            have c3 := (Env.of T14F.out).cell (HC.out 3 _ rfl)
            have c4 := (Env.of T14F.out).cell (HC.out 4 _ rfl)
            have c5 := (Env.of T14F.out).cell (HC.out 5 _ rfl)
            have c6 := (Env.of T14F.out).cell (HC.out 6 _ rfl)
            have c7 := (Env.of T14F.out).cell (HC.out 7 _ rfl)
            have c8 := (Env.of T14F.out).cell (HC.out 8 _ rfl)
            simp only [Nat.add_zero] at c0 c1 c2 c3 c4 c5 c6 c7 c8
            have HCd := hid (cdw_any w14.drew a z (HA.out.env T14F.out))
            simp only [Zv.v, Zv.cs] at HCd
            have V14 : Hid (∀ V, (∀ k, k < w14.heap.size → k ≠ rb → V.heap[k]? = w14.heap[k]?) → OIn V s' o ∧ (V.cell? ⟨w13.heap.size, 0, none⟩ = some (.slice o.fa o.fl o.fc) ∧ V.cell? ⟨w13.heap.size, 1, none⟩ = some (.slice o.ua o.ul o.uc) ∧ V.cell? ⟨w13.heap.size, 2, none⟩ = some (.slice o.ra o.rl o.rc)) ∧ WrF (Bt w12.heap.size w13.heap.size) V o.fa o.fl 0 ∧ Wr (Bt w12.heap.size w13.heap.size) V 9 o.ua o.ul ∧ WrR (Bt w12.heap.size w13.heap.size) V o.ra o.rl 0) := fun V hV => by
              have hlt := T7.out.r.lt
              have h1 := S11.out
              have h2 := S12.out
              have h3 := S13.out
              have hb : Blk V w13.heap.size 33 o.cs := OB.out.of_eq (hV _ (by omega) (by omega))
              have hv := V13.out V (fun k hk => (hV k (by have := hk.2; omega) (by have := hk.1; omega)).trans (F14.out.block k hk.2 (fun h => h)))
              exact ⟨hv.1, hb.three, hv.2⟩
            clear V13 OB F14 T14
            have HSS : Hid (∀ V, Fr (fun _ => False) w V → (∀ k, k < w14.heap.size → k ≠ rb → V.heap[k]? = w14.heap[k]?) → (fun w' => (w'.cell? ⟨b, ao + i * 9, none⟩ = some (.int .i64 z.k) ∧ w'.cell? ⟨b, ao + i * 9 + 1, none⟩ = some (.string ⟨z.n.toArray⟩) ∧ w'.cell? ⟨b, ao + i * 9 + 2, none⟩ = some (.string ⟨z.x.p.toArray⟩) ∧ w'.cell? ⟨b, ao + i * 9 + 3, none⟩ = some (.int .i64 z.x.k) ∧ w'.cell? ⟨b, ao + i * 9 + 4, none⟩ = some (.slice z.x.da z.x.dl z.x.dc) ∧ w'.cell? ⟨b, ao + i * 9 + 5, none⟩ = some (.string ⟨z.y.n.toArray⟩) ∧ w'.cell? ⟨b, ao + i * 9 + 6, none⟩ = some (.string ⟨z.y.s.toArray⟩) ∧ w'.cell? ⟨b, ao + i * 9 + 7, none⟩ = some (.slice z.y.ra z.y.rl z.y.rc) ∧ w'.cell? ⟨b, ao + i * 9 + 8, none⟩ = some (.slice z.y.aa z.y.al z.y.ac)) ∧ (w'.cell? ⟨w13.heap.size, 0, none⟩ = some (.slice o.fa o.fl o.fc) ∧ w'.cell? ⟨w13.heap.size, 1, none⟩ = some (.slice o.ua o.ul o.uc) ∧ w'.cell? ⟨w13.heap.size, 2, none⟩ = some (.slice o.ra o.rl o.rc))) V) := fun V f hV => ⟨⟨(Env.of f).cell (HC.out 0 _ rfl), (Env.of f).cell (HC.out 1 _ rfl), (Env.of f).cell (HC.out 2 _ rfl), (Env.of f).cell (HC.out 3 _ rfl), (Env.of f).cell (HC.out 4 _ rfl), (Env.of f).cell (HC.out 5 _ rfl), (Env.of f).cell (HC.out 6 _ rfl), (Env.of f).cell (HC.out 7 _ rfl), (Env.of f).cell (HC.out 8 _ rfl)⟩, (V14.out V hV).2.1⟩
            have P14 := hid (HSS.out w14.drew T14F.out (fun k _ _ => rfl))
            refine wp_region_noPanic ?_
            refine wp_region_held_drew (S := (fun w' => (w'.cell? ⟨b, ao + i * 9, none⟩ = some (.int .i64 z.k) ∧ w'.cell? ⟨b, ao + i * 9 + 1, none⟩ = some (.string ⟨z.n.toArray⟩) ∧ w'.cell? ⟨b, ao + i * 9 + 2, none⟩ = some (.string ⟨z.x.p.toArray⟩) ∧ w'.cell? ⟨b, ao + i * 9 + 3, none⟩ = some (.int .i64 z.x.k) ∧ w'.cell? ⟨b, ao + i * 9 + 4, none⟩ = some (.slice z.x.da z.x.dl z.x.dc) ∧ w'.cell? ⟨b, ao + i * 9 + 5, none⟩ = some (.string ⟨z.y.n.toArray⟩) ∧ w'.cell? ⟨b, ao + i * 9 + 6, none⟩ = some (.string ⟨z.y.s.toArray⟩) ∧ w'.cell? ⟨b, ao + i * 9 + 7, none⟩ = some (.slice z.y.ra z.y.rl z.y.rc) ∧ w'.cell? ⟨b, ao + i * 9 + 8, none⟩ = some (.slice z.y.aa z.y.al z.y.ac)) ∧ (w'.cell? ⟨w13.heap.size, 0, none⟩ = some (.slice o.fa o.fl o.fc) ∧ w'.cell? ⟨w13.heap.size, 1, none⟩ = some (.slice o.ua o.ul o.uc) ∧ w'.cell? ⟨w13.heap.size, 2, none⟩ = some (.slice o.ra o.rl o.rc)))) (by kernel_rfl) P14.out (fun _ => ?_)
            refine takeH (i := 0) (d := some 85) (.int .i64 code) rfl (by kernel_rfl) (by kernel_rfl) (by kernel_rfl) (fun _ _ _ _ h => h) P14.out (fun o ho => by cases ho; exact .inl ⟨by rfl, fun w hSw => by (obtain ⟨⟨hs0, hs1, hs2, hs3, hs4, hs5, hs6, hs7, hs8⟩, ⟨ht0, ht1, ht2⟩⟩ := hSw; go_simp)⟩) ?_
            simp only [Act.put, List.setIfInBounds_toArray, List.set_cons_zero, List.set_cons_succ]
            refine takeH (i := 1) (d := some 86) (.pointer (some ⟨rb, 0, none⟩)) rfl (by kernel_rfl) (by kernel_rfl) (by kernel_rfl) (fun _ _ _ _ h => h) P14.out (fun o ho => by cases ho; exact .inl ⟨by rfl, fun w hSw => by (obtain ⟨⟨hs0, hs1, hs2, hs3, hs4, hs5, hs6, hs7, hs8⟩, ⟨ht0, ht1, ht2⟩⟩ := hSw; go_simp)⟩) ?_
            simp only [Act.put, List.setIfInBounds_toArray, List.set_cons_zero, List.set_cons_succ]
            refine takeH (i := 2) (d := some 87) (.slice (some ⟨b, ao, none⟩) L.length lc) rfl (by kernel_rfl) (by kernel_rfl) (by kernel_rfl) (fun _ _ _ _ h => h) P14.out (fun o ho => by cases ho; exact .inl ⟨by rfl, fun w hSw => by (obtain ⟨⟨hs0, hs1, hs2, hs3, hs4, hs5, hs6, hs7, hs8⟩, ⟨ht0, ht1, ht2⟩⟩ := hSw; go_simp)⟩) ?_
            simp only [Act.put, List.setIfInBounds_toArray, List.set_cons_zero, List.set_cons_succ]
            refine takeH (i := 3) (d := some 88) (.int .i64 (i : Int)) rfl (by kernel_rfl) (by kernel_rfl) (by kernel_rfl) (fun _ _ _ _ h => h) P14.out (fun o ho => by cases ho; exact .inl ⟨by rfl, fun w hSw => by (obtain ⟨⟨hs0, hs1, hs2, hs3, hs4, hs5, hs6, hs7, hs8⟩, ⟨ht0, ht1, ht2⟩⟩ := hSw; go_simp)⟩) ?_
            simp only [Act.put, List.setIfInBounds_toArray, List.set_cons_zero, List.set_cons_succ]
            refine takeH (i := 4) (d := some 89) (.pointer (some ⟨b, ao + i * 9, none⟩)) rfl (by kernel_rfl) (by kernel_rfl) (by kernel_rfl) (fun _ _ _ _ h => h) P14.out (fun o ho => by cases ho; exact .inl ⟨by rfl, fun w hSw => by (obtain ⟨⟨hs0, hs1, hs2, hs3, hs4, hs5, hs6, hs7, hs8⟩, ⟨ht0, ht1, ht2⟩⟩ := hSw; go_simp)⟩) ?_
            simp only [Act.put, List.setIfInBounds_toArray, List.set_cons_zero, List.set_cons_succ]
            refine takeH (i := 5) (d := some 90) (.agg #[.int .i64 z.k, .string ⟨z.n.toArray⟩, .string ⟨z.x.p.toArray⟩, .int .i64 z.x.k, .slice z.x.da z.x.dl z.x.dc, .string ⟨z.y.n.toArray⟩, .string ⟨z.y.s.toArray⟩, .slice z.y.ra z.y.rl z.y.rc, .slice z.y.aa z.y.al z.y.ac]) rfl (by kernel_rfl) (by kernel_rfl) (by kernel_rfl) (fun _ _ _ _ h => h) P14.out (fun o ho => by cases ho; exact .inl ⟨by rfl, fun w hSw => by (obtain ⟨⟨hs0, hs1, hs2, hs3, hs4, hs5, hs6, hs7, hs8⟩, ⟨ht0, ht1, ht2⟩⟩ := hSw; go_simp)⟩) ?_
            simp only [Act.put, List.setIfInBounds_toArray, List.set_cons_zero, List.set_cons_succ]
            refine oneH (i := 6) (by kernel_rfl) (fun o ho K' hK => ?_) (by decide)
            cases ho
            rw [if_pos (by rfl)]
            go_simp
            refine HCd.out.mono ?_
            rintro e w15 ⟨f15, z2, rfl, hk2, _⟩
            have T15 := hid (T14d.out.madeE f15)
            have F15 := hid f15
            have P15 := hid (HSS.out w15 T15.out.f (fun k hk _ => F15.out.block k hk (fun h => h)))
            have HC2 := hid (HDoX.out _ _ z2 T15.out.r (hk2.mono (fun k hk => .inr hk)))
            clear f15 hk2
            simp only [Zv.v, Zv.cs] at HC2
            try simp only [Zv.v, Zv.cs]
            refine hK.out _ _ P15.out ?_
            clear hK K'
            try simp only [Act.put, List.setIfInBounds_toArray, List.set_cons_zero, List.set_cons_succ]
            refine oneH (i := 7) (by kernel_rfl) (fun o ho K' hK => ?_) (by decide)
            cases ho
            rw [if_pos (by rfl)]
            go_simp
            refine HC2.out.mono ?_
            rintro e w16 ⟨rfl, hp⟩
            have T16 := hid (T15.out.doc hp)
            have F16 := hid hp.2.1
            clear hp
            have VV := hid (V14.out w16 (fun k hk hn => (F16.out.block k (Nat.lt_of_lt_of_le hk F15.out.size) hn).trans (F15.out.block k hk (fun h => h))))
            have P16 := hid (HSS.out w16 T16.out.f (fun k hk hn => (F16.out.block k (Nat.lt_of_lt_of_le hk F15.out.size) hn).trans (F15.out.block k hk (fun h => h))))
            obtain ⟨o2, pa2, pc2, XF2, XR2, x2⟩ := T16.out.r
            obtain ⟨r0, r1, r2, _⟩ := x2.cells
            have I2 := hid x2.oin
            clear x2
            refine hK.out _ _ P16.out ?_
            clear hK K'
            try simp only [Act.put, List.setIfInBounds_toArray, List.set_cons_zero, List.set_cons_succ]
            refine takeH (i := 8) (d := some 93) (.bool false) rfl (by kernel_rfl) (by kernel_rfl) (by kernel_rfl) (fun _ _ _ _ h => h) P16.out (fun o ho => by cases ho; exact .inl ⟨by rfl, fun w hSw => by (obtain ⟨⟨hs0, hs1, hs2, hs3, hs4, hs5, hs6, hs7, hs8⟩, ⟨ht0, ht1, ht2⟩⟩ := hSw; go_simp)⟩) ?_
            simp only [Act.put, List.setIfInBounds_toArray, List.set_cons_zero, List.set_cons_succ]
            refine takeH (i := 9) (d := some 94) (.bool false) rfl (by kernel_rfl) (by kernel_rfl) (by kernel_rfl) (fun _ _ _ _ h => h) P16.out (fun o ho => by cases ho; exact .inl ⟨by rfl, fun w hSw => by (obtain ⟨⟨hs0, hs1, hs2, hs3, hs4, hs5, hs6, hs7, hs8⟩, ⟨ht0, ht1, ht2⟩⟩ := hSw; go_simp)⟩) ?_
            simp only [Act.put, List.setIfInBounds_toArray, List.set_cons_zero, List.set_cons_succ]
            refine takeH (i := 10) (d := some 95) (.agg #[.slice o.fa o.fl o.fc, .slice o.ua o.ul o.uc, .slice o.ra o.rl o.rc]) rfl (by kernel_rfl) (by kernel_rfl) (by kernel_rfl) (fun _ _ _ _ h => h) P16.out (fun o ho => by cases ho; exact .inl ⟨by rfl, fun w hSw => by (obtain ⟨⟨hs0, hs1, hs2, hs3, hs4, hs5, hs6, hs7, hs8⟩, ⟨ht0, ht1, ht2⟩⟩ := hSw; go_simp)⟩) ?_
            simp only [Act.put, List.setIfInBounds_toArray, List.set_cons_zero, List.set_cons_succ]
            refine takeH (i := 11) (d := some 96) (.pointer (some ⟨rb, 0, none⟩)) rfl (by kernel_rfl) (by kernel_rfl) (by kernel_rfl) (fun _ _ _ _ h => h) P16.out (fun o ho => by cases ho; exact .inl ⟨by rfl, fun w hSw => by (obtain ⟨⟨hs0, hs1, hs2, hs3, hs4, hs5, hs6, hs7, hs8⟩, ⟨ht0, ht1, ht2⟩⟩ := hSw; go_simp)⟩) ?_
            simp only [Act.put, List.setIfInBounds_toArray, List.set_cons_zero, List.set_cons_succ]
            refine takeH (i := 12) (d := some 97) (.pointer (some ⟨rb, 0, none⟩)) rfl (by kernel_rfl) (by kernel_rfl) (by kernel_rfl) (fun _ _ _ _ h => h) P16.out (fun o ho => by cases ho; exact .inl ⟨by rfl, fun w hSw => by (obtain ⟨⟨hs0, hs1, hs2, hs3, hs4, hs5, hs6, hs7, hs8⟩, ⟨ht0, ht1, ht2⟩⟩ := hSw; go_simp)⟩) ?_
            simp only [Act.put, List.setIfInBounds_toArray, List.set_cons_zero, List.set_cons_succ]
            refine takeH (i := 13) (d := some 98) (.pointer (some ⟨rb, 0, none⟩)) rfl (by kernel_rfl) (by kernel_rfl) (by kernel_rfl) (fun _ _ _ _ h => h) P16.out (fun o ho => by cases ho; exact .inl ⟨by rfl, fun w hSw => by (obtain ⟨⟨hs0, hs1, hs2, hs3, hs4, hs5, hs6, hs7, hs8⟩, ⟨ht0, ht1, ht2⟩⟩ := hSw; go_simp)⟩) ?_
            simp only [Act.put, List.setIfInBounds_toArray, List.set_cons_zero, List.set_cons_succ]
            refine oneH (i := 14) (by kernel_rfl) (fun o ho K' hK => ?_) (by decide)
            cases ho
            rw [if_pos (by rfl)]
            go_simp
            refine hK.out _ _ P16.out ?_
            clear hK K'
            try simp only [Act.put, List.setIfInBounds_toArray, List.set_cons_zero, List.set_cons_succ]
            refine oneH (i := 15) (by kernel_rfl) (fun o ho K' hK => ?_) (by decide)
            cases ho
            rw [if_pos (by rfl)]
            go_simp
            refine (show Calls Try.prog 15 #[o.v, Ov.v { o2 with fl := s'.f.length, ul := s'.u.length, rl := s'.r.length }] w16 _ from osame_any w16 s' s' o _ VV.out.1 I2.out T16.out.l.ok.fl (by have := T16.out.l.ok.ul; omega) T16.out.l.ok.rl).mono ?_
            rintro e w17 ⟨he, f17⟩
            rw [lk_same ⟨rfl, rfl, rfl⟩] at he
            subst he
            have T17 := hid (T16.out.keep f17)
            have F17 := hid f17
            clear f17 r0 r1 r2
            have S17 : Hid (w14.heap.size ≤ w16.heap.size) := Nat.le_trans (show w14.heap.size ≤ w15.heap.size from F15.out.size) F16.out.size
            have VV2 := hid (V14.out w17 (fun k hk hn => (F17.out.block k (Nat.lt_of_lt_of_le hk S17.out) (fun h => h)).trans ((F16.out.block k (Nat.lt_of_lt_of_le hk F15.out.size) hn).trans (F15.out.block k hk (fun h => h)))))
            have P17 := hid (HSS.out w17 T17.out.f (fun k hk hn => (F17.out.block k (Nat.lt_of_lt_of_le hk S17.out) (fun h => h)).trans ((F16.out.block k (Nat.lt_of_lt_of_le hk F15.out.size) hn).trans (F15.out.block k hk (fun h => h)))))
            refine hK.out _ _ P17.out ?_
            clear hK K'
            try simp only [Act.put, List.setIfInBounds_toArray, List.set_cons_zero, List.set_cons_succ]
            refine takeH (i := 16) (d := some 101) (.bool false) rfl (by kernel_rfl) (by kernel_rfl) (by kernel_rfl) (fun _ _ _ _ h => h) P17.out (fun o ho => by cases ho; exact .inl ⟨by rfl, fun w hSw => by (obtain ⟨⟨hs0, hs1, hs2, hs3, hs4, hs5, hs6, hs7, hs8⟩, ⟨ht0, ht1, ht2⟩⟩ := hSw; go_simp)⟩) ?_
            simp only [Act.put, List.setIfInBounds_toArray, List.set_cons_zero, List.set_cons_succ]
            refine takeH (i := 17) (d := some 102) (.bool false) rfl (by kernel_rfl) (by kernel_rfl) (by kernel_rfl) (fun _ _ _ _ h => h) P17.out (fun o ho => by cases ho; exact .inl ⟨by rfl, fun w hSw => by (obtain ⟨⟨hs0, hs1, hs2, hs3, hs4, hs5, hs6, hs7, hs8⟩, ⟨ht0, ht1, ht2⟩⟩ := hSw; go_simp)⟩) ?_
            simp only [Act.put, List.setIfInBounds_toArray, List.set_cons_zero, List.set_cons_succ]
            refine wpAnyH_done (by kernel_rfl) (NoPanic.normal ?_) _
            obtain ⟨q0, q1, q2⟩ := VV2.out.2.1
            go_wp2_with fail
            have hI := VV2.out.1
            have hok := T17.out.l.ok
            refine (wreck_any (Bt w12.heap.size w13.heap.size) w17 o VV2.out.2.2.1 VV2.out.2.2.2.1 VV2.out.2.2.2.2 (fun k hk => by have h1 := hk.2; have h2 := S17.out; have h3 := F17.out.size; have h4 := S13.out.2; omega) (by have := hI.fl; have := hok.fl; omega) (by have := hI.ul; have := hok.ul; omega) (by have := hI.rl; have := hok.rl; omega)).mono ?_
            rintro e w18 ⟨rfl, f18⟩
            have T18 := hid (T17.out.other f18 (fun k hk => ⟨.inl (.inl (.inr ⟨hk.1, by have := hk.2; have := S13.out.2; omega⟩)), fun hE => by
              have h1 := hk.1
              have h2 := hk.2
              have h3 := S13.out
              have h4 := S12.out
              have h5 := S11.out
              have h6 := F15.out.size
              simp only [World.drew] at h6
              rcases hE with (hE | hE) | hE
              · have := T7.out.r.es k hE; omega
              · have := hE.1; simp only [World.drew] at this; omega
              · have := hE.1; omega, fun e => by have := T7.out.r.lt; have := hk.1; have := S12.out; have := S11.out; omega, Nat.le_trans T7F.out.size (by have := hk.1; have := S12.out; have := S11.out; omega)⟩))
            clear q0 q1 q2 f18 hI hok
            go_wp2_with fail
            exact ⟨⟨i + 1, s', by omega, by go_num, ⟨_, _, T18.out⟩, HPl3.out⟩, by simp [intOf]; omega⟩
        · have hi1 : ¬ (i : Int) < ((L.length : Nat) : Int) := by omega
          obtain ⟨o0, pa0, pc0, XF0, XR0, x0⟩ := HT.out.drew.r
          have X0 := hid x0
          obtain ⟨r0, r1, r2, _⟩ := x0.cells
          have HOb := hid (lv_obs HT.out.drew.l)
          have HFd := hid HT.out.drew.f
          have HOk := hid HT.out.l.ok
          clear x0
          go_wp2_with fail
          go_region_with (first
            | (go_at_call 13; refine HOb.out.mono ?_; rintro e w8 ⟨f8, o1, rfl, v8⟩; have I1 := hid (v8 w8 (fun k _ => rfl)); have X8 := hid (X0.out.keep0 f8); have F8 := hid (HFd.out.trans f8 (fun _ h => h.elim)); clear f8 v8; obtain ⟨p0, p1, p2, _⟩ := X8.out.cells)
            | (go_at_call 15; refine (show Calls Try.prog 15 #[o1.v, Ov.v { o0 with fl := s.f.length, ul := s.u.length, rl := s.r.length }] w8 _ from osame_any w8 s s o1 _ I1.out X8.out.oin HOk.out.fl (by have := HOk.out.ul; omega) HOk.out.rl).mono ?_; rintro e w9 ⟨he, f9⟩; rw [lk_same ⟨rfl, rfl, rfl⟩] at he; subst he; have F9 := hid (F8.out.trans f9 (fun _ h => h.elim)); clear f9))
          all_goals
            go_wp2_with fail
            go_ret
            exact ⟨rfl, F9.out⟩
end Go.Proofs.Ytangnoicnogddaa.Tr
