/- MachineAgain's walk. -/
import Derived.Test.YtangnoicnogddaaMsh
namespace Go.Proofs.Ytangnoicnogddaa.Tr
open Go.RowKit

/-- Acts in a row. -/
def Acs (w : World) (L : List Ac) (ad : Option Addr) : Prop := ∀ i (h : i < L.length), ∃ b o z, ad = some ⟨b, o, none⟩ ∧ (∀ j v, (Zv.cs z)[j]? = some v → w.cell? ⟨b, o + i * 9 + j, none⟩ = some v) ∧ AIn w L[i] z
theorem Fr.kept {w a b : World} (f : Fr (fun _ => False) w a) (k : Kp (fun k => k < w.heap.size) a b) : Fr (fun _ => False) w b :=
  f.trans k (fun i hi => .inr (by omega))
theorem Kp.less {K K' : Nat → Prop} {a b : World} (k : Kp K a b) (h : ∀ i, K' i → K i) : Kp K' a b := k.mono (fun i hi hk => hi (h i hk))
theorem Kp.then {K : Nat → Prop} {a b c : World} (k : Kp K a b) (l : Kp K b c) : Kp K a c := k.trans l (fun _ h => .inl h)
theorem fr_kp {K : Nat → Prop} {a b : World} (f : Fr (fun _ => False) a b) : Kp K a b := f.upO
theorem oBlk (w : World) (o : Ov) : Blk (oBox w o) w.heap.size 33 o.cs := Blk.new w _ o.cs
theorem oFr (w : World) (o : Ov) : Fr (fun _ => False) w (oBox w o) := (Fr.refl _ w).alloc _
theorem oSz (w : World) (o : Ov) : (oBox w o).heap.size = w.heap.size + 1 := by rw [World.size_alloc]
theorem Blk.three {W : World} {b : Nat} {t : TypeId} {x : Ov} (h : Blk W b t x.cs) : W.cell? ⟨b, 0, none⟩ = some (.slice x.fa x.fl x.fc) ∧ W.cell? ⟨b, 1, none⟩ = some (.slice x.ua x.ul x.uc) ∧ W.cell? ⟨b, 2, none⟩ = some (.slice x.ra x.rl x.rc) :=
  ⟨h.cell 0, h.cell 1, h.cell 2⟩
/-- What an observation leaves, boxed. -/
theorem obs_box {K : Nat → Prop} {w w1 : World} {mb : Nat} {s : St} {e : Ending} (h : Lv K w mb s) (hp : ObsPost w s e w1) : ∃ o : Ov, e = .returned o.v ∧ Fr (fun _ => False) w w1 ∧ Lv (fun k => K k ∨ Bt w.heap.size (oBox w1 o).heap.size k) (oBox w1 o) mb s ∧ (∀ W, Kp (fun k => K k ∨ Bt w.heap.size (oBox w1 o).heap.size k) (oBox w1 o) W → OIn W s o ∧ Blk W w1.heap.size 33 o.cs) := by
  obtain ⟨f, o, rfl, hv⟩ := hp
  refine ⟨o, rfl, f, h.more (f.trans (oFr w1 o) (fun _ h => h.elim)), fun W k => ⟨hv W (fun i hi => ?_), k.blk (oBlk w1 o) (fun hn => hn (.inr ⟨f.size, by rw [oSz]; omega⟩))⟩⟩
  have hi2 : i < (oBox w1 o).heap.size := by rw [oSz]; have := hi.2; omega
  exact (k.block i hi2 (fun hn => hn (.inr ⟨hi.1, hi2⟩))).trans ((oFr w1 o).block i hi.2 (fun h => h))
theorem cd_lv {K : Nat → Prop} {w w1 : World} {mb : Nat} {s : St} {a : Ac} {e : Ending} (h : Lv K w mb s) (hp : CdPost w a e w1) : ∃ z : Zv, e = .returned z.v ∧ Fr (fun _ => False) w w1 ∧ Lv (fun k => K k ∨ Bt w.heap.size w1.heap.size k) w1 mb s ∧ AK (fun k => K k ∨ Bt w.heap.size w1.heap.size k) w1 a z := by
  obtain ⟨f, z, rfl, hz⟩ := hp
  exact ⟨z, rfl, f, h.more f, hz.mono (fun k hk => .inr hk)⟩
theorem do_code (s : St) (a : Ac) : (doF s a).2 = 0 ∨ (doF s a).2 = 70 ∨ (doF s a).2 = 71 := by
  by_cases h : (doF s a).2 = 0
  · exact .inl h
  · exact .inr (do_err a h).2
theorem lk_same {s t : St} (h : Lk s t) : (decide (s.f = t.f) && decide (s.u = t.u) && decide (s.r = t.r)) = true := by
  obtain ⟨h1, h2, h3⟩ := h
  rw [h1, h2, h3]; simp

set_option maxRecDepth 100000 in
set_option maxHeartbeats 16000000 in
theorem again_walk (w : World) (p : List Bool) (ad : Option Addr) (cap : Nat) (L : List Ac) (la : Option Addr) (lc : Nat) (hp : Bools w ad p) (hpl : p.length ≤ 140737488351232) (hL : Acs w L la) (hLl : L.length ≤ lim) :
    Calls Try.prog 4 #[.slice ad p.length cap, .slice la L.length lc] w fun e w' => e = .returned (.bool true) ∧ Fr (fun _ => False) w w' := by
  have HP := hid hp
  have HL := hid hL
  have hl' : L.length ≤ 140737488351232 := hLl
  clear hp hL hLl
  go_enter Try.func4, Try.ntmps4
  go_wp2_with fail
  refine (shown_any w).mono ?_
  rintro e w1 ⟨rfl, f1⟩
  have F1 := hid f1
  clear f1
  go_wp2_with fail
  refine (lv_new w1).mono ?_
  rintro e w2 ⟨mb, rfl, f2, l2⟩
  have F2 := hid (F1.out.trans f2 (fun _ h => h.elim))
  have L2 : Hid (Lv (fun k => k < w.heap.size) w2 mb ⟨[], [], [], []⟩) := l2.less (fun k hk => Nat.lt_of_lt_of_le hk F1.out.size)
  clear f2 l2
  go_wp2_with fail
  refine (lv_plan L2.out p ad cap (HP.out.env (Env.of F2.out)) hpl).mono ?_
  rintro e w3 ⟨rfl, l3, k3⟩
  have F3 := hid (F2.out.kept k3)
  have L3 := hid l3
  clear l3 k3
  go_wp2_with fail
  go_loopw [7, 8, 9, 10, 11, 12, 13] (fun iv _ _ _ _ _ _ wr => ∃ (i : Nat) (s : St), i ≤ L.length ∧ iv = .int .i64 (i : Int) ∧ Lv (fun k => k < w.heap.size) wr mb s ∧ Fr (fun _ => False) w wr) (fun iv _ _ _ _ _ _ _ => L.length - (intOf iv).toNat)
  case atStart => exact ⟨0, _, Nat.zero_le _, rfl, L3.out, F3.out⟩
  case round =>
    obtain ⟨i, s, hi, rfl, hlv, hF⟩ := hrel
    have HLv := hid hlv
    have HF := hid hF
    clear hlv hF
    by_cases hlt : i < L.length ∧ i < 100
    · obtain ⟨hlt, h100⟩ := hlt
      have hi1 : decide ((i : Int) < ((L.length : Nat) : Int)) = true := by simp; omega
      have hi2 : decide ((i : Int) < 100) = true := by simp; omega
      have hi0 : (0 : Int) ≤ (i : Int) := Int.natCast_nonneg _
      have hi3 : (i : Int) < ((L.length : Nat) : Int) := by omega
      obtain ⟨b, o, z, rfl, hc, ha⟩ := HL.out i hlt
      have HC := hid hc
      have HA := hid ha
      generalize L[i] = a at *
      have HAs : Hid ((doF s a).2 ≠ 0 → Lk s (doF s a).1) := fun h => (do_err a h).1
      have HAg : Hid ((doF s a).2 = 0 → doF (doF s a).1 a = ((doF s a).1, 0)) := do_again HLv.out.ok a
      have HCd := hid (do_code s a)
      clear hc ha HL
      go_wp2_with fail
      -- the round
      refine (lv_obs HLv.out).mono ?_
      rintro e w4 hob
      obtain ⟨o1, rfl, f4, l5, v5⟩ := obs_box HLv.out hob
      obtain ⟨K5, hK5⟩ : ∃ K5 : Nat → Prop, K5 = fun k => k < w.heap.size ∨ Bt wr.heap.size (oBox w4 o1).heap.size k := ⟨_, rfl⟩
      rw [← hK5] at l5 v5
      have HK5 : Hid (∀ k, k < w.heap.size → K5 k) := fun k hk => by rw [hK5]; exact .inl hk
      have F4 := hid (HF.out.trans f4 (fun _ h => h.elim))
      have F5 := hid (F4.out.trans (oFr w4 o1) (fun _ h => h.elim))
      have L5 := hid l5
      have V5 := hid v5
      clear hob f4 l5 v5 hK5
      have c0 : ∀ ob, (w4.alloc ob).cell? ⟨b, o + i * 9, none⟩ = some (.int .i64 z.k) := fun ob => cell_fr ((Fr.refl (fun _ => False) w4).alloc ob) ((Env.of F4.out).cell (HC.out 0 _ rfl))
      have c1 : ∀ ob, (w4.alloc ob).cell? ⟨b, o + i * 9 + 1, none⟩ = some (.string ⟨z.n.toArray⟩) := fun ob => cell_fr ((Fr.refl (fun _ => False) w4).alloc ob) ((Env.of F4.out).cell (HC.out 1 _ rfl))
      have c2 : ∀ ob, (w4.alloc ob).cell? ⟨b, o + i * 9 + 2, none⟩ = some (.string ⟨z.x.p.toArray⟩) := fun ob => cell_fr ((Fr.refl (fun _ => False) w4).alloc ob) ((Env.of F4.out).cell (HC.out 2 _ rfl))
      have c3 : ∀ ob, (w4.alloc ob).cell? ⟨b, o + i * 9 + 3, none⟩ = some (.int .i64 z.x.k) := fun ob => cell_fr ((Fr.refl (fun _ => False) w4).alloc ob) ((Env.of F4.out).cell (HC.out 3 _ rfl))
      have c4 : ∀ ob, (w4.alloc ob).cell? ⟨b, o + i * 9 + 4, none⟩ = some (.slice z.x.da z.x.dl z.x.dc) := fun ob => cell_fr ((Fr.refl (fun _ => False) w4).alloc ob) ((Env.of F4.out).cell (HC.out 4 _ rfl))
      have c5 : ∀ ob, (w4.alloc ob).cell? ⟨b, o + i * 9 + 5, none⟩ = some (.string ⟨z.y.n.toArray⟩) := fun ob => cell_fr ((Fr.refl (fun _ => False) w4).alloc ob) ((Env.of F4.out).cell (HC.out 5 _ rfl))
      have c6 : ∀ ob, (w4.alloc ob).cell? ⟨b, o + i * 9 + 6, none⟩ = some (.string ⟨z.y.s.toArray⟩) := fun ob => cell_fr ((Fr.refl (fun _ => False) w4).alloc ob) ((Env.of F4.out).cell (HC.out 6 _ rfl))
      have c7 : ∀ ob, (w4.alloc ob).cell? ⟨b, o + i * 9 + 7, none⟩ = some (.slice z.y.ra z.y.rl z.y.rc) := fun ob => cell_fr ((Fr.refl (fun _ => False) w4).alloc ob) ((Env.of F4.out).cell (HC.out 7 _ rfl))
      have c8 : ∀ ob, (w4.alloc ob).cell? ⟨b, o + i * 9 + 8, none⟩ = some (.slice z.y.aa z.y.al z.y.ac) := fun ob => cell_fr ((Fr.refl (fun _ => False) w4).alloc ob) ((Env.of F4.out).cell (HC.out 8 _ rfl))
      simp only [Ov.v, Ov.cs]
      go_wp2_with fail
      clear c0 c1 c2 c3 c4 c5 c6 c7 c8
      refine (cd_any (oBox w4 o1) a z (HA.out.env F5.out)).mono ?_
      rintro e w6 hcd
      obtain ⟨z6, rfl, f6, l6, a6⟩ := cd_lv L5.out hcd
      obtain ⟨K6, hK6⟩ : ∃ K6 : Nat → Prop, K6 = fun k => K5 k ∨ Bt (oBox w4 o1).heap.size w6.heap.size k := ⟨_, rfl⟩
      rw [← hK6] at l6 a6
      have HK6 : Hid (∀ k, K5 k → K6 k) := fun k hk => by rw [hK6]; exact .inl hk
      have F6 := hid (F5.out.trans f6 (fun _ h => h.elim))
      have G6 : Hid (Kp K5 (oBox w4 o1) w6) := fr_kp f6
      have L6 := hid l6
      have A6 := hid a6
      clear hcd f6 l6 a6 hK6
      go_wp2_with fail
      have HDo := hid (lv_do L6.out a z6 A6.out)
      obtain ⟨s', hs'⟩ : ∃ s', s' = (doF s a).1 := ⟨_, rfl⟩
      rw [← hs'] at HDo HAs HAg
      clear hs'
      rcases HCd.out with hc | hc | hc
      · rw [hc] at HDo
        have HAg := hid (HAg.out hc)
        refine HDo.out.mono ?_
        rintro e w7 ⟨rfl, l7, k7⟩
        have F7 := hid (F6.out.kept (k7.less (fun k hk => HK6.out k (HK5.out k hk))))
        have L7 := hid l7
        clear l7 k7 HDo HAs A6 V5 G6
        go_wp2_with fail
        refine (lv_obs L7.out).mono ?_
        rintro e w8 hob
        obtain ⟨o2, rfl, f8, l9, v9⟩ := obs_box L7.out hob
        have F8 := hid (F7.out.trans f8 (fun _ h => h.elim))
        have F9 := hid (F8.out.trans (oFr w8 o2) (fun _ h => h.elim))
        obtain ⟨K9, hK9⟩ : ∃ K9 : Nat → Prop, K9 = fun k => K6 k ∨ Bt w7.heap.size (oBox w8 o2).heap.size k := ⟨_, rfl⟩
        rw [← hK9] at l9 v9
        have HK9 : Hid (∀ k, k < w.heap.size → K9 k) := fun k hk => by rw [hK9]; exact .inl (HK6.out k (HK5.out k hk))
        have L9 := hid l9
        have V9 := hid v9
        clear hob f8 l9 v9 hK9
        have c0 : ∀ ob, (w8.alloc ob).cell? ⟨b, o + i * 9, none⟩ = some (.int .i64 z.k) := fun ob => cell_fr ((Fr.refl (fun _ => False) w8).alloc ob) ((Env.of F8.out).cell (HC.out 0 _ rfl))
        have c1 : ∀ ob, (w8.alloc ob).cell? ⟨b, o + i * 9 + 1, none⟩ = some (.string ⟨z.n.toArray⟩) := fun ob => cell_fr ((Fr.refl (fun _ => False) w8).alloc ob) ((Env.of F8.out).cell (HC.out 1 _ rfl))
        have c2 : ∀ ob, (w8.alloc ob).cell? ⟨b, o + i * 9 + 2, none⟩ = some (.string ⟨z.x.p.toArray⟩) := fun ob => cell_fr ((Fr.refl (fun _ => False) w8).alloc ob) ((Env.of F8.out).cell (HC.out 2 _ rfl))
        have c3 : ∀ ob, (w8.alloc ob).cell? ⟨b, o + i * 9 + 3, none⟩ = some (.int .i64 z.x.k) := fun ob => cell_fr ((Fr.refl (fun _ => False) w8).alloc ob) ((Env.of F8.out).cell (HC.out 3 _ rfl))
        have c4 : ∀ ob, (w8.alloc ob).cell? ⟨b, o + i * 9 + 4, none⟩ = some (.slice z.x.da z.x.dl z.x.dc) := fun ob => cell_fr ((Fr.refl (fun _ => False) w8).alloc ob) ((Env.of F8.out).cell (HC.out 4 _ rfl))
        have c5 : ∀ ob, (w8.alloc ob).cell? ⟨b, o + i * 9 + 5, none⟩ = some (.string ⟨z.y.n.toArray⟩) := fun ob => cell_fr ((Fr.refl (fun _ => False) w8).alloc ob) ((Env.of F8.out).cell (HC.out 5 _ rfl))
        have c6 : ∀ ob, (w8.alloc ob).cell? ⟨b, o + i * 9 + 6, none⟩ = some (.string ⟨z.y.s.toArray⟩) := fun ob => cell_fr ((Fr.refl (fun _ => False) w8).alloc ob) ((Env.of F8.out).cell (HC.out 6 _ rfl))
        have c7 : ∀ ob, (w8.alloc ob).cell? ⟨b, o + i * 9 + 7, none⟩ = some (.slice z.y.ra z.y.rl z.y.rc) := fun ob => cell_fr ((Fr.refl (fun _ => False) w8).alloc ob) ((Env.of F8.out).cell (HC.out 7 _ rfl))
        have c8 : ∀ ob, (w8.alloc ob).cell? ⟨b, o + i * 9 + 8, none⟩ = some (.slice z.y.aa z.y.al z.y.ac) := fun ob => cell_fr ((Fr.refl (fun _ => False) w8).alloc ob) ((Env.of F8.out).cell (HC.out 8 _ rfl))
        simp only [Ov.v, Ov.cs]
        go_wp2_with fail
        clear c0 c1 c2 c3 c4 c5 c6 c7 c8
        refine (cd_any (oBox w8 o2) a z (HA.out.env F9.out)).mono ?_
        rintro e w10 hcd
        obtain ⟨z10, rfl, f10, l10, a10⟩ := cd_lv L9.out hcd
        obtain ⟨K10, hK10⟩ : ∃ K10 : Nat → Prop, K10 = fun k => K9 k ∨ Bt (oBox w8 o2).heap.size w10.heap.size k := ⟨_, rfl⟩
        rw [← hK10] at l10 a10
        have HK10 : Hid (∀ k, K9 k → K10 k) := fun k hk => by rw [hK10]; exact .inl hk
        have F10 := hid (F9.out.trans f10 (fun _ h => h.elim))
        have G10 : Hid (Kp K9 (oBox w8 o2) w10) := fr_kp f10
        have L10 := hid l10
        have A10 := hid a10
        clear hcd f10 l10 a10 hK10
        go_wp2_with fail
        have HDo := hid (lv_do L10.out a z10 A10.out)
        rw [HAg.out] at HDo
        refine HDo.out.mono ?_
        rintro e w11 ⟨rfl, l11, k11⟩
        have F11 := hid (F10.out.kept (k11.less (fun k hk => HK10.out k (HK9.out k hk))))
        have G11 : Hid (Kp K9 (oBox w8 o2) w11) := G10.out.then (k11.less HK10.out)
        have L11 := hid l11
        clear l11 k11 HDo HAg A10
        have G11d : Hid (Kp K9 (oBox w8 o2) w11.drew) := G11.out.drew
        obtain ⟨d0, d1, d2⟩ := (V9.out _ G11d.out).2.three
        have L11d : Hid (Lv (fun k => k < w.heap.size) w11.drew mb s') := (L11.out.keep ((Fr.refl _ w11).drew)).less (fun k hk => HK10.out k (HK9.out k hk))
        have HOb := hid (lv_obs L11d.out)
        have F11d : Hid (Fr (fun _ => False) w w11.drew) := F11.out.drew
        go_wp2_with fail
        go_region_with (first
          | (go_at_call 13; refine HOb.out.mono ?_; rintro e w12 hob; obtain ⟨f12, o3, rfl, v12⟩ := hob; have I3 := hid (v12 w12 (fun k _ => rfl)); have F12 := hid (F11d.out.trans f12 (fun _ h => h.elim)); have G12 : Hid (Kp K9 (oBox w8 o2) w12) := G11d.out.then (fr_kp f12); have L12 := hid (L11d.out.keep f12); have I2 := hid (V9.out _ G12.out).1; obtain ⟨e0, e1, e2⟩ := (V9.out _ G12.out).2.three; clear f12 v12)
          | (go_at_call 15; refine (show Calls Try.prog 15 #[o2.v, o3.v] w12 _ from osame_any w12 s' s' o2 o3 I2.out I3.out L12.out.ok.fl (by have := L12.out.ok.ul; omega) L12.out.ok.rl).mono ?_; rintro e w13 ⟨he, f13⟩; rw [lk_same ⟨rfl, rfl, rfl⟩] at he; subst he; have F13 := hid (F12.out.trans f13 (fun _ h => h.elim)); have L13 := hid (L12.out.keep f13); clear f13))
        all_goals
          go_wp2_with fail
          exact ⟨⟨i + 1, s', by omega, by go_num, L13.out, F13.out⟩, by simp [intOf]; omega⟩
      · rw [hc] at HDo HAs
        have HLk := hid (HAs.out (by decide))
        refine HDo.out.mono ?_
        rintro e w7 ⟨rfl, l7, k7⟩
        have F7 := hid (F6.out.kept (k7.less (fun k hk => HK6.out k (HK5.out k hk))))
        have G7 : Hid (Kp K5 (oBox w4 o1) w7) := G6.out.then (k7.less HK6.out)
        have L7 := hid l7
        clear l7 k7 HDo HAs HAg A6
        go_wp2_with fail
        refine (lv_obs L7.out).mono ?_
        rintro e w8 hob
        obtain ⟨o2, rfl, f8, l9, v9⟩ := obs_box L7.out hob
        have F9 := hid ((F7.out.trans f8 (fun _ h => h.elim)).trans (oFr w8 o2) (fun _ h => h.elim))
        have G8 : Hid (Kp K5 (oBox w4 o1) w8) := G7.out.then (fr_kp f8)
        have G9 : Hid (Kp K5 (oBox w4 o1) (oBox w8 o2)) := G8.out.then (fr_kp (oFr w8 o2))
        have L9 : Hid (Lv (fun k => k < w.heap.size) (oBox w8 o2) mb s') := l9.less (fun k hk => .inl (HK6.out k (HK5.out k hk)))
        have I2 := hid (v9 (oBox w8 o2) (Fr.refl _ _)).1
        have I1 := hid (V5.out _ G9.out).1
        have HSm := hid (osame_any (oBox w8 o2) s s' o1 o2 I1.out I2.out (HLv.out.ok.fl) (by have := HLv.out.ok.ul; omega) (HLv.out.ok.rl))
        rw [lk_same HLk.out] at HSm
        obtain ⟨q0, q1, q2⟩ := (V5.out _ G8.out).2.three
        have c0 : ∀ ob, (w8.alloc ob).cell? ⟨w4.heap.size, 0, none⟩ = some (.slice o1.fa o1.fl o1.fc) := fun ob => cell_fr ((Fr.refl (fun _ => False) w8).alloc ob) q0
        have c1 : ∀ ob, (w8.alloc ob).cell? ⟨w4.heap.size, 1, none⟩ = some (.slice o1.ua o1.ul o1.uc) := fun ob => cell_fr ((Fr.refl (fun _ => False) w8).alloc ob) q1
        have c2 : ∀ ob, (w8.alloc ob).cell? ⟨w4.heap.size, 2, none⟩ = some (.slice o1.ra o1.rl o1.rc) := fun ob => cell_fr ((Fr.refl (fun _ => False) w8).alloc ob) q2
        obtain ⟨d0, d1, d2⟩ := (oBlk w8 o2).three
        clear hob f8 l9 v9 q0 q1 q2
        simp only [oBox, Ov.cs] at d0 d1 d2
        simp only [Ov.v, Ov.cs]
        go_wp2_with fail
        refine HSm.out.mono ?_
        rintro e w10 ⟨rfl, f10⟩
        have F10 := hid (F9.out.trans f10 (fun _ h => h.elim))
        have L10 := hid (L9.out.keep f10)
        clear f10 c0 c1 c2 d0 d1 d2
        go_wp2_with fail
        exact ⟨⟨i + 1, s', by omega, by go_num, L10.out, F10.out⟩, by simp [intOf]; omega⟩
      · rw [hc] at HDo HAs
        have HLk := hid (HAs.out (by decide))
        refine HDo.out.mono ?_
        rintro e w7 ⟨rfl, l7, k7⟩
        have F7 := hid (F6.out.kept (k7.less (fun k hk => HK6.out k (HK5.out k hk))))
        have G7 : Hid (Kp K5 (oBox w4 o1) w7) := G6.out.then (k7.less HK6.out)
        have L7 := hid l7
        clear l7 k7 HDo HAs HAg A6
        go_wp2_with fail
        refine (lv_obs L7.out).mono ?_
        rintro e w8 hob
        obtain ⟨o2, rfl, f8, l9, v9⟩ := obs_box L7.out hob
        have F9 := hid ((F7.out.trans f8 (fun _ h => h.elim)).trans (oFr w8 o2) (fun _ h => h.elim))
        have G8 : Hid (Kp K5 (oBox w4 o1) w8) := G7.out.then (fr_kp f8)
        have G9 : Hid (Kp K5 (oBox w4 o1) (oBox w8 o2)) := G8.out.then (fr_kp (oFr w8 o2))
        have L9 : Hid (Lv (fun k => k < w.heap.size) (oBox w8 o2) mb s') := l9.less (fun k hk => .inl (HK6.out k (HK5.out k hk)))
        have I2 := hid (v9 (oBox w8 o2) (Fr.refl _ _)).1
        have I1 := hid (V5.out _ G9.out).1
        have HSm := hid (osame_any (oBox w8 o2) s s' o1 o2 I1.out I2.out (HLv.out.ok.fl) (by have := HLv.out.ok.ul; omega) (HLv.out.ok.rl))
        rw [lk_same HLk.out] at HSm
        obtain ⟨q0, q1, q2⟩ := (V5.out _ G8.out).2.three
        have c0 : ∀ ob, (w8.alloc ob).cell? ⟨w4.heap.size, 0, none⟩ = some (.slice o1.fa o1.fl o1.fc) := fun ob => cell_fr ((Fr.refl (fun _ => False) w8).alloc ob) q0
        have c1 : ∀ ob, (w8.alloc ob).cell? ⟨w4.heap.size, 1, none⟩ = some (.slice o1.ua o1.ul o1.uc) := fun ob => cell_fr ((Fr.refl (fun _ => False) w8).alloc ob) q1
        have c2 : ∀ ob, (w8.alloc ob).cell? ⟨w4.heap.size, 2, none⟩ = some (.slice o1.ra o1.rl o1.rc) := fun ob => cell_fr ((Fr.refl (fun _ => False) w8).alloc ob) q2
        obtain ⟨d0, d1, d2⟩ := (oBlk w8 o2).three
        clear hob f8 l9 v9 q0 q1 q2
        simp only [oBox, Ov.cs] at d0 d1 d2
        simp only [Ov.v, Ov.cs]
        go_wp2_with fail
        refine HSm.out.mono ?_
        rintro e w10 ⟨rfl, f10⟩
        have F10 := hid (F9.out.trans f10 (fun _ h => h.elim))
        have L10 := hid (L9.out.keep f10)
        clear f10 c0 c1 c2 d0 d1 d2
        go_wp2_with fail
        exact ⟨⟨i + 1, s', by omega, by go_num, L10.out, F10.out⟩, by simp [intOf]; omega⟩
    · have hR : Hid (¬ (i < L.length ∧ i < 100)) := hlt
      by_cases hlt : i < L.length
      · have h100 : ¬ i < 100 := fun h => hR.out ⟨hlt, h⟩
        have hi1 : decide ((i : Int) < ((L.length : Nat) : Int)) = true := by simp; omega
        have hi2 : decide ((i : Int) < 100) = false := by simp; omega
        clear hR
        go_wp2_with fail
        go_ret
        exact ⟨rfl, HF.out⟩
      · have hi1 : decide ((i : Int) < ((L.length : Nat) : Int)) = false := by simp; omega
        clear hR
        go_wp2_with fail
        go_ret
        exact ⟨rfl, HF.out⟩
end Go.Proofs.Ytangnoicnogddaa.Tr
