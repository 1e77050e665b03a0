/- The walk of ValueSets. -/
import Derived.Test.YtlepjghfcpgbcaaGreatDoorSat
namespace Go.Proofs.YtlepjghfcpgbcaaGreatDoor.Tr
open Go.RowKit

def SuSt (w w6 : World) (N vb : Nat) (x y xv : Vv) (iv : Value) (wr : World) : Prop := ∃ i : Nat, i ≤ N ∧ iv = .int .i64 (i : Int) ∧ Fr (fun _ => False) w6 wr ∧ Blk wr w.heap.size 26 x.cs ∧ Blk wr (w.heap.size + 1) 26 y.cs ∧ Blk wr vb 26 xv.cs
def SuS2 (w w6 : World) (A B : List Et) (vb : Nat) (x y xv : Vv) (nv iv : Value) (wr : World) : Prop := ∃ i : Nat, i ≤ A.length ∧ iv = .int .i64 (i : Int) ∧ nv = .int .i64 (newN B (A.take i) : Int) ∧ Fr (fun _ => False) w6 wr ∧ Blk wr w.heap.size 26 x.cs ∧ Blk wr (w.heap.size + 1) 26 y.cs ∧ Blk wr vb 26 xv.cs

set_option maxRecDepth 100000 in
set_option maxHeartbeats 8000000 in
theorem sets_walk (w : World) (u v : Vt) (x y : Vv) (hx : VIn w u x) (hy : VIn w v y) (hT : Tw w) : Calls Tryz.prog 9 #[x.v, y.v] w fun e w' => e = .returned (.bool true) ∧ Fr (fun _ => False) w w' := by
  have HB := hid (two_blk w x y)
  have HF := hid (two_fr w x y)
  have HS := hid (shown_any _ (hT.env (Env.of (two_fr w x y))))
  have HSa : Hid (∀ W, Env w W → Calls Tryz.prog 15 #[x.v, .int .i64 5000] W fun e w' => e = .returned (.int .i64 (smF u 5000)) ∧ Fr (fun _ => False) W w') := fun W e => small_any _ u (Nat.le_refl _) x W 5000 (VIn.env e _ _ hx) (by omega) (by omega)
  have HSb : Hid (∀ W, Env w W → Calls Tryz.prog 15 #[y.v, .int .i64 5000] W fun e w' => e = .returned (.int .i64 (smF v 5000)) ∧ Fr (fun _ => False) W w') := fun W e => small_any _ v (Nat.le_refl _) y W 5000 (VIn.env e _ _ hy) (by omega) (by omega)
  have HRa : Hid (RightOf w x (rtB u 32)) := right_any hx
  have HRb : Hid (RightOf w y (rtB v 32)) := right_any hy
  have HVx := hid hx
  have HVy := hid hy
  have hk1 : x.k = u.k := hx.parts.1.1
  have hk2 : y.k = v.k := hy.parts.1.1
  have HOp1 := hid (fun (h : rtB u 32 = true) (h6 : x.k = 6) => set_open hx h (hk1.symm.trans h6))
  have HOp2 := hid (fun (h : rtB v 32 = true) (h6 : y.k = 6) => set_open hy h (hk2.symm.trans h6))
  have HR1 := hid (fun (h : rtB u 32 = true) => show RightOf w x true from h ▸ right_any hx)
  have HR2 := hid (fun (h : rtB v 32 = true) => show RightOf w y true from h ▸ right_any hy)
  clear hx hy hT hk1 hk2
  generalize smF u 5000 = m1 at *
  generalize smF v 5000 = m2 at *
  generalize rtB u 32 = r1 at *
  generalize rtB v 32 = r2 at *
  have HY0 := hid (rfl : y = y)
  obtain ⟨k, n, f, t, na, nl, nc, ia, il, ic⟩ := x
  obtain ⟨k', n', f', t', na', nl', nc', ia', il', ic'⟩ := y
  clear HY0
  unfold RightOf at HRa HRb
  simp only [Vv.v] at *
  go_enter Tryz.func9, Tryz.ntmps9
  go_wp2_with fail
  refine HS.out.mono ?_
  rintro e w1 ⟨rfl, f1⟩
  have HB1 := hid (And.intro (f1.blk HB.out.1 (fun h => h)) (f1.blk HB.out.2 (fun h => h)))
  have HF1 := hid (HF.out.trans f1 (fun _ h => h.elim))
  clear f1 HB HF HS
  obtain ⟨c0, c1, c2, c3, c4, c5⟩ := HB1.out.1.six
  obtain ⟨d0, d1, d2, d3, d4, d5⟩ := HB1.out.2.six
  go_wp2_with fail
  refine (HSa.out _ (Env.of HF1.out)).mono ?_
  rintro e w2 ⟨rfl, f2⟩
  have HB2 := hid (And.intro (f2.blk HB1.out.1 (fun h => h)) (f2.blk HB1.out.2 (fun h => h)))
  have HF2 := hid (HF1.out.trans f2 (fun _ h => h.elim))
  clear f2 HB1 HF1 HSa c0 c1 c2 c3 c4 c5 d0 d1 d2 d3 d4 d5
  by_cases h1 : m1 = 0
  · subst h1
    go_wp2_with fail
    go_ret
    exact ⟨rfl, HF2.out⟩
  have h1' : (m1 == 0) = false := by simpa using h1
  clear h1
  obtain ⟨c0, c1, c2, c3, c4, c5⟩ := HB2.out.1.six
  obtain ⟨d0, d1, d2, d3, d4, d5⟩ := HB2.out.2.six
  go_wp2_with fail
  refine (HSb.out _ (Env.of HF2.out)).mono ?_
  rintro e w3 ⟨rfl, f3⟩
  have HB3 := hid (And.intro (f3.blk HB2.out.1 (fun h => h)) (f3.blk HB2.out.2 (fun h => h)))
  have HF3 := hid (HF2.out.trans f3 (fun _ h => h.elim))
  clear f3 HB2 HF2 HSb c0 c1 c2 c3 c4 c5 d0 d1 d2 d3 d4 d5
  by_cases h2 : m2 = 0
  · subst h2
    go_wp2_with fail
    go_ret
    exact ⟨rfl, HF3.out⟩
  have h2' : (m2 == 0) = false := by simpa using h2
  clear h2
  obtain ⟨c0, c1, c2, c3, c4, c5⟩ := HB3.out.1.six
  obtain ⟨d0, d1, d2, d3, d4, d5⟩ := HB3.out.2.six
  go_wp2_with fail
  refine (HRa.out _ (Env.of HF3.out)).mono ?_
  rintro e w4 ⟨rfl, f4⟩
  have HB4 := hid (And.intro (f4.blk HB3.out.1 (fun h => h)) (f4.blk HB3.out.2 (fun h => h)))
  have HF4 := hid (HF3.out.trans f4 (fun _ h => h.elim))
  clear f4 HB3 HF3 HRa c0 c1 c2 c3 c4 c5 d0 d1 d2 d3 d4 d5
  cases r1 with
  | false =>
    go_wp2_with fail
    go_ret
    exact ⟨rfl, HF4.out⟩
  | true =>
  obtain ⟨c0, c1, c2, c3, c4, c5⟩ := HB4.out.1.six
  obtain ⟨d0, d1, d2, d3, d4, d5⟩ := HB4.out.2.six
  go_wp2_with fail
  refine (HRb.out _ (Env.of HF4.out)).mono ?_
  rintro e w5 ⟨rfl, f5⟩
  have HB5 := hid (And.intro (f5.blk HB4.out.1 (fun h => h)) (f5.blk HB4.out.2 (fun h => h)))
  have HF5 := hid (HF4.out.trans f5 (fun _ h => h.elim))
  clear f5 HB4 HF4 HRb c0 c1 c2 c3 c4 c5 d0 d1 d2 d3 d4 d5
  obtain ⟨c0, c1, c2, c3, c4, c5⟩ := HB5.out.1.six
  obtain ⟨d0, d1, d2, d3, d4, d5⟩ := HB5.out.2.six
  cases r2 with
  | false =>
    go_wp2_with fail
    go_ret
    exact ⟨rfl, HF5.out⟩
  | true =>
  by_cases h5 : k = 6
  case neg =>
    have h5' : (k != 6) = true := by simpa using h5
    go_wp2_with fail
    go_ret
    exact ⟨rfl, HF5.out⟩
  by_cases h6 : k' = 6
  case neg =>
    subst h5
    have h6' : (k' != 6) = true := by simpa using h6
    go_wp2_with fail
    go_ret
    exact ⟨rfl, HF5.out⟩
  obtain ⟨A, hA1, hA2, hA3, hA4, hA5⟩ := HOp1.out (by first | rfl | trivial) h5
  obtain ⟨B, hB1, hB2, hB3, hB4, hB5⟩ := HOp2.out (by first | rfl | trivial) h6
  have HAI := hid hA3
  have HAO := hid hA4
  have HBI := hid hB3
  have HBO := hid hB4
  have HA5 := hid hA5
  have hAl : A.length ≤ 256 := hA3.len
  have hBl : B.length ≤ 256 := hB3.len
  have g1 := hA3.nl
  have g2 := hA3.il
  have g3 := hB3.nl
  have g4 := hB3.il
  simp only at g1 g2 g3 g4
  subst h5 h6 g1 g2 g3 g4
  clear hA1 hA2 hA3 hA4 hA5 hB1 hB2 hB3 hB4 hB5 HOp1 HOp2
  have HRK := hid (reckon_over w5 _ _ A B ((HR1.out (by first | rfl | trivial)).env (Env.of HF5.out)) ((HR2.out (by first | rfl | trivial)).env (Env.of HF5.out)) rfl rfl (HAI.out.env (Env.of HF5.out)) (HBI.out.env (Env.of HF5.out)))
  have HRS : Hid (∀ W, Env w W → Calls Tryz.prog 31 #[.string ⟨#[47, 47]⟩, _, _] W (OverPost W (mg A A))) := fun W e => reckon_over W _ _ A A ((HR1.out (by first | rfl | trivial)).env e) ((HR1.out (by first | rfl | trivial)).env e) rfl rfl (HAI.out.env e) (HAI.out.env e)
  simp only [Vv.v, mg_self] at HRK HRS
  have hRle := mg_le A B
  have HLen := hid (mg_len A B HAO.out.srt HBO.out.srt)
  have HMem := hid (mg_mem A B HAO.out.srt HBO.out.srt)
  have HOk := hid (fun h => mg_ok HAO.out HBO.out h)
  generalize hRR : mg A B = RR at *
  clear hRR
  go_wp2_with fail
  refine HRK.out.mono ?_
  clear HRK
  rintro e w6 ⟨f6, ⟨hgt, rfl⟩ | ⟨hle, ra, rc, va, vc, rfl, ho, hv⟩⟩
  · have HB6 := hid (And.intro (f6.blk HB5.out.1 (fun h => h)) (f6.blk HB5.out.2 (fun h => h)))
    have HF6 := hid (HF5.out.trans f6 (fun _ h => h.elim))
    have HBz := hid (vBlk w6 vZ)
    clear f6 HB5 HF5 c0 c1 c2 c3 c4 c5 d0 d1 d2 d3 d4 d5
    have hg' : ((A.length : Nat) : Int) + ((B.length : Nat) : Int) > 256 := by omega
    go_wp2_with (refine wpList_storeV vZ (by rfl) _ _ (by rfl) HBz.out (by rfl) (by rfl) ?_; intro w7 b7 f7; have HF7 := hid (bx_fr f7); have HB7 := hid (And.intro (HF7.out.blk HB6.out.1 (fun h => h)) (HF7.out.blk HB6.out.2 (fun h => h))); clear b7 f7; obtain ⟨c0, c1, c2, c3, c4, c5⟩ := HB7.out.1.six; obtain ⟨d0, d1, d2, d3, d4, d5⟩ := HB7.out.2.six)
    go_ret
    exact ⟨rfl, HF6.out.trans HF7.out (fun _ h => h.elim)⟩
  · have HB6 := hid (And.intro (f6.blk HB5.out.1 (fun h => h)) (f6.blk HB5.out.2 (fun h => h)))
    have HF6 := hid (HF5.out.trans f6 (fun _ h => h.elim))
    have HBz := hid (vBlk w6 vZ)
    have hmade := set_made (HOk.out hle) (Env.of HF6.out) ho hv
    have HVI := hid hmade.1
    have HRV : Hid (∀ W, Env w6 W → Calls Tryz.prog 21 #[(Vv.mk 6 0 0 [] ra RR.length rc va RR.length vc).v] W fun e w' => e = .returned (.bool true) ∧ Fr (fun _ => False) W w') := fun W e => by
      have := right_any hmade.1 W e
      rw [hmade.2] at this
      exact this
    simp only [Vv.v] at HRV
    clear f6 HB5 HF5 c0 c1 c2 c3 c4 c5 d0 d1 d2 d3 d4 d5 ho hv hmade
    go_wp2_with (refine wpList_storeV ⟨6, 0, 0, [], ra, RR.length, rc, va, RR.length, vc⟩ (by rfl) _ _ (by rfl) HBz.out (by rfl) (by rfl) ?_; intro w7 b7 f7; have HF7 := hid (bx_fr f7); have HB7 := hid (And.intro (HF7.out.blk HB6.out.1 (fun h => h)) (HF7.out.blk HB6.out.2 (fun h => h))); have HV7 := hid b7; clear b7 f7; obtain ⟨g0, g1, g2, g3, g4, g5⟩ := HV7.out.six)
    refine (HRV.out _ (Env.of HF7.out)).mono ?_
    rintro e w8 ⟨rfl, f8⟩
    have HF8 := hid (HF7.out.trans f8 (fun _ h => h.elim))
    have HB8 := hid (And.intro (f8.blk HB7.out.1 (fun h => h)) (f8.blk HB7.out.2 (fun h => h)))
    have HV8 := hid (f8.blk HV7.out (fun h => h))
    clear f8 HF7 HB7 HV7 g0 g1 g2 g3 g4 g5 HRV HBz HB6
    go_wp2_with fail
    go_loopw [9, 10, 11] (fun iv _ _ wr => SuSt w w6 RR.length w6.heap.size ⟨6, n, f, t, na, A.length, nc, ia, A.length, ic⟩ ⟨6, n', f', t', na', B.length, nc', ia', B.length, ic'⟩ ⟨6, 0, 0, [], ra, RR.length, rc, va, RR.length, vc⟩ iv wr) (fun iv _ _ _ => RR.length - (intOf iv).toNat)
    case atStart => exact ⟨0, Nat.zero_le _, rfl, HF8.out, HB8.out.1, HB8.out.2, HV8.out⟩
    case round =>
      obtain ⟨i, hi, rfl, hF, hA, hB, hV⟩ := hrel
      have HFr := hid hF
      have HA := hid hA
      have HB := hid hB
      have HV := hid hV
      have HEw := hid ((Env.of HF6.out).trans (Env.of hF))
      clear hF hA hB hV HF8 HB8 HV8
      obtain ⟨g0, g1, g2, g3, g4, g5⟩ := HV.out.six
      by_cases hlt : i < RR.length
      · obtain ⟨rb, ro, er, hrn⟩ := HVI.out.parts.2.2.1.2.2.2.at i (by rw [Vt.ns, nmE_len]; exact hlt)
        obtain ⟨vb, vo, z, e1, e2, e3⟩ := HVI.out.item i (by rw [Vt.its, vtE_len]; exact hlt)
        simp only at er e1
        subst er e1
        have hmem : RR[i] ∈ RR := List.getElem_mem hlt
        have hn0 : ((Vt.mk 6 0 0 [] (nmE RR) (vtE RR)).ns[i]'(by rw [Vt.ns, nmE_len]; exact hlt)) = RR[i].1 := by simp [Vt.ns, nmE]
        have hi0 : ((Vt.mk 6 0 0 [] (nmE RR) (vtE RR)).its[i]'(by rw [Vt.its, vtE_len]; exact hlt)) = RR[i].2.1 := by simp [Vt.its, vtE]
        rw [hn0] at hrn
        rw [hi0] at e3
        generalize RR[i] = r at *
        clear hn0 hi0
        have hlt' : (i : Int) < ((RR.length : Nat) : Int) := by omega
        have HKn : Hid (∀ W', Fr (fun _ => False) wr W' → W'.cell? ⟨w6.heap.size, 4, none⟩ = some (.slice (some ⟨rb, ro, none⟩) RR.length rc) ∧ W'.cell? ⟨rb, ro + i, none⟩ = some (.string ⟨r.1.toArray⟩) ∧ W'.cell? ⟨w6.heap.size, 5, none⟩ = some (.slice (some ⟨vb, vo, none⟩) RR.length vc) ∧ sixB W' vb (vo + i * 6) z ∧ six W' w.heap.size ⟨6, n, f, t, na, A.length, nc, ia, A.length, ic⟩ ∧ six W' (w.heap.size + 1) ⟨6, n', f', t', na', B.length, nc', ia', B.length, ic'⟩) := fun W' hf => ⟨(Env.of hf).cell g4, ((Env.of HFr.out).trans (Env.of hf)).cell hrn, (Env.of hf).cell g5, (e2.env ((Env.of HFr.out).trans (Env.of hf))).six, (hf.blk HA.out (fun h => h)).six, (hf.blk HB.out (fun h => h)).six⟩
        rcases (HMem.out r).1 hmem with hrB | ⟨hrA, hrN⟩
        · skip
          obtain ⟨j, hj, hjr, hatY⟩ := at_mem HBO.out.srt hrB
          have HAt : Hid (∀ W, Env w W → Calls Tryz.prog 39 #[(⟨6, n', f', t', na', B.length, nc', ia', B.length, ic'⟩ : Vv).v, .string ⟨r.1.toArray⟩] W fun e w' => e = .returned (.int .i64 (j : Int)) ∧ Fr (fun _ => False) W w') := fun W e => by
            have := at_any W ⟨6, n', f', t', na', B.length, nc', ia', B.length, ic'⟩ (nmE B) r.1 (by rw [nmE_len]) ((HBI.out.env e).names) (by rw [nmE_len]; omega)
            rw [hatY] at this
            exact this
          simp only [Vv.v] at HAt
          obtain ⟨bb, bo, eb, hbi⟩ := HBI.out.item j hj
          simp only at eb
          subst eb
          rw [hjr] at hbi
          have hbv := HBO.out.vin r (hjr ▸ List.getElem_mem hj)
          have HC : Hid (∀ W, Fr (fun _ => False) wr W → Calls Tryz.prog 23 #[r.2.2.v, z.v] W fun e w' => e = .returned (.bool true) ∧ Fr (fun _ => False) W w') := fun W hf => by
            have := sm_of r.2.1 r.2.1 r.2.2 z W (VIn.env (HEw.out.trans (Env.of hf)) _ _ hbv) (VIn.env ((Env.of HFr.out).trans (Env.of hf)) _ _ e3)
            rw [sam_refl] at this
            exact this
          have HKi : Hid (∀ W', Fr (fun _ => False) wr W' → sixB W' bb (bo + j * 6) r.2.2) := fun W' hf => (hbi.env (HEw.out.trans (Env.of hf))).six
          clear hbi hbv e2 e3
          have hjn : ¬ ((j : Int) < 0) := by omega
          have hjl : (j : Int) < ((B.length : Nat) : Int) := by omega
          go_wp2_with fail
          go_region_held3 (fun W' => six W' (w.heap.size + 1) ⟨6, n', f', t', na', B.length, nc', some ⟨bb, bo, none⟩, B.length, ic'⟩ ∧ W'.cell? ⟨w6.heap.size, 4, none⟩ = some (.slice (some ⟨rb, ro, none⟩) RR.length rc) ∧ W'.cell? ⟨rb, ro + i, none⟩ = some (.string ⟨r.1.toArray⟩))
            (first | exact ⟨(HKn.out _ ((Fr.refl (fun _ => False) wr).drew)).2.2.2.2.2, (HKn.out _ ((Fr.refl (fun _ => False) wr).drew)).1, (HKn.out _ ((Fr.refl (fun _ => False) wr).drew)).2.1⟩ | exact ⟨(HKn.out _ FA.out).2.2.2.2.2, (HKn.out _ FA.out).1, (HKn.out _ FA.out).2.1⟩)
            ((go_at_call 39; refine (HAt.out _ (HEw.out.trans (Env.of ((Fr.refl (fun _ => False) wr).drew)))).mono ?_; rintro e wa ⟨rfl, fa⟩; have FA : Hid (Fr (fun _ => False) wr wa) := ((Fr.refl (fun _ => False) wr).drew).trans fa (fun _ h => h.elim)))
          obtain ⟨d0, d1, d2, d3, d4, d5⟩ := (FA.out.blk HB.out (fun h => h)).six
          have HBz := hid (vBlk wa vZ)
          go_wp2_with (refine wpList_storeV ⟨6, n', f', t', na', B.length, nc', some ⟨bb, bo, none⟩, B.length, ic'⟩ (by rfl) _ _ (by rfl) HBz.out (by rfl) (by rfl) ?_; intro w9 b8 f8; have HF9 := hid (FA.out.trans (bx_fr f8) (fun _ h => h.elim)); have HW9 := hid b8; clear b8 f8)
          have HS9 := hid (HW9.out.cell 5)
          go_region_held3 (fun W' => (W'.cell? ⟨w6.heap.size, 5, none⟩ = some (.slice (some ⟨vb, vo, none⟩) RR.length vc) ∧ sixB W' vb (vo + i * 6) z) ∧ sixB W' bb (bo + j * 6) r.2.2 ∧ W'.cell? ⟨wa.heap.size, 5, none⟩ = some (.slice (some ⟨bb, bo, none⟩) B.length ic'))
            (first | exact ⟨⟨(HKn.out _ HF9.out.drew).2.2.1, (HKn.out _ HF9.out.drew).2.2.2.1⟩, HKi.out _ HF9.out.drew, HS9.out⟩ | exact ⟨⟨(HKn.out _ F1.out).2.2.1, (HKn.out _ F1.out).2.2.2.1⟩, HKi.out _ F1.out, G1.out⟩)
            ((go_at_call 23; refine (HC.out _ HF9.out.drew).mono ?_; rintro e w2 ⟨rfl, f2⟩; have F1 : Hid (Fr (fun _ => False) wr w2) := HF9.out.drew.trans f2 (fun _ h => h.elim); have G1 : Hid (w2.cell? ⟨wa.heap.size, 5, none⟩ = some (.slice (some ⟨bb, bo, none⟩) B.length ic')) := (f2.blk HW9.out (fun h => h)).cell 5))
          have HF2 := hid (HFr.out.trans F1.out (fun _ h => h.elim))
          go_wp2_with fail
          exact ⟨⟨i + 1, by omega, by first | rfl | (congr 1), HF2.out, F1.out.blk HA.out (fun h => h), F1.out.blk HB.out (fun h => h), F1.out.blk HV.out (fun h => h)⟩, by simp [intOf]; omega⟩
        · skip
          have hatY := at_not hrN
          obtain ⟨j, hj, hjr, hatX⟩ := at_mem HAO.out.srt hrA
          have HAt : Hid (∀ W, Env w W → Calls Tryz.prog 39 #[(⟨6, n', f', t', na', B.length, nc', ia', B.length, ic'⟩ : Vv).v, .string ⟨r.1.toArray⟩] W fun e w' => e = .returned (.int .i64 (-1)) ∧ Fr (fun _ => False) W w') := fun W e => by
            have := at_any W ⟨6, n', f', t', na', B.length, nc', ia', B.length, ic'⟩ (nmE B) r.1 (by rw [nmE_len]) ((HBI.out.env e).names) (by rw [nmE_len]; omega)
            rw [hatY] at this
            exact this
          simp only [Vv.v] at HAt
          have HAs : Hid (∀ W, Env w W → Calls Tryz.prog 39 #[(⟨6, n, f, t, na, A.length, nc, ia, A.length, ic⟩ : Vv).v, .string ⟨r.1.toArray⟩] W fun e w' => e = .returned (.int .i64 (j : Int)) ∧ Fr (fun _ => False) W w') := fun W e => by
            have := at_any W ⟨6, n, f, t, na, A.length, nc, ia, A.length, ic⟩ (nmE A) r.1 (by rw [nmE_len]) ((HAI.out.env e).names) (by rw [nmE_len]; omega)
            rw [hatX] at this
            exact this
          simp only [Vv.v] at HAs
          obtain ⟨bb, bo, eb, hbi⟩ := HAI.out.item j hj
          simp only at eb
          subst eb
          rw [hjr] at hbi
          have hbv := HAO.out.vin r (hjr ▸ List.getElem_mem hj)
          have HC : Hid (∀ W, Fr (fun _ => False) wr W → Calls Tryz.prog 23 #[r.2.2.v, z.v] W fun e w' => e = .returned (.bool true) ∧ Fr (fun _ => False) W w') := fun W hf => by
            have := sm_of r.2.1 r.2.1 r.2.2 z W (VIn.env (HEw.out.trans (Env.of hf)) _ _ hbv) (VIn.env ((Env.of HFr.out).trans (Env.of hf)) _ _ e3)
            rw [sam_refl] at this
            exact this
          have HKi : Hid (∀ W', Fr (fun _ => False) wr W' → sixB W' bb (bo + j * 6) r.2.2) := fun W' hf => (hbi.env (HEw.out.trans (Env.of hf))).six
          clear hbi hbv e2 e3
          have hjn : ¬ ((j : Int) < 0) := by omega
          have hjl : (j : Int) < ((A.length : Nat) : Int) := by omega
          go_wp2_with fail
          go_region_held3 (fun W' => six W' (w.heap.size + 1) ⟨6, n', f', t', na', B.length, nc', ia', B.length, ic'⟩ ∧ W'.cell? ⟨w6.heap.size, 4, none⟩ = some (.slice (some ⟨rb, ro, none⟩) RR.length rc) ∧ W'.cell? ⟨rb, ro + i, none⟩ = some (.string ⟨r.1.toArray⟩))
            (first | exact ⟨(HKn.out _ ((Fr.refl (fun _ => False) wr).drew)).2.2.2.2.2, (HKn.out _ ((Fr.refl (fun _ => False) wr).drew)).1, (HKn.out _ ((Fr.refl (fun _ => False) wr).drew)).2.1⟩ | exact ⟨(HKn.out _ FA.out).2.2.2.2.2, (HKn.out _ FA.out).1, (HKn.out _ FA.out).2.1⟩)
            ((go_at_call 39; refine (HAt.out _ (HEw.out.trans (Env.of ((Fr.refl (fun _ => False) wr).drew)))).mono ?_; rintro e wa ⟨rfl, fa⟩; have FA : Hid (Fr (fun _ => False) wr wa) := ((Fr.refl (fun _ => False) wr).drew).trans fa (fun _ h => h.elim)))
          obtain ⟨d0, d1, d2, d3, d4, d5⟩ := (FA.out.blk HB.out (fun h => h)).six
          have HBz := hid (vBlk wa vZ)
          go_wp2_with (refine wpList_storeV ⟨6, n', f', t', na', B.length, nc', ia', B.length, ic'⟩ (by rfl) _ _ (by rfl) HBz.out (by rfl) (by rfl) ?_; intro w7 b8 f8; have HF7 := hid (FA.out.trans (bx_fr f8) (fun _ h => h.elim)); have HW7 := hid b8; clear b8 f8)
          clear d0 d1 d2 d3 d4 d5
          go_region_held3 (fun W' => six W' w.heap.size ⟨6, n, f, t, na, A.length, nc, some ⟨bb, bo, none⟩, A.length, ic⟩ ∧ W'.cell? ⟨w6.heap.size, 4, none⟩ = some (.slice (some ⟨rb, ro, none⟩) RR.length rc) ∧ W'.cell? ⟨rb, ro + i, none⟩ = some (.string ⟨r.1.toArray⟩))
            (first | exact ⟨(HKn.out _ (HF7.out.drew)).2.2.2.2.1, (HKn.out _ (HF7.out.drew)).1, (HKn.out _ (HF7.out.drew)).2.1⟩ | exact ⟨(HKn.out _ FB.out).2.2.2.2.1, (HKn.out _ FB.out).1, (HKn.out _ FB.out).2.1⟩)
            ((go_at_call 39; refine (HAs.out _ (HEw.out.trans (Env.of (HF7.out.drew)))).mono ?_; rintro e wb ⟨rfl, fb⟩; have HWb : Hid (Blk wb wa.heap.size 26 _) := fb.blk HW7.out (fun h => h); have FB : Hid (Fr (fun _ => False) wr wb) := (HF7.out.drew).trans fb (fun _ h => h.elim)))
          obtain ⟨c0, c1, c2, c3, c4, c5⟩ := (FB.out.blk HA.out (fun h => h)).six
          go_wp2_with (refine wpList_storeV ⟨6, n, f, t, na, A.length, nc, some ⟨bb, bo, none⟩, A.length, ic⟩ (by rfl) _ _ (by rfl) HWb.out (by rfl) (by rfl) ?_; intro w9 b8 f8; have HF9 := hid (FB.out.trans f8 (fun i hi => .inr (by have := FA.out.size; omega))); have HW9 := hid b8; clear b8 f8)
          have HS9 := hid (HW9.out.cell 5)
          go_region_held3 (fun W' => (W'.cell? ⟨w6.heap.size, 5, none⟩ = some (.slice (some ⟨vb, vo, none⟩) RR.length vc) ∧ sixB W' vb (vo + i * 6) z) ∧ sixB W' bb (bo + j * 6) r.2.2 ∧ W'.cell? ⟨wa.heap.size, 5, none⟩ = some (.slice (some ⟨bb, bo, none⟩) A.length ic))
            (first | exact ⟨⟨(HKn.out _ HF9.out.drew).2.2.1, (HKn.out _ HF9.out.drew).2.2.2.1⟩, HKi.out _ HF9.out.drew, HS9.out⟩ | exact ⟨⟨(HKn.out _ F1.out).2.2.1, (HKn.out _ F1.out).2.2.2.1⟩, HKi.out _ F1.out, G1.out⟩)
            ((go_at_call 23; refine (HC.out _ HF9.out.drew).mono ?_; rintro e w2 ⟨rfl, f2⟩; have F1 : Hid (Fr (fun _ => False) wr w2) := HF9.out.drew.trans f2 (fun _ h => h.elim); have G1 : Hid (w2.cell? ⟨wa.heap.size, 5, none⟩ = some (.slice (some ⟨bb, bo, none⟩) A.length ic)) := (f2.blk HW9.out (fun h => h)).cell 5))
          have HF2 := hid (HFr.out.trans F1.out (fun _ h => h.elim))
          go_wp2_with fail
          exact ⟨⟨i + 1, by omega, by first | rfl | (congr 1), HF2.out, F1.out.blk HA.out (fun h => h), F1.out.blk HB.out (fun h => h), F1.out.blk HV.out (fun h => h)⟩, by simp [intOf]; omega⟩
      · have hlt' : ¬ ((i : Int) < ((RR.length : Nat) : Int)) := by omega
        go_wp2_with fail
        clear g0 g1 g2 g3 g4 g5
        go_loopw [8, 12] (fun nv iv wx => SuS2 w w6 A B w6.heap.size ⟨6, n, f, t, na, A.length, nc, ia, A.length, ic⟩ ⟨6, n', f', t', na', B.length, nc', ia', B.length, ic'⟩ ⟨6, 0, 0, [], ra, RR.length, rc, va, RR.length, vc⟩ nv iv wx) (fun _ iv _ => A.length - (intOf iv).toNat)
        case atStart => exact ⟨0, Nat.zero_le _, rfl, rfl, HFr.out, HA.out, HB.out, HV.out⟩
        case round =>
          obtain ⟨i2, hi2, rfl, rfl, hF, hA, hB, hV⟩ := hrel
          have HFr2 := hid hF
          have HA2 := hid hA
          have HB2 := hid hB
          have HV2 := hid hV
          have HEw2 := hid ((Env.of HF6.out).trans (Env.of hF))
          clear hF hA hB hV HFr HA HB HV HEw
          obtain ⟨c0, c1, c2, c3, c4, c5⟩ := HA2.out.six
          by_cases hlt2 : i2 < A.length
          · obtain ⟨ab, ao, ea, han⟩ := (HAI.out.env HEw2.out).name i2 hlt2
            simp only at ea
            subst ea
            have hst := newN_take B A i2 hlt2
            have hnb := newN_le B (A.take i2)
            have hnb' : newN B (A.take i2) ≤ 256 := by rw [List.length_take] at hnb; omega
            clear hnb
            generalize hcn : newN B (A.take i2) = cn at *
            clear hcn
            generalize A[i2] = r at *
            have hlt' : (i2 : Int) < ((A.length : Nat) : Int) := by omega
            have HKa : Hid (∀ W', Fr (fun _ => False) wr W' → six W' (w.heap.size + 1) ⟨6, n', f', t', na', B.length, nc', ia', B.length, ic'⟩ ∧ W'.cell? ⟨w.heap.size, 4, none⟩ = some (.slice (some ⟨ab, ao, none⟩) A.length nc) ∧ W'.cell? ⟨ab, ao + i2, none⟩ = some (.string ⟨r.1.toArray⟩)) := fun W' hf => ⟨(hf.blk HB2.out (fun h => h)).six, (Env.of hf).cell c4, (Env.of hf).cell han⟩
            by_cases hk : B.any (fun b => b.1 == r.1) = true
            · skip
              rw [if_pos hk] at hst
              have hq := at_key HBO.out.srt ((any_key _ _).1 hk)
              obtain ⟨q, hatY⟩ : ∃ q, atF (nmE B) r.1 0 = q := ⟨_, rfl⟩
              rw [hatY] at hq
              have hqn : ¬ (q < 0) := by omega
              have HAt : Hid (∀ W, Env w W → Calls Tryz.prog 39 #[(⟨6, n', f', t', na', B.length, nc', ia', B.length, ic'⟩ : Vv).v, .string ⟨r.1.toArray⟩] W fun e w' => e = .returned (.int .i64 q) ∧ Fr (fun _ => False) W w') := fun W e => by
                have := at_any W ⟨6, n', f', t', na', B.length, nc', ia', B.length, ic'⟩ (nmE B) r.1 (by rw [nmE_len]) ((HBI.out.env e).names) (by rw [nmE_len]; omega)
                rw [hatY] at this
                exact this
              simp only [Vv.v] at HAt
              have HSt := hid hst
              clear hst hk hatY hq
              go_wp2_with fail
              go_region_held3 (fun W' => six W' (w.heap.size + 1) ⟨6, n', f', t', na', B.length, nc', ia', B.length, ic'⟩ ∧ W'.cell? ⟨w.heap.size, 4, none⟩ = some (.slice (some ⟨ab, ao, none⟩) A.length nc) ∧ W'.cell? ⟨ab, ao + i2, none⟩ = some (.string ⟨r.1.toArray⟩))
                (first | exact HKa.out _ (Fr.refl (fun _ => False) wr).drew | exact HKa.out _ FA.out)
                ((go_at_call 39; refine (HAt.out _ (HEw2.out.trans (Env.of (Fr.refl (fun _ => False) wr).drew))).mono ?_; rintro e wa ⟨rfl, fa⟩; have FA : Hid (Fr (fun _ => False) wr wa) := ((Fr.refl (fun _ => False) wr).drew).trans fa (fun _ h => h.elim)))
              have HFq := hid (HFr2.out.trans FA.out (fun _ h => h.elim))
              go_wp2_with fail
              exact ⟨⟨i2 + 1, by omega, by first | rfl | (congr 1), by rw [HSt.out]; rfl, HFq.out, FA.out.blk HA2.out (fun h => h), FA.out.blk HB2.out (fun h => h), FA.out.blk HV2.out (fun h => h)⟩, by simp [intOf]; omega⟩
            · skip
              rw [if_neg hk] at hst
              have hatY := at_not (k := r.1) (A := B) (fun h => hk ((any_key _ _).2 h))
              have HAt : Hid (∀ W, Env w W → Calls Tryz.prog 39 #[(⟨6, n', f', t', na', B.length, nc', ia', B.length, ic'⟩ : Vv).v, .string ⟨r.1.toArray⟩] W fun e w' => e = .returned (.int .i64 (-1)) ∧ Fr (fun _ => False) W w') := fun W e => by
                have := at_any W ⟨6, n', f', t', na', B.length, nc', ia', B.length, ic'⟩ (nmE B) r.1 (by rw [nmE_len]) ((HBI.out.env e).names) (by rw [nmE_len]; omega)
                rw [hatY] at this
                exact this
              simp only [Vv.v] at HAt
              have HSt := hid hst
              clear hst hk hatY
              go_wp2_with fail
              go_region_held3 (fun W' => six W' (w.heap.size + 1) ⟨6, n', f', t', na', B.length, nc', ia', B.length, ic'⟩ ∧ W'.cell? ⟨w.heap.size, 4, none⟩ = some (.slice (some ⟨ab, ao, none⟩) A.length nc) ∧ W'.cell? ⟨ab, ao + i2, none⟩ = some (.string ⟨r.1.toArray⟩))
                (first | exact HKa.out _ (Fr.refl (fun _ => False) wr).drew | exact HKa.out _ FA.out)
                ((go_at_call 39; refine (HAt.out _ (HEw2.out.trans (Env.of (Fr.refl (fun _ => False) wr).drew))).mono ?_; rintro e wa ⟨rfl, fa⟩; have FA : Hid (Fr (fun _ => False) wr wa) := ((Fr.refl (fun _ => False) wr).drew).trans fa (fun _ h => h.elim)))
              have HFq := hid (HFr2.out.trans FA.out (fun _ h => h.elim))
              go_wp2_with fail
              exact ⟨⟨i2 + 1, by omega, by first | rfl | (congr 1), by rw [HSt.out]; rfl, HFq.out, FA.out.blk HA2.out (fun h => h), FA.out.blk HB2.out (fun h => h), FA.out.blk HV2.out (fun h => h)⟩, by simp [intOf]; omega⟩
          · obtain rfl : i2 = A.length := by omega
            rw [List.take_length]
            have hlt' : ¬ (((A.length : Nat) : Int) < ((A.length : Nat) : Int)) := by omega
            have HLn := HLen
            generalize newN B A = cn at *
            have hlen : (((RR.length : Nat) : Int) == ((cn : Nat) : Int) + ((B.length : Nat) : Int)) = true := by
              have := HLn.out
              simp only [beq_iff_eq]
              omega
            have hcn : ((cn : Nat) : Int) + ((B.length : Nat) : Int) ≤ 512 := by have := HLn.out; omega
            have HRS2 := hid (HRS.out wr HEw2.out)
            have HFw := hid (HF6.out.trans HFr2.out (fun _ h => h.elim))
            clear HRS HLn HLen HMem HOk
            go_wp2_with fail
            refine HRS2.out.mono ?_
            rintro e ws ⟨fs, ⟨hgt, rfl⟩ | ⟨hle2, sa, sc, sb, sd, rfl, hso, hsv⟩⟩
            · exact absurd hgt (by omega)
            · have hm2 := (set_made HAO.out (HEw2.out.trans (Env.of fs)) hso hsv).1
              have hxu := HVx.out
              have hu := HA5.out
              have HSm : Hid (∀ W, Env ws W → Calls Tryz.prog 23 #[(Vv.mk 6 0 0 [] sa A.length sc sb A.length sd).v, (⟨6, n, f, t, na, A.length, nc, ia, A.length, ic⟩ : Vv).v] W fun e w' => e = .returned (.bool true) ∧ Fr (fun _ => False) W w') := fun W e => by
                have := sm_of (.mk 6 0 0 [] (nmE A) (vtE A)) u _ _ W (VIn.env e _ _ hm2) (VIn.env ((HEw2.out.trans (Env.of fs)).trans e) _ _ hxu)
                rw [← hu, sam_refl] at this
                exact this
              simp only [Vv.v] at HSm
              have HFs := hid (HFw.out.trans fs (fun _ h => h.elim))
              have HAs := hid (fs.blk HA2.out (fun h => h))
              have HBs := hid (fs.blk HB2.out (fun h => h))
              have HVs := hid (fs.blk HV2.out (fun h => h))
              have HBz := hid (vBlk ws vZ)
              clear fs hso hsv hm2 hxu hu HRS2 c0 c1 c2 c3 c4 c5
              go_wp2_with (refine wpList_storeV ⟨6, 0, 0, [], sa, A.length, sc, sb, A.length, sd⟩ (by rfl) _ _ (by rfl) HBz.out (by rfl) (by rfl) ?_; intro wq bq fq; have HFq := hid (bx_fr fq); have HQ := hid bq; clear bq fq; obtain ⟨q0, q1, q2, q3, q4, q5⟩ := HQ.out.six; obtain ⟨c0, c1, c2, c3, c4, c5⟩ := (HFq.out.blk HAs.out (fun h => h)).six; obtain ⟨d0, d1, d2, d3, d4, d5⟩ := (HFq.out.blk HBs.out (fun h => h)).six; obtain ⟨g0, g1, g2, g3, g4, g5⟩ := (HFq.out.blk HVs.out (fun h => h)).six)
              refine (HSm.out _ (Env.of HFq.out)).mono ?_
              rintro e wt ⟨rfl, ft⟩
              have HFt := hid ((HFs.out.trans HFq.out (fun _ h => h.elim)).trans ft (fun _ h => h.elim))
              clear ft
              go_wp2_with fail
              go_ret
              exact ⟨rfl, HFt.out⟩
end Go.Proofs.YtlepjghfcpgbcaaGreatDoor.Tr
