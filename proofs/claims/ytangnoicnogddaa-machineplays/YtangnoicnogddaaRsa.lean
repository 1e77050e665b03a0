/- The contract of the document's start. -/
import Derived.Test.YtangnoicnogddaaRus
import Derived.Deep.CutBlock
import Derived.Deep.DeepCutAuto
namespace Go.Proofs.Ytangnoicnogddaa.Tr
open Go.RowKit

theorem RX.wide {E1 E2 : Nat → Prop} {w : World} {rb : Nat} {s : St} (x : RX E1 w rb s) (h : ∀ k, E1 k → E2 k) (hn : ¬ E2 rb) (hs : ∀ k, E2 k → k < w.heap.size) : RX E2 w rb s := by
  obtain ⟨o, pa, pc, XF, XR, m⟩ := x
  exact ⟨o, pa, pc, XF, XR, m.more h hn hs⟩
section
variable {E : Nat → Prop} {w : World} {rb : Nat} {s : St} {o : Ov} {pa : Option Addr} {pc : Nat} {XF : List Xv} {XR : List Uv}
theorem RI.keepU (h : RI E w rb s o pa pc XF XR) {ub : Nat} {W : World} (f : Fr (fun k => k = ub) w W) (hu : ¬ E ub) (hb : rb ≠ ub) : RI E W rb s o pa pc XF XR :=
  h.keep (fun k hk => f.block k (h.es k hk) (fun e => hu (by have e' : k = ub := e; rw [← e']; exact hk))) (f.block rb h.blk.lt (fun e => hb e)) f.size
theorem standB_some {s : St} {u : Ut} {k : Nat} (h : fi s.r u.n = some k) (hk : k < s.r.length) : standB s.r u = (decide (s.r[k] = u) && u.r.all fun x => (fi s.r x).isSome) := by
  unfold standB; rw [h]; simp [List.getElem?_eq_getElem hk]
theorem standB_none {s : St} {u : Ut} (h : fi s.r u.n = none) : standB s.r u = (decide (s.r.length ≠ 24) && u.r.all fun x => (fi s.r x).isSome) := by
  unfold standB; rw [h]
theorem startF_no {s : St} {n : Nm} {u : Ut} (h : startOk s n u = false) : startF s n u = (s, 70) := by unfold startF; rw [h]; rfl
theorem unit_src {W : World} {j : Nat} {x : Uv} (h : Blk W j 41 x.cs) : [x] ≠ [] → ∃ bb bo, (some (⟨j, 0, none⟩ : Addr)) = some ⟨bb, bo, none⟩ ∧ ∀ q u, (flatU [x])[q]? = some u → W.cell? ⟨bb, bo + q, none⟩ = some u := fun _ => ⟨j, 0, rfl, fun q u hq => by
  rw [Nat.zero_add]
  exact (h.cell q).trans (by simpa [flatU] using hq)⟩
set_option maxRecDepth 100000 in
set_option maxHeartbeats 8000000 in
theorem rstart_any (h : RI E w rb s o pa pc XF XR) (hs : s.ok) (hpl : s.p.length ≤ 140737488351232) (a : Ac) (z : Zv) (hz : AK E w a z) (hl : a.u.r.length + a.u.a.length ≤ 1048576) :
    Calls Try.prog 31 #[.pointer (some ⟨rb, 0, none⟩), z.v] w fun e w' => RPost E w rb (startF s a.n a.u) e w' := by
  have hrl := hs.rl
  have HRI : Hid (∀ W, Fr (fun _ => False) w W → RI E W rb s o pa pc XF XR) := fun W f => h.keep0 f
  have HM : Hid (∀ W, Fr (fun _ => False) w W → Calls Try.prog 17 #[z.y.v] W fun e w' => e = .returned (.bool (mayU a.u)) ∧ Fr (fun _ => False) W w') := fun W f => rmay_any W a.u z.y (hz.u.u.env (Env.of f)) hl
  have HAt : Hid (∀ W, Fr (fun _ => False) w W → ∀ n : Nm, Calls Try.prog 52 #[.pointer (some ⟨rb, 0, none⟩), .string ⟨n.toArray⟩] W fun e w' => e = .returned (.int .i64 (fiI s.r n)) ∧ W = w') := fun W f n => rat_any (h.keep0 f) (by unfold lim; omega) n
  have HT : Hid (∀ W, Fr (fun _ => False) w W → Calls Try.prog 53 #[.pointer (some ⟨rb, 0, none⟩)] W fun e w' => RTry E W rb s e w') := fun W f => rtry_any (h.keep0 f) hpl
  have HSm : Hid (∀ (k : Nat) (hk : k < s.r.length) (x : Uv), UIn w s.r[k] x → ∀ W, Fr (fun _ => False) w W → Calls Try.prog 55 #[x.v, z.y.v] W fun e w' => e = .returned (.bool (decide (s.r[k] = a.u))) ∧ Fr (fun _ => False) W w') := fun k hk x hx W f => usame_any W _ _ x z.y (hx.env (Env.of f)) (hz.u.u.env (Env.of f))
  have HBad : Hid (∀ r, r = (s, 70) → ∀ W, Fr (fun _ => False) w W → RPost E w rb r (.returned (.int .i64 70)) W) := fun r hr W f => by subst hr; exact ⟨rfl, f.upO, _, _, _, _, _, h.grow f⟩
  have HGood : Hid (∀ r, r = (s, 0) → ∀ W, Fr (fun _ => False) w W → RPost E w rb r (.returned (.int .i64 0)) W) := fun r hr W f => by subst hr; exact ⟨rfl, f.upO, _, _, _, _, _, h.grow f⟩
  have HU := hid h.us
  have HZ := hid hz
  have c2 := h.cells.2.2.1
  have HC2 := hid c2
  have hne := hid h.ne
  have hes := hid h.es
  have hrb := h.blk.lt
  obtain ⟨W0, hW0⟩ : ∃ W0, W0 = uBox (zBox w z) z.y := ⟨_, rfl⟩
  have hF0 : Fr (fun _ => False) w W0 := by rw [hW0]; exact ((Fr.refl _ w).alloc _).trans (uFr _ _) (fun _ h => h.elim)
  have hBz : Blk W0 w.heap.size 43 z.cs := by rw [hW0]; exact (Blk.new w _ z.cs).alloc _
  have hBu : Blk W0 (w.heap.size + 1) 41 z.y.cs := by
    rw [hW0]; have := uBlk (zBox w z) z.y; rw [World.size_alloc] at this; exact this
  have HCL : Hid (∀ W, Fr (fun _ => False) W0 W → W.cell? ⟨w.heap.size, 1, none⟩ = some (.string ⟨z.n.toArray⟩) ∧ fourB W (w.heap.size + 1) 0 z.y ∧ W.cell? ⟨rb, 2, none⟩ = some (.slice o.ra s.r.length o.rc)) := fun W f => ⟨(f.blk hBz (fun h => h)).cell 1, (f.blk hBu (fun h => h)).fourU, cell_fr (hF0.trans f (fun _ h => h.elim)) c2⟩
  have b1 := (Blk.new w 43 z.cs).cell 1
  have b5 := (Blk.new w 43 z.cs).cell 5
  have b6 := (Blk.new w 43 z.cs).cell 6
  have b7 := (Blk.new w 43 z.cs).cell 7
  have b8 := (Blk.new w 43 z.cs).cell 8
  have HW := hid hW0
  have HF0 := hid hF0
  have HBu := hid hBu
  have hs0 : W0.heap.size = w.heap.size + 1 + 1 := by rw [hW0, World.size_alloc, World.size_alloc]
  have HS0 := hid hs0
  clear hW0 hF0 hBz hBu hs0 h hz hs c2
  have hzn := HZ.out.n
  have hun := HZ.out.u.u.n
  have hrl' := HZ.out.u.u.rl
  have hal' := HZ.out.u.u.al
  have hus := HZ.out.u.u.s
  obtain ⟨k', n', ⟨xp, xk, xa, xl, xc⟩, ⟨yn, ys, yra, yrl, yrc, yaa, yal, yac⟩⟩ := z
  obtain ⟨ak, n, f, ⟨un, us, ur, ua⟩⟩ := a
  obtain ⟨fa, fl, fc, oua, oul, ouc, ra, rl, rc⟩ := o
  simp only at hzn hun hrl' hal' hus hl
  subst hzn hun hrl' hal' hus
  simp only [Zv.v, Zv.cs, Uv.v, List.getElem?_cons_zero, List.getElem?_cons_succ] at *
  obtain ⟨r, hr⟩ : ∃ r, r = startF s n' ⟨yn, ys, ur, ua⟩ := ⟨_, rfl⟩
  rw [← hr]
  have HR := hid hr
  clear hr
  cases hm : mayU ⟨yn, ys, ur, ua⟩ with
  | false =>
    rw [hm] at HM
    have HRr : Hid (r = (s, 70)) := HR.out.trans (startF_no (by unfold startOk; rw [hm]; simp))
    clear HR hm
    go_enter Try.func31, Try.ntmps31
    go_wp2_with fail
    have hW' : (w.alloc (.cells (Zv.cs ⟨k', n', ⟨xp, xk, xa, xl, xc⟩, ⟨yn, ys, yra, ur.length, yrc, yaa, ua.length, yac⟩⟩).toArray 43)).alloc (.cells (Uv.cs ⟨yn, ys, yra, ur.length, yrc, yaa, ua.length, yac⟩).toArray 41) = W0 := HW.out.symm
    simp only [Zv.cs, Uv.cs] at hW'
    rw [hW']
    clear hW'
    go_wp2_with (go_at_call 17; refine (HM.out _ HF0.out).mono ?_; rintro e w1 ⟨rfl, f1⟩; obtain ⟨d1, ⟨d5, d6, d7, d8⟩, d2⟩ := HCL.out _ f1; have F1 := hid (HF0.out.trans f1 (fun _ h => h.elim)); have G1 := hid f1; clear f1 b1 b5 b6 b7 b8)
    go_ret
    exact HBad.out _ HRr.out _ F1.out
  | true =>
    rw [hm] at HM
    by_cases hn : n' = yn
    case neg =>
      have HRr : Hid (r = (s, 70)) := HR.out.trans (startF_no (by unfold startOk; rw [decide_eq_false hn]; simp))
      have hn' : (!(n' == yn)) = true := by simpa using hn
      clear HR hm hn
      go_enter Try.func31, Try.ntmps31
      go_wp2_with fail
      have hW' : (w.alloc (.cells (Zv.cs ⟨k', n', ⟨xp, xk, xa, xl, xc⟩, ⟨yn, ys, yra, ur.length, yrc, yaa, ua.length, yac⟩⟩).toArray 43)).alloc (.cells (Uv.cs ⟨yn, ys, yra, ur.length, yrc, yaa, ua.length, yac⟩).toArray 41) = W0 := HW.out.symm
      simp only [Zv.cs, Uv.cs] at hW'
      rw [hW']
      clear hW'
      go_wp2_with (go_at_call 17; refine (HM.out _ HF0.out).mono ?_; rintro e w1 ⟨rfl, f1⟩; obtain ⟨d1, ⟨d5, d6, d7, d8⟩, d2⟩ := HCL.out _ f1; have F1 := hid (HF0.out.trans f1 (fun _ h => h.elim)); have G1 := hid f1; clear f1 b1 b5 b6 b7 b8)
      go_ret
      exact HBad.out _ HRr.out _ F1.out
    case pos =>
      subst hn
      have hn' : (!(n' == n')) = false := by simp
      have HOk : Hid (startOk s n' ⟨n', ys, ur, ua⟩ = standB s.r ⟨n', ys, ur, ua⟩) := by unfold Hid startOk; rw [hm]; simp
      clear hm
      cases hf : fi s.r n' with
      | some k =>
        have hk := fi_lt hf
        have HSt := hid (standB_some (u := ⟨n', ys, ur, ua⟩) hf hk)
        have HAtU : Hid (∀ W, Fr (fun _ => False) w W → Calls Try.prog 52 #[.pointer (some ⟨rb, 0, none⟩), .string ⟨n'.toArray⟩] W fun e w' => e = .returned (.int .i64 (k : Int)) ∧ W = w') := fun W f => by have := HAt.out W f n'; rw [fiI_some hf] at this; exact this
        obtain ⟨bb, bo, rfl⟩ := HU.out.some hk
        obtain ⟨x, x1, x2⟩ := HU.out.get k hk
        have hk0 : (0 : Int) ≤ (k : Int) := Int.natCast_nonneg _
        have hk1 : (k : Int) < ((s.r.length : Nat) : Int) := by omega
        have HS := hid (HSm.out k hk x x2)
        have HFx : Hid (∀ W, Fr (fun _ => False) w W → fourB W bb (bo + k * 4) x) := fun W f => (x1.env (Env.of f)).all
        have HFsome : Hid (startF s n' ⟨n', ys, ur, ua⟩ = if startOk s n' ⟨n', ys, ur, ua⟩ then (s, 0) else (s, 70)) := by unfold Hid startF; rw [hf]; rfl
        clear x1 x2 hf HSm
        obtain ⟨xn', xs', xra', xrl', xrc', xaa', xal', xac'⟩ := x
        by_cases he : s.r[k] = ⟨n', ys, ur, ua⟩
        · rw [decide_eq_true he] at HS HSt
          have HSt : Hid (startOk s n' ⟨n', ys, ur, ua⟩ = ur.all fun x => (fi s.r x).isSome) := by unfold Hid; rw [HOk.out, HSt.out]; simp
          clear he
          go_enter Try.func31, Try.ntmps31
          go_wp2_with fail
          have hW' : (w.alloc (.cells (Zv.cs ⟨k', n', ⟨xp, xk, xa, xl, xc⟩, ⟨n', ys, yra, ur.length, yrc, yaa, ua.length, yac⟩⟩).toArray 43)).alloc (.cells (Uv.cs ⟨n', ys, yra, ur.length, yrc, yaa, ua.length, yac⟩).toArray 41) = W0 := HW.out.symm
          simp only [Zv.cs, Uv.cs] at hW'
          rw [hW']
          clear hW'
          go_wp2_with (first | (go_at_call 17; refine (HM.out _ HF0.out).mono ?_; rintro e w1 ⟨rfl, f1⟩; obtain ⟨d1, ⟨d5, d6, d7, d8⟩, d2⟩ := HCL.out _ f1; have F1 := hid (HF0.out.trans f1 (fun _ h => h.elim)); have G1 := hid f1; clear f1 b1 b5 b6 b7 b8) | (go_at_call 52; refine (HAtU.out _ F1.out).mono ?_; rintro e w2 ⟨rfl, rfl⟩))
          go_region_held3 (fun W' => fourB W' bb (bo + k * 4) ⟨xn', xs', xra', xrl', xrc', xaa', xal', xac'⟩ ∧ fourB W' (w.heap.size + 1) 0 ⟨n', ys, yra, ur.length, yrc, yaa, ua.length, yac⟩ ∧ W'.cell? ⟨rb, 2, none⟩ = some (.slice (some ⟨bb, bo, none⟩) s.r.length rc))
            (first | exact ⟨HFx.out _ F1.out.drew, (HCL.out _ G1.out.drew).2⟩ | exact ⟨HFx.out _ F2.out, (HCL.out _ G2.out).2⟩)
            ((go_at_call 55; refine (HS.out _ F1.out.drew).mono ?_; rintro e w3 ⟨rfl, f2⟩; have F2 : Hid (Fr (fun _ => False) w w3) := F1.out.drew.trans f2 (fun _ h => h.elim); have G2 : Hid (Fr (fun _ => False) W0 w3) := G1.out.drew.trans f2 (fun _ h => h.elim); clear f2))
          obtain ⟨d1, ⟨d5, d6, d7, d8⟩, d2⟩ := HCL.out _ G2.out
          go_upto_block 0 with fail
          go_cut [9] (fun _ wx => (ur.all fun x => (fi s.r x).isSome) = true ∧ wx = w3)
          case first =>
            go_wp2_with fail
            go_loopw [9] (fun iv wr => ∃ i : Nat, i ≤ ur.length ∧ iv = .int .i64 (i : Int) ∧ (∀ j (h : j < ur.length), j < i → (fi s.r ur[j]).isSome = true) ∧ w3 = wr) (fun iv _ => ur.length - (intOf iv).toNat)
            case atStart => exact ⟨0, Nat.zero_le _, rfl, fun j _ h => by omega, rfl⟩
            case round =>
              obtain ⟨i, hi, rfl, hno, rfl⟩ := hrel
              have HNo := hid hno
              clear hno
              by_cases hlt : i < ur.length
              · have hi1 : (i : Int) < ((ur.length : Nat) : Int) := by omega
                have hi0 : (0 : Int) ≤ (i : Int) := Int.natCast_nonneg _
                obtain ⟨qb, qo, rfl, q1⟩ := (HZ.out.u.u.r.env (Env.of F2.out)).at i hlt
                simp only at q1
                have HA := hid (HAt.out _ F2.out ur[i])
                cases hfi : fi s.r ur[i] with
                | none =>
                  rw [fiI_none hfi] at HA
                  have HRr : Hid (r = (s, 70)) := HR.out.trans (startF_no (by
                    rw [HSt.out]
                    have : (ur.all fun x => (fi s.r x).isSome) = false := by
                      rw [Bool.eq_false_iff]
                      intro h
                      have := List.all_eq_true.1 h ur[i] (List.getElem_mem _)
                      rw [hfi] at this; cases this
                    simp [this]))
                  clear hfi HR HAt HAtU HNo
                  generalize ur[i] = y at *
                  go_wp2_with (go_at_call 52; refine HA.out.mono ?_; rintro e w4 ⟨rfl, rfl⟩)
                  go_ret
                  exact HBad.out _ HRr.out _ F2.out
                | some m =>
                  rw [fiI_some hfi] at HA
                  have hm0 : ¬ (m : Int) < 0 := by omega
                  have HN2 : Hid (∀ j (h : j < ur.length), j < i + 1 → (fi s.r ur[j]).isSome = true) := fun j h hj => by
                    rcases Nat.lt_or_eq_of_le (Nat.le_of_lt_succ hj) with h1 | h1
                    · exact HNo.out j h h1
                    · subst h1; rw [hfi]; rfl
                  clear hfi HR HAt HAtU HNo
                  generalize ur[i] = y at *
                  go_wp2_with (go_at_call 52; refine HA.out.mono ?_; rintro e w4 ⟨rfl, rfl⟩)
                  exact ⟨⟨i + 1, by omega, by go_num, HN2.out, trivial⟩, by simp [intOf]; omega⟩
              · obtain rfl : i = ur.length := by omega
                have hi1 : ¬ (((ur.length : Nat) : Int) < ((ur.length : Nat) : Int)) := by omega
                have HAll : Hid ((ur.all fun x => (fi s.r x).isSome) = true) := List.all_eq_true.2 (fun x hx => by
                  obtain ⟨j, hj, rfl⟩ := List.getElem_of_mem hx
                  exact HNo.out j hj hj)
                go_wp2
                go_meet
                exact ⟨HAll.out, rfl⟩
          case rest =>
            obtain ⟨hall, hw⟩ := hcut
            obtain rfl : w3 = wc := hw.symm
            clear hw HAt HAtU
            have HRr : Hid (r = (s, 0)) := HR.out.trans (by rw [HFsome.out, HSt.out, hall]; rfl)
            clear hall HR
            go_wp2
            go_ret
            exact HGood.out _ HRr.out _ F2.out
        · rw [decide_eq_false he] at HS HSt
          have HRr : Hid (r = (s, 70)) := HR.out.trans (startF_no (by rw [HOk.out, HSt.out]; simp))
          clear he HR
          go_enter Try.func31, Try.ntmps31
          go_wp2_with fail
          have hW' : (w.alloc (.cells (Zv.cs ⟨k', n', ⟨xp, xk, xa, xl, xc⟩, ⟨n', ys, yra, ur.length, yrc, yaa, ua.length, yac⟩⟩).toArray 43)).alloc (.cells (Uv.cs ⟨n', ys, yra, ur.length, yrc, yaa, ua.length, yac⟩).toArray 41) = W0 := HW.out.symm
          simp only [Zv.cs, Uv.cs] at hW'
          rw [hW']
          clear hW'
          go_wp2_with (first | (go_at_call 17; refine (HM.out _ HF0.out).mono ?_; rintro e w1 ⟨rfl, f1⟩; obtain ⟨d1, ⟨d5, d6, d7, d8⟩, d2⟩ := HCL.out _ f1; have F1 := hid (HF0.out.trans f1 (fun _ h => h.elim)); have G1 := hid f1; clear f1 b1 b5 b6 b7 b8) | (go_at_call 52; refine (HAtU.out _ F1.out).mono ?_; rintro e w2 ⟨rfl, rfl⟩))
          go_region_held3 (fun W' => fourB W' bb (bo + k * 4) ⟨xn', xs', xra', xrl', xrc', xaa', xal', xac'⟩ ∧ fourB W' (w.heap.size + 1) 0 ⟨n', ys, yra, ur.length, yrc, yaa, ua.length, yac⟩ ∧ W'.cell? ⟨rb, 2, none⟩ = some (.slice (some ⟨bb, bo, none⟩) s.r.length rc))
            (first | exact ⟨HFx.out _ F1.out.drew, (HCL.out _ G1.out.drew).2⟩ | exact ⟨HFx.out _ F2.out, (HCL.out _ G2.out).2⟩)
            ((go_at_call 55; refine (HS.out _ F1.out.drew).mono ?_; rintro e w3 ⟨rfl, f2⟩; have F2 : Hid (Fr (fun _ => False) w w3) := F1.out.drew.trans f2 (fun _ h => h.elim); have G2 : Hid (Fr (fun _ => False) W0 w3) := G1.out.drew.trans f2 (fun _ h => h.elim); clear f2))
          go_wp2_with fail
          go_ret
          exact HBad.out _ HRr.out _ F2.out
      | none =>
        have HSt := hid (standB_none (u := ⟨n', ys, ur, ua⟩) hf)
        have HAtU : Hid (∀ W, Fr (fun _ => False) w W → Calls Try.prog 52 #[.pointer (some ⟨rb, 0, none⟩), .string ⟨n'.toArray⟩] W fun e w' => e = .returned (.int .i64 (-1)) ∧ W = w') := fun W f => by have := HAt.out W f n'; rw [fiI_none hf] at this; exact this
        have HFnone : Hid (startF s n' ⟨n', ys, ur, ua⟩ = if startOk s n' ⟨n', ys, ur, ua⟩ then (if s.p.headD false then ({ s with p := s.p.tail }, 71) else ({ s with r := s.r ++ [⟨n', ys, ur, ua⟩], p := s.p.tail }, 0)) else (s, 70)) := by unfold Hid startF; rw [hf]; rfl
        have HSt : Hid (startOk s n' ⟨n', ys, ur, ua⟩ = (decide (s.r.length ≠ 24) && ur.all fun x => (fi s.r x).isSome)) := HOk.out.trans HSt.out
        clear hf HSm
        go_enter Try.func31, Try.ntmps31
        go_wp2_with fail
        have hW' : (w.alloc (.cells (Zv.cs ⟨k', n', ⟨xp, xk, xa, xl, xc⟩, ⟨n', ys, yra, ur.length, yrc, yaa, ua.length, yac⟩⟩).toArray 43)).alloc (.cells (Uv.cs ⟨n', ys, yra, ur.length, yrc, yaa, ua.length, yac⟩).toArray 41) = W0 := HW.out.symm
        simp only [Zv.cs, Uv.cs] at hW'
        rw [hW']
        clear hW'
        go_upto_block 0 with (first | (go_at_call 17; refine (HM.out _ HF0.out).mono ?_; rintro e w1 ⟨rfl, f1⟩; obtain ⟨d1, ⟨d5, d6, d7, d8⟩, d2⟩ := HCL.out _ f1; have F1 := hid (HF0.out.trans f1 (fun _ h => h.elim)); have G1 := hid f1; clear f1 b1 b5 b6 b7 b8) | (go_at_call 52; refine (HAtU.out _ F1.out).mono ?_; rintro e w2 ⟨rfl, rfl⟩))
        go_cut [9] (fun _ wx => (ur.all fun x => (fi s.r x).isSome) = true ∧ wx = w1)
        case first =>
          go_wp2_with fail
          go_loopw [9] (fun iv wr => ∃ i : Nat, i ≤ ur.length ∧ iv = .int .i64 (i : Int) ∧ (∀ j (h : j < ur.length), j < i → (fi s.r ur[j]).isSome = true) ∧ w1 = wr) (fun iv _ => ur.length - (intOf iv).toNat)
          case atStart => exact ⟨0, Nat.zero_le _, rfl, fun j _ h => by omega, rfl⟩
          case round =>
            obtain ⟨i, hi, rfl, hno, rfl⟩ := hrel
            have HNo := hid hno
            clear hno
            by_cases hlt : i < ur.length
            · have hi1 : (i : Int) < ((ur.length : Nat) : Int) := by omega
              have hi0 : (0 : Int) ≤ (i : Int) := Int.natCast_nonneg _
              obtain ⟨qb, qo, rfl, q1⟩ := (HZ.out.u.u.r.env (Env.of F1.out)).at i hlt
              simp only at q1
              have HA := hid (HAt.out _ F1.out ur[i])
              cases hfi : fi s.r ur[i] with
              | none =>
                rw [fiI_none hfi] at HA
                have HRr : Hid (r = (s, 70)) := HR.out.trans (startF_no (by
                  rw [HSt.out]
                  have : (ur.all fun x => (fi s.r x).isSome) = false := by
                    rw [Bool.eq_false_iff]
                    intro h
                    have := List.all_eq_true.1 h ur[i] (List.getElem_mem _)
                    rw [hfi] at this; cases this
                  simp [this]))
                clear hfi HR HAt HAtU HNo
                generalize ur[i] = y at *
                go_wp2_with (go_at_call 52; refine HA.out.mono ?_; rintro e w4 ⟨rfl, rfl⟩)
                go_ret
                exact HBad.out _ HRr.out _ F1.out
              | some m =>
                rw [fiI_some hfi] at HA
                have hm0 : ¬ (m : Int) < 0 := by omega
                have HN2 : Hid (∀ j (h : j < ur.length), j < i + 1 → (fi s.r ur[j]).isSome = true) := fun j h hj => by
                  rcases Nat.lt_or_eq_of_le (Nat.le_of_lt_succ hj) with h1 | h1
                  · exact HNo.out j h h1
                  · subst h1; rw [hfi]; rfl
                clear hfi HR HAt HAtU HNo
                generalize ur[i] = y at *
                go_wp2_with (go_at_call 52; refine HA.out.mono ?_; rintro e w4 ⟨rfl, rfl⟩)
                exact ⟨⟨i + 1, by omega, by go_num, HN2.out, trivial⟩, by simp [intOf]; omega⟩
            · obtain rfl : i = ur.length := by omega
              have hi1 : ¬ (((ur.length : Nat) : Int) < ((ur.length : Nat) : Int)) := by omega
              have HAll : Hid ((ur.all fun x => (fi s.r x).isSome) = true) := List.all_eq_true.2 (fun x hx => by
                obtain ⟨j, hj, rfl⟩ := List.getElem_of_mem hx
                exact HNo.out j hj hj)
              go_wp2
              go_meet
              exact ⟨HAll.out, rfl⟩
        case rest =>
          obtain ⟨hall, hw⟩ := hcut
          obtain rfl : w1 = wc := hw.symm
          clear hw HAt HAtU
          by_cases h24 : s.r.length = 24
          · have hz : (((s.r.length : Nat) : Int) == 24) = true := by simp; omega
            have HRr : Hid (r = (s, 70)) := HR.out.trans (startF_no (by rw [HSt.out, h24]; simp))
            clear hall HR h24
            go_wp2
            go_ret
            exact HBad.out _ HRr.out _ F1.out
          · have hz : (((s.r.length : Nat) : Int) == 24) = false := by simp; omega
            have HR2 : Hid (r = if s.p.headD false then ({ s with p := s.p.tail }, 71) else ({ s with r := s.r ++ [⟨n', ys, ur, ua⟩], p := s.p.tail }, 0)) := HR.out.trans (by rw [HFnone.out, HSt.out, hall]; simp [h24])
            have HTr := hid (HT.out _ F1.out)
            simp only [RTry] at HTr
            clear hall HR h24
            have HFW : Hid (∀ W, Fr (fun k => k = rb) w1 W → Fr (fun k => k = rb) w W) := fun W f => F1.out.upO.trans f (fun _ h => .inl h)
            cases hb : s.p.headD false with
            | true =>
              rw [hb] at HTr HR2
              have HEx : Hid (∀ W, Fr (fun k => k = rb) w1 W → RX (fun k => E k ∨ Bt w1.heap.size W.heap.size k) W rb { s with p := s.p.tail } → RPost E w rb r (.returned (.int .i64 71)) W) := fun W f x => by
                rw [HR2.out, if_pos rfl]
                refine ⟨rfl, HFW.out _ f, x.wide (fun k hk => hk.imp id (fun hk => ⟨Nat.le_trans F1.out.size hk.1, hk.2⟩)) (fun h => h.elim hne.out (fun h => by have := h.1; omega)) (fun k hk => hk.elim (fun hk => ?_) (fun hk => hk.2))⟩
                have := hes.out k hk; have := F1.out.size; have := f.size; omega
              clear hb HR2
              go_wp2_with (go_at_call 53; refine HTr.out.mono ?_; rintro e w4 ⟨rfl, f4, x4⟩; have X4 := hid (HEx.out _ f4 x4); clear f4 x4)
              go_ret
              exact X4.out
            | false =>
              rw [hb] at HTr HR2
              have HR3 : Hid (r = ({ s with r := s.r ++ [⟨n', ys, ur, ua⟩], p := s.p.tail }, 0)) := HR2.out.trans (by rw [if_neg (by simp)])
              clear hb HR2
              have hub : w.heap.size + 1 ≠ rb := by omega
              have HUr : Hid (∀ W, Fr (fun k => k = rb) w W → Strs W yra ur) := fun W f => HZ.out.u.u.r.on HZ.out.u.r (fun k hk => f.block k (hes.out k hk) (fun e => hne.out (by have e' : k = rb := e; rw [← e']; exact hk)))
              have HUa : Hid (∀ W, Fr (fun k => k = rb) w W → Strs W yaa ua) := fun W f => HZ.out.u.u.a.on HZ.out.u.a (fun k hk => f.block k (hes.out k hk) (fun e => hne.out (by have e' : k = rb := e; rw [← e']; exact hk)))
              have HL2 := hid HZ.out.u.u.ok.r
              have HL3 := hid HZ.out.u.u.ok.a
              have HOK := hid HZ.out.u.u.ok
              have HBuV := hid (G1.out.blk HBu.out (fun h => h))
              go_wp2_with (first
                | (go_at_call 53; refine HTr.out.mono ?_; rintro e w4 ⟨rfl, f4, x4⟩; have F4 := hid f4; have X4 := hid x4; have hB4 := f4.blk HBuV.out (fun e => hub e); have HB4 := hid hB4; have hszV : w.heap.size + 2 ≤ w4.heap.size := (by have := f4.size; have := G1.out.size; have := HS0.out; omega); have k2 := (hB4.alloc (.cells #[] 9)).cell 2; simp only [Uv.cs, List.getElem?_cons_zero, List.getElem?_cons_succ] at k2; have HE2 := hid (own_empty w4 9 1); have hFw4 := HFW.out _ f4; have HS2 := hid (HUr.out _ (hFw4.alloc (.cells #[] 9))); have HFw4 := hid hFw4; clear f4 x4 hB4 hFw4)
                | (at_builtin; refine Hid.out ?_))
              clear HCL HM HZ HOk HFnone HSt HU HC2 HBuV HTr HW
              refine wpList_app_S (by rfl) _ _ (by rfl) w4.heap.size _ [] ur yra yrc (by rfl) (by rfl) HE2.out HS2.out (by rw [World.size_alloc]; omega) (by have := HL2.out; simpa using this) ?_
              intro v5 W5 o5 g5 _
              simp only [List.nil_append] at o5
              obtain ⟨a2, c2, rfl⟩ := own_len o5
              have FN5 : Fr (fun _ => False) w4 W5 := ((Fr.refl _ w4).alloc _).grown g5 (fun k hk => .inr (by have := obk hk; omega))
              have hB5 := FN5.blk HB4.out (fun h => h)
              have q2 := hB5.cell 2
              have z2 := hB5.frozen 2
              simp only [Uv.cs, List.getElem?_cons_zero, List.getElem?_cons_succ] at q2
              have hD5 : Blk (W5.setCell ⟨w.heap.size + 1, 2, none⟩ (.slice a2 ur.length c2)) (w.heap.size + 1) 41 (Uv.cs ⟨n', ys, a2, ur.length, c2, yaa, ua.length, yac⟩) := hB5.setCell 2 _
              have HD5 := hid hD5
              have HU5 : Hid (Fr (fun k => k = w.heap.size + 1) w4 (W5.setCell ⟨w.heap.size + 1, 2, none⟩ (.slice a2 ur.length c2))) := (FN5.upO : Fr (fun k => k = w.heap.size + 1) w4 W5).setCell (p := ⟨w.heap.size + 1, 2, none⟩) (.inl rfl) _
              have HW5 : Hid (Fr (fun k => k = rb) w (W5.setCell ⟨w.heap.size + 1, 2, none⟩ (.slice a2 ur.length c2))) := (HFw4.out.trans (FN5.upO : Fr (fun k => k = rb) w4 W5) (fun _ h => .inl h)).setCell (p := ⟨w.heap.size + 1, 2, none⟩) (.inr (by show w.heap.size ≤ w.heap.size + 1; omega)) _
              have hsc5 : ∀ k, k ≠ w.heap.size + 1 → (W5.setCell ⟨w.heap.size + 1, 2, none⟩ (.slice a2 ur.length c2)).heap[k]? = W5.heap[k]? := fun k hk => Below.heap_setCell _ _ _ k hk
              have HO5 : Hid ((W5.setCell ⟨w.heap.size + 1, 2, none⟩ (.slice a2 ur.length c2)).ownsRow w4.heap.size 9 1 (.slice a2 ur.length c2) ur.length (strC ur)) := owns_of_eq o5 (fun k hk => hsc5 k (by have := (own_lt o5 k hk).1; omega))
              have hsz5 : (W5.setCell ⟨w.heap.size + 1, 2, none⟩ (.slice a2 ur.length c2)).heap.size = W5.heap.size := by simp [World.setCell]
              have e3 := own_empty (W5.setCell ⟨w.heap.size + 1, 2, none⟩ (.slice a2 ur.length c2)) 9 1
              rw [hsz5] at e3
              have HE3 := hid e3
              have HS3 := hid (HUa.out _ (HW5.out.alloc (.cells #[] 9)))
              have HZ5 := hid hsz5
              have HF5s := hid FN5.size
              have k3 := (hD5.alloc (.cells #[] 9)).cell 3
              simp only [Uv.cs, List.getElem?_cons_zero, List.getElem?_cons_succ] at k3
              clear o5 g5 hB5 e3 hsz5 hD5 FN5 hsc5 HE2 HS2 HB4 k2 HUr HUa
              go_wp2_with (at_builtin; refine Hid.out ?_)
              refine wpList_app_S (by rfl) _ _ (by rfl) W5.heap.size _ [] ua yaa yac (by rfl) (by rfl) HE3.out HS3.out (by rw [World.size_alloc, HZ5.out]; omega) (by have := HL3.out; simpa using this) ?_
              intro v6 W6 o6 g6 _
              simp only [List.nil_append] at o6
              obtain ⟨a3, c3, rfl⟩ := own_len o6
              have FN6 : Fr (fun _ => False) (W5.setCell ⟨w.heap.size + 1, 2, none⟩ (.slice a2 ur.length c2)) W6 := ((Fr.refl _ _).alloc _).grown g6 (fun k hk => .inr (by have := obk hk; have := HZ5.out; omega))
              have hB6 := FN6.blk HD5.out (fun h => h)
              have q3 := hB6.cell 3
              have z3 := hB6.frozen 3
              simp only [Uv.cs, List.getElem?_cons_zero, List.getElem?_cons_succ] at q3
              have HD6 : Hid (Blk (W6.setCell ⟨w.heap.size + 1, 3, none⟩ (.slice a3 ua.length c3)) (w.heap.size + 1) 41 (Uv.cs ⟨n', ys, a2, ur.length, c2, a3, ua.length, c3⟩)) := hB6.setCell 3 _
              have HU6 : Hid (Fr (fun k => k = w.heap.size + 1) w4 (W6.setCell ⟨w.heap.size + 1, 3, none⟩ (.slice a3 ua.length c3))) := (HU5.out.trans (FN6.upO : Fr (fun k => k = w.heap.size + 1) _ W6) (fun _ h => .inl h)).setCell (p := ⟨w.heap.size + 1, 3, none⟩) (.inl rfl) _
              have HW6 : Hid (Fr (fun k => k = rb) w (W6.setCell ⟨w.heap.size + 1, 3, none⟩ (.slice a3 ua.length c3))) := (HW5.out.trans (FN6.upO : Fr (fun k => k = rb) _ W6) (fun _ h => .inl h)).setCell (p := ⟨w.heap.size + 1, 3, none⟩) (.inr (by show w.heap.size ≤ w.heap.size + 1; omega)) _
              have hsc6 : ∀ k, k ≠ w.heap.size + 1 → (W6.setCell ⟨w.heap.size + 1, 3, none⟩ (.slice a3 ua.length c3)).heap[k]? = W6.heap[k]? := fun k hk => Below.heap_setCell _ _ _ k hk
              have HO56 : Hid ((W6.setCell ⟨w.heap.size + 1, 3, none⟩ (.slice a3 ua.length c3)).ownsRow w4.heap.size 9 1 (.slice a2 ur.length c2) ur.length (strC ur)) := owns_of_eq (own_fr0 HO5.out FN6) (fun k hk => hsc6 k (by have := (own_lt HO5.out k hk).1; omega))
              have HO6 : Hid ((W6.setCell ⟨w.heap.size + 1, 3, none⟩ (.slice a3 ua.length c3)).ownsRow W5.heap.size 9 1 (.slice a3 ua.length c3) ua.length (strC ua)) := owns_of_eq o6 (fun k hk => hsc6 k (by have := (own_lt o6 k hk).1; have := HF5s.out; omega))
              clear o6 g6 hB6 FN6 hsc6 HE3 HS3 HD5 k3 HO5 HU5 HW5 HZ5 q2 z2
              go_wp2_with fail
              clear q3 z3 d1 d2 d5 d6 d7 d8 HL2 HL3 HBad HGood HFW
              generalize W6.setCell ⟨w.heap.size + 1, 3, none⟩ (.slice a3 ua.length c3) = V at *
              obtain ⟨⟨gfa, gfl, gfc, gua, gul, guc, gra, grl, grc⟩, pa4, pc4, XF4, XR4, m4⟩ := X4.out
              have hwV : w4.heap.size ≤ V.heap.size := HU6.out.size
              have hw1 : w.heap.size + 2 ≤ w1.heap.size := by have := G1.out.size; have := HS0.out; omega
              have hw14 : w1.heap.size ≤ w4.heap.size := F4.out.size
              have m6 := m4.keepU HU6.out (fun h => h.elim (fun h => by have := hes.out _ h; omega) (fun h => by have := h.1; omega)) hub.symm
              have m7 := m6.more (E' := fun k => (E k ∨ Bt w1.heap.size w4.heap.size k) ∨ Bt w4.heap.size V.heap.size k) (fun _ => .inl) (fun h => h.elim (fun h => h.elim hne.out (fun h => by have := h.1; omega)) (fun h => by have := h.1; omega)) (fun k hk => hk.elim (fun h => h.elim (fun h => by have := hes.out _ h; omega) (fun h => by have := h.2; omega)) (fun h => h.2))
              have hrl4 : XR4.length = s.r.length := m7.rl
              have c2V := m7.cells.2.2.1
              simp only at c2V
              have UKy : UK (fun k => (E k ∨ Bt w1.heap.size w4.heap.size k) ∨ Bt w4.heap.size V.heap.size k) V ⟨n', ys, ur, ua⟩ ⟨n', ys, a2, ur.length, c2, a3, ua.length, c3⟩ := ⟨⟨rfl, rfl, rfl, rfl, strs_own HO56.out, strs_own HO6.out, HOK.out⟩, (dn_own HO56.out (Nat.le_refl _)).mono (fun _ => .inr), (dn_own HO6.out HF5s.out).mono (fun _ => .inr)⟩
              have HEnd := hid (fun (W : World) (f : Fr (fun _ => False) V W) (a : Option Addr) (n c : Nat) (ow : W.ownsRow V.heap.size 41 4 (.slice a n c) (XR4 ++ [(⟨n', ys, a2, ur.length, c2, a3, ua.length, c3⟩ : Uv)]).length (flatU (XR4 ++ [(⟨n', ys, a2, ur.length, c2, a3, ua.length, c3⟩ : Uv)]))) =>
                m7.endR f (r' := s.r ++ [⟨n', ys, ur, ua⟩]) ow (Nat.le_refl _) (by rw [List.length_append, List.length_append, hrl4]; rfl) (fun i h1 h2 => ((pair_snoc (UK _ V) s.r XR4 m7.rl _ _ UKy m7.re i h1 h2).on (m7.on f)).mono (fun _ => .inl)))
              simp only at HEnd
              have HSrc : Hid (∀ W, Fr (fun _ => False) V W → XR4 ≠ [] → ∃ bb bo, gra = some ⟨bb, bo, none⟩ ∧ ∀ q u, (flatU XR4)[q]? = some u → W.cell? ⟨bb, bo + q, none⟩ = some u) := fun W f hx => by
                obtain ⟨bb, bo, e, _, hc⟩ := m7.r (fun e => hx (List.eq_nil_of_length_eq_zero (by have := flatU_len XR4; rw [e] at this; simp at this; omega)))
                exact ⟨bb, bo, e, fun q u hq => cell_fr f (hc q u hq)⟩
              have hBV := HD6.out
              have HCU : Hid (∀ W, Fr (fun _ => False) V W → W.cell? ⟨w.heap.size + 1, 0, none⟩ = some (.string ⟨n'.toArray⟩) ∧ W.cell? ⟨w.heap.size + 1, 1, none⟩ = some (.string ⟨ys.toArray⟩) ∧ W.cell? ⟨w.heap.size + 1, 2, none⟩ = some (.slice a2 ur.length c2) ∧ W.cell? ⟨w.heap.size + 1, 3, none⟩ = some (.slice a3 ua.length c3) ∧ W.cell? ⟨rb, 2, none⟩ = some (.slice gra s.r.length grc)) := fun W f => by
                have hB := f.blk hBV (fun h => h)
                exact ⟨hB.cell 0, hB.cell 1, hB.cell 2, hB.cell 3, cell_fr f c2V⟩
              have HFA : Hid (Fr (fun _ => False) V (V.alloc (.cells #[] 41)).drew) := ((Fr.refl _ V).alloc _).drew
              have HFB : Hid (Fr (fun _ => False) V ((V.alloc (.cells #[] 41)).alloc (.cells #[.string ⟨n'.toArray⟩, .string ⟨ys.toArray⟩, .slice a2 ur.length c2, .slice a3 ua.length c3] 41)).drew) := (((Fr.refl _ V).alloc _).alloc _).drew
              have HFC : Hid (Fr (fun _ => False) V ((V.alloc (.cells #[.string ⟨n'.toArray⟩, .string ⟨ys.toArray⟩, .slice a2 ur.length c2, .slice a3 ua.length c3] 41)).alloc (.cells #[] 41)).drew) := (((Fr.refl _ V).alloc _).alloc _).drew
              have HOA : Hid ((V.alloc (.cells #[] 41)).drew.ownsRow V.heap.size 41 4 (.slice (some ⟨V.heap.size, 0, none⟩) 0 0) ([] : List Uv).length (flatU [])) := own_empty V _ _
              have HOB : Hid (((V.alloc (.cells #[] 41)).alloc (.cells #[.string ⟨n'.toArray⟩, .string ⟨ys.toArray⟩, .slice a2 ur.length c2, .slice a3 ua.length c3] 41)).drew.ownsRow V.heap.size 41 4 (.slice (some ⟨V.heap.size, 0, none⟩) 0 0) ([] : List Uv).length (flatU [])) := own_fr0 (own_empty V _ _) ((Fr.refl _ _).alloc _).drew
              have HOC : Hid (((V.alloc (.cells #[.string ⟨n'.toArray⟩, .string ⟨ys.toArray⟩, .slice a2 ur.length c2, .slice a3 ua.length c3] 41)).alloc (.cells #[] 41)).drew.ownsRow V.heap.size 41 4 (.slice (some ⟨V.heap.size + 1, 0, none⟩) 0 0) ([] : List Uv).length (flatU [])) := by
                have := own_empty (V.alloc (.cells #[.string ⟨n'.toArray⟩, .string ⟨ys.toArray⟩, .slice a2 ur.length c2, .slice a3 ua.length c3] 41)) 41 4
                rw [World.size_alloc] at this
                exact own_down this (fun b hb => by have := obk hb; omega)
              have HNB : Hid (Blk ((V.alloc (.cells #[] 41)).alloc (.cells #[.string ⟨n'.toArray⟩, .string ⟨ys.toArray⟩, .slice a2 ur.length c2, .slice a3 ua.length c3] 41)).drew (V.heap.size + 1) 41 (Uv.cs ⟨n', ys, a2, ur.length, c2, a3, ua.length, c3⟩)) := by
                have := Blk.new (V.alloc (.cells #[] 41)) 41 (Uv.cs ⟨n', ys, a2, ur.length, c2, a3, ua.length, c3⟩)
                rw [World.size_alloc] at this
                exact this
              have HNC : Hid (Blk ((V.alloc (.cells #[.string ⟨n'.toArray⟩, .string ⟨ys.toArray⟩, .slice a2 ur.length c2, .slice a3 ua.length c3] 41)).alloc (.cells #[] 41)).drew V.heap.size 41 (Uv.cs ⟨n', ys, a2, ur.length, c2, a3, ua.length, c3⟩)) := (((Fr.refl (fun _ => False) _).alloc _).drew).blk (Blk.new V 41 (Uv.cs ⟨n', ys, a2, ur.length, c2, a3, ua.length, c3⟩)) (fun h => h)
              have HNW : Hid (∀ W1 : World, Blk (W1.alloc (.cells #[.string ⟨n'.toArray⟩, .string ⟨ys.toArray⟩, .slice a2 ur.length c2, .slice a3 ua.length c3] 41)) W1.heap.size 41 (Uv.cs ⟨n', ys, a2, ur.length, c2, a3, ua.length, c3⟩)) := fun W1 => Blk.new W1 41 (Uv.cs ⟨n', ys, a2, ur.length, c2, a3, ua.length, c3⟩)
              have hszb : rb < V.heap.size := by omega
              clear m4 m6 m7 UKy hBV HD6 HO56 HO6 HOK c2V HU6
              have eas : (V.drew).cell? ⟨w.heap.size + 1, 0, none⟩ = some (.string ⟨n'.toArray⟩) := (HCU.out _ ((Fr.refl (fun _ => False) V).drew)).1
              have eat : (V.drew).cell? ⟨w.heap.size + 1, 1, none⟩ = some (.string ⟨ys.toArray⟩) := (HCU.out _ ((Fr.refl (fun _ => False) V).drew)).2.1
              have eau : (V.drew).cell? ⟨w.heap.size + 1, 2, none⟩ = some (.slice a2 ur.length c2) := (HCU.out _ ((Fr.refl (fun _ => False) V).drew)).2.2.1
              have eav : (V.drew).cell? ⟨w.heap.size + 1, 3, none⟩ = some (.slice a3 ua.length c3) := (HCU.out _ ((Fr.refl (fun _ => False) V).drew)).2.2.2.1
              have eax : (V.drew).cell? ⟨rb, 2, none⟩ = some (.slice gra s.r.length grc) := (HCU.out _ ((Fr.refl (fun _ => False) V).drew)).2.2.2.2
              have ebs : ∀ ob, (V.alloc ob).cell? ⟨w.heap.size + 1, 0, none⟩ = some (.string ⟨n'.toArray⟩) := fun ob => (HCU.out _ ((Fr.refl (fun _ => False) V).alloc ob)).1
              have ebt : ∀ ob, (V.alloc ob).cell? ⟨w.heap.size + 1, 1, none⟩ = some (.string ⟨ys.toArray⟩) := fun ob => (HCU.out _ ((Fr.refl (fun _ => False) V).alloc ob)).2.1
              have ebu : ∀ ob, (V.alloc ob).cell? ⟨w.heap.size + 1, 2, none⟩ = some (.slice a2 ur.length c2) := fun ob => (HCU.out _ ((Fr.refl (fun _ => False) V).alloc ob)).2.2.1
              have ebv : ∀ ob, (V.alloc ob).cell? ⟨w.heap.size + 1, 3, none⟩ = some (.slice a3 ua.length c3) := fun ob => (HCU.out _ ((Fr.refl (fun _ => False) V).alloc ob)).2.2.2.1
              have ebx : ∀ ob, (V.alloc ob).cell? ⟨rb, 2, none⟩ = some (.slice gra s.r.length grc) := fun ob => (HCU.out _ ((Fr.refl (fun _ => False) V).alloc ob)).2.2.2.2
              have ecs : ∀ ob, ((V.alloc ob).drew).cell? ⟨w.heap.size + 1, 0, none⟩ = some (.string ⟨n'.toArray⟩) := fun ob => (HCU.out _ (((Fr.refl (fun _ => False) V).alloc ob).drew)).1
              have ect : ∀ ob, ((V.alloc ob).drew).cell? ⟨w.heap.size + 1, 1, none⟩ = some (.string ⟨ys.toArray⟩) := fun ob => (HCU.out _ (((Fr.refl (fun _ => False) V).alloc ob).drew)).2.1
              have ecu : ∀ ob, ((V.alloc ob).drew).cell? ⟨w.heap.size + 1, 2, none⟩ = some (.slice a2 ur.length c2) := fun ob => (HCU.out _ (((Fr.refl (fun _ => False) V).alloc ob).drew)).2.2.1
              have ecv : ∀ ob, ((V.alloc ob).drew).cell? ⟨w.heap.size + 1, 3, none⟩ = some (.slice a3 ua.length c3) := fun ob => (HCU.out _ (((Fr.refl (fun _ => False) V).alloc ob).drew)).2.2.2.1
              have ecx : ∀ ob, ((V.alloc ob).drew).cell? ⟨rb, 2, none⟩ = some (.slice gra s.r.length grc) := fun ob => (HCU.out _ (((Fr.refl (fun _ => False) V).alloc ob).drew)).2.2.2.2
              have eds : ∀ ob ob', ((V.alloc ob).alloc ob').cell? ⟨w.heap.size + 1, 0, none⟩ = some (.string ⟨n'.toArray⟩) := fun ob ob' => (HCU.out _ (((Fr.refl (fun _ => False) V).alloc ob).alloc ob')).1
              have edt : ∀ ob ob', ((V.alloc ob).alloc ob').cell? ⟨w.heap.size + 1, 1, none⟩ = some (.string ⟨ys.toArray⟩) := fun ob ob' => (HCU.out _ (((Fr.refl (fun _ => False) V).alloc ob).alloc ob')).2.1
              have edu : ∀ ob ob', ((V.alloc ob).alloc ob').cell? ⟨w.heap.size + 1, 2, none⟩ = some (.slice a2 ur.length c2) := fun ob ob' => (HCU.out _ (((Fr.refl (fun _ => False) V).alloc ob).alloc ob')).2.2.1
              have edv : ∀ ob ob', ((V.alloc ob).alloc ob').cell? ⟨w.heap.size + 1, 3, none⟩ = some (.slice a3 ua.length c3) := fun ob ob' => (HCU.out _ (((Fr.refl (fun _ => False) V).alloc ob).alloc ob')).2.2.2.1
              have edx : ∀ ob ob', ((V.alloc ob).alloc ob').cell? ⟨rb, 2, none⟩ = some (.slice gra s.r.length grc) := fun ob ob' => (HCU.out _ (((Fr.refl (fun _ => False) V).alloc ob).alloc ob')).2.2.2.2
              have ees : ∀ ob ob', (((V.alloc ob).alloc ob').drew).cell? ⟨w.heap.size + 1, 0, none⟩ = some (.string ⟨n'.toArray⟩) := fun ob ob' => (HCU.out _ ((((Fr.refl (fun _ => False) V).alloc ob).alloc ob').drew)).1
              have eet : ∀ ob ob', (((V.alloc ob).alloc ob').drew).cell? ⟨w.heap.size + 1, 1, none⟩ = some (.string ⟨ys.toArray⟩) := fun ob ob' => (HCU.out _ ((((Fr.refl (fun _ => False) V).alloc ob).alloc ob').drew)).2.1
              have eeu : ∀ ob ob', (((V.alloc ob).alloc ob').drew).cell? ⟨w.heap.size + 1, 2, none⟩ = some (.slice a2 ur.length c2) := fun ob ob' => (HCU.out _ ((((Fr.refl (fun _ => False) V).alloc ob).alloc ob').drew)).2.2.1
              have eev : ∀ ob ob', (((V.alloc ob).alloc ob').drew).cell? ⟨w.heap.size + 1, 3, none⟩ = some (.slice a3 ua.length c3) := fun ob ob' => (HCU.out _ ((((Fr.refl (fun _ => False) V).alloc ob).alloc ob').drew)).2.2.2.1
              have eex : ∀ ob ob', (((V.alloc ob).alloc ob').drew).cell? ⟨rb, 2, none⟩ = some (.slice gra s.r.length grc) := fun ob ob' => (HCU.out _ ((((Fr.refl (fun _ => False) V).alloc ob).alloc ob').drew)).2.2.2.2
              go_region_law
                ((first
                  | (refine step_app_U (by rfl) (.tmp 80) (.tmp 85) (by rfl) V.heap.size (.slice (some ⟨V.heap.size, 0, none⟩) 0 0) [] XR4 gra grc (by rfl) (by rw [hrl4]; rfl) HOA.out (HSrc.out _ HFA.out) HFA.out.size (by rw [hrl4]; simp; omega) ?_; intro v1 W1 o1 g1 b1; rw [List.nil_append] at o1; obtain ⟨a1, q1, hv1⟩ := own_len o1; obtain ⟨n1, hn1⟩ : ∃ n1, n1 = XR4.length := ⟨_, rfl⟩; rw [← hn1] at hv1; subst hv1; have O1 := hid o1; have G1x := hid (HFA.out.grown g1 (fun k hk => .inr (by have := obk hk; omega))); have efs : (W1).cell? ⟨w.heap.size + 1, 0, none⟩ = some (.string ⟨n'.toArray⟩) := (HCU.out _ (G1x.out)).1; have eft : (W1).cell? ⟨w.heap.size + 1, 1, none⟩ = some (.string ⟨ys.toArray⟩) := (HCU.out _ (G1x.out)).2.1; have efu : (W1).cell? ⟨w.heap.size + 1, 2, none⟩ = some (.slice a2 ur.length c2) := (HCU.out _ (G1x.out)).2.2.1; have efv : (W1).cell? ⟨w.heap.size + 1, 3, none⟩ = some (.slice a3 ua.length c3) := (HCU.out _ (G1x.out)).2.2.2.1; have efx : (W1).cell? ⟨rb, 2, none⟩ = some (.slice gra s.r.length grc) := (HCU.out _ (G1x.out)).2.2.2.2; have egs : ∀ ob, (W1.alloc ob).cell? ⟨w.heap.size + 1, 0, none⟩ = some (.string ⟨n'.toArray⟩) := fun ob => (HCU.out _ (G1x.out.alloc ob)).1; have egt : ∀ ob, (W1.alloc ob).cell? ⟨w.heap.size + 1, 1, none⟩ = some (.string ⟨ys.toArray⟩) := fun ob => (HCU.out _ (G1x.out.alloc ob)).2.1; have egu : ∀ ob, (W1.alloc ob).cell? ⟨w.heap.size + 1, 2, none⟩ = some (.slice a2 ur.length c2) := fun ob => (HCU.out _ (G1x.out.alloc ob)).2.2.1; have egv : ∀ ob, (W1.alloc ob).cell? ⟨w.heap.size + 1, 3, none⟩ = some (.slice a3 ua.length c3) := fun ob => (HCU.out _ (G1x.out.alloc ob)).2.2.2.1; have egx : ∀ ob, (W1.alloc ob).cell? ⟨rb, 2, none⟩ = some (.slice gra s.r.length grc) := fun ob => (HCU.out _ (G1x.out.alloc ob)).2.2.2.2; clear o1 g1 b1 hn1)
                  | (refine step_app_U (by rfl) (.tmp 80) (.tmp 85) (by rfl) V.heap.size (.slice (some ⟨V.heap.size, 0, none⟩) 0 0) [] XR4 gra grc (by rfl) (by rw [hrl4]; rfl) HOB.out (HSrc.out _ HFB.out) HFB.out.size (by rw [hrl4]; simp; omega) ?_; intro v1 W1 o1 g1 b1; rw [List.nil_append] at o1; obtain ⟨a1, q1, hv1⟩ := own_len o1; obtain ⟨n1, hn1⟩ : ∃ n1, n1 = XR4.length := ⟨_, rfl⟩; rw [← hn1] at hv1; subst hv1; have O1 := hid o1; have N1 := hid (unit_src (((Fr.refl (fun k => k = V.heap.size) _).grown g1 (fun k hk => .inl (by show k = V.heap.size; have := obk hk; omega))).blk HNB.out (fun h => by have h' : V.heap.size + 1 = V.heap.size := h; omega))); have G1x := hid (HFB.out.grown g1 (fun k hk => .inr (by have := obk hk; omega))); have efs : (W1).cell? ⟨w.heap.size + 1, 0, none⟩ = some (.string ⟨n'.toArray⟩) := (HCU.out _ (G1x.out)).1; have eft : (W1).cell? ⟨w.heap.size + 1, 1, none⟩ = some (.string ⟨ys.toArray⟩) := (HCU.out _ (G1x.out)).2.1; have efu : (W1).cell? ⟨w.heap.size + 1, 2, none⟩ = some (.slice a2 ur.length c2) := (HCU.out _ (G1x.out)).2.2.1; have efv : (W1).cell? ⟨w.heap.size + 1, 3, none⟩ = some (.slice a3 ua.length c3) := (HCU.out _ (G1x.out)).2.2.2.1; have efx : (W1).cell? ⟨rb, 2, none⟩ = some (.slice gra s.r.length grc) := (HCU.out _ (G1x.out)).2.2.2.2; have egs : ∀ ob, (W1.alloc ob).cell? ⟨w.heap.size + 1, 0, none⟩ = some (.string ⟨n'.toArray⟩) := fun ob => (HCU.out _ (G1x.out.alloc ob)).1; have egt : ∀ ob, (W1.alloc ob).cell? ⟨w.heap.size + 1, 1, none⟩ = some (.string ⟨ys.toArray⟩) := fun ob => (HCU.out _ (G1x.out.alloc ob)).2.1; have egu : ∀ ob, (W1.alloc ob).cell? ⟨w.heap.size + 1, 2, none⟩ = some (.slice a2 ur.length c2) := fun ob => (HCU.out _ (G1x.out.alloc ob)).2.2.1; have egv : ∀ ob, (W1.alloc ob).cell? ⟨w.heap.size + 1, 3, none⟩ = some (.slice a3 ua.length c3) := fun ob => (HCU.out _ (G1x.out.alloc ob)).2.2.2.1; have egx : ∀ ob, (W1.alloc ob).cell? ⟨rb, 2, none⟩ = some (.slice gra s.r.length grc) := fun ob => (HCU.out _ (G1x.out.alloc ob)).2.2.2.2; clear o1 g1 b1 hn1)
                  | (refine step_app_U (by rfl) (.tmp 80) (.tmp 85) (by rfl) V.heap.size (.slice (some ⟨V.heap.size + 1, 0, none⟩) 0 0) [] XR4 gra grc (by rfl) (by rw [hrl4]; rfl) HOC.out (HSrc.out _ HFC.out) HFC.out.size (by rw [hrl4]; simp; omega) ?_; intro v1 W1 o1 g1 b1; rw [List.nil_append] at o1; obtain ⟨a1, q1, hv1⟩ := own_len o1; obtain ⟨n1, hn1⟩ : ∃ n1, n1 = XR4.length := ⟨_, rfl⟩; rw [← hn1] at hv1; subst hv1; have O1 := hid o1; have N1 := hid (unit_src (((Fr.refl (fun k => k = V.heap.size + 1) _).grown g1 (fun k hk => .inl (by show k = V.heap.size + 1; have := obk hk; omega))).blk HNC.out (fun h => by have h' : V.heap.size = V.heap.size + 1 := h; omega))); have G1x := hid (HFC.out.grown g1 (fun k hk => .inr (by have := obk hk; omega))); have efs : (W1).cell? ⟨w.heap.size + 1, 0, none⟩ = some (.string ⟨n'.toArray⟩) := (HCU.out _ (G1x.out)).1; have eft : (W1).cell? ⟨w.heap.size + 1, 1, none⟩ = some (.string ⟨ys.toArray⟩) := (HCU.out _ (G1x.out)).2.1; have efu : (W1).cell? ⟨w.heap.size + 1, 2, none⟩ = some (.slice a2 ur.length c2) := (HCU.out _ (G1x.out)).2.2.1; have efv : (W1).cell? ⟨w.heap.size + 1, 3, none⟩ = some (.slice a3 ua.length c3) := (HCU.out _ (G1x.out)).2.2.2.1; have efx : (W1).cell? ⟨rb, 2, none⟩ = some (.slice gra s.r.length grc) := (HCU.out _ (G1x.out)).2.2.2.2; have egs : ∀ ob, (W1.alloc ob).cell? ⟨w.heap.size + 1, 0, none⟩ = some (.string ⟨n'.toArray⟩) := fun ob => (HCU.out _ (G1x.out.alloc ob)).1; have egt : ∀ ob, (W1.alloc ob).cell? ⟨w.heap.size + 1, 1, none⟩ = some (.string ⟨ys.toArray⟩) := fun ob => (HCU.out _ (G1x.out.alloc ob)).2.1; have egu : ∀ ob, (W1.alloc ob).cell? ⟨w.heap.size + 1, 2, none⟩ = some (.slice a2 ur.length c2) := fun ob => (HCU.out _ (G1x.out.alloc ob)).2.2.1; have egv : ∀ ob, (W1.alloc ob).cell? ⟨w.heap.size + 1, 3, none⟩ = some (.slice a3 ua.length c3) := fun ob => (HCU.out _ (G1x.out.alloc ob)).2.2.2.1; have egx : ∀ ob, (W1.alloc ob).cell? ⟨rb, 2, none⟩ = some (.slice gra s.r.length grc) := fun ob => (HCU.out _ (G1x.out.alloc ob)).2.2.2.2; clear o1 g1 b1 hn1)
                  | (refine step_app_U (by rfl) (.tmp 86) (.tmp 88) (by rfl) V.heap.size (.slice a1 n1 q1) XR4 [⟨n', ys, a2, ur.length, c2, a3, ua.length, c3⟩] _ 1 (by rfl) (by rfl) O1.out N1.out G1x.out.size (by rw [hrl4]; simp; omega) ?_; intro v2 W2 o2 g2 b2; obtain ⟨a4, q4, hv2⟩ := own_len o2; obtain ⟨n2, hn2⟩ : ∃ n2, n2 = (XR4 ++ [(⟨n', ys, a2, ur.length, c2, a3, ua.length, c3⟩ : Uv)]).length := ⟨_, rfl⟩; rw [← hn2] at hv2; subst hv2; have G2x := G1x.out.grown g2 (fun k hk => .inr (own_lt O1.out k hk).1); obtain ⟨cc, zz, ff, xx⟩ := HEnd.out _ G2x _ _ _ o2; have FF := hid ff; have XX := hid xx; clear o2 g2 b2 ff xx hn2 G2x)
                  | (refine step_app_U (by rfl) (.tmp 86) (.tmp 88) (by rfl) V.heap.size (.slice a1 n1 q1) XR4 [⟨n', ys, a2, ur.length, c2, a3, ua.length, c3⟩] (some ⟨W1.heap.size, 0, none⟩) 1 (by rfl) (by rfl) (own_fr0 O1.out ((Fr.refl _ _).alloc (.cells #[.string ⟨n'.toArray⟩, .string ⟨ys.toArray⟩, .slice a2 ur.length c2, .slice a3 ua.length c3] 41))) (unit_src (HNW.out W1)) (G1x.out.alloc _).size (by rw [hrl4]; simp; omega) ?_; intro v2 W2 o2 g2 b2; obtain ⟨a4, q4, hv2⟩ := own_len o2; obtain ⟨n2, hn2⟩ : ∃ n2, n2 = (XR4 ++ [(⟨n', ys, a2, ur.length, c2, a3, ua.length, c3⟩ : Uv)]).length := ⟨_, rfl⟩; rw [← hn2] at hv2; subst hv2; have G2x := (G1x.out.alloc (.cells #[.string ⟨n'.toArray⟩, .string ⟨ys.toArray⟩, .slice a2 ur.length c2, .slice a3 ua.length c3] 41)).grown g2 (fun k hk => .inr (own_lt O1.out k hk).1); obtain ⟨cc, zz, ff, xx⟩ := HEnd.out _ G2x _ _ _ o2; have FF := hid ff; have XX := hid xx; clear o2 g2 b2 ff xx hn2 G2x)))
              all_goals
                go_wp2_with fail
                go_ret
                rw [HR3.out]
                refine ⟨rfl, HW6.out.trans FF.out (fun _ h => .inl h), XX.out.wide (fun k hk => ?_) (fun h => h.elim hne.out (fun h => by have := h.1; omega)) (fun k hk => hk.elim (fun hk => ?_) (fun hk => hk.2))⟩
                · have hff := FF.out.size
                  rcases hk with ((h | h) | h) | h
                  · exact .inl h
                  · exact .inr ⟨by have := h.1; omega, by have := h.2; omega⟩
                  · exact .inr ⟨by have := h.1; omega, by have := h.2; omega⟩
                  · exact .inr ⟨by have := h.1; omega, h.2⟩
                · have := hes.out k hk; have := FF.out.size; omega
end
end Go.Proofs.Ytangnoicnogddaa.Tr
