/- The contract of equal and Equal over any values. -/
import Derived.Test.YtlepjghfcpgbcaaGreatDoorVsa
namespace Go.Proofs.YtlepjghfcpgbcaaGreatDoor.Tr
open Go.RowKit

/-- A value's number alone. -/
def Vt.nv (v : Vt) : Vv := ⟨v.k, v.n, v.f, [], none, 0, 0, none, 0, 0⟩
mutual
/-- Are two values equal, and what is told with it? -/
def eqV : Vt → Vt → Bool × Int
  | .mk k n f t ns its, v =>
    if (numB ⟨k, n, f, [], none, 0, 0, none, 0, 0⟩ && numB v.nv) = true then (eqN ⟨k, n, f, [], none, 0, 0, none, 0, 0⟩ v.nv, 0)
    else if k ≠ v.k then (false, 0)
    else if k = 7 then (false, 11)
    else if k = 5 then (if its.length ≠ v.its.length then (false, 0) else eqI its v.its)
    else if k = 6 then (if ns = v.ns then (if its.length ≠ v.its.length then (false, 0) else eqI its v.its) else (false, 0))
    else (samB (.mk k n f t ns its) v, 0)
def eqI : List Vt → List Vt → Bool × Int
  | [], _ => (true, 0)
  | _ :: _, [] => (true, 0)
  | a :: r, b :: s => if (eqV a b).1 = true then eqI r s else (false, (eqV a b).2)
end
def eqLs (l m : List Vt) : Bool × Int := if l.length ≠ m.length then (false, 0) else eqI l m
theorem eqV_eq (u v : Vt) : eqV u v = if (numB u.nv && numB v.nv) = true then (eqN u.nv v.nv, 0) else if u.k ≠ v.k then (false, 0) else if u.k = 7 then (false, 11) else if u.k = 5 then eqLs u.its v.its else if u.k = 6 then (if u.ns = v.ns then eqLs u.its v.its else (false, 0)) else (samB u v, 0) := by
  cases u; rw [eqV]; rfl
theorem eqI_step (l m : List Vt) (i : Nat) (h1 : i < l.length) (h2 : i < m.length) : eqI (l.drop i) (m.drop i) = if (eqV l[i] m[i]).1 = true then eqI (l.drop (i + 1)) (m.drop (i + 1)) else (false, (eqV l[i] m[i]).2) := by
  rw [drop_cons l i h1, drop_cons m i h2, eqI]
/-- What equal tells of a value. -/
def EqOf (u : Vt) : Prop := ∀ (v : Vt) (x y : Vv) (w : World), VIn w u x → VIn w v y → Calls Tryz.prog 54 #[x.v, y.v] w fun e w' => e = .returned (.tuple #[.bool (eqV u v).1, .int .i64 (eqV u v).2]) ∧ Fr (fun _ => False) w w'

abbrev sixB (W : World) (b p : Nat) (x : Vv) : Prop := W.cell? ⟨b, p, none⟩ = some (.int .i64 x.k) ∧ W.cell? ⟨b, p + 1, none⟩ = some (.int .i64 x.n) ∧ W.cell? ⟨b, p + 2, none⟩ = some (.float .f64 x.f) ∧ W.cell? ⟨b, p + 3, none⟩ = some (.string ⟨x.t.toArray⟩) ∧ W.cell? ⟨b, p + 4, none⟩ = some (.slice x.na x.nl x.nc) ∧ W.cell? ⟨b, p + 5, none⟩ = some (.slice x.ia x.il x.ic)

set_option maxRecDepth 100000 in
set_option maxHeartbeats 4000000 in
theorem equalItems_of (l m : List Vt) (hR : ∀ u ∈ l, EqOf u) (w : World) (ad bd : Option Addr) (cap dap : Nat) (hI : IIn w l ad) (hJ : IIn w m bd) (hl : l.length ≤ lim) (hm : m.length ≤ lim) : Calls Tryz.prog 91 #[.slice ad l.length cap, .slice bd m.length dap] w fun e w' => e = .returned (.tuple #[.bool (eqLs l m).1, .int .i64 (eqLs l m).2]) ∧ Fr (fun _ => False) w w' := by
  have hl2 : l.length ≤ 140737488351232 := hl
  have hm2 : m.length ≤ 140737488351232 := hm
  have HR := hid hR
  have HI := hid hI
  have HJ := hid hJ
  clear hR hI hJ hl hm
  unfold eqLs
  by_cases hq : l.length = m.length
  · have hq' : (((l.length : Nat) : Int) != ((m.length : Nat) : Int)) = false := by simp; omega
    rw [if_neg (fun h => h hq)]
    have HQl := hid hq
    clear hq
    obtain ⟨R, hR0⟩ : ∃ R, R = eqI l m := ⟨_, rfl⟩
    rw [← hR0]
    have HR0 := hid hR0
    clear hR0
    go_enter Tryz.func91, Tryz.ntmps91
    go_wp2_with fail
    go_loopw [6, 7, 8, 16] (fun _ _ _ iv wr => ∃ i : Nat, i ≤ l.length ∧ iv = .int .i64 (i : Int) ∧ eqI (l.drop i) (m.drop i) = R ∧ Fr (fun _ => False) w wr) (fun _ _ _ iv _ => l.length - (intOf iv).toNat)
    case atStart => exact ⟨0, Nat.zero_le _, rfl, by rw [HR0.out]; simp, Fr.refl _ _⟩
    case round =>
      obtain ⟨i, hi, rfl, hS, hF⟩ := hrel
      have HS := hid hS
      have HF := hid hF
      clear hS hF HR0
      by_cases hlt : i < l.length
      · have hlt' : (i : Int) < ((l.length : Nat) : Int) := by omega
        have hlm : i < m.length := by have := HQl.out; omega
        have hltm : (i : Int) < ((m.length : Nat) : Int) := by omega
        obtain ⟨b, o, e1⟩ := HI.out.some (by intro e; rw [e] at hlt; simp at hlt)
        obtain ⟨b', o', e1'⟩ := HJ.out.some (fun e => by rw [e] at hlm; simp at hlm)
        subst e1 e1'
        obtain ⟨x, e2, e3⟩ := HI.out.get i hlt
        obtain ⟨y, g2, g3⟩ := HJ.out.get i hlm
        have HN : Hid (R = if (eqV l[i] (m[i]'hlm)).1 = true then eqI (l.drop (i + 1)) (m.drop (i + 1)) else (false, (eqV l[i] (m[i]'hlm)).2)) := by
          unfold Hid; rw [← HS.out, eqI_step l m i hlt hlm]
        have HC := hid (HR.out l[i] (List.getElem_mem hlt) (m[i]'hlm) x y wr (VIn.env (Env.of HF.out) _ _ e3) (VIn.env (Env.of HF.out) _ _ g3))
        have HK : Hid (∀ W', Fr (fun _ => False) wr W' → sixB W' b (o + i * 6) x ∧ sixB W' b' (o' + i * 6) y) := fun W' hf => ⟨(e2.env (Env.of (HF.out.trans hf (fun _ h => h.elim)))).six, (g2.env (Env.of (HF.out.trans hf (fun _ h => h.elim)))).six⟩
        have HC2 : Hid (Calls Tryz.prog 54 #[x.v, y.v] wr.drew fun e w' => e = .returned (.tuple #[.bool (eqV l[i] (m[i]'hlm)).1, .int .i64 (eqV l[i] (m[i]'hlm)).2]) ∧ Fr (fun _ => False) wr.drew w') := HR.out l[i] (List.getElem_mem hlt) (m[i]'hlm) x y wr.drew (VIn.env (Env.of HF.out.drew) _ _ e3) (VIn.env (Env.of HF.out.drew) _ _ g3)
        generalize eqV l[i] (m[i]'hlm) = q at *
        obtain ⟨q, qe⟩ := q
        clear e2 e3 g2 g3 HS HC
        go_wp2_with fail
        go_region_held3 (fun W' => sixB W' b (o + i * 6) x ∧ sixB W' b' (o' + i * 6) y)
          (first | exact HK.out _ (Fr.refl _ _).drew | exact HK.out _ F1.out)
          ((go_at_call 54; refine HC2.out.mono ?_; rintro e w2 ⟨rfl, f2⟩; have F1 : Hid (Fr (fun _ => False) wr w2) := (Fr.refl _ wr).drew.trans f2 (fun _ h => h.elim)))
        have HF2 := hid (HF.out.trans F1.out (fun _ h => h.elim))
        cases q with
        | false =>
          go_wp2_with fail
          go_ret2
          exact ⟨by rw [HN.out]; rfl, HF2.out⟩
        | true =>
          go_wp2_with fail
          exact ⟨⟨i + 1, by omega, by first | rfl | (congr 1), by rw [HN.out]; rfl, HF2.out⟩, by simp [intOf]; omega⟩
      · have hlt' : ¬ (i : Int) < ((l.length : Nat) : Int) := by omega
        have HE : Hid (R = (true, 0)) := by
          unfold Hid
          rw [← HS.out, List.drop_eq_nil_of_le (by omega), eqI]
        go_wp2_with fail
        go_ret2
        exact ⟨by rw [HE.out]; rfl, HF.out⟩
  · have hq' : (((l.length : Nat) : Int) != ((m.length : Nat) : Int)) = true := by simp; omega
    rw [if_pos hq]
    go_enter Tryz.func91, Tryz.ntmps91
    go_wp2_with fail
    go_ret2
    exact ⟨rfl, Fr.refl _ _⟩

set_option maxRecDepth 100000 in
set_option maxHeartbeats 4000000 in
theorem equal_tree : ∀ (m : Nat) (u : Vt), SizeOf.sizeOf u ≤ m → EqOf u := by
  intro m
  induction m with
  | zero =>
    intro v hv
    exfalso
    cases v
    simp only [Vt.mk.sizeOf_spec] at hv
    omega
  | succ m ih =>
    intro u hu v x y w hx hy
    have HEI : Hid (∀ (W : World), Env w W → Calls Tryz.prog 91 #[.slice x.ia u.its.length x.ic, .slice y.ia v.its.length y.ic] W fun e w' => e = .returned (.tuple #[.bool (eqLs u.its v.its).1, .int .i64 (eqLs u.its v.its).2]) ∧ Fr (fun _ => False) W w') := fun W e =>
      equalItems_of u.its v.its (fun z hz => ih z (by have := Vt.its_lt hz; omega)) W x.ia y.ia x.ic y.ic (IIn.env e _ _ hx.parts.2.2.2.2) (IIn.env e _ _ hy.parts.2.2.2.2) hx.parts.2.2.2.1.2.2 hy.parts.2.2.2.1.2.2
    have HEN : Hid (∀ (W : World), Env w W → Calls Tryz.prog 51 #[.slice x.na u.ns.length x.nc, .slice y.na v.ns.length y.nc] W fun e w' => e = .returned (.bool (decide (u.ns = v.ns))) ∧ Fr (fun _ => False) W w') := fun W e =>
      eqStrs W x.na y.na x.nc y.nc u.ns v.ns (hx.parts.2.2.1.2.2.2.env e) (hy.parts.2.2.1.2.2.2.env e) hx.parts.2.2.1.2.2.1 hy.parts.2.2.1.2.2.1
    have HSm : Hid (∀ (W : World), Env w W → Calls Tryz.prog 23 #[x.v, y.v] W fun e w' => e = .returned (.bool (samB u v)) ∧ Fr (fun _ => False) W w') := fun W e => sm_of u v x y W (VIn.env e _ _ hx) (VIn.env e _ _ hy)
    have HQ := hid (eqV_eq u v)
    have HN := hid (fun W => areNumbers_any W x y)
    have HEq := hid (fun W => equalNumbers_any W x y)
    have HB := hid (two_blk w x y)
    have HF := hid (two_fr w x y)
    obtain ⟨⟨p1, p2, p3, p4⟩, _, ⟨p5, _, hnl, _⟩, ⟨p6, _, hil⟩, _⟩ := hx.parts
    obtain ⟨⟨r1, r2, r3, r4⟩, _, ⟨r5, _, hnl', _⟩, ⟨r6, _, hil'⟩, _⟩ := hy.parts
    clear ih hu hx hy hnl hil hnl' hil'
    obtain ⟨k, n, f, t, na, nl, nc, ia, il, ic⟩ := x
    obtain ⟨k', n', f', t', na', nl', nc', ia', il', ic'⟩ := y
    simp only at p1 p2 p3 p4 p5 p6 r1 r2 r3 r4 r5 r6
    subst p1 p2 p3 p4 p5 p6 r1 r2 r3 r4 r5 r6
    have en : (numB ⟨u.k, u.n, u.f, u.t, na, u.ns.length, nc, ia, u.its.length, ic⟩ && numB ⟨v.k, v.n, v.f, v.t, na', v.ns.length, nc', ia', v.its.length, ic'⟩) = (numB u.nv && numB v.nv) := rfl
    have ee : eqN ⟨u.k, u.n, u.f, u.t, na, u.ns.length, nc, ia, u.its.length, ic⟩ ⟨v.k, v.n, v.f, v.t, na', v.ns.length, nc', ia', v.its.length, ic'⟩ = eqN u.nv v.nv := rfl
    rw [en] at HN
    rw [ee] at HEq
    clear en ee
    simp only [Vv.v] at *
    obtain ⟨R, hR⟩ : ∃ R, R = eqV u v := ⟨_, rfl⟩
    rw [← hR] at HQ ⊢
    clear hR
    generalize eqLs u.its v.its = L at *
    obtain ⟨L1, L2⟩ := L
    obtain ⟨qn, hqn⟩ : ∃ qn, qn = decide (u.ns = v.ns) := ⟨_, rfl⟩
    have HNs : Hid ((qn = true → R = (if u.ns = v.ns then (L1, L2) else (false, 0)) → R = (L1, L2)) ∧ (qn = false → R = (if u.ns = v.ns then (L1, L2) else (false, 0)) → R = (false, 0))) := by
      refine ⟨fun h1 h2 => ?_, fun h1 h2 => ?_⟩
      · rw [h1] at hqn
        rw [if_pos (of_decide_eq_true hqn.symm)] at h2; exact h2
      · rw [h1] at hqn
        rw [if_neg (of_decide_eq_false hqn.symm)] at h2; exact h2
    rw [← hqn] at HEN
    clear hqn
    generalize samB u v = sb at *
    generalize hnb : (numB u.nv && numB v.nv) = nb at *
    clear hnb
    cases nb with
    | true =>
      have HR2 : Hid (R = (eqN u.nv v.nv, 0)) := by unfold Hid; rw [HQ.out]; rfl
      generalize eqN u.nv v.nv = en at *
      clear HQ
      go_enter Tryz.func54, Tryz.ntmps54
      go_wp2_with fail
      refine (HN.out _).mono ?_
      rintro e w1 ⟨rfl, f1⟩
      have HB1 := hid (And.intro (f1.blk HB.out.1 (fun h => h)) (f1.blk HB.out.2 (fun h => h)))
      have HF1 := hid (HF.out.trans f1 (fun _ h => h.elim))
      clear f1 HB HF HN
      obtain ⟨c0, c1, c2, c3, c4, c5⟩ := HB1.out.1.six
      obtain ⟨d0, d1, d2, d3, d4, d5⟩ := HB1.out.2.six
      go_wp2_with fail
      refine (HEq.out _).mono ?_
      rintro e w2 ⟨rfl, f2⟩
      have HF2 := hid (HF1.out.trans f2 (fun _ h => h.elim))
      clear f2
      go_wp2_with fail
      go_ret2
      exact ⟨by rw [HR2.out]; rfl, HF2.out⟩
    | false =>
      rw [if_neg (by decide)] at HQ
      go_enter Tryz.func54, Tryz.ntmps54
      go_wp2_with fail
      refine (HN.out _).mono ?_
      rintro e w1 ⟨rfl, f1⟩
      have HB1 := hid (And.intro (f1.blk HB.out.1 (fun h => h)) (f1.blk HB.out.2 (fun h => h)))
      have HF1 := hid (HF.out.trans f1 (fun _ h => h.elim))
      clear f1 HB HF HN
      obtain ⟨c0, c1, c2, c3, c4, c5⟩ := HB1.out.1.six
      obtain ⟨d0, d1, d2, d3, d4, d5⟩ := HB1.out.2.six
      by_cases hk : u.k = v.k
      · rw [if_neg (fun h => h hk)] at HQ
        have hk' : (u.k != v.k) = false := by simpa using hk
        clear hk
        by_cases h7 : u.k = 7
        · rw [if_pos h7] at HQ
          have h7' : (u.k == 7) = true := by simpa using h7
          clear h7
          go_wp2_with fail
          go_ret2
          exact ⟨by rw [HQ.out]; rfl, HF1.out⟩
        · rw [if_neg h7] at HQ
          have h7' : (u.k == 7) = false := by simpa using h7
          clear h7
          by_cases h5 : u.k = 5
          · rw [if_pos h5] at HQ
            have h5' : (u.k == 5) = true := by simpa using h5
            clear h5
            go_wp2_with fail
            refine (HEI.out _ (Env.of HF1.out)).mono ?_
            rintro e w2 ⟨rfl, f2⟩
            have HF2 := hid (HF1.out.trans f2 (fun _ h => h.elim))
            clear f2
            go_wp2_with fail
            go_ret2
            exact ⟨by rw [HQ.out]; rfl, HF2.out⟩
          · rw [if_neg h5] at HQ
            have h5' : (u.k == 5) = false := by simpa using h5
            clear h5
            by_cases h6 : u.k = 6
            · rw [if_pos h6] at HQ
              have h6' : (u.k == 6) = true := by simpa using h6
              clear h6
              go_wp2_with fail
              refine (HEN.out _ (Env.of HF1.out)).mono ?_
              rintro e w2 ⟨rfl, f2⟩
              have HB2 := hid (And.intro (f2.blk HB1.out.1 (fun h => h)) (f2.blk HB1.out.2 (fun h => h)))
              have HF2 := hid (HF1.out.trans f2 (fun _ h => h.elim))
              clear f2 HB1 HF1 c0 c1 c2 c3 c4 c5 d0 d1 d2 d3 d4 d5
              obtain ⟨c0, c1, c2, c3, c4, c5⟩ := HB2.out.1.six
              obtain ⟨d0, d1, d2, d3, d4, d5⟩ := HB2.out.2.six
              cases qn with
              | false =>
                have HQ2 : Hid (R = (false, 0)) := HNs.out.2 rfl HQ.out
                clear HQ
                go_wp2_with fail
                go_ret2
                exact ⟨by rw [HQ2.out]; rfl, HF2.out⟩
              | true =>
                have HQ2 : Hid (R = (L1, L2)) := HNs.out.1 rfl HQ.out
                clear HQ
                go_wp2_with fail
                refine (HEI.out _ (Env.of HF2.out)).mono ?_
                rintro e w3 ⟨rfl, f3⟩
                have HF3 := hid (HF2.out.trans f3 (fun _ h => h.elim))
                clear f3
                go_wp2_with fail
                go_ret2
                exact ⟨by rw [HQ2.out]; rfl, HF3.out⟩
            · rw [if_neg h6] at HQ
              have h6' : (u.k == 6) = false := by simpa using h6
              clear h6
              go_wp2_with fail
              refine (HSm.out _ (Env.of HF1.out)).mono ?_
              rintro e w2 ⟨rfl, f2⟩
              have HF2 := hid (HF1.out.trans f2 (fun _ h => h.elim))
              clear f2
              go_wp2_with fail
              go_ret2
              exact ⟨by rw [HQ.out]; rfl, HF2.out⟩
      · rw [if_pos hk] at HQ
        have hk' : (u.k != v.k) = true := by simpa using hk
        clear hk
        go_wp2_with fail
        go_ret2
        exact ⟨by rw [HQ.out]; rfl, HF1.out⟩
theorem eq_of (u : Vt) : EqOf u := equal_tree _ u (Nat.le_refl _)
theorem equal_of {w : World} {u v : Vt} {x y : Vv} (hx : VIn w u x) (hy : VIn w v y) : EqualOf w x y (eqV u v) := fun W e => eq_of u v x y W (VIn.env e _ _ hx) (VIn.env e _ _ hy)
end Go.Proofs.YtlepjghfcpgbcaaGreatDoor.Tr
