/- The contracts of rightNames, rightItems, rightWithin, Right over any value. -/
import Derived.Test.YtlepjghfcpgbcaaGreatDoorVsm
namespace Go.Proofs.YtlepjghfcpgbcaaGreatDoor.Tr
open Go.RowKit

/-- May a name stand there? -/
def rnAt (ns : List (List UInt8)) (i : Nat) : Bool := decide ((ns.getD i []).length ≤ 1024) && (decide (i = 0) || Op.bytesLess (ns.getD (i - 1) []) (ns.getD i []))
def rnB (ns : List (List UInt8)) : Bool := (List.range ns.length).all (rnAt ns)
theorem rnB_true {ns : List (List UInt8)} (h : ∀ j, j < ns.length → rnAt ns j = true) : rnB ns = true := List.all_eq_true.2 fun j hj => h j (List.mem_range.1 hj)
theorem rnB_false {ns : List (List UInt8)} {j : Nat} (hj : j < ns.length) (h : rnAt ns j = false) : rnB ns = false := by
  cases e : rnB ns with
  | false => rfl
  | true =>
    have := List.all_eq_true.1 e j (List.mem_range.2 hj)
    rw [h] at this; cases this

set_option maxRecDepth 100000 in
set_option maxHeartbeats 4000000 in
theorem rightNames_any (w : World) (ad : Option Addr) (cap : Nat) (ns : List (List UInt8)) (hs : Strs w ad ns) (hl : ns.length ≤ lim) (hb : ∀ s ∈ ns, s.length ≤ lim) : Calls Tryz.prog 88 #[.slice ad ns.length cap] w fun e w' => e = .returned (.bool (rnB ns)) ∧ Fr (fun _ => False) w w' := by
  have hlim : ns.length ≤ 140737488351232 := hl
  have HS := hid hs
  have HB := hid hb
  clear hs hb hl
  go_enter Tryz.func88, Tryz.ntmps88
  go_wp2_with fail
  go_loopw [3, 4, 7] (fun _ _ iv wr => ∃ i : Nat, i ≤ ns.length ∧ iv = .int .i64 (i : Int) ∧ (∀ j, j < i → rnAt ns j = true) ∧ wr = w) (fun _ _ iv _ => ns.length - (intOf iv).toNat)
  case atStart => exact ⟨0, Nat.zero_le _, rfl, fun j hj => absurd hj (by omega), rfl⟩
  case round =>
    obtain ⟨i, hi, rfl, hA, rfl⟩ := hrel
    have HA := hid hA
    clear hA
    by_cases hlt : i < ns.length
    · have hlt' : (i : Int) < ((ns.length : Nat) : Int) := by omega
      obtain ⟨b, o, rfl, hc⟩ := HS.out (by intro e; rw [e] at hlt; simp at hlt)
      have c0 := hc i hlt
      have hlen : ns[i].length ≤ 140737488351232 := HB.out _ (List.getElem_mem hlt)
      have eg : ns.getD i [] = ns[i] := by rw [List.getD_eq_getElem?_getD, List.getElem?_eq_getElem hlt]; rfl
      by_cases h1 : 1024 < ns[i].length
      · have h1' : ((ns[i].length : Nat) : Int) > 1024 := by omega
        have HR : Hid (rnB ns = false) := rnB_false hlt (by unfold rnAt; rw [eg, decide_eq_false (by omega)]; rfl)
        generalize ns[i] = s at *
        clear hc
        go_wp2_with fail
        go_ret
        exact ⟨by rw [HR.out]; rfl, Fr.refl _ _⟩
      · have h1' : ¬ ((ns[i].length : Nat) : Int) > 1024 := by omega
        cases i with
        | zero =>
          have HN : Hid (rnAt ns 0 = true) := by unfold Hid rnAt; rw [eg, decide_eq_true (show ns[0].length ≤ 1024 by omega)]; rfl
          generalize ns[0] = s at *
          clear hc
          rw [Nat.add_zero] at c0
          go_wp2_with fail
          exact ⟨⟨1, by omega, rfl, fun j hj => by obtain rfl : j = 0 := by omega
                                                   exact HN.out, by first | rfl | trivial⟩, by simp [intOf]; omega⟩
        | succ i =>
          have c1 := hc i (by omega)
          have ep : ns.getD i [] = ns[i] := by rw [List.getD_eq_getElem?_getD, List.getElem?_eq_getElem (by omega)]; rfl
          have hi1 : (((i + 1 : Nat) : Int) - 1) = (i : Int) := by omega
          have hpos : ((i + 1 : Nat) : Int) > 0 := by omega
          have HQ : Hid (rnAt ns (i + 1) = Op.bytesLess ns[i] ns[i + 1]) := by
            unfold Hid rnAt
            rw [eg, Nat.add_sub_cancel, ep, decide_eq_true (show ns[i + 1].length ≤ 1024 by omega), decide_eq_false (show ¬ i + 1 = 0 by omega)]
            rfl
          generalize ns[i + 1] = s at *
          generalize ns[i] = p at *
          clear hc
          cases hq : Op.bytesLess p s with
          | false =>
            have HR : Hid (rnB ns = false) := rnB_false hlt (by rw [HQ.out, hq])
            go_wp2_with fail
            go_ret
            exact ⟨by rw [HR.out]; rfl, Fr.refl _ _⟩
          | true =>
            have HN : Hid (rnAt ns (i + 1) = true) := by unfold Hid; rw [HQ.out, hq]
            go_wp2_with fail
            exact ⟨⟨i + 2, by omega, by first | rfl | (congr 1), fun j hj => by
              by_cases e : j = i + 1
              · subst e; exact HN.out
              · exact HA.out j (by omega), by first | rfl | trivial⟩, by simp [intOf]; omega⟩
    · have hlt' : ¬ (i : Int) < ((ns.length : Nat) : Int) := by omega
      have HR : Hid (rnB ns = true) := rnB_true (fun j hj => HA.out j (by omega))
      go_wp2_with fail
      go_ret
      exact ⟨by rw [HR.out]; rfl, Fr.refl _ _⟩

mutual
/-- Is a value right, where so many lists and sets may stand within one another? -/
def rtB : Vt → Nat → Bool
  | .mk k n f t ns its, room =>
    if k = 5 then (decide (room ≠ 0) && decide (its.length ≤ 256) && rtL its (room - 1)) && bareB ⟨5, n, f, t, none, ns.length, 0, none, 0, 0⟩
    else if k = 6 then (decide (ns.length = its.length) && rnB ns && (decide (room ≠ 0) && decide (its.length ≤ 256) && rtL its (room - 1))) && bareB ⟨6, n, f, t, none, 0, 0, none, 0, 0⟩
    else rightS ⟨k, n, f, t, none, ns.length, 0, none, its.length, 0⟩
def rtL : List Vt → Nat → Bool
  | [], _ => true
  | v :: r, room => rtB v room && rtL r room
end
def itB (its : List Vt) (room : Nat) : Bool := decide (room ≠ 0) && decide (its.length ≤ 256) && rtL its (room - 1)
theorem rtL_cons (v : Vt) (r : List Vt) (room : Nat) : rtL (v :: r) room = (rtB v room && rtL r room) := by rw [rtL]

/-- What rightWithin tells of a value. -/
def RtOf (v : Vt) : Prop := ∀ (x : Vv) (w : World) (room : Nat), VIn w v x → room ≤ 32 → Calls Tryz.prog 47 #[x.v, .int .i64 (room : Int)] w fun e w' => e = .returned (.bool (rtB v room)) ∧ Fr (fun _ => False) w w'

set_option maxRecDepth 100000 in
set_option maxHeartbeats 4000000 in
theorem rightItems_of (l : List Vt) (hR : ∀ v ∈ l, RtOf v) (w : World) (ad : Option Addr) (cap room : Nat) (hI : IIn w l ad) (hlim : l.length ≤ lim) (hroom : room ≤ 32) : Calls Tryz.prog 87 #[.slice ad l.length cap, .int .i64 (room : Int)] w fun e w' => e = .returned (.bool (itB l room)) ∧ Fr (fun _ => False) w w' := by
  have hl : l.length ≤ 140737488351232 := hlim
  have hst := fun (W : World) (a : Addr) (m : Mode) (f : Nat) => run_store Tryz.prog W a (.float .f64 f) m rfl
  have HR := hid hR
  have HI := hid hI
  clear hR hI hlim
  cases room with
  | zero =>
    go_enter Tryz.func87, Tryz.ntmps87
    go_wp2_with fail
    go_ret
    exact ⟨rfl, Fr.refl _ _⟩
  | succ room =>
    have hz : (((room + 1 : Nat) : Int) == 0) = false := by simp; omega
    have hr1 : (((room + 1 : Nat) : Int) - 1) = (room : Int) := by omega
    by_cases h256 : 256 < l.length
    · have h' : ((l.length : Nat) : Int) > 256 := by omega
      have HQ : Hid (itB l (room + 1) = false) := by unfold Hid itB; rw [decide_eq_false (show ¬ l.length ≤ 256 by omega)]; simp
      go_enter Tryz.func87, Tryz.ntmps87
      go_wp2_with fail
      go_ret
      exact ⟨by rw [HQ.out]; rfl, Fr.refl _ _⟩
    · have h' : ¬ ((l.length : Nat) : Int) > 256 := by omega
      have HQ : Hid (itB l (room + 1) = rtL l room) := by unfold Hid itB; rw [decide_eq_true (show l.length ≤ 256 by omega)]; simp
      go_enter Tryz.func87, Tryz.ntmps87
      go_wp2_with fail
      go_loopw [6, 16] (fun _ iv wr => ∃ i : Nat, i ≤ l.length ∧ iv = .int .i64 (i : Int) ∧ rtL (l.drop i) room = rtL l room ∧ Fr (fun _ => False) w wr) (fun _ iv _ => l.length - (intOf iv).toNat)
      case atStart => exact ⟨0, Nat.zero_le _, rfl, by simp, Fr.refl _ _⟩
      case round =>
        obtain ⟨i, hi, rfl, hS, hF⟩ := hrel
        have HS := hid hS
        have HF := hid hF
        clear hS hF
        by_cases hlt : i < l.length
        · have hlt' : (i : Int) < ((l.length : Nat) : Int) := by omega
          obtain ⟨b, o, e1⟩ := HI.out.some (by intro e; rw [e] at hlt; simp at hlt)
          subst e1
          obtain ⟨y, e2, e3⟩ := HI.out.get i hlt
          have HN : Hid (rtL l room = (rtB l[i] room && rtL (l.drop (i + 1)) room)) := by
            unfold Hid; rw [← HS.out, drop_cons _ _ hlt, rtL_cons]
          obtain ⟨k0, k1, k2, k3, k4, k5⟩ := (e2.env (Env.of HF.out)).six
          have HFb := hid (HF.out.trans (vFr wr y) (fun _ h => h.elim))
          have HC := hid (HR.out l[i] (List.getElem_mem hlt) y (vBox wr y) room (VIn.env (Env.of HFb.out) _ _ e3) (by omega))
          generalize rtB l[i] room = q at *
          clear e2 e3 HS
          go_wp2_with fail
          refine HC.out.mono ?_
          rintro e w2 ⟨rfl, f2⟩
          have HF2 := hid (HFb.out.trans f2 (fun _ h => h.elim))
          clear f2
          cases q with
          | false =>
            go_wp2_with fail
            go_ret
            exact ⟨by rw [HQ.out, HN.out]; rfl, HF2.out⟩
          | true =>
            go_wp2_with fail
            exact ⟨⟨i + 1, by omega, by first | rfl | (congr 1), by rw [HN.out]; rfl, HF2.out⟩, by simp [intOf]; omega⟩
        · have hlt' : ¬ (i : Int) < ((l.length : Nat) : Int) := by omega
          have HE : Hid (rtL l room = true) := by
            unfold Hid
            rw [← HS.out, List.drop_eq_nil_of_le (by omega), rtL]
          go_wp2_with fail
          go_ret
          exact ⟨by rw [HQ.out, HE.out]; rfl, HF.out⟩

theorem rightS_same (x y : Vv) (h : x.k = y.k ∧ x.n = y.n ∧ x.f = y.f ∧ x.t = y.t ∧ x.nl = y.nl ∧ x.il = y.il) : rightS x = rightS y := by
  obtain ⟨k, n, f, t, na, nl, nc, ia, il, ic⟩ := x
  obtain ⟨k', n', f', t', na', nl', nc', ia', il', ic'⟩ := y
  obtain ⟨rfl, rfl, rfl, rfl, rfl, rfl⟩ := h
  rfl

set_option maxRecDepth 100000 in
set_option maxHeartbeats 4000000 in
theorem right_tree : ∀ (m : Nat) (v : Vt), SizeOf.sizeOf v ≤ m → RtOf v := by
  intro m
  induction m with
  | zero =>
    intro v hv
    exfalso
    cases v
    simp only [Vt.mk.sizeOf_spec] at hv
    omega
  | succ m ih =>
    intro v hv x w room hx hroom
    have HIt : Hid (∀ (W : World), Env w W → Calls Tryz.prog 87 #[.slice x.ia v.its.length x.ic, .int .i64 (room : Int)] W fun e w' => e = .returned (.bool (itB v.its room)) ∧ Fr (fun _ => False) W w') := fun W e =>
      rightItems_of v.its (fun u hu => ih u (by have := Vt.its_lt hu; omega)) W x.ia x.ic room (IIn.env e _ _ hx.parts.2.2.2.2) hx.parts.2.2.2.1.2.2 hroom
    have HNm : Hid (∀ (W : World), Env w W → Calls Tryz.prog 88 #[.slice x.na v.ns.length x.nc] W fun e w' => e = .returned (.bool (rnB v.ns)) ∧ Fr (fun _ => False) W w') := fun W e =>
      rightNames_any W x.na x.nc v.ns (hx.parts.2.2.1.2.2.2.env e) hx.parts.2.2.1.2.2.1 hx.parts.2.1.2.2.2
    obtain ⟨⟨p1, p2, p3, p4⟩, _, ⟨p5, _, hnl, _⟩, ⟨p6, _, hil⟩, _⟩ := hx.parts
    have hnl2 : v.ns.length ≤ 140737488351232 := hnl
    have hil2 : v.its.length ≤ 140737488351232 := hil
    clear hnl hil
    clear ih hv hx
    by_cases h5 : v.k = 5
    · have HQ : Hid (rtB v room = (itB v.its room && bareB ⟨5, v.n, v.f, v.t, none, v.ns.length, 0, none, 0, 0⟩)) := by
        cases v with
        | mk k n f t ns its =>
          simp only [Vt.k] at h5
          subst h5
          unfold Hid
          rw [rtB, if_pos rfl]; rfl
      obtain ⟨k, n, f, t, na, nl, nc, ia, il, ic⟩ := x
      simp only at p1 p2 p3 p4 p5 p6
      rw [h5] at p1
      subst p1 p2 p3 p4 p5 p6
      have HB := hid (vBlk w ⟨5, v.n, v.f, v.t, na, v.ns.length, nc, ia, v.its.length, ic⟩)
      have HF := hid (vFr w ⟨5, v.n, v.f, v.t, na, v.ns.length, nc, ia, v.its.length, ic⟩)
      simp only [Vv.v] at *
      generalize itB v.its room = q at *
      have HBr := hid (fun W => isBare_any W ⟨5, v.n, v.f, v.t, na, v.ns.length, nc, none, 0, 0⟩)
      have ebr : bareB ⟨5, v.n, v.f, v.t, na, v.ns.length, nc, none, 0, 0⟩ = bareB ⟨5, v.n, v.f, v.t, none, v.ns.length, 0, none, 0, 0⟩ := rfl
      rw [ebr] at HBr
      clear ebr h5
      generalize bareB ⟨5, v.n, v.f, v.t, none, v.ns.length, 0, none, 0, 0⟩ = r at *
      go_enter Tryz.func47, Tryz.ntmps47
      go_wp2_with fail
      refine (HIt.out _ (Env.of HF.out)).mono ?_
      rintro e w1 ⟨rfl, f1⟩
      have hB1 := f1.blk HB.out (fun h => h)
      have HF1 := hid (HF.out.trans f1 (fun _ h => h.elim))
      obtain ⟨c0, c1, c2, c3, c4, c5⟩ := hB1.six
      have z5 := hB1.frozen 5
      have HFs := hid (HF1.out.setCell (p := ⟨w.heap.size, 5, none⟩) (.inr (Nat.le_refl _)) (.slice none 0 0))
      clear f1 hB1
      cases q with
      | false =>
        go_wp2_with fail
        go_ret
        exact ⟨by rw [HQ.out]; rfl, HFs.out⟩
      | true =>
        go_wp2_with fail
        refine (HBr.out _).mono ?_
        rintro e w2 ⟨rfl, f2⟩
        have HF2 := hid (HFs.out.trans f2 (fun _ h => h.elim))
        clear f2
        go_wp2_with fail
        go_ret
        exact ⟨by rw [HQ.out]; rfl, HF2.out⟩
    by_cases h6 : v.k = 6
    · have HQ : Hid (rtB v room = ((decide (v.ns.length = v.its.length) && rnB v.ns && itB v.its room) && bareB ⟨6, v.n, v.f, v.t, none, 0, 0, none, 0, 0⟩)) := by
        cases v with
        | mk k n f t ns its =>
          simp only [Vt.k] at h6
          subst h6
          unfold Hid
          rw [rtB, if_neg (by decide), if_pos rfl]; rfl
      obtain ⟨k, n, f, t, na, nl, nc, ia, il, ic⟩ := x
      simp only at p1 p2 p3 p4 p5 p6
      rw [h6] at p1
      subst p1 p2 p3 p4 p5 p6
      have HB := hid (vBlk w ⟨6, v.n, v.f, v.t, na, v.ns.length, nc, ia, v.its.length, ic⟩)
      have HF := hid (vFr w ⟨6, v.n, v.f, v.t, na, v.ns.length, nc, ia, v.its.length, ic⟩)
      simp only [Vv.v] at *
      generalize itB v.its room = q at *
      generalize rnB v.ns = u at *
      have HBr := hid (fun W => isBare_any W ⟨6, v.n, v.f, v.t, none, 0, 0, none, 0, 0⟩)
      clear h6 h5
      generalize bareB ⟨6, v.n, v.f, v.t, none, 0, 0, none, 0, 0⟩ = r at *
      by_cases hne : v.ns.length = v.its.length
      · have hne' : (((v.ns.length : Nat) : Int) == ((v.its.length : Nat) : Int)) = true := by simp; omega
        rw [decide_eq_true hne] at HQ
        clear hne
        go_enter Tryz.func47, Tryz.ntmps47
        go_wp2_with fail
        refine (HNm.out _ (Env.of HF.out)).mono ?_
        rintro e w1 ⟨rfl, f1⟩
        have hB1 := f1.blk HB.out (fun h => h)
        have HF1 := hid (HF.out.trans f1 (fun _ h => h.elim))
        have HB1 := hid hB1
        obtain ⟨c0, c1, c2, c3, c4, c5⟩ := hB1.six
        have z4 := hB1.frozen 4
        have z5 := hB1.frozen 5
        have HFs := hid ((HF1.out.setCell (p := ⟨w.heap.size, 4, none⟩) (.inr (Nat.le_refl _)) (.slice none 0 0)).setCell (p := ⟨w.heap.size, 5, none⟩) (.inr (Nat.le_refl _)) (.slice none 0 0))
        clear f1 hB1 HNm
        cases u with
        | false =>
          go_wp2_with fail
          go_ret
          exact ⟨by rw [HQ.out]; rfl, HFs.out⟩
        | true =>
          clear HFs
          go_wp2_with fail
          refine (HIt.out _ (Env.of HF1.out)).mono ?_
          rintro e w2 ⟨rfl, f2⟩
          have hB2 := f2.blk HB1.out (fun h => h)
          have HF2 := hid (HF1.out.trans f2 (fun _ h => h.elim))
          clear c0 c1 c2 c3 c4 c5 z4 z5
          obtain ⟨c0, c1, c2, c3, c4, c5⟩ := hB2.six
          have z4 := hB2.frozen 4
          have z5 := hB2.frozen 5
          have HFs := hid ((HF2.out.setCell (p := ⟨w.heap.size, 4, none⟩) (.inr (Nat.le_refl _)) (.slice none 0 0)).setCell (p := ⟨w.heap.size, 5, none⟩) (.inr (Nat.le_refl _)) (.slice none 0 0))
          clear f2 hB2
          cases q with
          | false =>
            go_wp2_with fail
            go_ret
            exact ⟨by rw [HQ.out]; rfl, HFs.out⟩
          | true =>
            go_wp2_with fail
            refine (HBr.out _).mono ?_
            rintro e w3 ⟨rfl, f3⟩
            have HF3 := hid (HFs.out.trans f3 (fun _ h => h.elim))
            clear f3
            go_wp2_with fail
            go_ret
            exact ⟨by rw [HQ.out]; rfl, HF3.out⟩
      · have hne' : (((v.ns.length : Nat) : Int) == ((v.its.length : Nat) : Int)) = false := by simp; omega
        rw [decide_eq_false hne] at HQ
        have HFs := hid (vFr w ⟨6, v.n, v.f, v.t, none, 0, 0, none, 0, 0⟩)
        clear hne
        go_enter Tryz.func47, Tryz.ntmps47
        go_wp2_with fail
        go_ret
        exact ⟨by rw [HQ.out]; rfl, HFs.out⟩
    · have e : rtB v room = rightS x := by
        cases v with
        | mk k n f t ns its =>
          simp only [Vt.k, Vt.n, Vt.f, Vt.t, Vt.ns, Vt.its] at *
          rw [rtB, if_neg h5, if_neg h6]
          exact rightS_same _ _ ⟨p1.symm, p2.symm, p3.symm, p4.symm, p5.symm, p6.symm⟩
      rw [e]
      exact rightWithin_sca w x (room : Int) (by rw [p1]; exact h5) (by rw [p1]; exact h6)
theorem rt_of (v : Vt) : RtOf v := right_tree _ v (Nat.le_refl _)

set_option maxRecDepth 100000 in
set_option maxHeartbeats 2000000 in
theorem right_any {w : World} {v : Vt} {x : Vv} (hx : VIn w v x) : RightOf w x (rtB v 32) := by
  intro W e
  have HF := hid (vFr W x)
  have HR := hid (fun W' (e' : Env w W') => rt_of v x W' 32 (VIn.env e' _ _ hx) (Nat.le_refl _))
  have HE := hid e
  clear hx e
  simp only [Vv.v] at *
  go_enter Tryz.func21, Tryz.ntmps21
  go_wp2_with fail
  refine (HR.out _ (HE.out.trans (Env.of HF.out))).mono ?_
  rintro e1 w1 ⟨rfl, f1⟩
  have HF1 := hid (HF.out.trans f1 (fun _ h => h.elim))
  clear f1
  go_wp2_with fail
  go_ret
  exact ⟨rfl, HF1.out⟩
end Go.Proofs.YtlepjghfcpgbcaaGreatDoor.Tr
