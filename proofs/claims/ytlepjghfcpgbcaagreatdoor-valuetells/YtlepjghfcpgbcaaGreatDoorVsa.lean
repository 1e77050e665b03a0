/- The contract of Same over any values. -/
import Derived.Test.YtlepjghfcpgbcaaGreatDoorVrt
namespace Go.Proofs.YtlepjghfcpgbcaaGreatDoor.Tr
open Go.RowKit

def nanF (f : Nat) : Bool := FloatKind.f64.format.order f f != some Ordering.eq
def samF (f g : Nat) : Bool := decide (f = g) || (nanF f && nanF g)

set_option maxRecDepth 100000 in
set_option maxHeartbeats 1000000 in
theorem sameFloat_any (w : World) (f g : Nat) : Calls Tryz.prog 50 #[.float .f64 f, .float .f64 g] w fun e w' => e = .returned (.bool (samF f g)) ∧ w = w' := by
  have h1 := fun W => fbits_any W f
  have h2 := fun W => fbits_any W g
  have HN := hid (fun W f => isNaN_any W f)
  unfold samF nanF
  by_cases hq : f = g
  · have hq' : (((f : Nat) : Int) == ((g : Nat) : Int)) = true := by simp; omega
    rw [decide_eq_true hq]
    clear hq
    go_enter Tryz.func50, Tryz.ntmps50
    go_wp2_with fail
    go_ret
    exact ⟨rfl, rfl⟩
  · have hq' : (((f : Nat) : Int) == ((g : Nat) : Int)) = false := by simp; omega
    rw [decide_eq_false hq]
    clear hq
    generalize hf : (FloatKind.f64.format.order f f != some Ordering.eq) = nf at *
    generalize hg : (FloatKind.f64.format.order g g != some Ordering.eq) = ng at *
    have Hf : Hid (∀ W, Calls Tryz.prog 70 #[.float .f64 f] W fun e w' => e = .returned (.bool nf) ∧ W = w') := fun W => by rw [← hf]; exact HN.out W f
    have Hg : Hid (∀ W, Calls Tryz.prog 70 #[.float .f64 g] W fun e w' => e = .returned (.bool ng) ∧ W = w') := fun W => by rw [← hg]; exact HN.out W g
    clear hf hg HN
    cases nf with
    | false =>
      go_enter Tryz.func50, Tryz.ntmps50
      go_wp2_with fail
      refine (Hf.out _).mono ?_
      rintro e w1 ⟨rfl, rfl⟩
      go_wp2_with fail
      go_ret
      exact ⟨rfl, rfl⟩
    | true =>
      go_enter Tryz.func50, Tryz.ntmps50
      go_wp2_with fail
      refine (Hf.out _).mono ?_
      rintro e w1 ⟨rfl, rfl⟩
      go_wp2_with fail
      refine (Hg.out _).mono ?_
      rintro e w1 ⟨rfl, rfl⟩
      go_wp2_with fail
      go_ret
      exact ⟨rfl, rfl⟩

/-- slices.Equal of two rows of texts. -/
theorem eqStrs (w : World) (a1 a2 : Option Addr) (c d : Nat) (xs ys : List (List UInt8)) (hx : Strs w a1 xs) (hy : Strs w a2 ys) (hl : xs.length ≤ lim) (hm : ys.length ≤ lim) : Calls Tryz.prog 51 #[.slice a1 xs.length c, .slice a2 ys.length d] w fun e w' => e = .returned (.bool (decide (xs = ys))) ∧ Fr (fun _ => False) w w' := by
  have e0 : lim = 140737488351232 := rfl
  by_cases hxe : xs = []
  · subst hxe
    refine (Tryz.slices_Equal_string_empty a1 a2 c ys.length d w (by omega)).mono fun e w' h => ⟨?_, by rw [h.2]; exact Fr.refl _ _⟩
    rw [h.1]
    have : decide (ys.length = 0) = decide (([] : List (List UInt8)) = ys) := by
      cases ys <;> simp
    rw [this]
  by_cases hlen : xs.length = ys.length
  · have hye : ys ≠ [] := fun h => by rw [h] at hlen; exact hxe (List.eq_nil_of_length_eq_zero (by simpa using hlen))
    obtain ⟨b1, o1, rfl, h1⟩ := hx hxe
    obtain ⟨b2, o2, rfl, h2⟩ := hy hye
    have key := Tryz.slices_Equal_string b1 o1 xs.length c b2 o2 ys.length d (xs.map fun s => ⟨s.toArray⟩) (ys.map fun s => ⟨s.toArray⟩) w (by simp) (by simp) (by omega) (by omega)
      (fun j hj => by
        have hj' : j < xs.length := by simpa using hj
        rw [h1 j hj', List.getD_eq_getElem?_getD, List.getElem?_map, List.getElem?_eq_getElem hj']; rfl)
      (fun j hj => by
        have hj' : j < ys.length := by simpa using hj
        rw [h2 j hj', List.getD_eq_getElem?_getD, List.getElem?_map, List.getElem?_eq_getElem hj']; rfl)
    refine key.mono fun e w' h => ⟨?_, by obtain ⟨q, rfl⟩ := h.2; exact (Fr.refl _ _).drewN q⟩
    rw [h.1, List.take_of_length_le (by simp), List.take_of_length_le (by simp)]
    congr 2
    have inj : ∀ s t : List UInt8, (ByteArray.mk s.toArray = ByteArray.mk t.toArray) → s = t := fun s t h => by
      have := congrArg ByteArray.data h
      simpa using this
    have : (xs.map (fun s => ByteArray.mk s.toArray) = ys.map (fun s => ByteArray.mk s.toArray)) ↔ xs = ys :=
      ⟨fun h => List.map_inj_right (f := fun s : List UInt8 => ByteArray.mk s.toArray) (fun s t h => inj s t h) |>.1 h, fun h => by rw [h]⟩
    exact decide_eq_decide.2 this
  · refine (Tryz.slices_Equal_string_lens a1 a2 xs.length c ys.length d w hlen).mono fun e w' h => ⟨?_, by rw [h.2]; exact Fr.refl _ _⟩
    rw [h.1, decide_eq_false (fun h => hlen (by rw [h]))]

mutual
/-- Are two values alike, field by field? -/
def samB : Vt → Vt → Bool
  | .mk k n f t ns its, v => decide (k = v.k) && (decide (n = v.n) && (samF f v.f && (decide (t = v.t) && (decide (ns = v.ns) && (decide (its.length = v.its.length) && samL its v.its)))))
def samL : List Vt → List Vt → Bool
  | [], _ => true
  | _ :: _, [] => true
  | a :: r, b :: s => samB a b && samL r s
end
theorem samB_eq (u v : Vt) : samB u v = (decide (u.k = v.k) && (decide (u.n = v.n) && (samF u.f v.f && (decide (u.t = v.t) && (decide (u.ns = v.ns) && (decide (u.its.length = v.its.length) && samL u.its v.its)))))) := by
  cases u; rw [samB]; rfl
theorem samL_step (l m : List Vt) (i : Nat) (h1 : i < l.length) (h2 : i < m.length) : samL (l.drop i) (m.drop i) = (samB l[i] m[i] && samL (l.drop (i + 1)) (m.drop (i + 1))) := by
  rw [drop_cons l i h1, drop_cons m i h2, samL]
/-- What Same tells of a value. -/
def SmOf (u : Vt) : Prop := ∀ (v : Vt) (x y : Vv) (w : World), VIn w u x → VIn w v y → Calls Tryz.prog 23 #[x.v, y.v] w fun e w' => e = .returned (.bool (samB u v)) ∧ Fr (fun _ => False) w w'

set_option maxRecDepth 100000 in
set_option maxHeartbeats 4000000 in
theorem eqFunc_of (l m : List Vt) (hR : ∀ u ∈ l, SmOf u) (w : World) (ad bd : Option Addr) (cap dap : Nat) (hI : IIn w l ad) (hJ : IIn w m bd) (hl : l.length ≤ lim) (hm : m.length ≤ lim) : Calls Tryz.prog 52 #[.slice ad l.length cap, .slice bd m.length dap, .func (.func 23) #[] #[]] w fun e w' => e = .returned (.bool (decide (l.length = m.length) && samL l m)) ∧ Fr (fun _ => False) w w' := by
  have hl2 : l.length ≤ 140737488351232 := hl
  have hm2 : m.length ≤ 140737488351232 := hm
  have hst := fun (W : World) (a : Addr) (m : Mode) (f : Nat) => run_store Tryz.prog W a (.float .f64 f) m rfl
  have HR := hid hR
  have HI := hid hI
  have HJ := hid hJ
  clear hR hI hJ hl hm
  by_cases hq : l.length = m.length
  · have hq' : (((l.length : Nat) : Int) != ((m.length : Nat) : Int)) = false := by simp; omega
    rw [decide_eq_true hq, Bool.true_and]
    have HQl := hid hq
    clear hq
    go_enter Tryz.func52, Tryz.ntmps52
    go_wp2_with fail
    go_loopw [7, 8, 9, 17] (fun _ _ _ iv wr => ∃ i : Nat, i ≤ l.length ∧ iv = .int .i64 (i : Int) ∧ samL (l.drop i) (m.drop i) = samL l m ∧ Fr (fun _ => False) w wr) (fun _ _ _ iv _ => l.length - (intOf iv).toNat)
    case atStart => exact ⟨0, Nat.zero_le _, rfl, by simp, Fr.refl _ _⟩
    case round =>
      obtain ⟨i, hi, rfl, hS, hF⟩ := hrel
      have HS := hid hS
      have HF := hid hF
      clear hS hF
      by_cases hlt : i < l.length
      · have hlt' : (i : Int) < ((l.length : Nat) : Int) := by omega
        have hlm : i < m.length := by have := HQl.out; omega
        have hltm : (i : Int) < ((m.length : Nat) : Int) := by omega
        obtain ⟨b, o, e1⟩ := HI.out.some (by intro e; rw [e] at hlt; simp at hlt)
        obtain ⟨b', o', e1'⟩ := HJ.out.some (fun e => by rw [e] at hlm; simp at hlm)
        subst e1 e1'
        obtain ⟨x, e2, e3⟩ := HI.out.get i hlt
        obtain ⟨y, g2, g3⟩ := HJ.out.get i hlm
        have HN : Hid (samL l m = (samB l[i] (m[i]'hlm) && samL (l.drop (i + 1)) (m.drop (i + 1)))) := by
          unfold Hid; rw [← HS.out, samL_step l m i hlt hlm]
        have HFb := hid (HF.out.trans (two_fr wr x y) (fun _ h => h.elim))
        have HC := hid (HR.out l[i] (List.getElem_mem hlt) (m[i]'hlm) x y (vBox (vBox wr x) y) (VIn.env (Env.of HFb.out) _ _ e3) (VIn.env (Env.of HFb.out) _ _ g3))
        obtain ⟨k0, k1, k2, k3, k4, k5⟩ := (e2.env (Env.of HF.out)).six
        have HF1 := hid (HF.out.trans (vFr wr x) (fun _ h => h.elim))
        obtain ⟨j0, j1, j2, j3, j4, j5⟩ := (g2.env (Env.of HF1.out)).six
        generalize samB l[i] (m[i]'hlm) = q at *
        clear e2 e3 g2 g3 HS
        go_wp2_with fail
        refine HC.out.mono ?_
        rintro e w2 ⟨rfl, f2⟩
        have HF2 := hid (HFb.out.trans f2 (fun _ h => h.elim))
        clear f2
        cases q with
        | false =>
          go_wp2_with fail
          go_ret
          exact ⟨by rw [HN.out]; rfl, HF2.out⟩
        | true =>
          go_wp2_with fail
          exact ⟨⟨i + 1, by omega, by first | rfl | (congr 1), by rw [HN.out]; rfl, HF2.out⟩, by simp [intOf]; omega⟩
      · have hlt' : ¬ (i : Int) < ((l.length : Nat) : Int) := by omega
        have HE : Hid (samL l m = true) := by
          unfold Hid
          rw [← HS.out, List.drop_eq_nil_of_le (by omega), samL]
        go_wp2_with fail
        go_ret
        exact ⟨by rw [HE.out]; rfl, HF.out⟩
  · have hq' : (((l.length : Nat) : Int) != ((m.length : Nat) : Int)) = true := by simp; omega
    rw [decide_eq_false hq]
    go_enter Tryz.func52, Tryz.ntmps52
    go_wp2_with fail
    go_ret
    exact ⟨rfl, Fr.refl _ _⟩

set_option maxRecDepth 100000 in
set_option maxHeartbeats 4000000 in
theorem same_tree : ∀ (m : Nat) (u : Vt), SizeOf.sizeOf u ≤ m → SmOf u := by
  intro m
  induction m with
  | zero =>
    intro v hv
    exfalso
    cases v
    simp only [Vt.mk.sizeOf_spec] at hv
    omega
  | succ m ih =>
    intro u hu v x y w hx hy
    have HEF : Hid (∀ (W : World), Env w W → Calls Tryz.prog 52 #[.slice x.ia u.its.length x.ic, .slice y.ia v.its.length y.ic, .func (.func 23) #[] #[]] W fun e w' => e = .returned (.bool (decide (u.its.length = v.its.length) && samL u.its v.its)) ∧ Fr (fun _ => False) W w') := fun W e =>
      eqFunc_of u.its v.its (fun z hz => ih z (by have := Vt.its_lt hz; omega)) W x.ia y.ia x.ic y.ic (IIn.env e _ _ hx.parts.2.2.2.2) (IIn.env e _ _ hy.parts.2.2.2.2) hx.parts.2.2.2.1.2.2 hy.parts.2.2.2.1.2.2
    have HEN : Hid (∀ (W : World), Env w W → Calls Tryz.prog 51 #[.slice x.na u.ns.length x.nc, .slice y.na v.ns.length y.nc] W fun e w' => e = .returned (.bool (decide (u.ns = v.ns))) ∧ Fr (fun _ => False) W w') := fun W e =>
      eqStrs W x.na y.na x.nc y.nc u.ns v.ns (hx.parts.2.2.1.2.2.2.env e) (hy.parts.2.2.1.2.2.2.env e) hx.parts.2.2.1.2.2.1 hy.parts.2.2.1.2.2.1
    have HQ := hid (samB_eq u v)
    have HSf := hid (fun W => sameFloat_any W u.f v.f)
    obtain ⟨⟨p1, p2, p3, p4⟩, _, ⟨p5, _, hnl, _⟩, ⟨p6, _, hil⟩, _⟩ := hx.parts
    obtain ⟨⟨r1, r2, r3, r4⟩, _, ⟨r5, _, hnl', _⟩, ⟨r6, _, hil'⟩, _⟩ := hy.parts
    clear ih hu hx hy hnl hil hnl' hil'
    obtain ⟨k, n, f, t, na, nl, nc, ia, il, ic⟩ := x
    obtain ⟨k', n', f', t', na', nl', nc', ia', il', ic'⟩ := y
    simp only at p1 p2 p3 p4 p5 p6 r1 r2 r3 r4 r5 r6
    subst p1 p2 p3 p4 p5 p6 r1 r2 r3 r4 r5 r6
    have HB := hid (two_blk w ⟨u.k, u.n, u.f, u.t, na, u.ns.length, nc, ia, u.its.length, ic⟩ ⟨v.k, v.n, v.f, v.t, na', v.ns.length, nc', ia', v.its.length, ic'⟩)
    have HF := hid (two_fr w ⟨u.k, u.n, u.f, u.t, na, u.ns.length, nc, ia, u.its.length, ic⟩ ⟨v.k, v.n, v.f, v.t, na', v.ns.length, nc', ia', v.its.length, ic'⟩)
    simp only [Vv.v] at *
    generalize (decide (u.its.length = v.its.length) && samL u.its v.its) = qi at *
    generalize decide (u.ns = v.ns) = qn at *
    generalize samF u.f v.f = qf at *
    have ht : (u.t == v.t) = decide (u.t = v.t) := by
      by_cases h : u.t = v.t
      · rw [decide_eq_true h, h]; simp
      · rw [decide_eq_false h]; simpa using h
    generalize decide (u.t = v.t) = qt at *
    by_cases hk : u.k = v.k
    · have hk' : (u.k == v.k) = true := by simpa using hk
      rw [decide_eq_true hk] at HQ
      clear hk
      by_cases hn : u.n = v.n
      · have hn' : (u.n == v.n) = true := by simpa using hn
        rw [decide_eq_true hn] at HQ
        clear hn
        cases qf with
        | false =>
          go_enter Tryz.func23, Tryz.ntmps23
          go_wp2_with fail
          refine (HSf.out _).mono ?_
          rintro e w1 ⟨rfl, rfl⟩
          go_wp2_with fail
          go_ret
          exact ⟨by rw [HQ.out]; rfl, HF.out⟩
        | true =>
          cases qt with
          | false =>
            go_enter Tryz.func23, Tryz.ntmps23
            go_wp2_with fail
            refine (HSf.out _).mono ?_
            rintro e w1 ⟨rfl, rfl⟩
            go_wp2_with fail
            go_ret
            exact ⟨by rw [HQ.out]; rfl, HF.out⟩
          | true =>
            go_enter Tryz.func23, Tryz.ntmps23
            go_wp2_with fail
            refine (HSf.out _).mono ?_
            rintro e w1 ⟨rfl, rfl⟩
            go_wp2_with fail
            refine (HEN.out _ (Env.of HF.out)).mono ?_
            rintro e w2 ⟨rfl, f2⟩
            have HB2 := hid (And.intro (f2.blk HB.out.1 (fun h => h)) (f2.blk HB.out.2 (fun h => h)))
            have HF2 := hid (HF.out.trans f2 (fun _ h => h.elim))
            clear f2 HB HF
            cases qn with
            | false =>
              go_wp2_with fail
              go_ret
              exact ⟨by rw [HQ.out]; rfl, HF2.out⟩
            | true =>
              obtain ⟨c0, c1, c2, c3, c4, c5⟩ := HB2.out.1.six
              obtain ⟨d0, d1, d2, d3, d4, d5⟩ := HB2.out.2.six
              go_wp2_with fail
              refine (HEF.out _ (Env.of HF2.out)).mono ?_
              rintro e w3 ⟨rfl, f3⟩
              have HF3 := hid (HF2.out.trans f3 (fun _ h => h.elim))
              clear f3
              go_wp2_with fail
              go_ret
              exact ⟨by rw [HQ.out]; rfl, HF3.out⟩
      · have hn' : (u.n == v.n) = false := by simpa using hn
        rw [decide_eq_false hn] at HQ
        clear hn
        go_enter Tryz.func23, Tryz.ntmps23
        go_wp2_with fail
        go_ret
        exact ⟨by rw [HQ.out]; rfl, HF.out⟩
    · have hk' : (u.k == v.k) = false := by simpa using hk
      rw [decide_eq_false hk] at HQ
      clear hk
      go_enter Tryz.func23, Tryz.ntmps23
      go_wp2_with fail
      go_ret
      exact ⟨by rw [HQ.out]; rfl, HF.out⟩
theorem sm_of (u : Vt) : SmOf u := same_tree _ u (Nat.le_refl _)
end Go.Proofs.YtlepjghfcpgbcaaGreatDoor.Tr
