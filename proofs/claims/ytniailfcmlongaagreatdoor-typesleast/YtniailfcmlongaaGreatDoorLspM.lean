import Derived.Test.YtniailfcmlongaaGreatDoorTtkM
import Derived.Test.YtniailfcmlongaaGreatDoorShf
/- The contract of Same over any values. -/
namespace Go.Proofs.YtniailfcmlongaaGreatDoor.Tr
open Go.RowKit

def nanF (f : Nat) : Bool := FloatKind.f64.format.order f f != some Ordering.eq
def samF (f g : Nat) : Bool := decide (f = g) || (nanF f && nanF g)

set_option maxRecDepth 100000 in
theorem isNaN_any (w : World) (f : Nat) : Calls Tryz.prog 157 #[.float .f64 f] w fun e w' => e = .returned (.bool (FloatKind.f64.format.order f f != some Ordering.eq)) ∧ w = w' := by
  go_enter Tryz.func157, Tryz.ntmps157
  go_wp2
  go_ret
  exact ⟨rfl, rfl⟩
set_option maxRecDepth 100000 in
set_option maxHeartbeats 1000000 in
theorem sameFloat_any (w : World) (f g : Nat) : Calls Tryz.prog 137 #[.float .f64 f, .float .f64 g] w fun e w' => e = .returned (.bool (samF f g)) ∧ w = w' := by
  have h1 := fun W => fbits_any W f
  have h2 := fun W => fbits_any W g
  have HN := hid (fun W f => isNaN_any W f)
  unfold samF nanF
  by_cases hq : f = g
  · have hq' : (((f : Nat) : Int) == ((g : Nat) : Int)) = true := by simp; omega
    rw [decide_eq_true hq]
    clear hq
    go_enter Tryz.func137, Tryz.ntmps137
    go_wp2_with fail
    go_ret
    exact ⟨rfl, rfl⟩
  · have hq' : (((f : Nat) : Int) == ((g : Nat) : Int)) = false := by simp; omega
    rw [decide_eq_false hq]
    clear hq
    generalize hf : (FloatKind.f64.format.order f f != some Ordering.eq) = nf at *
    generalize hg : (FloatKind.f64.format.order g g != some Ordering.eq) = ng at *
    have Hf : Hid (∀ W, Calls Tryz.prog 157 #[.float .f64 f] W fun e w' => e = .returned (.bool nf) ∧ W = w') := fun W => by rw [← hf]; exact HN.out W f
    have Hg : Hid (∀ W, Calls Tryz.prog 157 #[.float .f64 g] W fun e w' => e = .returned (.bool ng) ∧ W = w') := fun W => by rw [← hg]; exact HN.out W g
    clear hf hg HN
    cases nf with
    | false =>
      go_enter Tryz.func137, Tryz.ntmps137
      go_wp2_with fail
      refine (Hf.out _).mono ?_
      rintro e w1 ⟨rfl, rfl⟩
      go_wp2_with fail
      go_ret
      exact ⟨rfl, rfl⟩
    | true =>
      go_enter Tryz.func137, Tryz.ntmps137
      go_wp2_with fail
      refine (Hf.out _).mono ?_
      rintro e w1 ⟨rfl, rfl⟩
      go_wp2_with fail
      refine (Hg.out _).mono ?_
      rintro e w1 ⟨rfl, rfl⟩
      go_wp2_with fail
      go_ret
      exact ⟨rfl, rfl⟩

/-- slices.Equal of two rows of texts. -/
theorem eqStrs (w : World) (a1 a2 : Option Addr) (c d : Nat) (xs ys : List (List UInt8)) (hx : Strs w a1 xs) (hy : Strs w a2 ys) (hl : xs.length ≤ lim) (hm : ys.length ≤ lim) : Calls Tryz.prog 118 #[.slice a1 xs.length c, .slice a2 ys.length d] w fun e w' => e = .returned (.bool (decide (xs = ys))) ∧ Fr (fun _ => False) w w' := by
  have e0 : lim = 140737488351232 := rfl
  by_cases hxe : xs = []
  · subst hxe
    refine (Tryz.slices_Equal_string_empty a1 a2 c ys.length d w (by omega)).mono fun e w' h => ⟨?_, by rw [h.2]; exact Fr.refl _ _⟩
    rw [h.1]
    have : decide (ys.length = 0) = decide (([] : List (List UInt8)) = ys) := by
      cases ys <;> simp
    rw [this]
  by_cases hlen : xs.length = ys.length
  · have hye : ys ≠ [] := fun h => by rw [h] at hlen; exact hxe (List.eq_nil_of_length_eq_zero (by simpa using hlen))
    obtain ⟨b1, o1, rfl, h1⟩ := hx hxe
    obtain ⟨b2, o2, rfl, h2⟩ := hy hye
    have key := Tryz.slices_Equal_string b1 o1 xs.length c b2 o2 ys.length d (xs.map fun s => ⟨s.toArray⟩) (ys.map fun s => ⟨s.toArray⟩) w (by simp) (by simp) (by omega) (by omega)
      (fun j hj => by
        have hj' : j < xs.length := by simpa using hj
        rw [h1 j hj', List.getD_eq_getElem?_getD, List.getElem?_map, List.getElem?_eq_getElem hj']; rfl)
      (fun j hj => by
        have hj' : j < ys.length := by simpa using hj
        rw [h2 j hj', List.getD_eq_getElem?_getD, List.getElem?_map, List.getElem?_eq_getElem hj']; rfl)
    refine key.mono fun e w' h => ⟨?_, by obtain ⟨q, rfl⟩ := h.2; exact (Fr.refl _ _).drewN q⟩
    rw [h.1, List.take_of_length_le (by simp), List.take_of_length_le (by simp)]
    congr 2
    have inj : ∀ s t : List UInt8, (ByteArray.mk s.toArray = ByteArray.mk t.toArray) → s = t := fun s t h => by
      have := congrArg ByteArray.data h
      simpa using this
    have : (xs.map (fun s => ByteArray.mk s.toArray) = ys.map (fun s => ByteArray.mk s.toArray)) ↔ xs = ys :=
      ⟨fun h => List.map_inj_right (f := fun s : List UInt8 => ByteArray.mk s.toArray) (fun s t h => inj s t h) |>.1 h, fun h => by rw [h]⟩
    exact decide_eq_decide.2 this
  · refine (Tryz.slices_Equal_string_lens a1 a2 xs.length c ys.length d w hlen).mono fun e w' h => ⟨?_, by rw [h.2]; exact Fr.refl _ _⟩
    rw [h.1, decide_eq_false (fun h => hlen (by rw [h]))]

mutual
/-- Are two values alike, field by field? -/
def samB : Vt → Vt → Bool
  | .mk k n f t ns its, v => decide (k = v.k) && (decide (n = v.n) && (samF f v.f && (decide (t = v.t) && (decide (ns = v.ns) && (decide (its.length = v.its.length) && samL its v.its)))))
def samL : List Vt → List Vt → Bool
  | [], _ => true
  | _ :: _, [] => true
  | a :: r, b :: s => samB a b && samL r s
end
theorem samB_eq (u v : Vt) : samB u v = (decide (u.k = v.k) && (decide (u.n = v.n) && (samF u.f v.f && (decide (u.t = v.t) && (decide (u.ns = v.ns) && (decide (u.its.length = v.its.length) && samL u.its v.its)))))) := by
  cases u; rw [samB]; rfl
theorem samL_step (l m : List Vt) (i : Nat) (h1 : i < l.length) (h2 : i < m.length) : samL (l.drop i) (m.drop i) = (samB l[i] m[i] && samL (l.drop (i + 1)) (m.drop (i + 1))) := by
  rw [drop_cons l i h1, drop_cons m i h2, samL]
/-- What Same tells of a value. -/
def SmOf (u : Vt) : Prop := ∀ (v : Vt) (x y : Vv) (w : World), VIn w u x → VIn w v y → Calls Tryz.prog 119 #[x.v, y.v] w fun e w' => e = .returned (.bool (samB u v)) ∧ Fr (fun _ => False) w w'

set_option maxRecDepth 100000 in
set_option maxHeartbeats 4000000 in
theorem eqFunc_of (l m : List Vt) (hR : ∀ u ∈ l, SmOf u) (w : World) (ad bd : Option Addr) (cap dap : Nat) (hI : IIn w l ad) (hJ : IIn w m bd) (hl : l.length ≤ lim) (hm : m.length ≤ lim) : Calls Tryz.prog 138 #[.slice ad l.length cap, .slice bd m.length dap, .func (.func 119) #[] #[]] w fun e w' => e = .returned (.bool (decide (l.length = m.length) && samL l m)) ∧ Fr (fun _ => False) w w' := by
  have hl2 : l.length ≤ 140737488351232 := hl
  have hm2 : m.length ≤ 140737488351232 := hm
  have hst := fun (W : World) (a : Addr) (m : Mode) (f : Nat) => run_store Tryz.prog W a (.float .f64 f) m rfl
  have HR := hid hR
  have HI := hid hI
  have HJ := hid hJ
  clear hR hI hJ hl hm
  by_cases hq : l.length = m.length
  · have hq' : (((l.length : Nat) : Int) != ((m.length : Nat) : Int)) = false := by simp; omega
    rw [decide_eq_true hq, Bool.true_and]
    have HQl := hid hq
    clear hq
    go_enter Tryz.func138, Tryz.ntmps138
    go_wp2_with fail
    go_loopw [7, 8, 9, 17] (fun _ _ _ iv wr => ∃ i : Nat, i ≤ l.length ∧ iv = .int .i64 (i : Int) ∧ samL (l.drop i) (m.drop i) = samL l m ∧ Fr (fun _ => False) w wr) (fun _ _ _ iv _ => l.length - (intOf iv).toNat)
    case atStart => exact ⟨0, Nat.zero_le _, rfl, by simp, Fr.refl _ _⟩
    case round =>
      obtain ⟨i, hi, rfl, hS, hF⟩ := hrel
      have HS := hid hS
      have HF := hid hF
      clear hS hF
      by_cases hlt : i < l.length
      · have hlt' : (i : Int) < ((l.length : Nat) : Int) := by omega
        have hlm : i < m.length := by have := HQl.out; omega
        have hltm : (i : Int) < ((m.length : Nat) : Int) := by omega
        obtain ⟨b, o, e1⟩ := HI.out.some (by intro e; rw [e] at hlt; simp at hlt)
        obtain ⟨b', o', e1'⟩ := HJ.out.some (fun e => by rw [e] at hlm; simp at hlm)
        subst e1 e1'
        obtain ⟨x, e2, e3⟩ := HI.out.get i hlt
        obtain ⟨y, g2, g3⟩ := HJ.out.get i hlm
        have HN : Hid (samL l m = (samB l[i] (m[i]'hlm) && samL (l.drop (i + 1)) (m.drop (i + 1)))) := by
          unfold Hid; rw [← HS.out, samL_step l m i hlt hlm]
        have HFb := hid (HF.out.trans (two_fr wr x y) (fun _ h => h.elim))
        have HC := hid (HR.out l[i] (List.getElem_mem hlt) (m[i]'hlm) x y (vBox (vBox wr x) y) (VIn.env (Env.of HFb.out) _ _ e3) (VIn.env (Env.of HFb.out) _ _ g3))
        obtain ⟨k0, k1, k2, k3, k4, k5⟩ := (e2.env (Env.of HF.out)).six
        have HF1 := hid (HF.out.trans (vFr wr x) (fun _ h => h.elim))
        obtain ⟨j0, j1, j2, j3, j4, j5⟩ := (g2.env (Env.of HF1.out)).six
        generalize samB l[i] (m[i]'hlm) = q at *
        clear e2 e3 g2 g3 HS
        go_wp2_with fail
        refine HC.out.mono ?_
        rintro e w2 ⟨rfl, f2⟩
        have HF2 := hid (HFb.out.trans f2 (fun _ h => h.elim))
        clear f2
        cases q with
        | false =>
          go_wp2_with fail
          go_ret
          exact ⟨by rw [HN.out]; rfl, HF2.out⟩
        | true =>
          go_wp2_with fail
          exact ⟨⟨i + 1, by omega, by first | rfl | (congr 1), by rw [HN.out]; rfl, HF2.out⟩, by simp [intOf]; omega⟩
      · have hlt' : ¬ (i : Int) < ((l.length : Nat) : Int) := by omega
        have HE : Hid (samL l m = true) := by
          unfold Hid
          rw [← HS.out, List.drop_eq_nil_of_le (by omega), samL]
        go_wp2_with fail
        go_ret
        exact ⟨by rw [HE.out]; rfl, HF.out⟩
  · have hq' : (((l.length : Nat) : Int) != ((m.length : Nat) : Int)) = true := by simp; omega
    rw [decide_eq_false hq]
    go_enter Tryz.func138, Tryz.ntmps138
    go_wp2_with fail
    go_ret
    exact ⟨rfl, Fr.refl _ _⟩

set_option maxRecDepth 100000 in
set_option maxHeartbeats 4000000 in
theorem same_tree : ∀ (m : Nat) (u : Vt), SizeOf.sizeOf u ≤ m → SmOf u := by
  intro m
  induction m with
  | zero =>
    intro v hv
    exfalso
    cases v
    simp only [Vt.mk.sizeOf_spec] at hv
    omega
  | succ m ih =>
    intro u hu v x y w hx hy
    have HEF : Hid (∀ (W : World), Env w W → Calls Tryz.prog 138 #[.slice x.ia u.its.length x.ic, .slice y.ia v.its.length y.ic, .func (.func 119) #[] #[]] W fun e w' => e = .returned (.bool (decide (u.its.length = v.its.length) && samL u.its v.its)) ∧ Fr (fun _ => False) W w') := fun W e =>
      eqFunc_of u.its v.its (fun z hz => ih z (by have := Vt.its_lt hz; omega)) W x.ia y.ia x.ic y.ic (IIn.env e _ _ hx.parts.2.2.2.2) (IIn.env e _ _ hy.parts.2.2.2.2) hx.parts.2.2.2.1.2.2 hy.parts.2.2.2.1.2.2
    have HEN : Hid (∀ (W : World), Env w W → Calls Tryz.prog 118 #[.slice x.na u.ns.length x.nc, .slice y.na v.ns.length y.nc] W fun e w' => e = .returned (.bool (decide (u.ns = v.ns))) ∧ Fr (fun _ => False) W w') := fun W e =>
      eqStrs W x.na y.na x.nc y.nc u.ns v.ns (hx.parts.2.2.1.2.2.2.env e) (hy.parts.2.2.1.2.2.2.env e) hx.parts.2.2.1.2.2.1 hy.parts.2.2.1.2.2.1
    have HQ := hid (samB_eq u v)
    have HSf := hid (fun W => sameFloat_any W u.f v.f)
    obtain ⟨⟨p1, p2, p3, p4⟩, _, ⟨p5, _, hnl, _⟩, ⟨p6, _, hil⟩, _⟩ := hx.parts
    obtain ⟨⟨r1, r2, r3, r4⟩, _, ⟨r5, _, hnl', _⟩, ⟨r6, _, hil'⟩, _⟩ := hy.parts
    clear ih hu hx hy hnl hil hnl' hil'
    obtain ⟨k, n, f, t, na, nl, nc, ia, il, ic⟩ := x
    obtain ⟨k', n', f', t', na', nl', nc', ia', il', ic'⟩ := y
    simp only at p1 p2 p3 p4 p5 p6 r1 r2 r3 r4 r5 r6
    subst p1 p2 p3 p4 p5 p6 r1 r2 r3 r4 r5 r6
    have HB := hid (two_blk w ⟨u.k, u.n, u.f, u.t, na, u.ns.length, nc, ia, u.its.length, ic⟩ ⟨v.k, v.n, v.f, v.t, na', v.ns.length, nc', ia', v.its.length, ic'⟩)
    have HF := hid (two_fr w ⟨u.k, u.n, u.f, u.t, na, u.ns.length, nc, ia, u.its.length, ic⟩ ⟨v.k, v.n, v.f, v.t, na', v.ns.length, nc', ia', v.its.length, ic'⟩)
    simp only [Vv.v] at *
    generalize (decide (u.its.length = v.its.length) && samL u.its v.its) = qi at *
    generalize decide (u.ns = v.ns) = qn at *
    generalize samF u.f v.f = qf at *
    have ht : (u.t == v.t) = decide (u.t = v.t) := by
      by_cases h : u.t = v.t
      · rw [decide_eq_true h, h]; simp
      · rw [decide_eq_false h]; simpa using h
    generalize decide (u.t = v.t) = qt at *
    by_cases hk : u.k = v.k
    · have hk' : (u.k == v.k) = true := by simpa using hk
      rw [decide_eq_true hk] at HQ
      clear hk
      by_cases hn : u.n = v.n
      · have hn' : (u.n == v.n) = true := by simpa using hn
        rw [decide_eq_true hn] at HQ
        clear hn
        cases qf with
        | false =>
          go_enter Tryz.func119, Tryz.ntmps119
          go_wp2_with fail
          refine (HSf.out _).mono ?_
          rintro e w1 ⟨rfl, rfl⟩
          go_wp2_with fail
          go_ret
          exact ⟨by rw [HQ.out]; rfl, HF.out⟩
        | true =>
          cases qt with
          | false =>
            go_enter Tryz.func119, Tryz.ntmps119
            go_wp2_with fail
            refine (HSf.out _).mono ?_
            rintro e w1 ⟨rfl, rfl⟩
            go_wp2_with fail
            go_ret
            exact ⟨by rw [HQ.out]; rfl, HF.out⟩
          | true =>
            go_enter Tryz.func119, Tryz.ntmps119
            go_wp2_with fail
            refine (HSf.out _).mono ?_
            rintro e w1 ⟨rfl, rfl⟩
            go_wp2_with fail
            refine (HEN.out _ (Env.of HF.out)).mono ?_
            rintro e w2 ⟨rfl, f2⟩
            have HB2 := hid (And.intro (f2.blk HB.out.1 (fun h => h)) (f2.blk HB.out.2 (fun h => h)))
            have HF2 := hid (HF.out.trans f2 (fun _ h => h.elim))
            clear f2 HB HF
            cases qn with
            | false =>
              go_wp2_with fail
              go_ret
              exact ⟨by rw [HQ.out]; rfl, HF2.out⟩
            | true =>
              obtain ⟨c0, c1, c2, c3, c4, c5⟩ := HB2.out.1.six
              obtain ⟨d0, d1, d2, d3, d4, d5⟩ := HB2.out.2.six
              go_wp2_with fail
              refine (HEF.out _ (Env.of HF2.out)).mono ?_
              rintro e w3 ⟨rfl, f3⟩
              have HF3 := hid (HF2.out.trans f3 (fun _ h => h.elim))
              clear f3
              go_wp2_with fail
              go_ret
              exact ⟨by rw [HQ.out]; rfl, HF3.out⟩
      · have hn' : (u.n == v.n) = false := by simpa using hn
        rw [decide_eq_false hn] at HQ
        clear hn
        go_enter Tryz.func119, Tryz.ntmps119
        go_wp2_with fail
        go_ret
        exact ⟨by rw [HQ.out]; rfl, HF.out⟩
    · have hk' : (u.k == v.k) = false := by simpa using hk
      rw [decide_eq_false hk] at HQ
      clear hk
      go_enter Tryz.func119, Tryz.ntmps119
      go_wp2_with fail
      go_ret
      exact ⟨by rw [HQ.out]; rfl, HF.out⟩
theorem sm_of (u : Vt) : SmOf u := same_tree _ u (Nat.le_refl _)
end Go.Proofs.YtniailfcmlongaaGreatDoor.Tr
/- The contract of equal and Equal over any values. -/
namespace Go.Proofs.YtniailfcmlongaaGreatDoor.Tr
open Go.RowKit

/-- A value's number alone. -/
def Vt.nv (v : Vt) : Vv := ⟨v.k, v.n, v.f, [], none, 0, 0, none, 0, 0⟩
mutual
/-- Are two values equal, and what is told with it? -/
def eqV : Vt → Vt → Bool × Int
  | .mk k n f t ns its, v =>
    if (numB ⟨k, n, f, [], none, 0, 0, none, 0, 0⟩ && numB v.nv) = true then (eqN ⟨k, n, f, [], none, 0, 0, none, 0, 0⟩ v.nv, 0)
    else if k ≠ v.k then (false, 0)
    else if k = 7 then (false, 11)
    else if k = 5 then (if its.length ≠ v.its.length then (false, 0) else eqI its v.its)
    else if k = 6 then (if ns = v.ns then (if its.length ≠ v.its.length then (false, 0) else eqI its v.its) else (false, 0))
    else (samB (.mk k n f t ns its) v, 0)
def eqI : List Vt → List Vt → Bool × Int
  | [], _ => (true, 0)
  | _ :: _, [] => (true, 0)
  | a :: r, b :: s => if (eqV a b).1 = true then eqI r s else (false, (eqV a b).2)
end
def eqLs (l m : List Vt) : Bool × Int := if l.length ≠ m.length then (false, 0) else eqI l m
theorem eqV_eq (u v : Vt) : eqV u v = if (numB u.nv && numB v.nv) = true then (eqN u.nv v.nv, 0) else if u.k ≠ v.k then (false, 0) else if u.k = 7 then (false, 11) else if u.k = 5 then eqLs u.its v.its else if u.k = 6 then (if u.ns = v.ns then eqLs u.its v.its else (false, 0)) else (samB u v, 0) := by
  cases u; rw [eqV]; rfl
theorem eqI_step (l m : List Vt) (i : Nat) (h1 : i < l.length) (h2 : i < m.length) : eqI (l.drop i) (m.drop i) = if (eqV l[i] m[i]).1 = true then eqI (l.drop (i + 1)) (m.drop (i + 1)) else (false, (eqV l[i] m[i]).2) := by
  rw [drop_cons l i h1, drop_cons m i h2, eqI]
/-- What equal tells of a value. -/
def EqOf (u : Vt) : Prop := ∀ (v : Vt) (x y : Vv) (w : World), VIn w u x → VIn w v y → Calls Tryz.prog 100 #[x.v, y.v] w fun e w' => e = .returned (.tuple #[.bool (eqV u v).1, .int .i64 (eqV u v).2]) ∧ Fr (fun _ => False) w w'

abbrev sixB (W : World) (b p : Nat) (x : Vv) : Prop := W.cell? ⟨b, p, none⟩ = some (.int .i64 x.k) ∧ W.cell? ⟨b, p + 1, none⟩ = some (.int .i64 x.n) ∧ W.cell? ⟨b, p + 2, none⟩ = some (.float .f64 x.f) ∧ W.cell? ⟨b, p + 3, none⟩ = some (.string ⟨x.t.toArray⟩) ∧ W.cell? ⟨b, p + 4, none⟩ = some (.slice x.na x.nl x.nc) ∧ W.cell? ⟨b, p + 5, none⟩ = some (.slice x.ia x.il x.ic)

set_option maxRecDepth 100000 in
set_option maxHeartbeats 4000000 in
theorem equalItems_of (l m : List Vt) (hR : ∀ u ∈ l, EqOf u) (w : World) (ad bd : Option Addr) (cap dap : Nat) (hI : IIn w l ad) (hJ : IIn w m bd) (hl : l.length ≤ lim) (hm : m.length ≤ lim) : Calls Tryz.prog 117 #[.slice ad l.length cap, .slice bd m.length dap] w fun e w' => e = .returned (.tuple #[.bool (eqLs l m).1, .int .i64 (eqLs l m).2]) ∧ Fr (fun _ => False) w w' := by
  have hl2 : l.length ≤ 140737488351232 := hl
  have hm2 : m.length ≤ 140737488351232 := hm
  have HR := hid hR
  have HI := hid hI
  have HJ := hid hJ
  clear hR hI hJ hl hm
  unfold eqLs
  by_cases hq : l.length = m.length
  · have hq' : (((l.length : Nat) : Int) != ((m.length : Nat) : Int)) = false := by simp; omega
    rw [if_neg (fun h => h hq)]
    have HQl := hid hq
    clear hq
    obtain ⟨R, hR0⟩ : ∃ R, R = eqI l m := ⟨_, rfl⟩
    rw [← hR0]
    have HR0 := hid hR0
    clear hR0
    go_enter Tryz.func117, Tryz.ntmps117
    go_wp2_with fail
    go_loopw [6, 7, 8, 16] (fun _ _ _ iv wr => ∃ i : Nat, i ≤ l.length ∧ iv = .int .i64 (i : Int) ∧ eqI (l.drop i) (m.drop i) = R ∧ Fr (fun _ => False) w wr) (fun _ _ _ iv _ => l.length - (intOf iv).toNat)
    case atStart => exact ⟨0, Nat.zero_le _, rfl, by rw [HR0.out]; simp, Fr.refl _ _⟩
    case round =>
      obtain ⟨i, hi, rfl, hS, hF⟩ := hrel
      have HS := hid hS
      have HF := hid hF
      clear hS hF HR0
      by_cases hlt : i < l.length
      · have hlt' : (i : Int) < ((l.length : Nat) : Int) := by omega
        have hlm : i < m.length := by have := HQl.out; omega
        have hltm : (i : Int) < ((m.length : Nat) : Int) := by omega
        obtain ⟨b, o, e1⟩ := HI.out.some (by intro e; rw [e] at hlt; simp at hlt)
        obtain ⟨b', o', e1'⟩ := HJ.out.some (fun e => by rw [e] at hlm; simp at hlm)
        subst e1 e1'
        obtain ⟨x, e2, e3⟩ := HI.out.get i hlt
        obtain ⟨y, g2, g3⟩ := HJ.out.get i hlm
        have HN : Hid (R = if (eqV l[i] (m[i]'hlm)).1 = true then eqI (l.drop (i + 1)) (m.drop (i + 1)) else (false, (eqV l[i] (m[i]'hlm)).2)) := by
          unfold Hid; rw [← HS.out, eqI_step l m i hlt hlm]
        have HC := hid (HR.out l[i] (List.getElem_mem hlt) (m[i]'hlm) x y wr (VIn.env (Env.of HF.out) _ _ e3) (VIn.env (Env.of HF.out) _ _ g3))
        have HK : Hid (∀ W', Fr (fun _ => False) wr W' → sixB W' b (o + i * 6) x ∧ sixB W' b' (o' + i * 6) y) := fun W' hf => ⟨(e2.env (Env.of (HF.out.trans hf (fun _ h => h.elim)))).six, (g2.env (Env.of (HF.out.trans hf (fun _ h => h.elim)))).six⟩
        have HC2 : Hid (Calls Tryz.prog 100 #[x.v, y.v] wr.drew fun e w' => e = .returned (.tuple #[.bool (eqV l[i] (m[i]'hlm)).1, .int .i64 (eqV l[i] (m[i]'hlm)).2]) ∧ Fr (fun _ => False) wr.drew w') := HR.out l[i] (List.getElem_mem hlt) (m[i]'hlm) x y wr.drew (VIn.env (Env.of HF.out.drew) _ _ e3) (VIn.env (Env.of HF.out.drew) _ _ g3)
        generalize eqV l[i] (m[i]'hlm) = q at *
        obtain ⟨q, qe⟩ := q
        clear e2 e3 g2 g3 HS HC
        go_wp2_with fail
        go_region_held3 (fun W' => sixB W' b (o + i * 6) x ∧ sixB W' b' (o' + i * 6) y)
          (first | exact HK.out _ (Fr.refl _ _).drew | exact HK.out _ F1.out)
          ((go_at_call 100; refine HC2.out.mono ?_; rintro e w2 ⟨rfl, f2⟩; have F1 : Hid (Fr (fun _ => False) wr w2) := (Fr.refl _ wr).drew.trans f2 (fun _ h => h.elim)))
        have HF2 := hid (HF.out.trans F1.out (fun _ h => h.elim))
        cases q with
        | false =>
          go_wp2_with fail
          go_ret2
          exact ⟨by rw [HN.out]; rfl, HF2.out⟩
        | true =>
          go_wp2_with fail
          exact ⟨⟨i + 1, by omega, by first | rfl | (congr 1), by rw [HN.out]; rfl, HF2.out⟩, by simp [intOf]; omega⟩
      · have hlt' : ¬ (i : Int) < ((l.length : Nat) : Int) := by omega
        have HE : Hid (R = (true, 0)) := by
          unfold Hid
          rw [← HS.out, List.drop_eq_nil_of_le (by omega), eqI]
        go_wp2_with fail
        go_ret2
        exact ⟨by rw [HE.out]; rfl, HF.out⟩
  · have hq' : (((l.length : Nat) : Int) != ((m.length : Nat) : Int)) = true := by simp; omega
    rw [if_pos hq]
    go_enter Tryz.func117, Tryz.ntmps117
    go_wp2_with fail
    go_ret2
    exact ⟨rfl, Fr.refl _ _⟩

set_option maxRecDepth 100000 in
set_option maxHeartbeats 4000000 in
theorem equal_tree : ∀ (m : Nat) (u : Vt), SizeOf.sizeOf u ≤ m → EqOf u := by
  intro m
  induction m with
  | zero =>
    intro v hv
    exfalso
    cases v
    simp only [Vt.mk.sizeOf_spec] at hv
    omega
  | succ m ih =>
    intro u hu v x y w hx hy
    have HEI : Hid (∀ (W : World), Env w W → Calls Tryz.prog 117 #[.slice x.ia u.its.length x.ic, .slice y.ia v.its.length y.ic] W fun e w' => e = .returned (.tuple #[.bool (eqLs u.its v.its).1, .int .i64 (eqLs u.its v.its).2]) ∧ Fr (fun _ => False) W w') := fun W e =>
      equalItems_of u.its v.its (fun z hz => ih z (by have := Vt.its_lt hz; omega)) W x.ia y.ia x.ic y.ic (IIn.env e _ _ hx.parts.2.2.2.2) (IIn.env e _ _ hy.parts.2.2.2.2) hx.parts.2.2.2.1.2.2 hy.parts.2.2.2.1.2.2
    have HEN : Hid (∀ (W : World), Env w W → Calls Tryz.prog 118 #[.slice x.na u.ns.length x.nc, .slice y.na v.ns.length y.nc] W fun e w' => e = .returned (.bool (decide (u.ns = v.ns))) ∧ Fr (fun _ => False) W w') := fun W e =>
      eqStrs W x.na y.na x.nc y.nc u.ns v.ns (hx.parts.2.2.1.2.2.2.env e) (hy.parts.2.2.1.2.2.2.env e) hx.parts.2.2.1.2.2.1 hy.parts.2.2.1.2.2.1
    have HSm : Hid (∀ (W : World), Env w W → Calls Tryz.prog 119 #[x.v, y.v] W fun e w' => e = .returned (.bool (samB u v)) ∧ Fr (fun _ => False) W w') := fun W e => sm_of u v x y W (VIn.env e _ _ hx) (VIn.env e _ _ hy)
    have HQ := hid (eqV_eq u v)
    have HN := hid (fun W => areNumbers_any W x y)
    have HEq := hid (fun W => equalNumbers_any W x y)
    have HB := hid (two_blk w x y)
    have HF := hid (two_fr w x y)
    obtain ⟨⟨p1, p2, p3, p4⟩, _, ⟨p5, _, hnl, _⟩, ⟨p6, _, hil⟩, _⟩ := hx.parts
    obtain ⟨⟨r1, r2, r3, r4⟩, _, ⟨r5, _, hnl', _⟩, ⟨r6, _, hil'⟩, _⟩ := hy.parts
    clear ih hu hx hy hnl hil hnl' hil'
    obtain ⟨k, n, f, t, na, nl, nc, ia, il, ic⟩ := x
    obtain ⟨k', n', f', t', na', nl', nc', ia', il', ic'⟩ := y
    simp only at p1 p2 p3 p4 p5 p6 r1 r2 r3 r4 r5 r6
    subst p1 p2 p3 p4 p5 p6 r1 r2 r3 r4 r5 r6
    have en : (numB ⟨u.k, u.n, u.f, u.t, na, u.ns.length, nc, ia, u.its.length, ic⟩ && numB ⟨v.k, v.n, v.f, v.t, na', v.ns.length, nc', ia', v.its.length, ic'⟩) = (numB u.nv && numB v.nv) := rfl
    have ee : eqN ⟨u.k, u.n, u.f, u.t, na, u.ns.length, nc, ia, u.its.length, ic⟩ ⟨v.k, v.n, v.f, v.t, na', v.ns.length, nc', ia', v.its.length, ic'⟩ = eqN u.nv v.nv := rfl
    rw [en] at HN
    rw [ee] at HEq
    clear en ee
    simp only [Vv.v] at *
    obtain ⟨R, hR⟩ : ∃ R, R = eqV u v := ⟨_, rfl⟩
    rw [← hR] at HQ ⊢
    clear hR
    generalize eqLs u.its v.its = L at *
    obtain ⟨L1, L2⟩ := L
    obtain ⟨qn, hqn⟩ : ∃ qn, qn = decide (u.ns = v.ns) := ⟨_, rfl⟩
    have HNs : Hid ((qn = true → R = (if u.ns = v.ns then (L1, L2) else (false, 0)) → R = (L1, L2)) ∧ (qn = false → R = (if u.ns = v.ns then (L1, L2) else (false, 0)) → R = (false, 0))) := by
      refine ⟨fun h1 h2 => ?_, fun h1 h2 => ?_⟩
      · rw [h1] at hqn
        rw [if_pos (of_decide_eq_true hqn.symm)] at h2; exact h2
      · rw [h1] at hqn
        rw [if_neg (of_decide_eq_false hqn.symm)] at h2; exact h2
    rw [← hqn] at HEN
    clear hqn
    generalize samB u v = sb at *
    generalize hnb : (numB u.nv && numB v.nv) = nb at *
    clear hnb
    cases nb with
    | true =>
      have HR2 : Hid (R = (eqN u.nv v.nv, 0)) := by unfold Hid; rw [HQ.out]; rfl
      generalize eqN u.nv v.nv = en at *
      clear HQ
      go_enter Tryz.func100, Tryz.ntmps100
      go_wp2_with fail
      refine (HN.out _).mono ?_
      rintro e w1 ⟨rfl, f1⟩
      have HB1 := hid (And.intro (f1.blk HB.out.1 (fun h => h)) (f1.blk HB.out.2 (fun h => h)))
      have HF1 := hid (HF.out.trans f1 (fun _ h => h.elim))
      clear f1 HB HF HN
      obtain ⟨c0, c1, c2, c3, c4, c5⟩ := HB1.out.1.six
      obtain ⟨d0, d1, d2, d3, d4, d5⟩ := HB1.out.2.six
      go_wp2_with fail
      refine (HEq.out _).mono ?_
      rintro e w2 ⟨rfl, f2⟩
      have HF2 := hid (HF1.out.trans f2 (fun _ h => h.elim))
      clear f2
      go_wp2_with fail
      go_ret2
      exact ⟨by rw [HR2.out]; rfl, HF2.out⟩
    | false =>
      rw [if_neg (by decide)] at HQ
      go_enter Tryz.func100, Tryz.ntmps100
      go_wp2_with fail
      refine (HN.out _).mono ?_
      rintro e w1 ⟨rfl, f1⟩
      have HB1 := hid (And.intro (f1.blk HB.out.1 (fun h => h)) (f1.blk HB.out.2 (fun h => h)))
      have HF1 := hid (HF.out.trans f1 (fun _ h => h.elim))
      clear f1 HB HF HN
      obtain ⟨c0, c1, c2, c3, c4, c5⟩ := HB1.out.1.six
      obtain ⟨d0, d1, d2, d3, d4, d5⟩ := HB1.out.2.six
      by_cases hk : u.k = v.k
      · rw [if_neg (fun h => h hk)] at HQ
        have hk' : (u.k != v.k) = false := by simpa using hk
        clear hk
        by_cases h7 : u.k = 7
        · rw [if_pos h7] at HQ
          have h7' : (u.k == 7) = true := by simpa using h7
          clear h7
          go_wp2_with fail
          go_ret2
          exact ⟨by rw [HQ.out]; rfl, HF1.out⟩
        · rw [if_neg h7] at HQ
          have h7' : (u.k == 7) = false := by simpa using h7
          clear h7
          by_cases h5 : u.k = 5
          · rw [if_pos h5] at HQ
            have h5' : (u.k == 5) = true := by simpa using h5
            clear h5
            go_wp2_with fail
            refine (HEI.out _ (Env.of HF1.out)).mono ?_
            rintro e w2 ⟨rfl, f2⟩
            have HF2 := hid (HF1.out.trans f2 (fun _ h => h.elim))
            clear f2
            go_wp2_with fail
            go_ret2
            exact ⟨by rw [HQ.out]; rfl, HF2.out⟩
          · rw [if_neg h5] at HQ
            have h5' : (u.k == 5) = false := by simpa using h5
            clear h5
            by_cases h6 : u.k = 6
            · rw [if_pos h6] at HQ
              have h6' : (u.k == 6) = true := by simpa using h6
              clear h6
              go_wp2_with fail
              refine (HEN.out _ (Env.of HF1.out)).mono ?_
              rintro e w2 ⟨rfl, f2⟩
              have HB2 := hid (And.intro (f2.blk HB1.out.1 (fun h => h)) (f2.blk HB1.out.2 (fun h => h)))
              have HF2 := hid (HF1.out.trans f2 (fun _ h => h.elim))
              clear f2 HB1 HF1 c0 c1 c2 c3 c4 c5 d0 d1 d2 d3 d4 d5
              obtain ⟨c0, c1, c2, c3, c4, c5⟩ := HB2.out.1.six
              obtain ⟨d0, d1, d2, d3, d4, d5⟩ := HB2.out.2.six
              cases qn with
              | false =>
                have HQ2 : Hid (R = (false, 0)) := HNs.out.2 rfl HQ.out
                clear HQ
                go_wp2_with fail
                go_ret2
                exact ⟨by rw [HQ2.out]; rfl, HF2.out⟩
              | true =>
                have HQ2 : Hid (R = (L1, L2)) := HNs.out.1 rfl HQ.out
                clear HQ
                go_wp2_with fail
                refine (HEI.out _ (Env.of HF2.out)).mono ?_
                rintro e w3 ⟨rfl, f3⟩
                have HF3 := hid (HF2.out.trans f3 (fun _ h => h.elim))
                clear f3
                go_wp2_with fail
                go_ret2
                exact ⟨by rw [HQ2.out]; rfl, HF3.out⟩
            · rw [if_neg h6] at HQ
              have h6' : (u.k == 6) = false := by simpa using h6
              clear h6
              go_wp2_with fail
              refine (HSm.out _ (Env.of HF1.out)).mono ?_
              rintro e w2 ⟨rfl, f2⟩
              have HF2 := hid (HF1.out.trans f2 (fun _ h => h.elim))
              clear f2
              go_wp2_with fail
              go_ret2
              exact ⟨by rw [HQ.out]; rfl, HF2.out⟩
      · rw [if_pos hk] at HQ
        have hk' : (u.k != v.k) = true := by simpa using hk
        clear hk
        go_wp2_with fail
        go_ret2
        exact ⟨by rw [HQ.out]; rfl, HF1.out⟩
theorem eq_of (u : Vt) : EqOf u := equal_tree _ u (Nat.le_refl _)
theorem equal_of {w : World} {u v : Vt} {x y : Vv} (hx : VIn w u x) (hy : VIn w v y) : EqualOf w x y (eqV u v) := fun W e => eq_of u v x y W (VIn.env e _ _ hx) (VIn.env e _ _ hy)
end Go.Proofs.YtniailfcmlongaaGreatDoor.Tr
/- Plain facts for lists: a value is the same as itself, and equal to itself unless it is odd. -/
namespace Go.Proofs.YtniailfcmlongaaGreatDoor.Tr
open Go.RowKit

mutual
theorem sam_refl : ∀ v : Vt, samB v v = true
  | .mk k n f t ns its => by
    rw [samB]
    simp only [Vt.k, Vt.n, Vt.f, Vt.t, Vt.ns, Vt.its, decide_true, Bool.true_and, samF, Bool.true_or]
    exact samL_refl its
theorem samL_refl : ∀ l : List Vt, samL l l = true
  | [] => by rw [samL]
  | v :: r => by rw [samL, sam_refl v, samL_refl r]; rfl
end
mutual
/-- Does a value hold a function, or what is no number? -/
def oddB : Vt → Bool
  | .mk k _ f _ _ its => decide (k = 7) || nanF f || oddL its
def oddL : List Vt → Bool
  | [] => false
  | v :: r => oddB v || oddL r
end
theorem oddB_eq (v : Vt) : oddB v = (decide (v.k = 7) || nanF v.f || oddL v.its) := by cases v; rw [oddB]; rfl
theorem oddL_step (l : List Vt) (i : Nat) (h : i < l.length) : oddL (l.drop i) = (oddB l[i] || oddL (l.drop (i + 1))) := by rw [drop_cons l i h, oddL]
theorem nan_eq (f : Nat) (h : nanF f = false) : (FloatKind.f64.format.order f f == some Ordering.eq) = true := by
  unfold nanF at h
  simpa using h
mutual
theorem eq_self : ∀ v : Vt, oddB v = false → eqV v v = (true, 0)
  | .mk k n f t ns its, h => by
    rw [oddB] at h
    simp only [Bool.or_eq_false_iff, decide_eq_false_iff_not] at h
    obtain ⟨⟨h7, hn⟩, hi⟩ := h
    rw [eqV]
    simp only [Vt.nv, Vt.k, Vt.n, Vt.f, Vt.ns, Vt.its, ne_eq, not_true_eq_false, if_false, if_true]
    rw [eqI_self its hi, sam_refl]
    by_cases h2 : k = 2
    · subst h2; simp [numB, eqN]
    by_cases h3 : k = 3
    · subst h3; simp [numB, eqN, asF, nan_eq f hn]
    have hb : numB ⟨k, n, f, [], none, 0, 0, none, 0, 0⟩ = false := by simp [numB, h2, h3]
    rw [hb]
    simp [h7]
theorem eqI_self : ∀ l : List Vt, oddL l = false → eqI l l = (true, 0)
  | [], _ => by rw [eqI]
  | v :: r, h => by
    rw [oddL] at h
    simp only [Bool.or_eq_false_iff] at h
    rw [eqI, eq_self v h.1, eqI_self r h.2]
    rfl
end
/-- A value is equal to itself, unless it is odd. -/
theorem eq_or_odd (v : Vt) : eqV v v = (true, 0) ∨ oddB v = true := by
  cases h : oddB v
  · exact .inl (eq_self v h)
  · exact .inr rfl

/-- A row of values in memory, one behind the other. -/
theorem IIn.rows {w : World} : ∀ {l : List Vt} {b o : Nat}, IIn w l (.some ⟨b, o, none⟩) → ∃ xs : List Vv, xs.length = l.length ∧ ∀ i (h : i < l.length) (h' : i < xs.length), sixO w b (o + i * 6) xs[i] ∧ VIn w l[i] xs[i]
  | [], b, o, _ => ⟨[], rfl, fun i h => absurd h (by simp)⟩
  | v :: r, b, o, h => by
    rw [IIn] at h
    obtain ⟨b', o', x, h1, h2, h3, h4⟩ := h
    simp only [Option.some.injEq, Addr.mk.injEq, and_true] at h1
    obtain ⟨rfl, rfl⟩ := h1
    obtain ⟨xs, g1, g2⟩ := IIn.rows h4
    refine ⟨x :: xs, by simp [g1], fun i hi hi' => ?_⟩
    cases i with
    | zero => exact ⟨h2, h3⟩
    | succ i =>
      have := g2 i (by simpa using hi) (by simpa using hi')
      rw [show o + (i + 1) * 6 = o + 6 + i * 6 by omega]
      exact this
/-- The cells of a row of values. -/
def flatV (xs : List Vv) : List Value := xs.flatMap Vv.cs
theorem flatV_nil : flatV [] = [] := rfl
theorem flatV_cons (x : Vv) (xs : List Vv) : flatV (x :: xs) = x.cs ++ flatV xs := rfl
theorem flatV_app (xs ys : List Vv) : flatV (xs ++ ys) = flatV xs ++ flatV ys := List.flatMap_append
theorem csLen (x : Vv) : x.cs.length = 6 := rfl
theorem flatV_len : ∀ xs : List Vv, (flatV xs).length = xs.length * 6
  | [] => rfl
  | x :: xs => by rw [flatV_cons, List.length_append, flatV_len xs, csLen, List.length_cons]; omega
theorem flatV_at : ∀ (xs : List Vv) (i j : Nat) (h : i < xs.length), j < 6 → (flatV xs)[i * 6 + j]? = xs[i].cs[j]?
  | x :: xs, 0, j, _, hj => by
    rw [flatV_cons, Nat.zero_mul, Nat.zero_add, List.getElem?_append_left (by rw [csLen]; exact hj)]; rfl
  | x :: xs, i + 1, j, h, hj => by
    rw [flatV_cons, List.getElem?_append_right (by rw [csLen]; omega), csLen, show (i + 1) * 6 + j - 6 = i * 6 + j by omega, flatV_at xs i j (by simpa using h) hj]
    rfl
theorem flatV_inv (xs : List Vv) (q : Nat) (u : Value) (h : (flatV xs)[q]? = some u) : ∃ i j, ∃ hi : i < xs.length, j < 6 ∧ q = i * 6 + j ∧ xs[i].cs[j]? = some u := by
  have hq : q < (flatV xs).length := (List.getElem?_eq_some_iff.1 h).1
  rw [flatV_len] at hq
  have hi : q / 6 < xs.length := by omega
  refine ⟨q / 6, q % 6, hi, by omega, by omega, ?_⟩
  rw [← flatV_at xs (q / 6) (q % 6) hi (by omega), show q / 6 * 6 + q % 6 = q by omega]
  exact h
/-- A row of values that lies somewhere, as its cells. -/
theorem rows_cells {w : World} {l : List Vt} {b o : Nat} {xs : List Vv} (hl : xs.length = l.length) (h : ∀ i (h : i < l.length) (h' : i < xs.length), sixO w b (o + i * 6) xs[i] ∧ VIn w l[i] xs[i]) : ∀ q u, (flatV xs)[q]? = some u → w.cell? ⟨b, o + q, none⟩ = some u := fun q u hq => by
  obtain ⟨i, j, hi, hj, rfl, hu⟩ := flatV_inv xs q u hq
  have := (h i (by omega) hi).1 j u hu
  rw [show o + (i * 6 + j) = o + i * 6 + j by omega]
  exact this
/-- Cells that lie one behind the other are a row of values. -/
theorem IIn_mk {w : World} {b o : Nat} (l : List Vt) (xs : List Vv) (hl : xs.length = l.length) (hc : ∀ q u, (flatV xs)[q]? = some u → w.cell? ⟨b, o + q, none⟩ = some u) (hv : ∀ i (h : i < l.length) (h' : i < xs.length), VIn w l[i] xs[i]) : IIn w l (some ⟨b, o, none⟩) := by
  induction l generalizing xs o with
  | nil => rw [IIn]; trivial
  | cons v r ih =>
    cases xs with
    | nil => simp at hl
    | cons x xs =>
      rw [IIn]
      refine ⟨b, o, x, rfl, fun j u hu => hc j u (by rw [flatV_cons, List.getElem?_append_left (List.getElem?_eq_some_iff.1 hu).1]; exact hu), hv 0 (by simp) (by simp), ih xs (by simpa using hl) (fun q u hq => ?_) (fun i h h' => ?_)⟩
      · rw [show o + 6 + q = o + (q + 6) by omega]
        refine hc (q + 6) u ?_
        rw [flatV_cons, List.getElem?_append_right (by rw [csLen]; omega), csLen, Nat.add_sub_cancel]
        exact hq
      · exact hv (i + 1) (by simpa using h) (by simpa using h')
end Go.Proofs.YtniailfcmlongaaGreatDoor.Tr
