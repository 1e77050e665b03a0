/- The contracts of admit and put. -/
import Derived.Test.YtangnoicnogddaaMcp
namespace Go.Proofs.Ytangnoicnogddaa.Tr
open Go.RowKit

theorem flatE_set : ∀ (X : List Xv) (k : Nat) (x : Xv), k < X.length → flatE (X.set k x) = (((flatE X).set (k * 3) (.string ⟨x.p.toArray⟩)).set (k * 3 + 1) (.int .i64 x.k)).set (k * 3 + 2) (.slice x.da x.dl x.dc)
  | [], k, x, h => absurd h (by simp)
  | a :: r, 0, x, _ => by
    rw [List.set_cons_zero, flatE_cons, flatE_cons]
    rfl
  | a :: r, k + 1, x, h => by
    rw [List.set_cons_succ, flatE_cons, flatE_cons, flatE_set r k x (by simpa using h)]
    have e : ∀ (L : List Value) (j : Nat) (v : Value), (a.cs ++ L).set ((k + 1) * 3 + j) v = a.cs ++ L.set (k * 3 + j) v := fun L j v => by
      rw [List.set_append_right _ _ (by rw [xv_len]; omega), xv_len, show (k + 1) * 3 + j - 3 = k * 3 + j by omega]
    have e0 := e (flatE r) 0 (.string ⟨x.p.toArray⟩)
    simp only [Nat.add_zero] at e0
    rw [e0, e, e]
section
variable {O D : Nat → Prop} {w : World} {mb : Nat} {s : St} {fv uv rv : Value} {pa : Option Addr} {pc : Nat} {XF : List Xv} {XR : List Uv}
theorem MI.rowF (h : MI O D w mb s fv uv rv pa pc XF XR) {w1 : World} {f' : List Ent} {XF' : List Xv} (F : Fr (fun k => fv.ownBlock = some k) w w1)
    (o : w1.ownsRow 0 39 3 fv f'.length (flatE XF')) (hl : XF'.length = f'.length) (he : ∀ i (h1 : i < f'.length) (h2 : i < XF'.length), EK D w f'[i] XF'[i]) :
    MI O D w1 mb { s with f := f' } fv uv rv pa pc XF' XR := by
  have e1 : ∀ k, O k → fv.ownBlock ≠ some k → w1.heap[k]? = w.heap[k]? := fun k hk hn => F.block k (h.os k hk) hn
  have eD : On D w w1 := fun k hk => e1 k (h.od k hk) (fun hf => (h.bf k hf).2.1 hk)
  exact { h with
    blk := F.blk h.blk (fun hf => (h.bf _ hf).2.2 rfl)
    f := o
    u := owns_of_eq h.u (fun k hk => e1 k (h.bu k hk).1 (fun hf => h.fu k hf hk))
    r := owns_of_eq h.r (fun k hk => e1 k (h.br k hk).1 (fun hf => h.fr k hf hk))
    p := h.p.on h.pd eD
    fl := hl
    fe := fun i h1 h2 => (he i h1 h2).on eD
    re := fun i h1 h2 => (h.re i h1 h2).on eD
    os := fun k ho => Nat.lt_of_lt_of_le (h.os k ho) F.size }
abbrev set3 (w : World) (g o : Nat) (x : Xv) : World := ((w.setCell ⟨g, o, none⟩ (.string ⟨x.p.toArray⟩)).setCell ⟨g, o + 1, none⟩ (.int .i64 x.k)).setCell ⟨g, o + 2, none⟩ (.slice x.da x.dl x.dc)
theorem MI.fileAt {g n c : Nat} (h : MI O D w mb s (.slice (some ⟨g, 0, none⟩) n c) uv rv pa pc XF XR) {k : Nat} (hk : k < s.f.length) (e : Ent) (x : Xv) (he : EK D w e x) :
    MI O D (set3 w g (k * 3) x) mb { s with f := s.f.set k e } (.slice (some ⟨g, 0, none⟩) n c) uv rv pa pc (XF.set k x) XR := by
  obtain ⟨g', cap, cur, hv, hB, hc, hn, hm, ht⟩ := own_get h.f (by omega)
  cases hv
  have hkx : k < XF.length := by rw [h.fl]; exact hk
  have hB' : Blk (set3 w g (k * 3) x) g 39 (((cur.set (k * 3) (.string ⟨x.p.toArray⟩)).set (k * 3 + 1) (.int .i64 x.k)).set (k * 3 + 2) (.slice x.da x.dl x.dc)) := ((hB.setCell _ _).setCell _ _).setCell _ _
  have F : Fr (fun i => (Value.slice (some ⟨g, 0, none⟩) s.f.length c).ownBlock = some i) w (set3 w g (k * 3) x) :=
    (((Fr.refl (fun i => (Value.slice (some ⟨g, 0, none⟩) s.f.length c).ownBlock = some i) w).setCell (p := ⟨g, k * 3, none⟩) (.inl rfl) _).setCell (p := ⟨g, k * 3 + 1, none⟩) (.inl rfl) _).setCell (p := ⟨g, k * 3 + 2, none⟩) (.inl rfl) _
  have ht' : (((cur.set (k * 3) (.string ⟨x.p.toArray⟩)).set (k * 3 + 1) (.int .i64 x.k)).set (k * 3 + 2) (.slice x.da x.dl x.dc)).take (s.f.length * 3) = flatE (XF.set k x) := by
    rw [flatE_set _ _ _ hkx, ← ht, List.take_set, List.take_set, List.take_set]
  have o := own_mk (n := s.f.length) hB' (by simp; exact hc) hn hm ht'
  refine h.rowF F (by rw [List.length_set]; exact o) (by simp [h.fl]) (fun i h1 h2 => ?_)
  rw [List.getElem_set, List.getElem_set]
  split
  · exact he
  · exact h.fe _ _ _
/-- The last step of put. -/
def PutEnd (O : Nat → Prop) (w : World) (mb : Nat) (s' : St) (fv : Value) (k : Nat) (e : Ent) : Prop :=
  ∃ g c, fv = .slice (some ⟨g, 0, none⟩) s'.f.length c ∧ ∀ (W : World), Fr (fun _ => False) w W → ∀ w3 y, CofPost W e (.returned (Xv.v y)) w3 →
    w3.cell? ⟨mb, 0, none⟩ = some fv ∧ (∃ u, w3.cell? ⟨g, k * 3, none⟩ = some u) ∧ (∃ u, w3.cell? ⟨g, k * 3 + 1, none⟩ = some u) ∧ (∃ u, w3.cell? ⟨g, k * 3 + 2, none⟩ = some u) ∧
    w3.frozen? ⟨g, k * 3, none⟩ = false ∧ w3.frozen? ⟨g, k * 3 + 1, none⟩ = false ∧ w3.frozen? ⟨g, k * 3 + 2, none⟩ = false ∧ Next O w mb s' (set3 w3 g (k * 3) y)
theorem yv_inj {x y : Xv} (h : x.v = y.v) : x.cs = y.cs := by
  have := congrArg (fun v => match v with | Value.agg l => l.toList | _ => []) h
  simpa [Xv.v] using this
theorem ek_cs {D : Nat → Prop} {w : World} {e : Ent} {x y : Xv} (h : EK D w e x) (hc : x.cs = y.cs) : EK D w e y := by
  obtain ⟨p, k, a, l, c⟩ := x
  obtain ⟨p', k', a', l', c'⟩ := y
  simp only [Xv.cs, List.cons.injEq, Value.string.injEq, ByteArray.mk.injEq, Value.int.injEq, Value.slice.injEq, true_and, and_true] at hc
  obtain ⟨h1, rfl, rfl, rfl, rfl⟩ := hc
  obtain rfl : p = p' := by simpa using congrArg Array.toList h1
  exact h
theorem MI.put_end (h : MI O D w mb s fv uv rv pa pc XF XR) {k : Nat} (hk : k < s.f.length) (e : Ent) : PutEnd O w mb { s with f := s.f.set k e } fv k e := by
  obtain ⟨g, c, cur, rfl, hB, hc, hn, hm, ht⟩ := own_get h.f (by omega)
  refine ⟨g, c, by simp, fun W f w3 y hp => ?_⟩
  obtain ⟨f3, y', hy, ek⟩ := hp
  have hy' : y.v = y'.v := by injection hy
  have ek' := ek_cs ek (yv_inj hy').symm
  have F3 := f.trans f3 (fun _ h => h.elim)
  have m := (h.keep0 F3).ext (E := Bt W.heap.size w3.heap.size) (fun i hi => ⟨fun ho => by have := h.os i ho; have := f.size; have := hi.1; omega, hi.2⟩)
  have m2 := m.fileAt hk e y (ek'.mono (fun i hi => .inr hi))
  have B := F3.blk hB (fun h => h)
  have hlen : k * 3 + 2 < cur.length := by rw [hc]; omega
  have hO : O g := (h.bf g rfl).1
  refine ⟨(h.keep0 F3).cells.1, ⟨_, by rw [B.cell, List.getElem?_eq_getElem (show k * 3 < cur.length by omega)]⟩, ⟨_, by rw [B.cell, List.getElem?_eq_getElem (show k * 3 + 1 < cur.length by omega)]⟩, ⟨_, by rw [B.cell, List.getElem?_eq_getElem hlen]⟩, B.frozen _, B.frozen _, B.frozen _, ?_, _, ⟨_, _, _, _, _, _, _, _, m2⟩, fun i hi => hi.elim .inl (fun hi => .inr (Nat.le_trans f.size hi.1))⟩
  exact ((F3.upO.setCell (p := ⟨g, k * 3, none⟩) (.inl hO) _).setCell (p := ⟨g, k * 3 + 1, none⟩) (.inl hO) _).setCell (p := ⟨g, k * 3 + 2, none⟩) (.inl hO) _

set_option maxRecDepth 100000 in
set_option maxHeartbeats 4000000 in
theorem admit_any (h : MI O D w mb s fv uv rv pa pc XF XR) (hs : s.ok) (n : Nm) :
    Calls Try.prog 23 #[.pointer (some ⟨mb, 0, none⟩), .string ⟨n.toArray⟩] w fun e w' => DoPost O w mb (userF s n) e w' := by
  have HM := hid h
  obtain ⟨fa, fc, ua, uc, ra, rc, rfl, rfl, rfl⟩ := h.rows
  have HS := hid (bsS_any w s.u ua uc n h.strs hs.u (by have := hs.ul; omega))
  have c1 := h.cells.2.1
  have HN := hid (fun W => name_any W n)
  have hul := hs.ul
  clear h
  cases hn : nameB n with
  | false =>
    have HR : Hid (userF s n = (s, 70)) := by unfold Hid userF userOk; rw [hn]; rfl
    rw [HR.out]
    rw [hn] at HN
    generalize pos s.u n = k at *
    generalize isAt s.u n = b at *
    clear HR hn
    go_enter Try.func23, Try.ntmps23
    go_wp2_with (first
      | (go_at_call 41; refine HS.out.mono ?_; rintro e w1 ⟨rfl, q, hw⟩; have F1 : Hid (Fr (fun _ => False) w w1) := by rw [hw]; exact (Fr.refl _ w).drewN q
         clear hw)
      | (go_at_call 46; refine (HN.out _).mono ?_; rintro e w2 ⟨rfl, rfl⟩))
    go_ret
    exact DoPost.of (r := (s, 70)) (Next.of F1.out.upO ⟨_, _, _, _, _, _, _, _, HM.out.keep0 F1.out⟩)
  | true =>
    rw [hn] at HN
    cases ha : isAt s.u n with
    | true =>
      have HR : Hid (userF s n = (s, 0)) := by unfold Hid userF userOk; rw [hn, ha]; rfl
      rw [HR.out]
      rw [ha] at HS
      generalize pos s.u n = k at *
      clear HR hn ha
      go_enter Try.func23, Try.ntmps23
      go_wp2_with (first
        | (go_at_call 41; refine HS.out.mono ?_; rintro e w1 ⟨rfl, q, hw⟩; have F1 : Hid (Fr (fun _ => False) w w1) := by rw [hw]; exact (Fr.refl _ w).drewN q
           clear hw)
        | (go_at_call 46; refine (HN.out _).mono ?_; rintro e w2 ⟨rfl, rfl⟩))
      go_ret
      exact DoPost.of (r := (s, 0)) (Next.of F1.out.upO ⟨_, _, _, _, _, _, _, _, HM.out.keep0 F1.out⟩)
    | false =>
      rw [ha] at HS
      by_cases h16 : s.u.length = 16
      · have HR : Hid (userF s n = (s, 70)) := by unfold Hid userF userOk; rw [hn, ha, h16]; rfl
        rw [HR.out]
        generalize pos s.u n = k at *
        clear HR hn ha
        rw [h16] at HS c1 HM
        clear h16 hul
        go_enter Try.func23, Try.ntmps23
        go_wp2_with (first
          | (go_at_call 41; refine HS.out.mono ?_; rintro e w1 ⟨rfl, q, hw⟩; have F1 : Hid (Fr (fun _ => False) w w1) := by rw [hw]; exact (Fr.refl _ w).drewN q
             have c1' := (HM.out.keep0 F1.out).cells.2.1; clear hw)
          | (go_at_call 46; refine (HN.out _).mono ?_; rintro e w2 ⟨rfl, rfl⟩))
        go_ret
        exact DoPost.of (r := (s, 70)) (Next.of F1.out.upO ⟨_, _, _, _, _, _, _, _, HM.out.keep0 F1.out⟩)
      · have HR : Hid (userF s n = ({ s with u := ins s.u (pos s.u n) n }, 0)) := by unfold Hid userF userOk; rw [hn, ha, decide_eq_true h16]; rfl
        rw [HR.out]
        have hk := pos_le s.u n
        have h16' : (((s.u.length : Nat) : Int) == 16) = false := by simp; omega
        generalize pos s.u n = k at *
        clear HR hn ha h16
        have HI := hid (fun (W : World) (f : Fr (fun _ => False) w W) => ((HM.out.keep0 f).keep0 ((Fr.refl (fun _ => False) W).alloc (.cells #[.string ⟨n.toArray⟩] 9))).ins_u hk (by omega) n _ 1 9 (Blk.new W 9 [.string ⟨n.toArray⟩]) (fun ho => Nat.lt_irrefl _ (Nat.lt_of_lt_of_le (HM.out.os _ ho) f.size)))
        have HA : Hid (∀ W : World, Fr O W (W.alloc (.cells #[.string ⟨n.toArray⟩] 9))) := fun W => (Fr.refl _ W).alloc _
        go_enter Try.func23, Try.ntmps23
        go_wp2_with (first
          | (go_at_call 41; refine HS.out.mono ?_; rintro e w1 ⟨rfl, q, hw⟩; have F1 : Hid (Fr (fun _ => False) w w1) := by rw [hw]; exact (Fr.refl _ w).drewN q
             have c1' := (HM.out.keep0 F1.out).cells.2.1; clear hw)
          | (go_at_call 46; refine (HN.out _).mono ?_; rintro e w2 ⟨rfl, rfl⟩)
          | (go_at_call 47; refine (HI.out _ F1.out).mono ?_; rintro e w3 ⟨a3, n3, q3, rfl, ⟨u3, c3⟩, z3, nx⟩; have NX := hid nx; clear nx))
        go_ret
        exact DoPost.of (r := (_, 0)) ((NX.out.after (HA.out _)).after F1.out.upO)
end
end Go.Proofs.Ytangnoicnogddaa.Tr
