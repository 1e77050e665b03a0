/- The contract of the document's Do, over that of file. -/
import Derived.Test.YtangnoicnogddaaRd2
import Derived.Test.YtangnoicnogddaaRsa
import Derived.Test.YtangnoicnogddaaRuz
namespace Go.Proofs.Ytangnoicnogddaa.Tr
open Go.RowKit

theorem RPost.from {E : Nat → Prop} {w W : World} {rb : Nat} {r : St × Int} {e : Ending} {w' : World} (f : Fr (fun _ => False) w W) (hne : ¬ E rb) (hb : rb < w.heap.size) (hes : ∀ k, E k → k < w.heap.size) (h : RPost E W rb r e w') : RPost E w rb r e w' := by
  obtain ⟨he, hf, hx⟩ := h
  refine ⟨he, f.upO.trans hf (fun _ h => .inl h), hx.wide (fun k hk => hk.imp id (fun hk => ⟨Nat.le_trans f.size hk.1, hk.2⟩)) (fun h => h.elim hne (fun h => by have := h.1; omega)) (fun k hk => hk.elim (fun hk => ?_) (fun hk => hk.2))⟩
  have := hes k hk; have := f.size; have := hf.size; omega
/-- What the contract of file says. -/
def FileC (E : Nat → Prop) : Prop := ∀ (w : World) (rb : Nat) (s : St) (o : Ov) (pa : Option Addr) (pc : Nat) (XF : List Xv) (XR : List Uv), RI E w rb s o pa pc XF XR → s.ok → ∀ (a : Ac) (z : Zv), AK E w a z →
  Calls Try.prog 29 #[.pointer (some ⟨rb, 0, none⟩), z.v] w fun e w' => RPost E w rb (fileF s a.n a.f) e w'
section
variable {E : Nat → Prop} {w : World} {rb : Nat} {s : St} {o : Ov} {pa : Option Addr} {pc : Nat} {XF : List Xv} {XR : List Uv}
set_option maxRecDepth 100000 in
set_option maxHeartbeats 8000000 in
theorem rdo_any (hfile : FileC E) (h : RI E w rb s o pa pc XF XR) (hs : s.ok) (hpl : s.p.length ≤ 140737488351232) (a : Ac) (z : Zv) (hz : AK E w a z) (hl : a.u.r.length + a.u.a.length ≤ 1048576) :
    Calls Try.prog 14 #[.pointer (some ⟨rb, 0, none⟩), z.v] w fun e w' => RPost E w rb (doF s a) e w' := by
  have hk := hz.k
  have hn := hz.n
  by_cases k2 : a.k = 2
  · have hd : doF s a = (removeF s z.n, 0) := by unfold doF; rw [if_neg (by omega), if_pos k2, hn]
    rw [hd]
    exact rdo2_any h hs z (by omega)
  by_cases k3 : a.k = 3
  · have hd : doF s a = (dropF s z.n, 0) := by unfold doF; rw [if_neg (by omega), if_neg k2, if_pos k3, hn]
    rw [hd]
    exact rdo3_any h hs z (by omega)
  have hf : Fr (fun _ => False) w (zBox w z) := (Fr.refl _ w).alloc _
  have HF := hid hf
  have hM := h.keep0 hf
  have HX : Hid (∀ r e w', RPost E (zBox w z) rb r e w' → RPost E w rb r e w') := fun r e w' hp => RPost.from HF.out h.ne h.blk.lt h.es hp
  have HC1 := hid (rstop_any hM hs hpl z.n)
  have HC4 := hid (hfile _ _ _ _ _ _ _ _ hM hs a z (hz.on (h.on hf)))
  have HC5 := hid (ruser_any hM hs z.n)
  have HC6 := hid (rstart_any hM hs hpl a z (hz.on (h.on hf)) hl)
  have HBad : Hid (RPost E w rb (s, 70) (.returned (.int .i64 70)) (zBox w z)) := ⟨rfl, HF.out.upO, _, _, _, _, _, h.grow hf⟩
  have hB := Blk.new w 43 z.cs
  have b0 := hB.cell 0
  have b1 := hB.cell 1
  have b2 := hB.cell 2
  have b3 := hB.cell 3
  have b4 := hB.cell 4
  have b5 := hB.cell 5
  have b6 := hB.cell 6
  have b7 := hB.cell 7
  have b8 := hB.cell 8
  rw [← hn] at HC4 HC6
  obtain ⟨D, hD⟩ : ∃ D, D = doF s a := ⟨_, rfl⟩
  rw [← hD]
  have HD := hid hD
  have HNn : Hid (a.n = z.n) := hn.symm
  clear hf hM h hs hz hB hn hD hpl hl hfile
  obtain ⟨ak, n, ⟨fp, fk, fd⟩, ⟨un, us, ur, ua⟩⟩ := a
  obtain ⟨k', n', ⟨xp, xk, xa, xl, xc⟩, ⟨yn, ys, yra, yrl, yrc, yaa, yal, yac⟩⟩ := z
  simp only at hk k2 k3
  subst hk
  simp only [Zv.v, Zv.cs, List.getElem?_cons_zero, List.getElem?_cons_succ] at *
  have e2 : (k' == 2) = false := by simpa using k2
  have e3 : (k' == 3) = false := by simpa using k3
  by_cases k1 : k' = 1
  · subst k1
    have HE : Hid (D = stopF s n') := by rw [HD.out, HNn.out]; rfl
    rw [HE.out]
    clear HD HE HNn e2 e3
    go_enter Try.func14, Try.ntmps14
    go_wp2_with (go_at_call 28; refine HC1.out.mono ?_; rintro e w1 hd; obtain rfl := hd.1; have NX := hid (HX.out _ _ _ hd); clear hd)
    go_ret
    exact NX.out
  have e1 : (k' == 1) = false := by simpa using k1
  by_cases k4 : k' = 4
  · subst k4
    have HE : Hid (D = fileF s n' ⟨fp, fk, fd⟩) := by rw [HD.out, HNn.out]; rfl
    rw [HE.out]
    clear HD HE HNn
    go_enter Try.func14, Try.ntmps14
    go_wp2_with (go_at_call 29; refine HC4.out.mono ?_; rintro e w1 hd; obtain rfl := hd.1; have NX := hid (HX.out _ _ _ hd); clear hd)
    go_ret
    exact NX.out
  have e4 : (k' == 4) = false := by simpa using k4
  by_cases k5 : k' = 5
  · subst k5
    have HE : Hid (D = userF s n') := by rw [HD.out, HNn.out]; rfl
    rw [HE.out]
    clear HD HE HNn
    go_enter Try.func14, Try.ntmps14
    go_wp2_with (go_at_call 30; refine HC5.out.mono ?_; rintro e w1 hd; obtain rfl := hd.1; have NX := hid (HX.out _ _ _ hd); clear hd)
    go_ret
    exact NX.out
  have e5 : (k' == 5) = false := by simpa using k5
  by_cases k6 : k' = 6
  · subst k6
    have HE : Hid (D = startF s n' ⟨un, us, ur, ua⟩) := by rw [HD.out, HNn.out]; rfl
    rw [HE.out]
    clear HD HE HNn
    go_enter Try.func14, Try.ntmps14
    go_wp2_with (go_at_call 31; refine HC6.out.mono ?_; rintro e w1 hd; obtain rfl := hd.1; have NX := hid (HX.out _ _ _ hd); clear hd)
    go_ret
    exact NX.out
  have e6 : (k' == 6) = false := by simpa using k6
  have HE : Hid (D = (s, 70)) := by rw [HD.out]; unfold Hid doF; simp only; rw [if_neg k1, if_neg k2, if_neg k3, if_neg k4, if_neg k5, if_neg k6]
  rw [HE.out]
  clear HD HE HNn k1 k2 k3 k4 k5 k6
  go_enter Try.func14, Try.ntmps14
  go_wp2
  go_ret
  exact HBad.out
end
end Go.Proofs.Ytangnoicnogddaa.Tr
