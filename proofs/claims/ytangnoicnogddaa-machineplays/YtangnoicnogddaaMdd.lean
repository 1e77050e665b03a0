/- The contract of Do. -/
import Derived.Test.YtangnoicnogddaaMgo
namespace Go.Proofs.Ytangnoicnogddaa.Tr
open Go.RowKit

/-- An act's nine cells. -/
structure Zv where
  k : Int
  n : Nm
  x : Xv
  y : Uv
def Zv.cs (z : Zv) : List Value := [.int .i64 z.k, .string ⟨z.n.toArray⟩, .string ⟨z.x.p.toArray⟩, .int .i64 z.x.k, .slice z.x.da z.x.dl z.x.dc, .string ⟨z.y.n.toArray⟩, .string ⟨z.y.s.toArray⟩, .slice z.y.ra z.y.rl z.y.rc, .slice z.y.aa z.y.al z.y.ac]
def Zv.v (z : Zv) : Value := .agg z.cs.toArray
def zZ : Zv := ⟨0, [], xZ, uZ⟩
theorem infoZ : (Try.prog.info? 43).map (fun i => (i.zero, i.size)) = some (some zZ.v, 9) := by kernel_rfl
/-- The act a lies in the cells z, whose lists lie in blocks of D. -/
structure AK (D : Nat → Prop) (w : World) (a : Ac) (z : Zv) : Prop where
  k : z.k = a.k
  n : z.n = a.n
  f : EK D w a.f z.x
  u : UK D w a.u z.y
abbrev zBox (w : World) (z : Zv) : World := w.alloc (.cells z.cs.toArray 43)
section
variable {O D : Nat → Prop} {w : World} {mb : Nat} {s : St} {fv uv rv : Value} {pa : Option Addr} {pc : Nat} {XF : List Xv} {XR : List Uv}
set_option maxRecDepth 100000 in
set_option maxHeartbeats 8000000 in
theorem do_any (h : MI O D w mb s fv uv rv pa pc XF XR) (hs : s.ok) (a : Ac) (z : Zv) (hz : AK (fun k => ¬ O k) w a z) :
    Calls Try.prog 11 #[.pointer (some ⟨mb, 0, none⟩), z.v] w fun e w' => DoPost O w mb (doF s a) e w' := by
  have HF : Hid (Fr (fun _ => False) w (zBox w z)) := (Fr.refl _ w).alloc _
  have HFd : Hid (Fr (fun _ => False) w (zBox w z).drew) := HF.out.drew
  have HB : Hid (Blk (zBox w z) w.heap.size 43 z.cs) := Blk.new w _ z.cs
  have HM := hid (h.keep0 HFd.out)
  have HM0 := hid (h.keep0 HF.out)
  have hv := hz.f.v_eq
  have HX : Hid (EntV (zBox w z).drew a.f z.x.da z.x.dc) := hz.f.v.fr HFd.out
  have HXd := hid hz.f.d
  have HU : Hid (UIn (zBox w z).drew a.u z.y) := hz.u.u.env (Env.of HFd.out)
  have HU1 := hid hz.u.r
  have HU2 := hid hz.u.a
  have hk := hz.k
  have hn := hz.n
  have b0 := HB.out.cell 0
  have b1 := HB.out.cell 1
  have b2 := HB.out.cell 2
  have b3 := HB.out.cell 3
  have b4 := HB.out.cell 4
  have b5 := HB.out.cell 5
  have b6 := HB.out.cell 6
  have b7 := HB.out.cell 7
  have b8 := HB.out.cell 8
  clear h hz HB
  have hp : (Value.agg #[.string ⟨z.x.p.toArray⟩, .int .i64 z.x.k, .slice z.x.da z.x.dl z.x.dc]) = entV a.f z.x.da z.x.dc := hv
  have hu : (Value.agg #[.string ⟨z.y.n.toArray⟩, .string ⟨z.y.s.toArray⟩, .slice z.y.ra z.y.rl z.y.rc, .slice z.y.aa z.y.al z.y.ac]) = z.y.v := rfl
  have HP := hid hp
  have HUv := hid hu
  clear hp hu hv
  obtain ⟨k, n, f, u⟩ := a
  obtain ⟨k', n', x, y⟩ := z
  simp only at hk hn
  subst hk hn
  have HN : Hid (∀ r W, DoPost O (zBox w ⟨k', n', x, y⟩).drew mb r (.returned (.int .i64 r.2)) W → Next O w mb r.1 W) := fun r W hd => Next.after hd.2 HFd.out.upO
  have HE : Hid (∀ r e W, DoPost O (zBox w ⟨k', n', x, y⟩).drew mb r e W → e = .returned (.int .i64 r.2)) := fun r e W hd => hd.1
  obtain ⟨xp, xk, xa, xl, xc⟩ := x
  obtain ⟨yn, ys, yra, yrl, yrc, yaa, yal, yac⟩ := y
  simp only [Zv.v, Zv.cs, List.getElem?_cons_zero, List.getElem?_cons_succ] at *
  by_cases h1 : k' = 1
  · subst h1
    have HC := hid (stop_any HM.out hs n')
    have HD : Hid (doF s ⟨1, n', f, u⟩ = stopF s n') := rfl
    rw [HD.out]
    go_enter Try.func11, Try.ntmps11
    go_wp2_with fail
    go_region_with (go_at_call 19; refine HC.out.mono ?_; rintro e w1 hd; obtain rfl := HE.out _ _ _ hd; have NX := hid (HN.out _ _ hd); clear hd)
    all_goals
      go_wp2_with fail
      go_ret
      exact DoPost.of NX.out
  have e1 : (k' == 1) = false := by simpa using h1
  by_cases h2 : k' = 2
  · have HC := hid (remove_any HM.out hs n')
    have HD : Hid (doF s ⟨2, n', f, u⟩ = (removeF s n', 0)) := rfl
    have q : (doF s ⟨k', n', f, u⟩) = (removeF s n', 0) := by rw [h2]; exact HD.out
    rw [q]
    have e2 : (k' == 2) = true := by simpa using h2
    clear h1 h2 HD q
    go_enter Try.func11, Try.ntmps11
    go_wp2_with fail
    go_region_with (go_at_call 20; refine HC.out.mono ?_; rintro e w1 hd; obtain rfl := HE.out _ _ _ hd; have NX := hid (HN.out _ _ hd); clear hd)
    all_goals
      go_wp2_with fail
      go_ret
      exact DoPost.of NX.out
  have e2 : (k' == 2) = false := by simpa using h2
  by_cases h3 : k' = 3
  · have HC := hid (drop_any HM.out hs n')
    have HD : Hid (doF s ⟨3, n', f, u⟩ = (dropF s n', 0)) := rfl
    have q : (doF s ⟨k', n', f, u⟩) = (dropF s n', 0) := by rw [h3]; exact HD.out
    rw [q]
    have e3 : (k' == 3) = true := by simpa using h3
    clear h1 h2 h3 HD q
    go_enter Try.func11, Try.ntmps11
    go_wp2_with fail
    go_region_with (go_at_call 21; refine HC.out.mono ?_; rintro e w1 hd; obtain rfl := HE.out _ _ _ hd; have NX := hid (HN.out _ _ hd); clear hd)
    all_goals
      go_wp2_with fail
      go_ret
      exact DoPost.of NX.out
  have e3 : (k' == 3) = false := by simpa using h3
  by_cases h4 : k' = 4
  · have HC := hid (put_any HM.out hs n' f xa xc HX.out HXd.out)
    have HD : Hid (doF s ⟨4, n', f, u⟩ = fileF s n' f) := rfl
    have q : (doF s ⟨k', n', f, u⟩) = fileF s n' f := by rw [h4]; exact HD.out
    rw [q]
    have e4 : (k' == 4) = true := by simpa using h4
    clear h1 h2 h3 h4 HD q
    go_enter Try.func11, Try.ntmps11
    go_wp2_with fail
    go_region_with (go_at_call 22; rw [HP.out]; refine HC.out.mono ?_; rintro e w1 hd; obtain rfl := HE.out _ _ _ hd; have NX := hid (HN.out _ _ hd); clear hd)
    all_goals
      go_wp2_with fail
      go_ret
      exact DoPost.of NX.out
  have e4 : (k' == 4) = false := by simpa using h4
  by_cases h5 : k' = 5
  · have HC := hid (admit_any HM.out hs n')
    have HD : Hid (doF s ⟨5, n', f, u⟩ = userF s n') := rfl
    have q : (doF s ⟨k', n', f, u⟩) = userF s n' := by rw [h5]; exact HD.out
    rw [q]
    have e5 : (k' == 5) = true := by simpa using h5
    clear h1 h2 h3 h4 h5 HD q
    go_enter Try.func11, Try.ntmps11
    go_wp2_with fail
    go_region_with (go_at_call 23; refine HC.out.mono ?_; rintro e w1 hd; obtain rfl := HE.out _ _ _ hd; have NX := hid (HN.out _ _ hd); clear hd)
    all_goals
      go_wp2_with fail
      go_ret
      exact DoPost.of NX.out
  have e5 : (k' == 5) = false := by simpa using h5
  by_cases h6 : k' = 6
  · have HC := hid (start_any HM.out hs n' u ⟨yn, ys, yra, yrl, yrc, yaa, yal, yac⟩ HU.out HU1.out HU2.out)
    have HD : Hid (doF s ⟨6, n', f, u⟩ = startF s n' u) := rfl
    have q : (doF s ⟨k', n', f, u⟩) = startF s n' u := by rw [h6]; exact HD.out
    rw [q]
    have e6 : (k' == 6) = true := by simpa using h6
    clear h1 h2 h3 h4 h5 h6 HD q
    go_enter Try.func11, Try.ntmps11
    go_wp2_with fail
    go_region_with (go_at_call 24; refine HC.out.mono ?_; rintro e w1 hd; obtain rfl := HE.out _ _ _ hd; have NX := hid (HN.out _ _ hd); clear hd)
    all_goals
      go_wp2_with fail
      go_ret
      exact DoPost.of NX.out
  have e6 : (k' == 6) = false := by simpa using h6
  have q : doF s ⟨k', n', f, u⟩ = (s, 70) := by unfold doF; simp only [h1, h2, h3, h4, h5, h6, if_false]
  rw [q]
  clear h1 h2 h3 h4 h5 h6 q
  go_enter Try.func11, Try.ntmps11
  go_wp2_with fail
  go_ret
  exact DoPost.of (r := (s, 70)) ((Next.of (Fr.refl _ _) ⟨_, _, _, _, _, _, _, _, HM0.out⟩).after HF.out.upO)
end
end Go.Proofs.Ytangnoicnogddaa.Tr
