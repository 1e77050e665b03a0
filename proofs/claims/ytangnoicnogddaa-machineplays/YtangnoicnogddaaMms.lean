/- The contract of mayStand. -/
import Derived.Test.YtangnoicnogddaaMpu
namespace Go.Proofs.Ytangnoicnogddaa.Tr
open Go.RowKit

section
variable {O D : Nat → Prop} {w : World} {mb : Nat} {s : St} {fv uv rv : Value} {pa : Option Addr} {pc : Nat} {XF : List Xv} {XR : List Uv}
set_option maxRecDepth 100000 in
set_option maxHeartbeats 2000000 in
theorem stand1_any (h : MI O D w mb s fv uv rv pa pc XF XR) (hl : s.r.length ≤ lim) (n : Nm) (cb : Nat) (hc : w.cell? ⟨cb, 0, none⟩ = some (.pointer (some ⟨mb, 2, none⟩))) :
    Calls Try.prog 75 #[.string ⟨n.toArray⟩, .pointer (some ⟨cb, 0, none⟩)] w fun e w' => e = .returned (.bool (!(fi s.r n).isSome)) ∧ Fr (fun _ => False) w w' := by
  have HS := hid (slot_any h hl n)
  clear h hl
  cases hf : fi s.r n with
  | none =>
    rw [fiI_none hf] at HS
    clear hf
    go_enter Try.func75, Try.ntmps75
    go_wp2_with (go_at_call 36; refine HS.out.mono ?_; rintro e w1 ⟨rfl, f1⟩; have F1 := hid f1; clear f1)
    go_ret
    exact ⟨rfl, F1.out⟩
  | some k =>
    rw [fiI_some hf] at HS
    have hk0 : ¬ (k : Int) < 0 := by omega
    clear hf
    go_enter Try.func75, Try.ntmps75
    go_wp2_with (go_at_call 36; refine HS.out.mono ?_; rintro e w1 ⟨rfl, f1⟩; have F1 := hid f1; clear f1)
    go_ret
    exact ⟨rfl, F1.out⟩
abbrev pBox (w : World) (mb : Nat) : World := w.alloc (.cells #[.pointer (some ⟨mb, 2, none⟩)] 71)
set_option maxRecDepth 100000 in
set_option maxHeartbeats 8000000 in
theorem mayStand_any (h : MI O D w mb s fv uv rv pa pc XF XR) (hl : s.r.length ≤ 24) (u : Ut) (x : Uv) (hx : UIn w u x) :
    Calls Try.prog 49 #[.pointer (some ⟨mb, 2, none⟩), x.v, .int .i64 (fiI s.r u.n)] w fun e w' => e = .returned (.bool (standB s.r u)) ∧ Fr (fun _ => False) w w' := by
  have HM := hid h
  obtain ⟨fa, fc, ua, uc, ra, rc, rfl, rfl, rfl⟩ := h.rows
  have hlim : s.r.length ≤ lim := by unfold lim; omega
  have HF : Hid (Fr (fun _ => False) w (uBox (pBox w mb) x)) := ((Fr.refl _ w).alloc _).alloc _
  have HBp : Hid (Blk (uBox (pBox w mb) x) w.heap.size 71 [.pointer (some ⟨mb, 2, none⟩)]) := (Blk.new w _ _).alloc _
  have HBu : Hid (Blk (uBox (pBox w mb) x) (w.heap.size + 1) 41 x.cs) := by
    have := uBlk (pBox w mb) x
    rw [World.size_alloc] at this
    exact this
  have HX := hid hx
  have HCT : Hid (∀ W, Fr (fun _ => False) (uBox (pBox w mb) x) W → Calls Try.prog 74 #[.slice x.ra x.rl x.rc, .func (.func 75) #[] #[.pointer (some ⟨w.heap.size, 0, none⟩)]] W fun e w' => e = .returned (.bool (u.r.any fun n => !(fi s.r n).isSome)) ∧ Fr (fun _ => False) W w') := fun W f => by
    rw [hx.rl]
    exact ctB_any W u.r x.ra x.rc w.heap.size (fun n => !(fi s.r n).isSome) (hx.r.env (Env.of (HF.out.trans f (fun _ h => h.elim)))) (lim16_le hx.ok.r) (fun W' f' i hi =>
      stand1_any (HM.out.keep0 ((HF.out.trans f (fun _ h => h.elim)).trans f' (fun _ h => h.elim))) hlim u.r[i] w.heap.size (((f.trans f' (fun _ h => h.elim)).blk HBp.out (fun h => h)).cell 0))
  have HCL : Hid (∀ W, Fr (fun _ => False) (uBox (pBox w mb) x) W → W.cell? ⟨w.heap.size, 0, none⟩ = some (.pointer (some ⟨mb, 2, none⟩)) ∧ W.cell? ⟨w.heap.size + 1, 0, none⟩ = some (.string ⟨x.n.toArray⟩) ∧ W.cell? ⟨w.heap.size + 1, 1, none⟩ = some (.string ⟨x.s.toArray⟩) ∧ W.cell? ⟨w.heap.size + 1, 2, none⟩ = some (.slice x.ra x.rl x.rc) ∧ W.cell? ⟨w.heap.size + 1, 3, none⟩ = some (.slice x.aa x.al x.ac) ∧ W.cell? ⟨mb, 2, none⟩ = some (.slice ra s.r.length rc)) := fun W f =>
    ⟨(f.blk HBp.out (fun h => h)).cell 0, (f.blk HBu.out (fun h => h)).cell 0, (f.blk HBu.out (fun h => h)).cell 1, (f.blk HBu.out (fun h => h)).cell 2, (f.blk HBu.out (fun h => h)).cell 3, (HM.out.keep0 (HF.out.trans f (fun _ h => h.elim))).cells.2.2.1⟩
  have HAll : Hid ((!(u.r.any fun n => !(fi s.r n).isSome)) = u.r.all fun n => (fi s.r n).isSome) := by
    unfold Hid
    rw [← List.all_eq_not_any_not]
  have HSame : Hid (∀ i (hi : i < s.r.length), ∃ b o, ra = some ⟨b, o, none⟩ ∧ ∃ y, (∀ W, Fr (fun _ => False) (uBox (pBox w mb) x) W → fourB W b (o + i * 4) y) ∧ ∀ W, Fr (fun _ => False) (uBox (pBox w mb) x) W → Calls Try.prog 73 #[y.v, x.v] W fun e w' => e = .returned (.bool (decide (s.r[i] = u))) ∧ Fr (fun _ => False) W w') := fun i hi => by
    have hu := HM.out.us
    obtain ⟨b, o, e⟩ := hu.some hi
    subst e
    obtain ⟨y, y1, y2⟩ := hu.get i hi
    exact ⟨b, o, rfl, y, fun W f => (y1.env (Env.of (HF.out.trans f (fun _ h => h.elim)))).all, fun W f => msame_any W _ _ y x (y2.env (Env.of (HF.out.trans f (fun _ h => h.elim)))) (HX.out.env (Env.of (HF.out.trans f (fun _ h => h.elim))))⟩
  obtain ⟨P, hP⟩ : ∃ P, P = standB s.r u := ⟨_, rfl⟩
  rw [← hP]
  have HP := hid hP
  clear h hx hP
  generalize (u.r.any fun n => !(fi s.r n).isSome) = A at *
  obtain ⟨n', st, xra, rl, xrc, aa, al, ac⟩ := x
  simp only [Uv.v] at *
  obtain ⟨p0, c0, c1, c2, c3, m2⟩ := HCL.out _ (Fr.refl _ _)
  cases hf : fi s.r u.n with
  | none =>
    rw [fiI_none hf]
    by_cases h24 : s.r.length = 24
    · have HR : Hid (P = false) := by unfold Hid; rw [HP.out]; unfold standB; rw [hf, h24]; rfl
      rw [h24] at m2
      clear HP hf h24 hl hlim
      go_enter Try.func49, Try.ntmps49
      go_wp2_with fail
      go_quiet (fail)
      all_goals
        go_wp2_with fail
        go_ret
        exact ⟨by rw [HR.out]; rfl, HF.out.drewN _⟩
    · have HR : Hid (P = !A) := by unfold Hid; rw [HP.out, HAll.out]; unfold standB; rw [hf]; simp only [decide_eq_true h24, Bool.true_and]
      have h24' : (((s.r.length : Nat) : Int) == 24) = false := by simp; omega
      clear HP hf h24 HAll HSame
      go_enter Try.func49, Try.ntmps49
      go_wp2_with fail
      go_quiet (fail)
      have F1 : Hid (Fr (fun _ => False) (uBox (pBox w mb) ⟨n', st, xra, rl, xrc, aa, al, ac⟩) ((uBox (pBox w mb) ⟨n', st, xra, rl, xrc, aa, al, ac⟩).drewN nq)) := (Fr.refl _ _).drewN nq
      obtain ⟨p0', c0', c1', c2', c3', m2'⟩ := HCL.out _ F1.out
      go_wp2_with (go_at_call 74; refine (HCT.out _ F1.out).mono ?_; rintro e w2 ⟨rfl, f2⟩; have F2 := hid (F1.out.trans f2 (fun _ h => h.elim)); clear f2)
      go_ret
      exact ⟨by rw [HR.out]; rfl, HF.out.trans F2.out (fun _ h => h.elim)⟩
  | some i =>
    have hi := fi_lt hf
    rw [fiI_some hf]
    have HR : Hid (P = (decide (s.r[i] = u) && !A)) := by
      unfold Hid
      rw [HP.out, HAll.out]
      unfold standB
      rw [hf]
      simp only [List.getElem?_eq_getElem hi, Option.some.injEq]
    obtain ⟨b, o, rfl, y, HY1, HY2⟩ := HSame.out i hi
    have HY1 := hid HY1
    have HY2 := hid HY2
    have hi0 : (0 : Int) ≤ (i : Int) := Int.natCast_nonneg _
    have hi1 : (i : Int) < ((s.r.length : Nat) : Int) := by omega
    have hin : ¬ (i : Int) < 0 := by omega
    have HD0 : Hid (Fr (fun _ => False) (uBox (pBox w mb) ⟨n', st, xra, rl, xrc, aa, al, ac⟩) (uBox (pBox w mb) ⟨n', st, xra, rl, xrc, aa, al, ac⟩).drew) := (Fr.refl _ _).drew
    clear HP hf HAll HSame p0 c0 c1 c2 c3 m2
    have hb1 : decide ((i : Int) < 0) = false := decide_eq_false hin
    have hb2 : decide ((0 : Int) ≤ (i : Int)) = true := decide_eq_true hi0
    obtain ⟨p0, c0, c1, c2, c3, m2⟩ := HCL.out _ HD0.out
    obtain ⟨d0, d1, d2, d3⟩ := HY1.out _ HD0.out
    cases hd : decide (s.r[i] = u) with
    | false =>
      rw [hd] at HR HY2
      clear hd
      go_enter Try.func49, Try.ntmps49
      go_wp2_with fail
      go_region_with (go_at_call 73; refine (HY2.out _ HD0.out).mono ?_; rintro e w2 ⟨rfl, f2⟩; have F1 := hid (HD0.out.trans f2 (fun _ h => h.elim)); clear f2; obtain ⟨p0', c0', c1', c2', c3', m2'⟩ := HCL.out _ F1.out)
      all_goals
        go_wp2_with fail
        go_ret
        exact ⟨by rw [HR.out]; rfl, HF.out.trans F1.out (fun _ h => h.elim)⟩
    | true =>
      rw [hd] at HR HY2
      clear hd
      go_enter Try.func49, Try.ntmps49
      go_wp2_with fail
      go_region_with (go_at_call 73; refine (HY2.out _ HD0.out).mono ?_; rintro e w2 ⟨rfl, f2⟩; have F1 := hid (HD0.out.trans f2 (fun _ h => h.elim)); clear f2; obtain ⟨p0', c0', c1', c2', c3', m2'⟩ := HCL.out _ F1.out)
      all_goals
        go_wp2_with (go_at_call 74; refine (HCT.out _ F1.out).mono ?_; rintro e w3 ⟨rfl, f3⟩; have F2 := hid (F1.out.trans f3 (fun _ h => h.elim)); clear f3)
        go_ret
        exact ⟨by rw [HR.out]; rfl, HF.out.trans F2.out (fun _ h => h.elim)⟩
end
end Go.Proofs.Ytangnoicnogddaa.Tr
