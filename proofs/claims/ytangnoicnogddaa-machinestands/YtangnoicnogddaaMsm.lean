/- The contracts of same and mayBe. -/
import Derived.Test.YtangnoicnogddaaMnm
namespace Go.Proofs.Ytangnoicnogddaa.Tr
open Go.RowKit

set_option maxRecDepth 100000 in
set_option maxHeartbeats 4000000 in
theorem msame_any (w : World) (u v : Ut) (x y : Uv) (hx : UIn w u x) (hy : UIn w v y) : Calls Try.prog 73 #[x.v, y.v] w fun e w' => e = .returned (.bool (decide (u = v))) ∧ Fr (fun _ => False) w w' := by
  have HB := hid (two_blk w x y)
  have HF := hid (two_fr w x y)
  have HC1 := hid (fun (W : World) (e : Env w W) => eqStrs_any W x.ra y.ra u.r v.r x.rc y.rc (hx.r.env e) (hy.r.env e) (lim16_le hx.ok.r))
  have HC2 := hid (fun (W : World) (e : Env w W) => eqStrs_any W x.aa y.aa u.a v.a x.ac y.ac (hx.a.env e) (hy.a.env e) (lim16_le hx.ok.a))
  rw [ut_eq]
  obtain ⟨p1, p2, p3, p4, _, _, _⟩ := hx
  obtain ⟨r1, r2, r3, r4, _, _, _⟩ := hy
  rw [← p3, ← r3] at HC1
  rw [← p4, ← r4] at HC2
  rw [← p1, ← p2, ← r1, ← r2]
  generalize decide (u.r = v.r) = P at *
  generalize decide (u.a = v.a) = Q at *
  clear p1 p2 p3 p4 r1 r2 r3 r4
  obtain ⟨n, s, ra, rl, rc, aa, al, ac⟩ := x
  obtain ⟨n', s', ra', rl', rc', aa', al', ac'⟩ := y
  simp only [Uv.v] at *
  obtain ⟨c0, c1, c2, c3⟩ := HB.out.1.fourU
  obtain ⟨d0, d1, d2, d3⟩ := HB.out.2.fourU
  have HR0 := hid (HC1.out _ (Env.of HF.out))
  cases hn : (n == n') with
  | false =>
    go_enter Try.func73, Try.ntmps73
    go_wp2_with fail
    go_ret
    exact ⟨by rfl, HF.out⟩
  | true =>
    cases hs : (s == s') with
    | false =>
      go_enter Try.func73, Try.ntmps73
      go_wp2_with fail
      go_ret
      exact ⟨by rfl, HF.out⟩
    | true =>
      cases P with
      | false =>
        go_enter Try.func73, Try.ntmps73
        go_wp2_with (go_at_call 85; refine HR0.out.mono ?_; rintro e w1 ⟨rfl, f1⟩; have F1 := hid (HF.out.trans f1 (fun _ h => h.elim)); clear f1)
        go_ret
        exact ⟨by rfl, F1.out⟩
      | true =>
        go_enter Try.func73, Try.ntmps73
        go_wp2_with (first
          | (go_at_call 85; refine HR0.out.mono ?_; rintro e w1 ⟨rfl, f1⟩; have F1 := hid (HF.out.trans f1 (fun _ h => h.elim)); have HB1 := hid (And.intro (f1.blk HB.out.1 (fun h => h)) (f1.blk HB.out.2 (fun h => h))); clear f1 HR0 c0 c1 c2 c3 d0 d1 d2 d3; obtain ⟨c0, c1, c2, c3⟩ := HB1.out.1.fourU; obtain ⟨d0, d1, d2, d3⟩ := HB1.out.2.fourU)
          | (go_at_call 85; refine (HC2.out _ (Env.of F1.out)).mono ?_; rintro e w2 ⟨rfl, f2⟩; have F2 := hid (F1.out.trans f2 (fun _ h => h.elim)); clear f2))
        go_ret
        exact ⟨by rfl, F2.out⟩

set_option maxRecDepth 100000 in
set_option maxHeartbeats 4000000 in
theorem ubox_any (w : World) (u : Ut) (x : Uv) (hx : UIn w u x) : Calls Try.prog 48 #[x.v] w fun e w' => e = .returned (.bool (mayU u)) ∧ Fr (fun _ => False) w w' := by
  have HB := hid (uBlk w x)
  have HF := hid (uFr w x)
  have HC1 := hid (fun (W : World) (e : Env w W) => areNames_any W u.r x.ra x.rc (hx.r.env e) (lim16_le hx.ok.r))
  have HC2 := hid (fun (W : World) (e : Env w W) => areNames_any W u.a x.aa x.ac (hx.a.env e) (lim16_le hx.ok.a))
  have HN := hid (fun W => name_any W x.n)
  have HS := hid (fun W => mayStart_any W x.s)
  have hU : mayU u = (nameB x.n && startB x.s && u.r.all nameB && u.a.all nameB) := by unfold mayU; rw [hx.n, hx.s]
  rw [hU]
  obtain ⟨q1, q2, p3, p4, q5, q6, q7⟩ := hx
  rw [← p3] at HC1
  rw [← p4] at HC2
  clear q1 q2 q5 q6 q7
  generalize u.r.all nameB = P at *
  generalize u.a.all nameB = Q at *
  clear p3 p4 hU
  obtain ⟨n, s, ra, rl, rc, aa, al, ac⟩ := x
  simp only [Uv.v] at *
  obtain ⟨c0, c1, c2, c3⟩ := HB.out.fourU
  have HR0 := hid (HC1.out _ (Env.of HF.out))
  generalize nameB n = A at *
  generalize startB s = B at *
  have hF0 : Hid (Fr (fun _ => False) w (uBox w ⟨n, s, ra, rl, rc, aa, al, ac⟩)) := HF
  cases A with
  | false =>
    go_enter Try.func48, Try.ntmps48
    go_wp2_with (go_at_call 46; refine (HN.out _).mono ?_; rintro e w1 ⟨rfl, rfl⟩)
    go_ret
    exact ⟨by rfl, HF.out⟩
  | true =>
    cases B with
    | false =>
      go_enter Try.func48, Try.ntmps48
      go_wp2_with (first | (go_at_call 46; refine (HN.out _).mono ?_; rintro e w1 ⟨rfl, rfl⟩) | (go_at_call 71; refine (HS.out _).mono ?_; rintro e w1 ⟨rfl, rfl⟩))
      go_ret
      exact ⟨by rfl, HF.out⟩
    | true =>
      cases P with
      | false =>
        go_enter Try.func48, Try.ntmps48
        go_wp2_with (first
          | (go_at_call 46; refine (HN.out _).mono ?_; rintro e w1 ⟨rfl, rfl⟩)
          | (go_at_call 71; refine (HS.out _).mono ?_; rintro e w1 ⟨rfl, rfl⟩)
          | (go_at_call 72; refine HR0.out.mono ?_; rintro e w1 ⟨rfl, f1⟩; have F1 := hid (HF.out.trans f1 (fun _ h => h.elim)); clear f1))
        go_ret
        exact ⟨by rfl, F1.out⟩
      | true =>
        go_enter Try.func48, Try.ntmps48
        go_wp2_with (first
          | (go_at_call 46; refine (HN.out _).mono ?_; rintro e w1 ⟨rfl, rfl⟩)
          | (go_at_call 71; refine (HS.out _).mono ?_; rintro e w1 ⟨rfl, rfl⟩)
          | (go_at_call 72; refine HR0.out.mono ?_; rintro e w1 ⟨rfl, f1⟩; have F1 := hid (HF.out.trans f1 (fun _ h => h.elim)); have HB1 := hid (f1.blk HB.out (fun h => h)); clear f1 HR0 c0 c1 c2 c3; obtain ⟨c0, c1, c2, c3⟩ := HB1.out.fourU)
          | (go_at_call 72; refine (HC2.out _ (Env.of F1.out)).mono ?_; rintro e w2 ⟨rfl, f2⟩; have F2 := hid (F1.out.trans f2 (fun _ h => h.elim)); clear f2))
        go_ret
        exact ⟨by rfl, F2.out⟩
end Go.Proofs.Ytangnoicnogddaa.Tr
