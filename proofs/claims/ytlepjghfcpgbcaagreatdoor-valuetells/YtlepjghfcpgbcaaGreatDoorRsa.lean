/- The contract of the document's Same over any two values. -/
import Derived.Test.YtlepjghfcpgbcaaGreatDoorVeq
import Derived.Test.YtlepjghfcpgbcaaGreatDoorDrt
import Derived.Deep.DeepCutAuto
namespace Go.Proofs.YtlepjghfcpgbcaaGreatDoor.Tr
open Go.RowKit

/-- What the document's Same tells of a value and another one. -/
def RsmOf (u : Vt) : Prop := ∀ (v : Vt) (x y : Vv) (w : World), VIn w u x → VIn w v y → Calls Tryz.prog 20 #[x.v, y.v] w fun e w' => e = .returned (.bool (samB u v)) ∧ Fr (fun _ => False) w w'
/-- All but the names and the items. -/
def hdB (u v : Vt) : Bool := decide (u.k = v.k) && (decide (u.n = v.n) && (samF u.f v.f && (decide (u.t = v.t) && (decide (u.ns.length = v.ns.length) && decide (u.its.length = v.its.length)))))
theorem samB_hd {u v : Vt} (h : hdB u v = false) : samB u v = false := by
  cases hs : samB u v with
  | false => rfl
  | true =>
    exfalso
    rw [samB_eq] at hs
    simp only [Bool.and_eq_true, decide_eq_true_eq] at hs
    obtain ⟨h1, h2, h3, h4, h5, h6, _⟩ := hs
    unfold hdB at h
    rw [decide_eq_true h1, decide_eq_true h2, h3, decide_eq_true h4, decide_eq_true (show u.ns.length = v.ns.length by rw [h5]), decide_eq_true h6] at h
    cases h
theorem samB_tl {u v : Vt} (h : hdB u v = true) : samB u v = (decide (u.ns = v.ns) && samL u.its v.its) := by
  rw [samB_eq]
  unfold hdB at h
  simp only [Bool.and_eq_true, decide_eq_true_eq] at h
  obtain ⟨h1, h2, h3, h4, _, h6⟩ := h
  simp [h1, h2, h3, h4, h6]

set_option maxRecDepth 100000 in
set_option maxHeartbeats 8000000 in
theorem rsm_tree : ∀ (m : Nat) (u : Vt), SizeOf.sizeOf u ≤ m → RsmOf u := by
  intro m
  induction m with
  | zero =>
    intro v hv
    exfalso
    cases v
    simp only [Vt.mk.sizeOf_spec] at hv
    omega
  | succ m ih =>
    intro u hu v x y w hx hy
    have HIH : Hid (∀ z ∈ u.its, RsmOf z) := fun z hz => ih z (by have := Vt.its_lt hz; omega)
    have HI := hid hx.parts.2.2.2.2
    have HI' := hid hy.parts.2.2.2.2
    have HNs := hid hx.parts.2.2.1.2.2.2
    have HNs' := hid hy.parts.2.2.1.2.2.2
    obtain ⟨p1, p2, p3, p4⟩ := hx.parts.1
    obtain ⟨r1, r2, r3, r4⟩ := hy.parts.1
    have p5 := hx.parts.2.2.1.1
    have p6 := hx.parts.2.2.2.1.1
    have r5 := hy.parts.2.2.1.1
    have r6 := hy.parts.2.2.2.1.1
    have hnl2 : u.ns.length ≤ 140737488351232 := hx.parts.2.2.1.2.2.1
    have hil2 : u.its.length ≤ 140737488351232 := hx.parts.2.2.2.1.2.2
    clear ih hu hx hy
    obtain ⟨k, n, f, t, na, nl, nc, ia, il, ic⟩ := x
    obtain ⟨k', n', f', t', na', nl', nc', ia', il', ic'⟩ := y
    simp only at p1 p2 p3 p4 p5 p6 r1 r2 r3 r4 r5 r6
    have Hhd : Hid (hdB u v = (decide (k = k') && (decide (n = n') && (samF f f' && (decide (t = t') && (decide (nl = nl') && decide (il = il'))))))) := by
      unfold Hid hdB; rw [p1, p2, p3, p4, p5, p6, r1, r2, r3, r4, r5, r6]
    have HQf := hid (samB_hd (u := u) (v := v))
    have HQt := hid (samB_tl (u := u) (v := v))
    have HP5 := hid p5
    have HP6 := hid p6
    have HR5 := hid r5
    have HR6 := hid r6
    have hnl3 : nl ≤ 140737488351232 := by omega
    have hil3 : il ≤ 140737488351232 := by omega
    clear p1 p2 p3 p4 p5 p6 r1 r2 r3 r4 r5 r6 hnl2 hil2
    have HB := hid (two_blk w ⟨k, n, f, t, na, nl, nc, ia, il, ic⟩ ⟨k', n', f', t', na', nl', nc', ia', il', ic'⟩)
    have HF := hid (two_fr w ⟨k, n, f, t, na, nl, nc, ia, il, ic⟩ ⟨k', n', f', t', na', nl', nc', ia', il', ic'⟩)
    simp only [Vv.v] at *
    obtain ⟨c0, c1, c2, c3, c4, c5⟩ := HB.out.1.six
    obtain ⟨d0, d1, d2, d3, d4, d5⟩ := HB.out.2.six
    go_enter Tryz.func20, Tryz.ntmps20
    go_upto_region 1 with fail
    go_cut [5] (fun qv wx => qv = .bool (samF f f') ∧ Fr (fun _ => False) w wx ∧ (Blk wx w.heap.size 26 (Vv.cs ⟨k, n, f, t, na, nl, nc, ia, il, ic⟩) ∧ Blk wx (w.heap.size + 1) 26 (Vv.cs ⟨k', n', f', t', na', nl', nc', ia', il', ic'⟩)))
    case first =>
      have hfb := fun W => fbits_any W f
      have hfb' := fun W => fbits_any W f'
      clear HIH HI HI' HNs HNs' Hhd HQf HQt HP5 HP6 HR5 HR6
      by_cases hff : f = f'
      · subst hff
        have q1 : (((f : Nat) : Int) == ((f : Nat) : Int)) = true := by simp
        have HS : Hid (samF f f = true) := by unfold Hid samF; simp
        go_wp2_with fail
        go_quiet (fail)
        go_wp2_with fail
        all_goals go_meet
        exact ⟨by rw [HS.out], HF.out.drewN _, (((Fr.refl (fun _ => False) _).drewN nq).blk HB.out.1 (fun h => h)), (((Fr.refl (fun _ => False) _).drewN nq).blk HB.out.2 (fun h => h))⟩
      · have q1 : (((f : Nat) : Int) == ((f' : Nat) : Int)) = false := by rw [beq_eq_false_iff_ne]; omega
        have HS : Hid (samF f f' = (nanF f && nanF f')) := by unfold Hid samF; rw [decide_eq_false hff]; rfl
        cases qa : nanF f with
        | false =>
          have qa2 : (FloatKind.f64.format.order f f != some Ordering.eq) = false := qa
          clear hff
          go_wp2_with fail
          go_quiet (fail)
          go_wp2_with fail
          all_goals go_meet
          exact ⟨by rw [HS.out, qa]; rfl, HF.out.drewN _, (((Fr.refl (fun _ => False) _).drewN nq).blk HB.out.1 (fun h => h)), (((Fr.refl (fun _ => False) _).drewN nq).blk HB.out.2 (fun h => h))⟩
        | true =>
          have qa2 : (FloatKind.f64.format.order f f != some Ordering.eq) = true := qa
          cases qb : nanF f' with
          | false =>
            have qb2 : (FloatKind.f64.format.order f' f' != some Ordering.eq) = false := qb
            clear hff
            go_wp2_with fail
            go_quiet (fail)
            go_wp2_with fail
            all_goals go_meet
            exact ⟨by rw [HS.out, qa, qb]; rfl, HF.out.drewN _, (((Fr.refl (fun _ => False) _).drewN nq).blk HB.out.1 (fun h => h)), (((Fr.refl (fun _ => False) _).drewN nq).blk HB.out.2 (fun h => h))⟩
          | true =>
            have qb2 : (FloatKind.f64.format.order f' f' != some Ordering.eq) = true := qb
            clear hff
            go_wp2_with fail
            go_quiet (fail)
            go_wp2_with fail
            all_goals go_meet
            exact ⟨by rw [HS.out, qa, qb]; rfl, HF.out.drewN _, (((Fr.refl (fun _ => False) _).drewN nq).blk HB.out.1 (fun h => h)), (((Fr.refl (fun _ => False) _).drewN nq).blk HB.out.2 (fun h => h))⟩
    case rest =>
      obtain ⟨rfl, hF, hB⟩ := hcut
      clear HB HF c0 c1 c2 c3 c4 c5 d0 d1 d2 d3 d4 d5
      have HB := hid hB
      have HF := hid hF
      clear hB hF
      obtain ⟨c0, c1, c2, c3, c4, c5⟩ := HB.out.1.six
      obtain ⟨d0, d1, d2, d3, d4, d5⟩ := HB.out.2.six
      go_upto_region 2 with fail
      go_cut [5, 70] (fun bv qv wx => bv = .bool (samF f f') ∧ qv = .bool (!hdB u v) ∧ wx = wc)
      case first =>
        clear HIH HI HI' HNs HNs' HQf HQt HP5 HP6 HR5 HR6
        by_cases h1 : k = k'
        · have q1 : (k != k') = false := by rw [h1]; simp
          by_cases h2 : n = n'
          · have q2 : (n != n') = false := by rw [h2]; simp
            cases h3 : samF f f' with
            | true =>
              by_cases h4 : t = t'
              · have q4 : (t != t') = false := by rw [h4]; simp
                have q4b : (t == t') = true := by rw [h4]; simp
                by_cases h5 : nl = nl'
                · have q5 : (((nl : Nat) : Int) != ((nl' : Nat) : Int)) = false := by rw [h5]; simp
                  by_cases h6 : il = il'
                  · have q6 : (((il : Nat) : Int) != ((il' : Nat) : Int)) = false := by rw [h6]; simp
                    have HQ : Hid (hdB u v = true) := by unfold Hid; rw [Hhd.out, decide_eq_true h1, decide_eq_true h2, h3, decide_eq_true h4, decide_eq_true h5, decide_eq_true h6]; rfl
                    clear h1 h2 h4 h5 h6
                    go_wp2_with fail
                    all_goals go_meet
                    exact ⟨by first | rfl | rw [h3], by rw [HQ.out]; rfl, rfl⟩
                  · have q6 : (((il : Nat) : Int) != ((il' : Nat) : Int)) = true := by rw [bne_iff_ne]; omega
                    have HQ : Hid (hdB u v = false) := by unfold Hid; rw [Hhd.out, decide_eq_false h6]; simp
                    clear h1 h2 h4 h5 h6
                    go_wp2_with fail
                    all_goals go_meet
                    exact ⟨by first | rfl | rw [h3], by rw [HQ.out]; rfl, rfl⟩
                · have q5 : (((nl : Nat) : Int) != ((nl' : Nat) : Int)) = true := by rw [bne_iff_ne]; omega
                  have HQ : Hid (hdB u v = false) := by unfold Hid; rw [Hhd.out, decide_eq_false h5]; simp
                  clear h1 h2 h4 h5
                  go_wp2_with fail
                  all_goals go_meet
                  exact ⟨by first | rfl | rw [h3], by rw [HQ.out]; rfl, rfl⟩
              · have q4 : (t != t') = true := by rw [bne_iff_ne]; exact h4
                have q4b : (t == t') = false := by rw [beq_eq_false_iff_ne]; exact h4
                have HQ : Hid (hdB u v = false) := by unfold Hid; rw [Hhd.out, decide_eq_false h4]; simp
                clear h1 h2 h4
                go_wp2_with fail
                all_goals go_meet
                exact ⟨by first | rfl | rw [h3], by rw [HQ.out]; rfl, rfl⟩
            | false =>
              have HQ : Hid (hdB u v = false) := by unfold Hid; rw [Hhd.out, h3]; simp
              clear h1 h2
              go_wp2_with fail
              all_goals go_meet
              exact ⟨by first | rfl | rw [h3], by rw [HQ.out]; rfl, rfl⟩
          · have q2 : (n != n') = true := by rw [bne_iff_ne]; exact h2
            have HQ : Hid (hdB u v = false) := by unfold Hid; rw [Hhd.out, decide_eq_false h2]; simp
            clear h1 h2
            go_wp2_with fail
            all_goals go_meet
            exact ⟨by rfl, by rw [HQ.out]; rfl, rfl⟩
        · have q1 : (k != k') = true := by rw [bne_iff_ne]; exact h1
          have HQ : Hid (hdB u v = false) := by unfold Hid; rw [Hhd.out, decide_eq_false h1]; rfl
          clear h1
          go_wp2_with fail
          all_goals go_meet
          exact ⟨by rfl, by rw [HQ.out]; rfl, rfl⟩
      case rest =>
        obtain ⟨rfl, rfl, rfl⟩ := hcut
        cases hq : hdB u v with
        | false =>
          have HQ : Hid (samB u v = false) := HQf.out hq
          go_wp2_with fail
          go_ret
          exact ⟨by rw [HQ.out]; rfl, HF.out⟩
        | true =>
          have HQ : Hid (samB u v = (decide (u.ns = v.ns) && samL u.its v.its)) := HQt.out hq
          have hh := Hhd.out
          rw [hq] at hh
          have hh2 := hh.symm
          simp only [Bool.and_eq_true, decide_eq_true_eq] at hh2
          obtain ⟨e1, e2, e3, e4, e5, e6⟩ := hh2
          clear e1 e2 e3 e4
          have HN5 : Hid (v.ns.length = nl) := by rw [e5]; exact hid HR5.out.symm
          have HN6 : Hid (v.its.length = il) := by rw [e6]; exact hid HR6.out.symm
          clear hh Hhd HQf HQt HR5 HR6 c0 c1 c2 c3 c4 c5 d0 d1 d2 d3 d4 d5
          subst e5 e6
          simp only [Bool.not_true]
          go_wp2_with fail
          go_loopw [6] (fun iv wr => ∃ i : Nat, i ≤ nl ∧ iv = .int .i64 (i : Int) ∧ u.ns.take i = v.ns.take i ∧ Fr (fun _ => False) w wr ∧ (Blk wr w.heap.size 26 (Vv.cs ⟨k, n, f, t, na, nl, nc, ia, il, ic⟩) ∧ Blk wr (w.heap.size + 1) 26 (Vv.cs ⟨k', n', f', t', na', nl, nc', ia', il, ic'⟩))) (fun iv _ => nl - (intOf iv).toNat)
          case atStart => exact ⟨0, Nat.zero_le _, rfl, rfl, HF.out, HB.out⟩
          case round =>
            obtain ⟨i, hi, rfl, hT, hF, hB⟩ := hrel
            clear HB HF
            have HT := hid hT
            have HB := hid hB
            have HF := hid hF
            clear hT hB hF
            obtain ⟨c0, c1, c2, c3, c4, c5⟩ := HB.out.1.six
            obtain ⟨d0, d1, d2, d3, d4, d5⟩ := HB.out.2.six
            by_cases hlt : i < nl
            · have hlt' : (i : Int) < (nl : Int) := by omega
              have hlu : i < u.ns.length := by have := HP5.out; omega
              have hlv : i < v.ns.length := by have := HN5.out; omega
              obtain ⟨b, o, e1, h1⟩ := HNs.out (fun e => by rw [e] at hlu; simp at hlu)
              obtain ⟨b', o', e1', h1'⟩ := HNs'.out (fun e => by rw [e] at hlv; simp at hlv)
              subst e1 e1'
              have q1 := (Env.of HF.out).cell (h1 i hlu)
              have q1' := (Env.of HF.out).cell (h1' i hlv)
              have HTk := hid (List.take_succ_eq_append_getElem hlu)
              have HTl := hid (List.take_succ_eq_append_getElem hlv)
              have HNe : Hid (u.ns[i] ≠ v.ns[i] → u.ns ≠ v.ns) := fun hne e => by
                apply hne
                simp only [e]
              generalize u.ns[i]'hlu = s at *
              generalize v.ns[i]'hlv = s' at *
              clear h1 h1'
              by_cases hs : s = s'
              · have hs1 : (s != s') = false := by rw [hs]; simp
                have hs2 : (s == s') = true := by rw [hs]; simp
                have HT2 : Hid (u.ns.take (i + 1) = v.ns.take (i + 1)) := by unfold Hid; rw [HTk.out, HTl.out, HT.out, hs]
                clear hs
                go_wp2_with fail
                go_quiet (fail)
                have HF2 := hid (HF.out.drewN nq)
                have HB2 := hid (And.intro (show Blk (wr.drewN nq) w.heap.size 26 _ from HB.out.1) (show Blk (wr.drewN nq) (w.heap.size + 1) 26 _ from HB.out.2))
                go_wp2_with fail
                exact ⟨⟨i + 1, by omega, by first | rfl | (congr 1), HT2.out, HF2.out, HB2.out⟩, by simp [intOf]; omega⟩
              · have hs1 : (s != s') = true := by rw [bne_iff_ne]; exact hs
                have hs2 : (s == s') = false := by rw [beq_eq_false_iff_ne]; exact hs
                have HQ2 : Hid (samB u v = false) := by unfold Hid; rw [HQ.out, decide_eq_false (HNe.out hs)]; rfl
                clear hs
                go_wp2_with fail
                go_quiet (fail)
                have HF2 := hid (HF.out.drewN nq)
                go_wp2_with fail
                go_ret
                exact ⟨by rw [HQ2.out]; rfl, HF2.out⟩
            · have hlt' : ¬ (i : Int) < (nl : Int) := by omega
              have HEq : Hid (u.ns = v.ns) := by
                have h := HT.out
                rw [List.take_of_length_le (by have := HP5.out; omega), List.take_of_length_le (by have := HN5.out; omega)] at h
                exact h
              have HQ2 : Hid (samB u v = samL u.its v.its) := by unfold Hid; rw [HQ.out, decide_eq_true HEq.out]; rfl
              clear HNs HNs' HQ HT
              go_wp2_with fail
              rename World => wq
              clear c0 c1 c2 c3 c4 c5 d0 d1 d2 d3 d4 d5 hlt hlt' hi
              go_loopw [7, 8] (fun iv _ wr => ∃ i : Nat, i ≤ il ∧ iv = .int .i64 (i : Int) ∧ samL (u.its.drop i) (v.its.drop i) = samL u.its v.its ∧ Fr (fun _ => False) w wr ∧ (Blk wr w.heap.size 26 (Vv.cs ⟨k, n, f, t, na, nl, nc, ia, il, ic⟩) ∧ Blk wr (w.heap.size + 1) 26 (Vv.cs ⟨k', n', f', t', na', nl, nc', ia', il, ic'⟩))) (fun iv _ _ => il - (intOf iv).toNat)
              case atStart => exact ⟨0, Nat.zero_le _, rfl, rfl, HF.out, HB.out⟩
              case round =>
                obtain ⟨i, hi, rfl, hS, hF, hB⟩ := hrel
                clear HB HF
                have HB := hid hB
                have HF := hid hF
                have HS := hid hS
                clear hB hF hS
                obtain ⟨c0, c1, c2, c3, c4, c5⟩ := HB.out.1.six
                obtain ⟨d0, d1, d2, d3, d4, d5⟩ := HB.out.2.six
                by_cases hlt : i < il
                · have hlt' : (i : Int) < (il : Int) := by omega
                  have hlu : i < u.its.length := by have := HP6.out; omega
                  have hlv : i < v.its.length := by have := HN6.out; omega
                  obtain ⟨b, o, e1⟩ := HI.out.some (fun e => by rw [e] at hlu; simp at hlu)
                  obtain ⟨b', o', e1'⟩ := HI'.out.some (fun e => by rw [e] at hlv; simp at hlv)
                  subst e1 e1'
                  obtain ⟨x, e2, e3⟩ := HI.out.get i hlu
                  obtain ⟨y, g2, g3⟩ := HI'.out.get i hlv
                  have HK : Hid (∀ W', Fr (fun _ => False) wr W' → (sixB W' b (o + i * 6) x ∧ sixB W' b' (o' + i * 6) y) ∧ W'.cell? ⟨w.heap.size, 5, none⟩ = some (.slice (some ⟨b, o, none⟩) il ic) ∧ W'.cell? ⟨w.heap.size + 1, 5, none⟩ = some (.slice (some ⟨b', o', none⟩) il ic')) := fun W' hf => ⟨⟨(e2.env (Env.of (HF.out.trans hf (fun _ h => h.elim)))).six, (g2.env (Env.of (HF.out.trans hf (fun _ h => h.elim)))).six⟩, (hf.blk HB.out.1 (fun h => h)).six.2.2.2.2.2, (hf.blk HB.out.2 (fun h => h)).six.2.2.2.2.2⟩
                  have HC2 : Hid (Calls Tryz.prog 20 #[x.v, y.v] wr.drew fun e w' => e = .returned (.bool (samB u.its[i] v.its[i])) ∧ Fr (fun _ => False) wr.drew w') := HIH.out _ (List.getElem_mem hlu) v.its[i] x y wr.drew (VIn.env (Env.of HF.out.drew) _ _ e3) (VIn.env (Env.of HF.out.drew) _ _ g3)
                  have HSt := hid (samL_step u.its v.its i hlu hlv)
                  generalize samB u.its[i] v.its[i] = q at *
                  clear e2 e3 g2 g3
                  go_wp2_with fail
                  go_region_held3 (fun W' => (sixB W' b (o + i * 6) x ∧ sixB W' b' (o' + i * 6) y) ∧ W'.cell? ⟨w.heap.size, 5, none⟩ = some (.slice (some ⟨b, o, none⟩) il ic) ∧ W'.cell? ⟨w.heap.size + 1, 5, none⟩ = some (.slice (some ⟨b', o', none⟩) il ic'))
                    (first | exact HK.out _ (Fr.refl _ _).drew | exact HK.out _ F1.out)
                    ((go_at_call 20; refine HC2.out.mono ?_; rintro e w2 ⟨rfl, f2⟩; have F1 : Hid (Fr (fun _ => False) wr w2) := (Fr.refl _ wr).drew.trans f2 (fun _ h => h.elim)))
                  have HF2 := hid (HF.out.trans F1.out (fun _ h => h.elim))
                  have HB2 := hid (And.intro (F1.out.blk HB.out.1 (fun h => h)) (F1.out.blk HB.out.2 (fun h => h)))
                  cases q with
                  | true =>
                    have HS2 : Hid (samL (u.its.drop (i + 1)) (v.its.drop (i + 1)) = samL u.its v.its) := by unfold Hid; rw [← HS.out, HSt.out]; rfl
                    go_wp2_with fail
                    exact ⟨⟨i + 1, by omega, by first | rfl | (congr 1), HS2.out, HF2.out, HB2.out⟩, by simp [intOf]; omega⟩
                  | false =>
                    have HQ3 : Hid (samB u v = false) := by unfold Hid; rw [HQ2.out, ← HS.out, HSt.out]; rfl
                    go_wp2_with fail
                    go_ret
                    exact ⟨by rw [HQ3.out]; rfl, HF2.out⟩
                · have hlt' : ¬ (i : Int) < (il : Int) := by omega
                  have HQ3 : Hid (samB u v = true) := by
                    unfold Hid; rw [HQ2.out, ← HS.out, show u.its.drop i = [] from List.drop_eq_nil_of_le (by have := HP6.out; omega), samL]
                  go_wp2_with fail
                  go_ret
                  exact ⟨by rw [HQ3.out]; rfl, HF.out⟩
theorem rsm_any (u : Vt) : RsmOf u := rsm_tree _ u (Nat.le_refl _)
end Go.Proofs.YtlepjghfcpgbcaaGreatDoor.Tr
