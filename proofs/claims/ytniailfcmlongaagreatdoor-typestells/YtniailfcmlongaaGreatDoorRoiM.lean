import Derived.Test.YtniailfcmlongaaGreatDoorRofM
import Derived.Test.YtniailfcmlongaaGreatDoorVeq
import Derived.Test.YtniailfcmlongaaGreatDoorDru
import Derived.Deep.RegionHeld3
/- The contract of the document's of over enum, list, attrs, unit; Right, Of. -/
namespace Go.Proofs.YtniailfcmlongaaGreatDoor.Tr
open Go.RowKit

set_option maxRecDepth 100000 in
set_option maxHeartbeats 4000000 in
theorem of_enum (ws : List (List UInt8)) : OfT (sEnum :: ws) (.enum ws) := by
  intro v x w ad cap _ hx h hcap
  obtain ⟨rb, ro, rfl, hc⟩ := h.at_ (by simp)
  have c0 : (vBox w x).cell? ⟨rb, ro, none⟩ = some (.string ⟨(sEnum : List UInt8).toArray⟩) := takes_env' x (hc 0 (by simp))
  have hfew : ws.length + 1 ≤ 100 := by simpa using h.few
  have HC : Hid (∀ i (hi : i < ws.length), w.cell? ⟨rb, ro + (i + 1), none⟩ = some (.string ⟨ws[i].toArray⟩)) := fun i hi => hc (i + 1) (by simpa using hi)
  have HT : Hid (tkB (.enum ws) v = (decide (x.k = 4) && ws.contains x.t)) := by unfold Hid; rw [tkB, hx.parts.1.1, hx.parts.1.2.2.2]
  generalize tkB (.enum ws) v = T at *
  have HF := hid (vFr w x)
  have HB := hid (vBlk w x)
  clear h hc hcap hx
  have hlen : ((sEnum :: ws).length : Nat) = ws.length + 1 := rfl
  rw [hlen]
  clear hlen
  obtain ⟨k, n, f, t, na, nl, nc, ia, il, ic⟩ := x
  simp only [Vv.v, vBox] at *
  go_enter Tryz.func28, Tryz.ntmps28
  go_wp2_with fail
  clear c0
  go_loopw [9] (fun iv wr => ∃ i : Nat, i ≤ ws.length ∧ iv = .int .i64 ((i : Int) + 1) ∧ (∀ j a, j < i → ws[j]? = some a → (decide (k = 4) && (t == a)) = false) ∧ Fr (fun _ => False) w wr ∧ Blk wr w.heap.size 26 (Vv.cs ⟨k, n, f, t, na, nl, nc, ia, il, ic⟩)) (fun iv _ => ws.length + 1 - (intOf iv).toNat)
  case atStart => exact ⟨0, Nat.zero_le _, rfl, fun j _ hj => absurd hj (by omega), HF.out, HB.out⟩
  case round =>
    obtain ⟨i, hi, rfl, hA, hF, hB⟩ := hrel
    clear HF HB
    have HA := hid hA
    have HF := hid hF
    have HB := hid hB
    clear hA hF hB
    by_cases hlt : i < ws.length
    · have hlt' : (i : Int) + 1 < ((ws.length : Nat) : Int) + 1 := by omega
      have hi0 : (0 : Int) ≤ (i : Int) + 1 := by omega
      have c1 := (Env.of HF.out).cell (HC.out i hlt)
      obtain ⟨z0, z1, z2, z3, z4, z5⟩ := HB.out.six
      have HG := hid (List.getElem?_eq_getElem hlt)
      have HYes : Hid (k = 4 → (t == ws[i]) = true → T = true) := fun h1 h2 => by
        rw [HT.out, decide_eq_true h1, Bool.true_and, List.contains_iff_mem]
        rw [show t = ws[i] by simpa using h2]
        exact List.getElem_mem hlt
      have HNo : Hid ((decide (k = 4) && (t == ws[i])) = false → ∀ j a, j < i + 1 → ws[j]? = some a → (decide (k = 4) && (t == a)) = false) := fun h j a hj h1 => by
        by_cases e : j = i
        · subst e
          rw [HG.out, Option.some.injEq] at h1
          rw [← h1]; exact h
        · exact HA.out j a (by omega) h1
      generalize ws[i] = a at *
      clear HA HG
      rename World => wj
      by_cases h4 : k = 4
      · have h4' : (k == 4) = true := by simpa using h4
        cases hq : (t == a) with
        | true =>
          have HE := hid (HYes.out h4 hq)
          clear h4
          go_wp2_with fail
          go_quiet (fail)
          have HE3 : Hid (Fr (fun _ => False) w (wj.drewN nq)) := HF.out.drewN nq
          go_wp2_with fail
          go_ret
          exact ⟨by rw [HE.out]; rfl, HE3.out⟩
        | false =>
          have HE := hid (HNo.out (by rw [hq, Bool.and_false]))
          clear h4
          go_wp2_with fail
          go_quiet (fail)
          have HE3 : Hid (Fr (fun _ => False) w (wj.drewN nq)) := HF.out.drewN nq
          have HB3 : Hid (Blk (wj.drewN nq) w.heap.size 26 (Vv.cs ⟨k, n, f, t, na, nl, nc, ia, il, ic⟩)) := ((Fr.refl (fun _ => False) wj).drewN nq).blk HB.out (fun h => h)
          go_wp2_with fail
          exact ⟨⟨i + 1, by omega, by first | rfl | (congr 1; omega), HE.out, HE3.out, HB3.out⟩, by simp [intOf]; omega⟩
      · have h4' : (k == 4) = false := by simpa using h4
        have HE := hid (HNo.out (by rw [decide_eq_false h4, Bool.false_and]))
        clear h4
        go_wp2_with fail
        go_quiet (fail)
        have HE3 : Hid (Fr (fun _ => False) w (wj.drewN nq)) := HF.out.drewN nq
        have HB3 : Hid (Blk (wj.drewN nq) w.heap.size 26 (Vv.cs ⟨k, n, f, t, na, nl, nc, ia, il, ic⟩)) := ((Fr.refl (fun _ => False) wj).drewN nq).blk HB.out (fun h => h)
        go_wp2_with fail
        exact ⟨⟨i + 1, by omega, by first | rfl | (congr 1; omega), HE.out, HE3.out, HB3.out⟩, by simp [intOf]; omega⟩
    · have hlt' : ¬ (i : Int) + 1 < ((ws.length : Nat) : Int) + 1 := by omega
      have HE : Hid (T = false) := by
        unfold Hid
        rw [HT.out]
        by_cases h4 : k = 4
        · rw [decide_eq_true h4, Bool.true_and]
          cases hc : ws.contains t with
          | false => rfl
          | true =>
            rw [List.contains_iff_mem] at hc
            obtain ⟨j, hj, e⟩ := List.getElem_of_mem hc
            have := HA.out j _ (by omega) (List.getElem?_eq_getElem hj)
            rw [decide_eq_true h4, e] at this
            simp at this
        · rw [decide_eq_false h4, Bool.false_and]
      obtain ⟨z0, z1, z2, z3, z4, z5⟩ := HB.out.six
      go_wp2_with fail
      go_ret
      exact ⟨by rw [HE.out]; rfl, HF.out⟩

set_option maxRecDepth 100000 in
set_option maxHeartbeats 4000000 in
theorem of_outer (s : List UInt8) (c : Int) (K : Ty → Ty) (hs : (s = sList ∧ c = 5 ∧ K = .list) ∨ (s = sAttrs ∧ c = 6 ∧ K = .attrs)) (ws : List (List UInt8)) (hne : ws ≠ []) (t : Ty) (hR : OfT ws t) : OfT (s :: ws) (K t) := by
  intro v x w ad cap hE hx h hcap
  obtain ⟨rb, ro, rfl, hc⟩ := h.at_ (by simp)
  have c0 : (vBox w x).cell? ⟨rb, ro, none⟩ = some (.string ⟨s.toArray⟩) := takes_env' x (hc 0 (by simp))
  have HC0 := hid (hc 0 (by simp))
  have hfew : ws.length + 1 ≤ 100 := by simpa using h.few
  have hcap' : ws.length + 1 ≤ cap := by simpa using hcap
  have hwp : 0 < ws.length := List.length_pos_iff.2 hne
  have HW : Hid (Wds w (some ⟨rb, ro + 1, none⟩) ws) := ⟨fun hne => ⟨rb, ro + 1, rfl, fun i hi => by
    have := hc (i + 1) (by simpa using hi)
    rw [show ro + 1 + i = ro + (i + 1) by omega]
    simpa using this⟩, by omega, fun t ht => h.short t (by simp [ht])⟩
  have HT : Hid (tkB (K t) v = (decide (x.k = c) && v.its.all (fun u => tkB t u))) := by
    unfold Hid
    rcases hs with ⟨_, rfl, rfl⟩ | ⟨_, rfl, rfl⟩
    · rw [tkB, hx.parts.1.1]
    · rw [tkB, hx.parts.1.1]
  have HIH : Hid (∀ i (hi : i < v.its.length) y W cp, VIn W v.its[i] y → Env w W → ws.length ≤ cp → Calls Tryz.prog 28 #[.slice (some ⟨rb, ro + 1, none⟩) ws.length cp, y.v] W fun e w' => e = .returned (.bool (tkB t v.its[i])) ∧ Fr (fun _ => False) W w') := fun i hi y W cp h1 h2 h3 => hR v.its[i] y W _ cp (even_item hE (List.getElem_mem hi)) h1 (HW.out.env h2) h3
  generalize tkB (K t) v = T at *
  have HF := hid (vFr w x)
  have HB := hid (vBlk w x)
  have HI := hid hx.parts.2.2.2.2
  have hil : x.il = v.its.length := hx.parts.2.2.2.1.1
  have hlim : v.its.length ≤ 140737488351232 := hx.parts.2.2.2.1.2.2
  have HS := hid hs
  clear h hc hcap hx hE hR hne
  have hlen : ((s :: ws).length : Nat) = ws.length + 1 := rfl
  rw [hlen]
  clear hlen
  obtain ⟨k, n, f, tx, na, nl, nc, ia, il, ic⟩ := x
  simp only [Vv.v, vBox] at *
  subst hil
  obtain ⟨z0, z1, z2, z3, z4, z5⟩ := HB.out.six
  by_cases hk : k = c
  · have HT2 : Hid (T = v.its.all (fun u => tkB t u)) := by unfold Hid; rw [HT.out, decide_eq_true hk, Bool.true_and]
    clear HT
    rcases hs with ⟨rfl, rfl, rfl⟩ | ⟨rfl, rfl, rfl⟩
    · subst hk
      go_enter Tryz.func28, Tryz.ntmps28
      go_wp2_with fail
      clear c0 z0 z1 z2 z3 z4 z5
      go_loopw [10, 11] (fun iv _ wr => ∃ i : Nat, i ≤ v.its.length ∧ iv = .int .i64 (i : Int) ∧ (∀ j (h : j < v.its.length), j < i → tkB t v.its[j] = true) ∧ Fr (fun _ => False) w wr ∧ Blk wr w.heap.size 26 (Vv.cs ⟨5, n, f, tx, na, nl, nc, ia, v.its.length, ic⟩)) (fun iv _ _ => v.its.length - (intOf iv).toNat)
      case atStart => exact ⟨0, Nat.zero_le _, rfl, fun j _ hj => absurd hj (by omega), HF.out, HB.out⟩
      case round =>
        obtain ⟨i, hi, rfl, hA, hF, hB⟩ := hrel
        clear HF HB
        have HA := hid hA
        have HF := hid hF
        have HB := hid hB
        clear hA hF hB
        obtain ⟨z0, z1, z2, z3, z4, z5⟩ := HB.out.six
        by_cases hlt : i < v.its.length
        · have hlt' : (i : Int) < ((v.its.length : Nat) : Int) := by omega
          obtain ⟨b, o, e1⟩ := HI.out.some (fun e => by rw [e] at hlt; simp at hlt)
          subst e1
          obtain ⟨y, e2, e3⟩ := HI.out.get i hlt
          have HN : Hid (tkB t v.its[i] = false → T = false) := fun h => by
            rw [HT2.out, List.all_eq_false]
            exact ⟨v.its[i], List.getElem_mem hlt, by rw [h]; simp⟩
          have HN2 : Hid (tkB t v.its[i] = true → ∀ j (h : j < v.its.length), j < i + 1 → tkB t v.its[j] = true) := fun h j hj hj' => by
            by_cases e : j = i
            · subst e; exact h
            · exact HA.out j hj (by omega)
          have HK : Hid (∀ W', Fr (fun _ => False) wr W' → sixB W' b (o + i * 6) y ∧ W'.cell? ⟨w.heap.size, 5, none⟩ = some (.slice (some ⟨b, o, none⟩) v.its.length ic)) := fun W' hf => ⟨(e2.env (Env.of (HF.out.trans hf (fun _ h => h.elim)))).six, (hf.blk HB.out (fun h => h)).cell 5⟩
          have HC2 : Hid (Calls Tryz.prog 28 #[.slice (some ⟨rb, ro + 1, none⟩) ws.length (cap - 1), y.v] wr.drew fun e w' => e = .returned (.bool (tkB t v.its[i])) ∧ Fr (fun _ => False) wr.drew w') := HIH.out i hlt y wr.drew (cap - 1) (VIn.env (Env.of HF.out.drew) _ _ e3) (Env.of HF.out.drew) (by omega)
          have hcap1 : ¬ cap = 1 := by omega
          have hcap2 : 1 ≤ cap := by omega
          have hcI1 : (1 : Int) ≤ ((ws.length : Nat) : Int) + 1 := by omega
          have hcI2 : ((ws.length : Nat) : Int) + 1 ≤ (cap : Int) := by omega
          have hcI3 : (1 : Int) ≤ (cap : Int) := by omega
          have hcI4 : ¬ (1 : Int) = (cap : Int) := by omega
          have hcI5 : ¬ cap - 1 = 0 := by omega
          have hcI6 : ¬ cap ≤ 1 := by omega
          generalize tkB t v.its[i] = q at *
          clear e2 e3 HA
          go_wp2_with fail
          go_region_held3 (fun W' => sixB W' b (o + i * 6) y ∧ W'.cell? ⟨w.heap.size, 5, none⟩ = some (.slice (some ⟨b, o, none⟩) v.its.length ic))
            (first | exact HK.out _ (Fr.refl _ _).drew | exact HK.out _ F1.out)
            ((go_at_call 28; refine HC2.out.mono ?_; rintro e w2 ⟨rfl, f2⟩; have F1 : Hid (Fr (fun _ => False) wr w2) := (Fr.refl _ wr).drew.trans f2 (fun _ h => h.elim)))
          have HF2 := hid (HF.out.trans F1.out (fun _ h => h.elim))
          have HB2 := hid (F1.out.blk HB.out (fun h => h))
          cases q with
          | false =>
            have HE := hid (HN.out rfl)
            go_wp2_with fail
            go_ret
            exact ⟨by rw [HE.out]; rfl, HF2.out⟩
          | true =>
            have HE := hid (HN2.out rfl)
            go_wp2_with fail
            exact ⟨⟨i + 1, by omega, by first | rfl | (congr 1), HE.out, HF2.out, HB2.out⟩, by simp [intOf]; omega⟩
        · have hlt' : ¬ (i : Int) < ((v.its.length : Nat) : Int) := by omega
          have HE : Hid (T = true) := by
            unfold Hid
            rw [HT2.out]
            exact List.all_eq_true.2 fun u hu => by
              obtain ⟨j, hj, rfl⟩ := List.getElem_of_mem hu
              exact HA.out j hj (by omega)
          go_wp2_with fail
          go_ret
          exact ⟨by rw [HE.out]; rfl, HF.out⟩
    · subst hk
      go_enter Tryz.func28, Tryz.ntmps28
      go_wp2_with fail
      clear c0 z0 z1 z2 z3 z4 z5
      go_loopw [10, 11] (fun iv _ wr => ∃ i : Nat, i ≤ v.its.length ∧ iv = .int .i64 (i : Int) ∧ (∀ j (h : j < v.its.length), j < i → tkB t v.its[j] = true) ∧ Fr (fun _ => False) w wr ∧ Blk wr w.heap.size 26 (Vv.cs ⟨6, n, f, tx, na, nl, nc, ia, v.its.length, ic⟩)) (fun iv _ _ => v.its.length - (intOf iv).toNat)
      case atStart => exact ⟨0, Nat.zero_le _, rfl, fun j _ hj => absurd hj (by omega), HF.out, HB.out⟩
      case round =>
        obtain ⟨i, hi, rfl, hA, hF, hB⟩ := hrel
        clear HF HB
        have HA := hid hA
        have HF := hid hF
        have HB := hid hB
        clear hA hF hB
        obtain ⟨z0, z1, z2, z3, z4, z5⟩ := HB.out.six
        by_cases hlt : i < v.its.length
        · have hlt' : (i : Int) < ((v.its.length : Nat) : Int) := by omega
          obtain ⟨b, o, e1⟩ := HI.out.some (fun e => by rw [e] at hlt; simp at hlt)
          subst e1
          obtain ⟨y, e2, e3⟩ := HI.out.get i hlt
          have HN : Hid (tkB t v.its[i] = false → T = false) := fun h => by
            rw [HT2.out, List.all_eq_false]
            exact ⟨v.its[i], List.getElem_mem hlt, by rw [h]; simp⟩
          have HN2 : Hid (tkB t v.its[i] = true → ∀ j (h : j < v.its.length), j < i + 1 → tkB t v.its[j] = true) := fun h j hj hj' => by
            by_cases e : j = i
            · subst e; exact h
            · exact HA.out j hj (by omega)
          have HK : Hid (∀ W', Fr (fun _ => False) wr W' → sixB W' b (o + i * 6) y ∧ W'.cell? ⟨w.heap.size, 5, none⟩ = some (.slice (some ⟨b, o, none⟩) v.its.length ic)) := fun W' hf => ⟨(e2.env (Env.of (HF.out.trans hf (fun _ h => h.elim)))).six, (hf.blk HB.out (fun h => h)).cell 5⟩
          have HC2 : Hid (Calls Tryz.prog 28 #[.slice (some ⟨rb, ro + 1, none⟩) ws.length (cap - 1), y.v] wr.drew fun e w' => e = .returned (.bool (tkB t v.its[i])) ∧ Fr (fun _ => False) wr.drew w') := HIH.out i hlt y wr.drew (cap - 1) (VIn.env (Env.of HF.out.drew) _ _ e3) (Env.of HF.out.drew) (by omega)
          have hcap1 : ¬ cap = 1 := by omega
          have hcap2 : 1 ≤ cap := by omega
          have hcI1 : (1 : Int) ≤ ((ws.length : Nat) : Int) + 1 := by omega
          have hcI2 : ((ws.length : Nat) : Int) + 1 ≤ (cap : Int) := by omega
          have hcI3 : (1 : Int) ≤ (cap : Int) := by omega
          have hcI4 : ¬ (1 : Int) = (cap : Int) := by omega
          have hcI5 : ¬ cap - 1 = 0 := by omega
          have hcI6 : ¬ cap ≤ 1 := by omega
          generalize tkB t v.its[i] = q at *
          clear e2 e3 HA
          go_wp2_with fail
          go_region_held3 (fun W' => sixB W' b (o + i * 6) y ∧ W'.cell? ⟨w.heap.size, 5, none⟩ = some (.slice (some ⟨b, o, none⟩) v.its.length ic))
            (first | exact HK.out _ (Fr.refl _ _).drew | exact HK.out _ F1.out)
            ((go_at_call 28; refine HC2.out.mono ?_; rintro e w2 ⟨rfl, f2⟩; have F1 : Hid (Fr (fun _ => False) wr w2) := (Fr.refl _ wr).drew.trans f2 (fun _ h => h.elim)))
          have HF2 := hid (HF.out.trans F1.out (fun _ h => h.elim))
          have HB2 := hid (F1.out.blk HB.out (fun h => h))
          cases q with
          | false =>
            have HE := hid (HN.out rfl)
            go_wp2_with fail
            go_ret
            exact ⟨by rw [HE.out]; rfl, HF2.out⟩
          | true =>
            have HE := hid (HN2.out rfl)
            go_wp2_with fail
            exact ⟨⟨i + 1, by omega, by first | rfl | (congr 1), HE.out, HF2.out, HB2.out⟩, by simp [intOf]; omega⟩
        · have hlt' : ¬ (i : Int) < ((v.its.length : Nat) : Int) := by omega
          have HE : Hid (T = true) := by
            unfold Hid
            rw [HT2.out]
            exact List.all_eq_true.2 fun u hu => by
              obtain ⟨j, hj, rfl⟩ := List.getElem_of_mem hu
              exact HA.out j hj (by omega)
          go_wp2_with fail
          go_ret
          exact ⟨by rw [HE.out]; rfl, HF.out⟩
  · have HT2 : Hid (T = false) := by unfold Hid; rw [HT.out, decide_eq_false hk, Bool.false_and]
    clear HT
    rcases hs with ⟨rfl, rfl, rfl⟩ | ⟨rfl, rfl, rfl⟩
    · have hk' : (k != 5) = true := by simpa using hk
      clear hk
      go_enter Tryz.func28, Tryz.ntmps28
      go_wp2_with fail
      go_ret
      exact ⟨by rw [HT2.out]; rfl, HF.out⟩
    · have hk' : (k != 6) = true := by simpa using hk
      clear hk
      go_enter Tryz.func28, Tryz.ntmps28
      go_wp2_with fail
      go_ret
      exact ⟨by rw [HT2.out]; rfl, HF.out⟩
end Go.Proofs.YtniailfcmlongaaGreatDoor.Tr
/- The contracts of the document's unit, of, Right, Of. -/
namespace Go.Proofs.YtniailfcmlongaaGreatDoor.Tr
open Go.RowKit

theorem of_ls : OfT [sList, sString] (.list (.bare sString)) := of_outer sList 5 .list (.inl ⟨rfl, rfl, rfl⟩) [sString] (by simp) (.bare sString) (of_bare sString (.inr (.inr (.inl rfl))))
/-- The words of 'list string', made. -/
abbrev lsBox (w : World) : World := w.alloc (.cells #[.string ⟨#[108, 105, 115, 116]⟩, .string ⟨#[115, 116, 114, 105, 110, 103]⟩] 9)
theorem ls_wds (w : World) : Wds (lsBox w) (some ⟨w.heap.size, 0, none⟩) [sList, sString] :=
  ⟨fun _ => ⟨w.heap.size, 0, rfl, fun i hi => by
    have hb := Blk.new w 9 [.string ⟨#[108, 105, 115, 116]⟩, .string ⟨#[115, 116, 114, 105, 110, 103]⟩]
    match i, hi with
    | 0, _ => exact hb.cell 0
    | 1, _ => exact hb.cell 1⟩, by decide, fun s hs => by
      simp only [List.mem_cons, List.not_mem_nil, or_false] at hs
      rcases hs with rfl | rfl <;> decide⟩

set_option maxRecDepth 100000 in
set_option maxHeartbeats 4000000 in
theorem unit_any (w : World) (v : Vt) (x : Vv) (hE : evenV v) (hx : VIn w v x) : Calls Tryz.prog 45 #[x.v] w fun e w' => e = .returned (.bool (tkB (.bare sUnit) v)) ∧ Fr (fun _ => False) w w' := by
  have hst := fun (W : World) (a : Addr) (m : Mode) (f : Nat) => run_store Tryz.prog W a (.float .f64 f) m rfl
  have hp := hx.parts
  have HB := hid (vBlk w x)
  have HF := hid (vFr w x)
  have HX := hid hx
  have HN := hid hp.2.2.1.2.2.2
  have HEv := hid hE
  have HT : Hid (tkB (.bare sUnit) v = (decide (x.k = 6) && partsB v.ns v.its)) := by unfold Hid; rw [tkB, if_pos rfl, hp.1.1]
  have HLn : Hid (x.k = 6 → v.ns.length = v.its.length) := fun h => even_set hE (by rw [← hp.1.1]; exact h)
  have hnl : x.nl = v.ns.length := hp.2.2.1.1
  have hil : x.il = v.its.length := hp.2.2.2.1.1
  have hlim : v.ns.length ≤ 140737488351232 := hp.2.2.1.2.2.1
  have hlim2 : v.its.length ≤ 140737488351232 := hp.2.2.2.1.2.2
  generalize tkB (.bare sUnit) v = T at *
  clear hp hE hx
  obtain ⟨k, n, f, t, na, nl, nc, ia, il, ic⟩ := x
  simp only [Vv.v] at *
  subst hnl hil
  obtain ⟨z0, z1, z2, z3, z4, z5⟩ := HB.out.six
  by_cases h6 : k = 6
  · have h6' : (k != 6) = false := by simpa using h6
    have HT2 : Hid (T = partsB v.ns v.its) := by unfold Hid; rw [HT.out, decide_eq_true h6]; rfl
    have HLn2 := hid (HLn.out h6)
    clear HT HLn h6
    go_enter Tryz.func45, Tryz.ntmps45
    go_wp2_with fail
    clear z0 z1 z2 z3 z4 z5
    go_loopw [3, 4, 5] (fun iv _ _ wr => ∃ i : Nat, i ≤ v.ns.length ∧ iv = .int .i64 (i : Int) ∧ T = partsB (v.ns.drop i) (v.its.drop i) ∧ Fr (fun _ => False) w wr ∧ Blk wr w.heap.size 26 (Vv.cs ⟨k, n, f, t, na, v.ns.length, nc, ia, v.its.length, ic⟩)) (fun iv _ _ _ => v.ns.length - (intOf iv).toNat)
    case atStart => exact ⟨0, by omega, rfl, by simpa using HT2.out, HF.out, HB.out⟩
    case round =>
      obtain ⟨i, hi, rfl, hS, hF, hB⟩ := hrel
      clear HB HF HT2
      have HB := hid hB
      have HF := hid hF
      have HS := hid hS
      clear hB hF hS
      obtain ⟨z0, z1, z2, z3, z4, z5⟩ := HB.out.six
      by_cases hlt : i < v.ns.length
      · have hlt' : (i : Int) < ((v.ns.length : Nat) : Int) := by omega
        have hlt2 : i < v.its.length := by have := HLn2.out; omega
        have hlt3 : (i : Int) < ((v.its.length : Nat) : Int) := by omega
        obtain ⟨bn, on, e1, hc⟩ := HN.out (by intro e; rw [e] at hlt; simp at hlt)
        subst e1
        obtain ⟨bi, oi, y, e2, e3, e4⟩ := HX.out.item i hlt2
        subst e2
        have cn := takes_env' y ((Env.of HF.out).cell (hc i hlt))
        have HP : Hid (T = (partB v.ns[i] v.its[i] && partsB (v.ns.drop (i + 1)) (v.its.drop (i + 1)))) := by
          unfold Hid; rw [HS.out, partsB_drop _ _ _ hlt hlt2]
        have HPb : Hid (partB v.ns[i] v.its[i] = if v.ns[i] = sStart then (y.k == 4) else if v.ns[i] = sAfter ∨ v.ns[i] = sRequires then tkB (.list (.bare sString)) v.its[i] else false) := by
          unfold Hid
          rw [part_tk]
          unfold partT
          by_cases h1 : v.ns[i] = sStart
          · rw [if_pos h1, if_pos h1]
            show tkB (.bare sString) v.its[i] = _
            rw [tkB, if_neg (by decide), e4.parts.1.1]
            unfold bareT
            rw [if_neg (by decide), if_neg (by decide)]
            rfl
          · rw [if_neg h1, if_neg h1]
            by_cases h2 : v.ns[i] = sAfter ∨ v.ns[i] = sRequires
            · rw [if_pos h2, if_pos h2]
            · rw [if_neg h2, if_neg h2]
        have HO : Hid (∀ W, Env wr W → Wds W (some ⟨wr.heap.size + 1, 0, none⟩) [sList, sString] → Calls Tryz.prog 28 #[.slice (some ⟨wr.heap.size + 1, 0, none⟩) 2 2, y.v] W fun e w' => e = .returned (.bool (tkB (.list (.bare sString)) v.its[i])) ∧ Fr (fun _ => False) W w') := fun W e hw => of_ls v.its[i] y W _ 2 (even_item HEv.out (List.getElem_mem hlt2)) (VIn.env ((Env.of HF.out).trans e) _ _ e4) hw (by decide)
        obtain ⟨d0, d1, d2, d3, d4, d5⟩ := (e3.env (Env.of HF.out)).six
        have HFy := hid (HF.out.trans (vFr wr y) (fun _ h => h.elim))
        have HBy := hid (vBlk wr y)
        have HBx : Hid (Blk (vBox wr y) w.heap.size 26 (Vv.cs ⟨k, n, f, t, some ⟨bn, on, none⟩, v.ns.length, nc, some ⟨bi, oi, none⟩, v.its.length, ic⟩)) := HB.out.alloc _
        have HWd : Hid (Wds (lsBox (vBox wr y)) (some ⟨wr.heap.size + 1, 0, none⟩) [sList, sString]) := by
          have h := ls_wds (vBox wr y)
          rw [World.size_alloc] at h
          exact h
        have HFl : Hid (Fr (fun _ => False) w (lsBox (vBox wr y))) := HFy.out.alloc _
        have HEl : Hid (Env wr (lsBox (vBox wr y))) := (Env.alloc wr _).trans (Env.alloc _ _)
        have HBl : Hid (Blk (lsBox (vBox wr y)) w.heap.size 26 (Vv.cs ⟨k, n, f, t, some ⟨bn, on, none⟩, v.ns.length, nc, some ⟨bi, oi, none⟩, v.its.length, ic⟩)) := HBx.out.alloc _
        have HBm : Hid (Blk (lsBox (vBox wr y)) wr.heap.size 26 y.cs) := HBy.out.alloc _
        generalize tkB (.list (.bare sString)) v.its[i] = q5 at *
        generalize partB v.ns[i] v.its[i] = q at *
        generalize v.ns[i] = name at *
        clear HS e3 e4 hc
        obtain ⟨x0, x1, x2, x3, x4, x5⟩ := HBx.out.six
        obtain ⟨y0, y1, y2, y3, y4, y5⟩ := HBy.out.six
        obtain ⟨m0, m1, m2, m3, m4, m5⟩ := HBm.out.six
        obtain ⟨k', n', f', t', na', nl', nc', ia', il', ic'⟩ := y
        simp only [vBox, lsBox] at *
        by_cases h1 : name = sStart
        · subst h1
          rw [if_pos rfl] at HPb
          by_cases hk4 : k' = 4
          · have hk4' : (k' != 4) = false := by simpa using hk4
            have HE : Hid (T = partsB (v.ns.drop (i + 1)) (v.its.drop (i + 1))) := by
              unfold Hid; rw [HP.out, HPb.out, hk4]; rfl
            clear hk4
            go_wp2_with fail
            exact ⟨⟨i + 1, by omega, by first | rfl | (congr 1), HE.out, HFy.out, HBx.out⟩, by simp [intOf]; omega⟩
          · have hk4' : (k' != 4) = true := by simpa using hk4
            have HE : Hid (T = false) := by
              unfold Hid; rw [HP.out, HPb.out]
              have : (k' == 4) = false := by simpa using hk4
              rw [this]; rfl
            clear hk4
            go_wp2_with fail
            go_ret
            exact ⟨by rw [HE.out]; rfl, HFy.out⟩
        · rw [if_neg h1] at HPb
          have g1 : (name == sStart) = false := by simpa using h1
          by_cases h2 : name = sAfter ∨ name = sRequires
          · rw [if_pos h2] at HPb
            rcases h2 with rfl | rfl
            all_goals
              clear h1 g1
              go_wp2_with fail
              refine (HO.out _ HEl.out HWd.out).mono ?_
              rintro e w2 ⟨rfl, f2⟩
              have HF2 := hid (HFl.out.trans f2 (fun _ h => h.elim))
              have HB2 := hid (f2.blk HBl.out (fun h => h))
              clear f2
              cases q5 with
              | false =>
                have HE : Hid (T = false) := by unfold Hid; rw [HP.out, HPb.out]; rfl
                go_wp2_with fail
                go_ret
                exact ⟨by rw [HE.out]; rfl, HF2.out⟩
              | true =>
                have HE : Hid (T = partsB (v.ns.drop (i + 1)) (v.its.drop (i + 1))) := by unfold Hid; rw [HP.out, HPb.out]; rfl
                go_wp2_with fail
                exact ⟨⟨i + 1, by omega, by first | rfl | (congr 1), HE.out, HF2.out, HB2.out⟩, by simp [intOf]; omega⟩
          · rw [if_neg h2] at HPb
            have g2 : (name == sAfter) = false := by simp; exact fun h => h2 (.inl h)
            have g3 : (name == sRequires) = false := by simp; exact fun h => h2 (.inr h)
            have HE : Hid (T = false) := by unfold Hid; rw [HP.out, HPb.out]; rfl
            clear h1 h2
            go_wp2_with fail
            go_ret
            exact ⟨by rw [HE.out]; rfl, HFy.out⟩
      · have hlt' : ¬ (i : Int) < ((v.ns.length : Nat) : Int) := by omega
        have HR : Hid (T = true) := by
          unfold Hid
          rw [HS.out, List.drop_eq_nil_of_le (by omega)]
          exact partsB_nil _
        go_wp2_with fail
        go_ret
        exact ⟨by rw [HR.out]; rfl, HF.out⟩
  · have h6' : (k != 6) = true := by simpa using h6
    have HT2 : Hid (T = false) := by unfold Hid; rw [HT.out, decide_eq_false h6]; rfl
    clear HT h6
    go_enter Tryz.func45, Tryz.ntmps45
    go_wp2_with fail
    go_ret
    exact ⟨by rw [HT2.out]; rfl, HF.out⟩
end Go.Proofs.YtniailfcmlongaaGreatDoor.Tr
/- The contracts of the document's of (every type), Right, Of. -/
namespace Go.Proofs.YtniailfcmlongaaGreatDoor.Tr
open Go.RowKit

set_option maxRecDepth 100000 in
set_option maxHeartbeats 4000000 in
theorem of_unit : OfT [sUnit] (.bare sUnit) := by
  intro v x w ad cap hE hx h hcap
  obtain ⟨rb, ro, rfl, hc⟩ := h.at_ (by simp)
  have c0 : (vBox w x).cell? ⟨rb, ro, none⟩ = some (.string ⟨(sUnit : List UInt8).toArray⟩) := takes_env' x (hc 0 (by simp))
  have HF := hid (vFr w x)
  have HC := hid (unit_any (vBox w x) v x hE (VIn.env (Env.alloc w _) _ _ hx))
  generalize tkB (.bare sUnit) v = T at *
  obtain ⟨z0, z1, z2, z3, z4, z5⟩ := (vBlk w x).six
  clear h hc hcap hx hE
  obtain ⟨k, n, f, t, na, nl, nc, ia, il, ic⟩ := x
  simp only [Vv.v, vBox] at *
  go_enter Tryz.func28, Tryz.ntmps28
  go_wp2_with fail
  refine HC.out.mono ?_
  rintro e w2 ⟨rfl, f2⟩
  have HF2 := hid (HF.out.trans f2 (fun _ h => h.elim))
  clear f2
  go_wp2_with fail
  go_ret
  exact ⟨rfl, HF2.out⟩

theorem dof_any : ∀ (ws : List (List UInt8)) (k : Ty), tyOf ws = some k → OfT ws k
  | [], k, h => by cases h
  | s :: ws, k, h => by
    rw [tyOf] at h
    split at h
    · rename_i hb
      split at h
      · rename_i e
        subst e
        cases h
        rcases hb with h | h | h | h | h
        · exact of_bare s (.inl h)
        · exact of_bare s (.inr (.inl h))
        · exact of_bare s (.inr (.inr (.inl h)))
        · exact of_bare s (.inr (.inr (.inr h)))
        · subst h; exact of_unit
      · cases h
    · split at h
      · rename_i e
        subst e
        unfold intTy at h
        split at h
        · cases h; exact of_int0
        · rename_i a b
          split at h
          · rename_i hab
            rw [Bool.and_eq_true] at hab
            split at h
            · cases h; exact of_int2 a b hab.1 hab.2
            · cases h
          · cases h
        · cases h
      · split at h
        · rename_i e
          subst e
          split at h
          · cases h; exact of_enum ws
          · cases h
        · split at h
          · rename_i e
            obtain ⟨t', h1, rfl⟩ := Option.map_eq_some_iff.1 h
            exact of_outer s 5 .list (.inl ⟨e, rfl, rfl⟩) ws (fun e => by rw [e] at h1; cases h1) t' (dof_any ws t' h1)
          · split at h
            · rename_i e
              obtain ⟨t', h1, rfl⟩ := Option.map_eq_some_iff.1 h
              exact of_outer s 6 .attrs (.inr ⟨e, rfl, rfl⟩) ws (fun e => by rw [e] at h1; cases h1) t' (dof_any ws t' h1)
            · cases h
/-- No word of a type is empty. -/
theorem ty_full : ∀ (ws : List (List UInt8)), (tyOf ws).isSome = true → [] ∉ ws
  | [], h => by cases h
  | s :: ws, h => by
    rw [tyOf] at h
    rw [List.mem_cons]
    rintro (e | hm)
    · subst e
      rw [if_neg (by decide), if_neg (by decide), if_neg (by decide), if_neg (by decide), if_neg (by decide)] at h
      cases h
    · split at h
      · split at h
        · rename_i e
          subst e
          simp at hm
        · cases h
      · split at h
        · unfold intTy at h
          split at h
          · simp at hm
          · rename_i a b
            split at h
            · rename_i hab
              rw [Bool.and_eq_true] at hab
              simp only [List.mem_cons, List.not_mem_nil, or_false] at hm
              rcases hm with e | e
              · exact (num_all hab.1).1 e.symm
              · exact (num_all hab.2).1 e.symm
            · cases h
          · cases h
        · split at h
          · split at h
            · rename_i he
              obtain ⟨j, hj, e⟩ := List.getElem_of_mem hm
              have := List.all_eq_true.1 he.2 j (List.mem_range.2 hj)
              rw [List.getD_eq_getElem?_getD, List.getElem?_eq_getElem hj, e] at this
              simp [choiceB] at this
            · cases h
          · split at h
            · refine ty_full ws ?_ hm
              cases e : tyOf ws with
              | none => rw [e] at h; cases h
              | some k => rfl
            · split at h
              · refine ty_full ws ?_ hm
                cases e : tyOf ws with
                | none => rw [e] at h; cases h
                | some k => rfl
              · cases h
theorem read_bad {t : List UInt8} (h : 64 < t.length ∨ [] ∈ spl t) : readT t = none := by
  unfold readT
  rcases h with h | h
  · rw [if_neg (fun e => by omega)]
  · split
    · cases e : tyOf (spl t) with
      | none => rfl
      | some k => exact absurd h (ty_full (spl t) (by rw [e]; rfl))
    · rfl
theorem read_few {t : List UInt8} (h : t.length ≤ 64) : readT t = if (spl t).length ≤ 8 then tyOf (spl t) else none := by
  unfold readT
  by_cases h8 : (spl t).length ≤ 8
  · rw [if_pos ⟨h, h8⟩, if_pos h8]
  · rw [if_neg (fun e => h8 e.2), if_neg h8]

set_option maxRecDepth 100000 in
set_option maxHeartbeats 4000000 in
theorem dRight_any (w : World) (t : List UInt8) (hl : t.length ≤ 140737488355328) : Calls Tryz.prog 13 #[.string ⟨t.toArray⟩] w fun e w' => e = .returned (.bool (readT t).isSome) ∧ Fr (fun _ => False) w w' := by
  have HW := hid (words_any w t hl)
  clear hl
  go_enter Tryz.func13, Tryz.ntmps13
  go_wp2_with fail
  refine HW.out.mono ?_
  rintro e w1 ⟨f1, ⟨rfl, hb⟩ | ⟨ad, cap, rfl, h64, hne, hcap, hwd⟩⟩
  · have HF := hid f1
    have HR := hid (read_bad hb)
    clear f1 hb
    go_wp2_with fail
    go_ret
    exact ⟨by rw [HR.out]; rfl, HF.out⟩
  · have HF := hid f1
    have HR := hid (read_few h64)
    have HC := hid (dright_any (spl t) w1 ad cap hwd hne hcap)
    generalize spl t = ws at *
    clear f1 hwd hne h64
    by_cases h8 : ws.length ≤ 8
    · rw [if_pos h8] at HR
      rw [decide_eq_true h8]
      generalize tyOf ws = T at *
      clear h8
      go_wp2_with fail
      refine HC.out.mono ?_
      rintro e w2 ⟨rfl, f2⟩
      have HF2 := hid (HF.out.trans f2 (fun _ h => h.elim))
      clear f2
      go_wp2_with fail
      go_ret
      exact ⟨by rw [HR.out]; rfl, HF2.out⟩
    · rw [if_neg h8] at HR
      rw [decide_eq_false h8]
      clear h8
      go_wp2_with fail
      go_ret
      exact ⟨by rw [HR.out]; rfl, HF.out⟩

set_option maxRecDepth 100000 in
set_option maxHeartbeats 4000000 in
theorem dOf_any (w : World) (t : List UInt8) (hl : t.length ≤ 140737488355328) (v : Vt) (x : Vv) (hx : VIn w v x) : Calls Tryz.prog 15 #[.string ⟨t.toArray⟩, x.v] w fun e w' => e = .returned (.bool (ofB t v)) ∧ Fr (fun _ => False) w w' := by
  have HW := hid (words_any (vBox w x) t hl)
  have HF0 := hid (vFr w x)
  have HB0 := hid (vBlk w x)
  have HX := hid hx
  have HRr : Hid (∀ W, Env w W → Calls Tryz.prog 19 #[x.v] W fun e w' => e = .returned (.bool (rtB v 32)) ∧ Fr (fun _ => False) W w') := fun W e => rright_any hx W e
  have HO : Hid (∀ ws k W ad cap, tyOf ws = some k → rtB v 32 = true → Env w W → Wds W ad ws → ws.length ≤ cap → Calls Tryz.prog 28 #[.slice ad ws.length cap, x.v] W fun e w' => e = .returned (.bool (tkB k v)) ∧ Fr (fun _ => False) W w') := fun ws k W ad cap h1 h2 h3 h4 h5 => dof_any ws k h1 v x W ad cap ⟨32, h2⟩ (VIn.env h3 _ _ hx) h4 h5
  have HT : Hid (ofB t v = match readT t with | none => false | some k => rtB v 32 && tkB k v) := rfl
  generalize ofB t v = T at *
  clear hl hx
  obtain ⟨k, n, f, tx, na, nl, nc, ia, il, ic⟩ := x
  simp only [Vv.v] at *
  go_enter Tryz.func15, Tryz.ntmps15
  go_wp2_with fail
  refine HW.out.mono ?_
  rintro e w1 ⟨f1, ⟨rfl, hb⟩ | ⟨ad, cap, rfl, h64, hne, hcap, hwd⟩⟩
  · have HF1 := hid (HF0.out.trans f1 (fun _ h => h.elim))
    have HB1 := hid (f1.blk HB0.out (fun h => h))
    have HE : Hid (T = false) := by unfold Hid; rw [HT.out, read_bad hb]
    clear f1 hb HT
    generalize rtB v 32 = r at *
    obtain ⟨z0, z1, z2, z3, z4, z5⟩ := HB1.out.six
    go_wp2_with fail
    refine (HRr.out _ (Env.of HF1.out)).mono ?_
    rintro e w2 ⟨rfl, f2⟩
    have HF2 := hid (HF1.out.trans f2 (fun _ h => h.elim))
    clear f2 z0 z1 z2 z3 z4 z5
    go_wp2_with fail
    go_ret
    exact ⟨by rw [HE.out]; rfl, HF2.out⟩
  · have HF1 := hid (HF0.out.trans f1 (fun _ h => h.elim))
    have HB1 := hid (f1.blk HB0.out (fun h => h))
    have HR := hid (read_few h64)
    have HC : Hid (∀ W, Env w1 W → Calls Tryz.prog 25 #[.slice ad (spl t).length cap] W fun e w' => e = .returned (.bool (tyOf (spl t)).isSome) ∧ Fr (fun _ => False) W w') := fun W e => dright_any (spl t) W ad cap (hwd.env e) hne hcap
    have HWd := hid hwd
    generalize readT t = R at *
    generalize spl t = ws at *
    clear f1 hwd hne h64 HF0 HB0
    have HO2 : Hid (∀ kd W, tyOf ws = some kd → rtB v 32 = true → Env w1 W → Calls Tryz.prog 28 #[.slice ad ws.length cap, .agg #[.int .i64 k, .int .i64 n, .float .f64 f, .string ⟨tx.toArray⟩, .slice na nl nc, .slice ia il ic]] W fun e w' => e = .returned (.bool (tkB kd v)) ∧ Fr (fun _ => False) W w') := fun kd W h1 h2 h3 => HO.out ws kd W ad cap h1 h2 ((Env.of HF1.out).trans h3) (HWd.out.env h3) hcap
    obtain ⟨z0, z1, z2, z3, z4, z5⟩ := HB1.out.six
    go_wp2_with fail
    refine (HRr.out _ (Env.of HF1.out)).mono ?_
    rintro e w2 ⟨rfl, f2⟩
    have HF2 := hid (HF1.out.trans f2 (fun _ h => h.elim))
    have HB2 := hid (f2.blk HB1.out (fun h => h))
    have HE2 := hid (Env.of f2)
    clear f2 z0 z1 z2 z3 z4 z5 HRr HO
    by_cases h8 : ws.length ≤ 8
    · rw [if_pos h8] at HR
      rw [decide_eq_true h8]
      clear h8
      go_wp2_with fail
      refine (HC.out _ HE2.out).mono ?_
      rintro e w3 ⟨rfl, f3⟩
      have HF3 := hid (HF2.out.trans f3 (fun _ h => h.elim))
      have HB3 := hid (f3.blk HB2.out (fun h => h))
      have HE3 := hid (HE2.out.trans (Env.of f3))
      clear f3
      cases hty : tyOf ws with
      | none =>
        have HE : Hid (T = false) := by unfold Hid; rw [HT.out, HR.out, hty]
        clear hty
        go_wp2_with fail
        go_ret
        exact ⟨by rw [HE.out]; rfl, HF3.out⟩
      | some kd =>
        have HE : Hid (T = (rtB v 32 && tkB kd v)) := by unfold Hid; rw [HT.out, HR.out, hty]
        have HC4 : Hid (rtB v 32 = true → Calls Tryz.prog 28 #[.slice ad ws.length cap, .agg #[.int .i64 k, .int .i64 n, .float .f64 f, .string ⟨tx.toArray⟩, .slice na nl nc, .slice ia il ic]] w3 fun e w' => e = .returned (.bool (tkB kd v)) ∧ Fr (fun _ => False) w3 w') := fun h => HO2.out kd w3 hty h HE3.out
        clear hty HT HR HC HO2
        generalize rtB v 32 = r at *
        generalize tkB kd v = q at *
        cases r with
        | false =>
          go_wp2_with fail
          go_ret
          exact ⟨by rw [HE.out]; rfl, HF3.out⟩
        | true =>
          have HC5 := hid (HC4.out rfl)
          obtain ⟨z0, z1, z2, z3, z4, z5⟩ := HB3.out.six
          go_wp2_with fail
          refine HC5.out.mono ?_
          rintro e w4 ⟨rfl, f4⟩
          have HF4 := hid (HF3.out.trans f4 (fun _ h => h.elim))
          clear f4 z0 z1 z2 z3 z4 z5
          go_wp2_with fail
          go_ret
          exact ⟨by rw [HE.out]; rfl, HF4.out⟩
    · rw [if_neg h8] at HR
      rw [decide_eq_false h8]
      have HE : Hid (T = false) := by unfold Hid; rw [HT.out, HR.out]
      clear h8 HT HR
      generalize rtB v 32 = r at *
      go_wp2_with fail
      go_ret
      exact ⟨by rw [HE.out]; rfl, HF2.out⟩
end Go.Proofs.YtniailfcmlongaaGreatDoor.Tr
