/- The contract of Right. -/
import Derived.Test.YtangnoicnogddaaRgt
import Derived.Test.YtangnoicnogddaaHnd
namespace Go.Proofs.Ytangnoicnogddaa.Tr
open Go.RowKit

theorem rightB_long (L : List Ent) (h : 24 < L.length) : rightB L = false := by unfold rightB; rw [decide_eq_false (by omega)]; rfl
theorem rightB_short (L : List Ent) (h : ¬ 24 < L.length) : rightB L = rightR (L.take 0) (L.drop 0) := by unfold rightB; rw [decide_eq_true (by omega)]; rfl

set_option maxRecDepth 100000 in
set_option maxHeartbeats 1000000 in
theorem right_any (w : World) (ad : Option Addr) (L : List Ent) (cap : Nat) (hL : Ents w ad L) (hc : L.length ≤ cap) :
    Calls Try.prog 43 #[.slice ad L.length cap] w fun e w' => e = .returned (.bool (rightB L)) ∧ Fr (fun _ => False) w w' := by
  have HL := hid hL
  clear hL
  by_cases h1 : 24 < L.length
  · have h1' : (24 : Int) < ((L.length : Nat) : Int) := by omega
    have HR := hid (rightB_long L h1)
    go_enter Try.func43, Try.ntmps43
    go_wp2
    go_ret
    exact ⟨by rw [HR.out]; rfl, Fr.refl _ _⟩
  have h1' : ¬ (24 : Int) < ((L.length : Nat) : Int) := by omega
  have HR := hid (rightB_short L h1)
  generalize rightB L = r at *
  go_enter Try.func43, Try.ntmps43
  go_wp2_with fail
  go_loopw [10] (fun iv wr => ∃ i : Nat, i ≤ L.length ∧ iv = .int .i64 (i : Int) ∧ r = rightR (L.take i) (L.drop i) ∧ Fr (fun _ => False) w wr) (fun iv _ => L.length - (intOf iv).toNat)
  case atStart => exact ⟨0, Nat.zero_le _, rfl, HR.out, Fr.refl _ _⟩
  case round =>
    obtain ⟨i, hi, rfl, ha, hF⟩ := hrel
    have HF := hid hF
    clear HR
    by_cases hlt : i < L.length
    · have hi1 : (i : Int) < ((L.length : Nat) : Int) := by omega
      have hi0 : (0 : Int) ≤ (i : Int) := Int.natCast_nonneg _
      have hic : (i : Int) ≤ ((cap : Nat) : Int) := by omega
      obtain ⟨bb, bo, da, dc, rfl, c0, c1, c2, hv⟩ := (HL.out.fr HF.out).at i hlt
      have HA : Hid (r = (oneB L[i] && (L.take i).all (fun y => !clash y.path L[i].path) && rightR (L.take (i + 1)) (L.drop (i + 1)))) := by
        unfold Hid; rw [ha, rightR_step L i hlt]
      have HV := hid hv
      have HE := hid ((HL.out.fr HF.out).take i)
      have hlen : (L.take i).length = i := by simp; omega
      have HFt := hid (fun (W : World) (f : Fr (fun _ => False) wr W) => by have := fits_any W (some ⟨bb, bo, none⟩) (L.take i) cap L[i].path (HE.out.fr f) (by omega); rw [hlen] at this; exact this)
      clear ha hF hv HE hlen
      generalize L[i] = x at *
      generalize hfit : (L.take i).all (fun y => !clash y.path x.path) = fb at *
      clear hfit
      have HMb := hid (fun (W : World) (f : Fr (fun _ => False) wr W) => mayBe_any W x da dc (HV.out.fr f))
      have HK : Hid (∀ W, Fr (fun _ => False) (wr.alloc (.cells #[.string ⟨x.path.toArray⟩, .int .i64 x.kind, .slice da x.data.length dc] 39)) W → W.cell? ⟨wr.heap.size, 0, none⟩ = some (.string ⟨x.path.toArray⟩) ∧ W.cell? ⟨wr.heap.size, 1, none⟩ = some (.int .i64 x.kind) ∧ W.cell? ⟨wr.heap.size, 2, none⟩ = some (.slice da x.data.length dc)) := by
        intro W f
        have hB := f.blk (Blk.new wr 39 [.string ⟨x.path.toArray⟩, .int .i64 x.kind, .slice da x.data.length dc]) (fun h => h)
        exact ⟨hB.cell 0, hB.cell 1, hB.cell 2⟩
      have HW : Hid (Fr (fun _ => False) wr (wr.alloc (.cells #[.string ⟨x.path.toArray⟩, .int .i64 x.kind, .slice da x.data.length dc] 39))) := (Fr.refl _ _).alloc _
      clear HV HL
      cases hb : oneB x with
      | false =>
        rw [hb] at HMb HA
        go_wp2_with fail
        generalize wr.alloc (.cells #[.string ⟨x.path.toArray⟩, .int .i64 x.kind, .slice da x.data.length dc] 39) = W0 at *
        refine wp_region_noPanic ?_
        refine wp_region_held_drew (S := (fun w' => w'.cell? ⟨wr.heap.size, 0, none⟩ = some (.string ⟨x.path.toArray⟩) ∧ w'.cell? ⟨wr.heap.size, 1, none⟩ = some (.int .i64 x.kind) ∧ w'.cell? ⟨wr.heap.size, 2, none⟩ = some (.slice da x.data.length dc))) (by kernel_rfl) (HK.out _ (Fr.refl _ _).drew) (fun _ => ?_)
        refine takeH (i := 0) (d := some 15) (entV x da dc) rfl (by kernel_rfl) (by kernel_rfl) (by kernel_rfl) (fun _ _ _ _ h => h) (HK.out _ (Fr.refl _ _).drew) (fun o ho => by cases ho; exact .inl ⟨by rfl, fun w hSw => by (obtain ⟨hs1, hs2, hs3⟩ := hSw; go_simp)⟩) ?_
        simp only [Act.put, List.setIfInBounds_toArray, List.set_cons_zero, List.set_cons_succ]
        refine oneH (i := 1) (by kernel_rfl) (fun o ho K' hK => ?_) (by decide)
        cases ho
        rw [if_pos (by rfl)]
        go_simp
        refine (HMb.out _ HW.out.drew).mono ?_
        rintro e w1 ⟨rfl, f1⟩
        have F1 : Hid (Fr (fun _ => False) W0 w1) := (Fr.refl _ W0).drew.trans f1 (fun _ h => h.elim)
        clear f1
        refine hK.out _ _ (HK.out _ F1.out) ?_
        clear hK K'
        try simp only [Act.put, List.setIfInBounds_toArray, List.set_cons_zero, List.set_cons_succ]
        refine takeH (i := 2) (d := some 17) (.bool true) rfl (by kernel_rfl) (by kernel_rfl) (by kernel_rfl) (fun _ _ _ _ h => h) (HK.out _ F1.out) (fun o ho => by cases ho; exact .inl ⟨by rfl, fun w hSw => by (obtain ⟨hs1, hs2, hs3⟩ := hSw; go_simp)⟩) ?_
        simp only [Act.put, List.setIfInBounds_toArray, List.set_cons_zero, List.set_cons_succ]
        refine takeH (i := 3) (d := some 18) (.bool true) rfl (by kernel_rfl) (by kernel_rfl) (by kernel_rfl) (fun _ _ _ _ h => h) (HK.out _ F1.out) (fun o ho => by cases ho; exact .inl ⟨by rfl, fun w hSw => by (obtain ⟨hs1, hs2, hs3⟩ := hSw; go_simp)⟩) ?_
        simp only [Act.put, List.setIfInBounds_toArray, List.set_cons_zero, List.set_cons_succ]
        refine takeH (i := 4) (d := some 19) undef rfl (by kernel_rfl) (by kernel_rfl) (by kernel_rfl) (fun _ _ _ _ h => h) (HK.out _ F1.out) (fun o ho => by cases ho; exact .inr ⟨by rfl, rfl⟩) ?_
        simp only [Act.put, List.setIfInBounds_toArray, List.set_cons_zero, List.set_cons_succ]
        refine takeH (i := 5) (d := some 20) undef rfl (by kernel_rfl) (by kernel_rfl) (by kernel_rfl) (fun _ _ _ _ h => h) (HK.out _ F1.out) (fun o ho => by cases ho; exact .inr ⟨by rfl, rfl⟩) ?_
        simp only [Act.put, List.setIfInBounds_toArray, List.set_cons_zero, List.set_cons_succ]
        refine takeH (i := 6) (d := some 21) undef rfl (by kernel_rfl) (by kernel_rfl) (by kernel_rfl) (fun _ _ _ _ h => h) (HK.out _ F1.out) (fun o ho => by cases ho; exact .inr ⟨by rfl, rfl⟩) ?_
        simp only [Act.put, List.setIfInBounds_toArray, List.set_cons_zero, List.set_cons_succ]
        refine takeH (i := 7) (d := some 22) undef rfl (by kernel_rfl) (by kernel_rfl) (by kernel_rfl) (fun _ _ _ _ h => h) (HK.out _ F1.out) (fun o ho => by cases ho; exact .inr ⟨by rfl, rfl⟩) ?_
        simp only [Act.put, List.setIfInBounds_toArray, List.set_cons_zero, List.set_cons_succ]
        refine takeH (i := 8) (d := some 23) undef rfl (by kernel_rfl) (by kernel_rfl) (by kernel_rfl) (fun _ _ _ _ h => h) (HK.out _ F1.out) (fun o ho => by cases ho; exact .inr ⟨by rfl, rfl⟩) ?_
        simp only [Act.put, List.setIfInBounds_toArray, List.set_cons_zero, List.set_cons_succ]
        refine oneH (i := 9) (by kernel_rfl) (fun o ho K' hK => ?_) (by decide)
        cases ho
        rw [if_neg (Bool.eq_false_iff.1 (by rfl))]
        refine hK.out _ _ (HK.out _ F1.out) ?_
        clear hK K'
        refine takeH (i := 10) (d := some 25) undef rfl (by kernel_rfl) (by kernel_rfl) (by kernel_rfl) (fun _ _ _ _ h => h) (HK.out _ F1.out) (fun o ho => by cases ho; exact .inr ⟨by rfl, rfl⟩) ?_
        refine takeH (i := 11) (d := some 26) (.bool true) rfl (by kernel_rfl) (by kernel_rfl) (by kernel_rfl) (fun _ _ _ _ h => h) (HK.out _ F1.out) (fun o ho => by cases ho; exact .inl ⟨by rfl, fun w hSw => by (obtain ⟨hs1, hs2, hs3⟩ := hSw; go_simp)⟩) ?_
        refine wpAnyH_done (by kernel_rfl) (NoPanic.normal ?_) _
        have HFw : Hid (Fr (fun _ => False) w w1) := HF.out.trans (HW.out.trans F1.out (fun _ h => h.elim)) (fun _ h => h.elim)
        go_wp2
        go_ret
        exact ⟨by rw [HA.out]; rfl, HFw.out⟩
      | true =>
        rw [hb] at HMb HA
        cases fb with
        | false =>
          go_wp2_with fail
          generalize wr.alloc (.cells #[.string ⟨x.path.toArray⟩, .int .i64 x.kind, .slice da x.data.length dc] 39) = W0 at *
          go_region_held3 (fun w' => w'.cell? ⟨wr.heap.size, 0, none⟩ = some (.string ⟨x.path.toArray⟩) ∧ w'.cell? ⟨wr.heap.size, 1, none⟩ = some (.int .i64 x.kind) ∧ w'.cell? ⟨wr.heap.size, 2, none⟩ = some (.slice da x.data.length dc))
            (first | exact HK.out _ (Fr.refl _ _).drew | exact HK.out _ F1.out | exact HK.out _ F3.out)
            ((first
              | (go_at_call 63; refine (HMb.out _ HW.out.drew).mono ?_; rintro e w1 ⟨rfl, f1⟩; have F1 : Hid (Fr (fun _ => False) W0 w1) := (Fr.refl _ W0).drew.trans f1 (fun _ h => h.elim))
              | (go_at_call 64; refine (HFt.out _ (HW.out.trans F1.out (fun _ h => h.elim))).mono ?_; rintro e w2 ⟨rfl, f2⟩; have F3 : Hid (Fr (fun _ => False) W0 w2) := F1.out.trans f2 (fun _ h => h.elim); have F2 : Hid (Fr (fun _ => False) wr w2) := HW.out.trans F3.out (fun _ h => h.elim))))
          all_goals
            have HFw : Hid (Fr (fun _ => False) w w2) := HF.out.trans F2.out (fun _ h => h.elim)
            go_wp2
            go_ret
            exact ⟨by rw [HA.out]; rfl, HFw.out⟩
        | true =>
          go_wp2_with fail
          generalize wr.alloc (.cells #[.string ⟨x.path.toArray⟩, .int .i64 x.kind, .slice da x.data.length dc] 39) = W0 at *
          go_region_held3 (fun w' => w'.cell? ⟨wr.heap.size, 0, none⟩ = some (.string ⟨x.path.toArray⟩) ∧ w'.cell? ⟨wr.heap.size, 1, none⟩ = some (.int .i64 x.kind) ∧ w'.cell? ⟨wr.heap.size, 2, none⟩ = some (.slice da x.data.length dc))
            (first | exact HK.out _ (Fr.refl _ _).drew | exact HK.out _ F1.out | exact HK.out _ F3.out)
            ((first
              | (go_at_call 63; refine (HMb.out _ HW.out.drew).mono ?_; rintro e w1 ⟨rfl, f1⟩; have F1 : Hid (Fr (fun _ => False) W0 w1) := (Fr.refl _ W0).drew.trans f1 (fun _ h => h.elim))
              | (go_at_call 64; refine (HFt.out _ (HW.out.trans F1.out (fun _ h => h.elim))).mono ?_; rintro e w2 ⟨rfl, f2⟩; have F3 : Hid (Fr (fun _ => False) W0 w2) := F1.out.trans f2 (fun _ h => h.elim); have F2 : Hid (Fr (fun _ => False) wr w2) := HW.out.trans F3.out (fun _ h => h.elim))))
          all_goals
            have HFw : Hid (Fr (fun _ => False) w w2) := HF.out.trans F2.out (fun _ h => h.elim)
            go_wp2
            exact ⟨⟨i + 1, by omega, by go_num, by rw [HA.out]; rfl, HFw.out⟩, by simp [intOf]; omega⟩
    · obtain rfl : i = L.length := by omega
      have hkn : ¬ ((L.length : Nat) : Int) < ((L.length : Nat) : Int) := by omega
      rw [rightR_end L _ (Nat.le_refl _)] at ha
      have HA := hid ha
      clear ha
      go_wp2
      go_ret
      exact ⟨by rw [HA.out]; rfl, HF.out⟩

end Go.Proofs.Ytangnoicnogddaa.Tr
