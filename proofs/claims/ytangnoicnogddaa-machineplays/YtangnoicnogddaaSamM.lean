import Derived.Test.YtangnoicnogddaaHndM
import Derived.Deep.QuietTactic
/- The contract of Right. -/
namespace Go.Proofs.Ytangnoicnogddaa.Tr
open Go.RowKit

theorem rightB_long (L : List Ent) (h : 24 < L.length) : rightB L = false := by unfold rightB; rw [decide_eq_false (by omega)]; rfl
theorem rightB_short (L : List Ent) (h : ¬ 24 < L.length) : rightB L = rightR (L.take 0) (L.drop 0) := by unfold rightB; rw [decide_eq_true (by omega)]; rfl

set_option maxRecDepth 100000 in
set_option maxHeartbeats 1000000 in
theorem right_any (w : World) (ad : Option Addr) (L : List Ent) (cap : Nat) (hL : Ents w ad L) (hc : L.length ≤ cap) :
    Calls Try.prog 43 #[.slice ad L.length cap] w fun e w' => e = .returned (.bool (rightB L)) ∧ Fr (fun _ => False) w w' := by
  have HL := hid hL
  clear hL
  by_cases h1 : 24 < L.length
  · have h1' : (24 : Int) < ((L.length : Nat) : Int) := by omega
    have HR := hid (rightB_long L h1)
    go_enter Try.func43, Try.ntmps43
    go_wp2
    go_ret
    exact ⟨by rw [HR.out]; rfl, Fr.refl _ _⟩
  have h1' : ¬ (24 : Int) < ((L.length : Nat) : Int) := by omega
  have HR := hid (rightB_short L h1)
  generalize rightB L = r at *
  go_enter Try.func43, Try.ntmps43
  go_wp2_with fail
  go_loopw [10] (fun iv wr => ∃ i : Nat, i ≤ L.length ∧ iv = .int .i64 (i : Int) ∧ r = rightR (L.take i) (L.drop i) ∧ Fr (fun _ => False) w wr) (fun iv _ => L.length - (intOf iv).toNat)
  case atStart => exact ⟨0, Nat.zero_le _, rfl, HR.out, Fr.refl _ _⟩
  case round =>
    obtain ⟨i, hi, rfl, ha, hF⟩ := hrel
    have HF := hid hF
    clear HR
    by_cases hlt : i < L.length
    · have hi1 : (i : Int) < ((L.length : Nat) : Int) := by omega
      have hi0 : (0 : Int) ≤ (i : Int) := Int.natCast_nonneg _
      have hic : (i : Int) ≤ ((cap : Nat) : Int) := by omega
      obtain ⟨bb, bo, da, dc, rfl, c0, c1, c2, hv⟩ := (HL.out.fr HF.out).at i hlt
      have HA : Hid (r = (oneB L[i] && (L.take i).all (fun y => !clash y.path L[i].path) && rightR (L.take (i + 1)) (L.drop (i + 1)))) := by
        unfold Hid; rw [ha, rightR_step L i hlt]
      have HV := hid hv
      have HE := hid ((HL.out.fr HF.out).take i)
      have hlen : (L.take i).length = i := by simp; omega
      have HFt := hid (fun (W : World) (f : Fr (fun _ => False) wr W) => by have := fits_any W (some ⟨bb, bo, none⟩) (L.take i) cap L[i].path (HE.out.fr f) (by omega); rw [hlen] at this; exact this)
      clear ha hF hv HE hlen
      generalize L[i] = x at *
      generalize hfit : (L.take i).all (fun y => !clash y.path x.path) = fb at *
      clear hfit
      have HMb := hid (fun (W : World) (f : Fr (fun _ => False) wr W) => mayBe_any W x da dc (HV.out.fr f))
      have HK : Hid (∀ W, Fr (fun _ => False) (wr.alloc (.cells #[.string ⟨x.path.toArray⟩, .int .i64 x.kind, .slice da x.data.length dc] 39)) W → W.cell? ⟨wr.heap.size, 0, none⟩ = some (.string ⟨x.path.toArray⟩) ∧ W.cell? ⟨wr.heap.size, 1, none⟩ = some (.int .i64 x.kind) ∧ W.cell? ⟨wr.heap.size, 2, none⟩ = some (.slice da x.data.length dc)) := by
        intro W f
        have hB := f.blk (Blk.new wr 39 [.string ⟨x.path.toArray⟩, .int .i64 x.kind, .slice da x.data.length dc]) (fun h => h)
        exact ⟨hB.cell 0, hB.cell 1, hB.cell 2⟩
      have HW : Hid (Fr (fun _ => False) wr (wr.alloc (.cells #[.string ⟨x.path.toArray⟩, .int .i64 x.kind, .slice da x.data.length dc] 39))) := (Fr.refl _ _).alloc _
      clear HV HL
      cases hb : oneB x with
      | false =>
        rw [hb] at HMb HA
        go_wp2_with fail
        generalize wr.alloc (.cells #[.string ⟨x.path.toArray⟩, .int .i64 x.kind, .slice da x.data.length dc] 39) = W0 at *
        refine wp_region_noPanic ?_
        refine wp_region_held_drew (S := (fun w' => w'.cell? ⟨wr.heap.size, 0, none⟩ = some (.string ⟨x.path.toArray⟩) ∧ w'.cell? ⟨wr.heap.size, 1, none⟩ = some (.int .i64 x.kind) ∧ w'.cell? ⟨wr.heap.size, 2, none⟩ = some (.slice da x.data.length dc))) (by kernel_rfl) (HK.out _ (Fr.refl _ _).drew) (fun _ => ?_)
        refine takeH (i := 0) (d := some 15) (entV x da dc) rfl (by kernel_rfl) (by kernel_rfl) (by kernel_rfl) (fun _ _ _ _ h => h) (HK.out _ (Fr.refl _ _).drew) (fun o ho => by cases ho; exact .inl ⟨by rfl, fun w hSw => by (obtain ⟨hs1, hs2, hs3⟩ := hSw; go_simp)⟩) ?_
        simp only [Act.put, List.setIfInBounds_toArray, List.set_cons_zero, List.set_cons_succ]
        refine oneH (i := 1) (by kernel_rfl) (fun o ho K' hK => ?_) (by decide)
        cases ho
        rw [if_pos (by rfl)]
        go_simp
        refine (HMb.out _ HW.out.drew).mono ?_
        rintro e w1 ⟨rfl, f1⟩
        have F1 : Hid (Fr (fun _ => False) W0 w1) := (Fr.refl _ W0).drew.trans f1 (fun _ h => h.elim)
        clear f1
        refine hK.out _ _ (HK.out _ F1.out) ?_
        clear hK K'
        try simp only [Act.put, List.setIfInBounds_toArray, List.set_cons_zero, List.set_cons_succ]
        refine takeH (i := 2) (d := some 17) (.bool true) rfl (by kernel_rfl) (by kernel_rfl) (by kernel_rfl) (fun _ _ _ _ h => h) (HK.out _ F1.out) (fun o ho => by cases ho; exact .inl ⟨by rfl, fun w hSw => by (obtain ⟨hs1, hs2, hs3⟩ := hSw; go_simp)⟩) ?_
        simp only [Act.put, List.setIfInBounds_toArray, List.set_cons_zero, List.set_cons_succ]
        refine takeH (i := 3) (d := some 18) (.bool true) rfl (by kernel_rfl) (by kernel_rfl) (by kernel_rfl) (fun _ _ _ _ h => h) (HK.out _ F1.out) (fun o ho => by cases ho; exact .inl ⟨by rfl, fun w hSw => by (obtain ⟨hs1, hs2, hs3⟩ := hSw; go_simp)⟩) ?_
        simp only [Act.put, List.setIfInBounds_toArray, List.set_cons_zero, List.set_cons_succ]
        refine takeH (i := 4) (d := some 19) undef rfl (by kernel_rfl) (by kernel_rfl) (by kernel_rfl) (fun _ _ _ _ h => h) (HK.out _ F1.out) (fun o ho => by cases ho; exact .inr ⟨by rfl, rfl⟩) ?_
        simp only [Act.put, List.setIfInBounds_toArray, List.set_cons_zero, List.set_cons_succ]
        refine takeH (i := 5) (d := some 20) undef rfl (by kernel_rfl) (by kernel_rfl) (by kernel_rfl) (fun _ _ _ _ h => h) (HK.out _ F1.out) (fun o ho => by cases ho; exact .inr ⟨by rfl, rfl⟩) ?_
        simp only [Act.put, List.setIfInBounds_toArray, List.set_cons_zero, List.set_cons_succ]
        refine takeH (i := 6) (d := some 21) undef rfl (by kernel_rfl) (by kernel_rfl) (by kernel_rfl) (fun _ _ _ _ h => h) (HK.out _ F1.out) (fun o ho => by cases ho; exact .inr ⟨by rfl, rfl⟩) ?_
        simp only [Act.put, List.setIfInBounds_toArray, List.set_cons_zero, List.set_cons_succ]
        refine takeH (i := 7) (d := some 22) undef rfl (by kernel_rfl) (by kernel_rfl) (by kernel_rfl) (fun _ _ _ _ h => h) (HK.out _ F1.out) (fun o ho => by cases ho; exact .inr ⟨by rfl, rfl⟩) ?_
        simp only [Act.put, List.setIfInBounds_toArray, List.set_cons_zero, List.set_cons_succ]
        refine takeH (i := 8) (d := some 23) undef rfl (by kernel_rfl) (by kernel_rfl) (by kernel_rfl) (fun _ _ _ _ h => h) (HK.out _ F1.out) (fun o ho => by cases ho; exact .inr ⟨by rfl, rfl⟩) ?_
        simp only [Act.put, List.setIfInBounds_toArray, List.set_cons_zero, List.set_cons_succ]
        refine oneH (i := 9) (by kernel_rfl) (fun o ho K' hK => ?_) (by decide)
        cases ho
        rw [if_neg (Bool.eq_false_iff.1 (by rfl))]
        refine hK.out _ _ (HK.out _ F1.out) ?_
        clear hK K'
        refine takeH (i := 10) (d := some 25) undef rfl (by kernel_rfl) (by kernel_rfl) (by kernel_rfl) (fun _ _ _ _ h => h) (HK.out _ F1.out) (fun o ho => by cases ho; exact .inr ⟨by rfl, rfl⟩) ?_
        refine takeH (i := 11) (d := some 26) (.bool true) rfl (by kernel_rfl) (by kernel_rfl) (by kernel_rfl) (fun _ _ _ _ h => h) (HK.out _ F1.out) (fun o ho => by cases ho; exact .inl ⟨by rfl, fun w hSw => by (obtain ⟨hs1, hs2, hs3⟩ := hSw; go_simp)⟩) ?_
        refine wpAnyH_done (by kernel_rfl) (NoPanic.normal ?_) _
        have HFw : Hid (Fr (fun _ => False) w w1) := HF.out.trans (HW.out.trans F1.out (fun _ h => h.elim)) (fun _ h => h.elim)
        go_wp2
        go_ret
        exact ⟨by rw [HA.out]; rfl, HFw.out⟩
      | true =>
        rw [hb] at HMb HA
        cases fb with
        | false =>
          go_wp2_with fail
          generalize wr.alloc (.cells #[.string ⟨x.path.toArray⟩, .int .i64 x.kind, .slice da x.data.length dc] 39) = W0 at *
          go_region_held3 (fun w' => w'.cell? ⟨wr.heap.size, 0, none⟩ = some (.string ⟨x.path.toArray⟩) ∧ w'.cell? ⟨wr.heap.size, 1, none⟩ = some (.int .i64 x.kind) ∧ w'.cell? ⟨wr.heap.size, 2, none⟩ = some (.slice da x.data.length dc))
            (first | exact HK.out _ (Fr.refl _ _).drew | exact HK.out _ F1.out | exact HK.out _ F3.out)
            ((first
              | (go_at_call 63; refine (HMb.out _ HW.out.drew).mono ?_; rintro e w1 ⟨rfl, f1⟩; have F1 : Hid (Fr (fun _ => False) W0 w1) := (Fr.refl _ W0).drew.trans f1 (fun _ h => h.elim))
              | (go_at_call 64; refine (HFt.out _ (HW.out.trans F1.out (fun _ h => h.elim))).mono ?_; rintro e w2 ⟨rfl, f2⟩; have F3 : Hid (Fr (fun _ => False) W0 w2) := F1.out.trans f2 (fun _ h => h.elim); have F2 : Hid (Fr (fun _ => False) wr w2) := HW.out.trans F3.out (fun _ h => h.elim))))
          all_goals
            have HFw : Hid (Fr (fun _ => False) w w2) := HF.out.trans F2.out (fun _ h => h.elim)
            go_wp2
            go_ret
            exact ⟨by rw [HA.out]; rfl, HFw.out⟩
        | true =>
          go_wp2_with fail
          generalize wr.alloc (.cells #[.string ⟨x.path.toArray⟩, .int .i64 x.kind, .slice da x.data.length dc] 39) = W0 at *
          go_region_held3 (fun w' => w'.cell? ⟨wr.heap.size, 0, none⟩ = some (.string ⟨x.path.toArray⟩) ∧ w'.cell? ⟨wr.heap.size, 1, none⟩ = some (.int .i64 x.kind) ∧ w'.cell? ⟨wr.heap.size, 2, none⟩ = some (.slice da x.data.length dc))
            (first | exact HK.out _ (Fr.refl _ _).drew | exact HK.out _ F1.out | exact HK.out _ F3.out)
            ((first
              | (go_at_call 63; refine (HMb.out _ HW.out.drew).mono ?_; rintro e w1 ⟨rfl, f1⟩; have F1 : Hid (Fr (fun _ => False) W0 w1) := (Fr.refl _ W0).drew.trans f1 (fun _ h => h.elim))
              | (go_at_call 64; refine (HFt.out _ (HW.out.trans F1.out (fun _ h => h.elim))).mono ?_; rintro e w2 ⟨rfl, f2⟩; have F3 : Hid (Fr (fun _ => False) W0 w2) := F1.out.trans f2 (fun _ h => h.elim); have F2 : Hid (Fr (fun _ => False) wr w2) := HW.out.trans F3.out (fun _ h => h.elim))))
          all_goals
            have HFw : Hid (Fr (fun _ => False) w w2) := HF.out.trans F2.out (fun _ h => h.elim)
            go_wp2
            exact ⟨⟨i + 1, by omega, by go_num, by rw [HA.out]; rfl, HFw.out⟩, by simp [intOf]; omega⟩
    · obtain rfl : i = L.length := by omega
      have hkn : ¬ ((L.length : Nat) : Int) < ((L.length : Nat) : Int) := by omega
      rw [rightR_end L _ (Nat.le_refl _)] at ha
      have HA := hid ha
      clear ha
      go_wp2
      go_ret
      exact ⟨by rw [HA.out]; rfl, HF.out⟩

end Go.Proofs.Ytangnoicnogddaa.Tr
/- The contract of the document's Right. -/
namespace Go.Proofs.Ytangnoicnogddaa.Tr
open Go.RowKit

theorem Ents.path {w : World} {bb bo : Nat} {L : List Ent} (h : EntsAt w bb bo L) (i : Nat) (hi : i < L.length) : w.cell? ⟨bb, bo + i * 3, none⟩ = some (.string ⟨L[i].path.toArray⟩) ∧ L[i].path.length ≤ 140737488351232 := by
  obtain ⟨da, dc, h1, h2, h3, h4⟩ := h i hi
  exact ⟨h1, h4.path⟩

theorem toList_mk (l : List UInt8) : (ByteArray.mk l.toArray).toList = l := by
  rw [ByteArray.toList_eq]

set_option maxRecDepth 100000 in
set_option maxHeartbeats 1000000 in
theorem rright_any (w : World) (ad : Option Addr) (L : List Ent) (cap : Nat) (hL : Ents w ad L) :
    Calls Try.prog 54 #[.slice ad L.length cap] w fun e w' => e = .returned (.bool (rightB L)) ∧ Fr (fun _ => False) w w' := by
  have HL := hid hL
  clear hL
  by_cases h1 : 24 < L.length
  · have h1' : (24 : Int) < ((L.length : Nat) : Int) := by omega
    have HR := hid (rightB_long L h1)
    go_enter Try.func54, Try.ntmps54
    go_wp2
    go_ret
    exact ⟨by rw [HR.out]; rfl, Fr.refl _ _⟩
  have h1' : ¬ (24 : Int) < ((L.length : Nat) : Int) := by omega
  have HR := hid (rightB_short L h1)
  generalize rightB L = r at *
  go_enter Try.func54, Try.ntmps54
  go_wp2_with fail
  go_loopw [3] (fun iv wr => ∃ i : Nat, i ≤ L.length ∧ iv = .int .i64 (i : Int) ∧ r = rightR (L.take i) (L.drop i) ∧ Fr (fun _ => False) w wr) (fun iv _ => L.length - (intOf iv).toNat)
  case atStart => exact ⟨0, Nat.zero_le _, rfl, HR.out, Fr.refl _ _⟩
  case round =>
    obtain ⟨i, hi, rfl, ha, hF⟩ := hrel
    have HF := hid hF
    clear HR
    by_cases hlt : i < L.length
    · have hi1 : (i : Int) < ((L.length : Nat) : Int) := by omega
      have hi0 : (0 : Int) ≤ (i : Int) := Int.natCast_nonneg _
      obtain ⟨bb, bo, rfl, hE⟩ := HL.out (fun e => by simp [e] at hlt)
      have HE := hid hE
      obtain ⟨da, dc, c0, c1, c2, hv⟩ := (hE.fr HF.out) i hlt
      have HA : Hid (r = (oneB L[i] && (L.take i).all (fun y => !clash y.path L[i].path) && rightR (L.take (i + 1)) (L.drop (i + 1)))) := by
        unfold Hid; rw [ha, rightR_step L i hlt]
      have HOne := hid (one_any wr L[i] da dc hv)
      have hpi := hv.path
      clear ha hF hE HL hv
      obtain ⟨wo, hwo⟩ : ∃ wo, wo = wr := ⟨_, rfl⟩
      subst hwo
      cases hb : oneB L[i] with
      | false =>
        rw [hb] at HOne HA
        go_wp2_with (go_at_call 76; refine HOne.out.mono ?_; rintro e w1 ⟨rfl, f1⟩; have F1 : Hid (Fr (fun _ => False) w w1) := HF.out.trans f1 (fun _ h => h.elim))
        go_ret
        exact ⟨by rw [HA.out]; rfl, F1.out⟩
      | true =>
        rw [hb] at HOne HA
        go_wp2_with (go_at_call 76; refine HOne.out.mono ?_; rintro e w1 ⟨rfl, f1⟩; have F1 : Hid (Fr (fun _ => False) w w1) := HF.out.trans f1 (fun _ h => h.elim); clear f1)
        go_loopw [5] (fun kv wr => ∃ k : Nat, k ≤ i ∧ kv = .int .i64 (k : Int) ∧ ((L.take i).take k).all (fun y => !clash y.path L[i].path) = true ∧ wr = w1) (fun kv _ => i - (intOf kv).toNat)
        case atStart => exact ⟨0, Nat.zero_le _, rfl, rfl, rfl⟩
        case round =>
          obtain ⟨k, hk, rfl, hak, rfl⟩ := hrel
          by_cases hkl : k < i
          · have hk1 : (k : Int) < (i : Int) := by omega
            have hk0 : (0 : Int) ≤ (k : Int) := Int.natCast_nonneg _
            have hk2 : (k : Int) < ((L.length : Nat) : Int) := by omega
            obtain ⟨ck, hpk⟩ := Ents.path (HE.out.fr F1.out) k (by omega)
            obtain ⟨ci, _⟩ := Ents.path (HE.out.fr F1.out) i hlt
            have hkt : k < (L.take i).length := by simp; omega
            have HBad := hid (all_clash_bad (L.take i) L[i].path k hkt)
            have HOk := hid (all_clash_ok (L.take i) L[i].path k hkt hak)
            simp only [List.getElem_take] at HBad HOk
            have HC := hid (clash_eq L[k].path L[i].path)
            generalize L[k] = y at *
            generalize L[i] = x at *
            clear c0 c1 c2 hak hkt
            cases hq : Op.bytesLess y.path x.path with
            | false =>
              have HB := hid (HBad.out (by rw [HC.out, hq]; rfl))
              go_wp2
              go_ret
              exact ⟨by rw [HA.out, HB.out]; rfl, F1.out⟩
            | true =>
              rw [hq] at HC
              rw [hasPrefix_slash] at HC
              by_cases hls : y.path.length < x.path.length
              · have hls' : ((y.path.length : Nat) : Int) < ((x.path.length : Nat) : Int) := by omega
                rw [decide_eq_true hls] at HC
                have HX := hid (ext_sub x.path 0 (y.path.length + 1))
                have HT : Hid (sub x.path 0 (y.path.length + 1) = x.path.take (y.path.length + 1)) := by unfold Hid sub; rfl
                have HS : Hid (((ByteArray.mk x.path.toArray).extract 0 (y.path.length + 1)).toList = x.path.take (y.path.length + 1)) := by
                  unfold Hid; rw [HX.out, HT.out]; exact toList_mk _
                have HS2 : Hid (((ByteArray.mk y.path.toArray) ++ (ByteArray.mk #[47])).toList = y.path ++ [47]) := by
                  unfold Hid; rw [str_cat y.path [47]]; exact toList_mk _
                go_wp2
                · rename_i hst
                  have HB := hid (HBad.out (by rw [HC.out, ← HS.out, ← HS2.out, hst]; rfl))
                  go_ret
                  exact ⟨by rw [HA.out, HB.out]; rfl, F1.out⟩
                · rename_i hst
                  have HB := hid (HOk.out (by rw [HC.out, ← HS.out, ← HS2.out, hst]; rfl))
                  exact ⟨⟨k + 1, by omega, rfl, HB.out, trivial⟩, by simp [intOf]; omega⟩
              · have hls' : ¬ ((y.path.length : Nat) : Int) < ((x.path.length : Nat) : Int) := by omega
                have HB := hid (HOk.out (by rw [HC.out, decide_eq_false hls]; rfl))
                go_wp2
                exact ⟨⟨k + 1, by omega, rfl, HB.out, trivial⟩, by simp [intOf]; omega⟩
          · obtain rfl : k = i := by omega
            have hkn : ¬ (k : Int) < (k : Int) := by omega
            rw [List.take_take, Nat.min_self] at hak
            have HAk := hid hak
            clear hak
            go_wp2
            exact ⟨⟨k + 1, by omega, by go_num, by rw [HA.out, HAk.out]; rfl, F1.out⟩, by simp [intOf]; omega⟩
    · obtain rfl : i = L.length := by omega
      have hkn : ¬ ((L.length : Nat) : Int) < ((L.length : Nat) : Int) := by omega
      rw [rightR_end L _ (Nat.le_refl _)] at ha
      have HA := hid ha
      clear ha
      go_wp2
      go_ret
      exact ⟨by rw [HA.out]; rfl, HF.out⟩

end Go.Proofs.Ytangnoicnogddaa.Tr
/- The contracts of Same and SameTexts. -/
namespace Go.Proofs.Ytangnoicnogddaa.Tr
open Go.RowKit

theorem take_eq_succ {α : Type} {A B : List α} {i : Nat} (h : A.take i = B.take i) (ha : i < A.length) (hb : i < B.length) (e : A[i] = B[i]) : A.take (i + 1) = B.take (i + 1) := by
  rw [List.take_succ_eq_append_getElem ha, List.take_succ_eq_append_getElem hb, h, e]
theorem ne_of_at {α : Type} {A B : List α} {i : Nat} (ha : i < A.length) (hb : i < B.length) (e : A[i] ≠ B[i]) : A ≠ B := by
  rintro rfl; exact e rfl

theorem drewN_add (w : World) (a b : Nat) : (w.drewN a).drewN b = w.drewN (a + b) := by
  simp [World.drewN, Nat.add_assoc]

set_option maxRecDepth 100000 in
set_option maxHeartbeats 1000000 in
theorem same_any (w : World) (ad bd : Option Addr) (A B : List Ent) (ca cb : Nat) (hA : Ents w ad A) (hB : Ents w bd B) (hla : A.length ≤ 140737488351232) :
    Calls Try.prog 32 #[.slice ad A.length ca, .slice bd B.length cb] w fun e w' => e = .returned (.bool (decide (A = B))) ∧ ∃ n, w' = w.drewN n := by
  have HA := hid hA
  have HB := hid hB
  clear hA hB
  by_cases hl : A.length = B.length
  · have hl' : (((A.length : Nat) : Int) != ((B.length : Nat) : Int)) = false := by rw [hl]; simp
    have HLn := hid hl
    clear hl
    go_enter Try.func32, Try.ntmps32
    go_wp2_with fail
    go_loopw [5] (fun iv wr => ∃ i : Nat, i ≤ A.length ∧ iv = .int .i64 (i : Int) ∧ A.take i = B.take i ∧ ∃ n, wr = w.drewN n) (fun iv _ => A.length - (intOf iv).toNat)
    case atStart => exact ⟨0, Nat.zero_le _, rfl, rfl, 0, rfl⟩
    case round =>
      obtain ⟨i, hi, rfl, ht, nd, hw⟩ := hrel
      have HFd : Hid (Fr (fun _ => False) w wr) := by rw [hw]; exact (Fr.refl _ w).drewN nd
      have HW := hid hw
      clear hw
      by_cases hlt : i < A.length
      · have hi1 : (i : Int) < ((A.length : Nat) : Int) := by omega
        have hi2 : (i : Int) < ((B.length : Nat) : Int) := by have := HLn.out; omega
        have hi0 : (0 : Int) ≤ (i : Int) := Int.natCast_nonneg _
        have hltb : i < B.length := by have := HLn.out; omega
        obtain ⟨bb, bo, da, dc, rfl, c0, c1, c2, hv⟩ := (HA.out.fr HFd.out).at i hlt
        obtain ⟨bb', bo', da', dc', rfl, c0', c1', c2', hv'⟩ := (HB.out.fr HFd.out).at i hltb
        have hcv := fun n => conv_bytes (hv.src.fr ((Fr.refl _ wr).drewN n)) dc
        have hcv' := fun n => conv_bytes (hv'.src.fr ((Fr.refl _ wr).drewN n)) dc'
        have HT := hid (take_eq_succ ht hlt hltb)
        have HN := hid (ne_of_at hlt hltb (A := A) (B := B))
        clear hv hv' ht HA HB
        generalize A[i] = x at *
        generalize B[i] = y at *
        obtain ⟨p, k, d⟩ := x
        obtain ⟨p', k', d'⟩ := y
        simp only at *
        by_cases hp : p = p'
        · subst hp
          by_cases hk : k = k'
          · subst hk
            by_cases hd : d = d'
            · subst hd
              have HT' := hid (HT.out rfl)
              have hs1 : (p != p) = false := by simp
              have hs2 : (k != k) = false := by simp
              have hs3 : (d != d) = false := by simp
              go_wp2_with fail
              go_quiet (fail)
              have HWn : Hid (wr.drewN nq = w.drewN (nd + nq)) := by unfold Hid; rw [HW.out]; exact drewN_add w nd nq
              go_wp2
              exact ⟨⟨i + 1, by omega, by go_num, HT'.out, nd + nq, HWn.out⟩, by simp [intOf]; omega⟩
            · have HN' : Hid (decide (A = B) = false) := decide_eq_false (HN.out (by simp [hd]))
              have hs1 : (p != p) = false := by simp
              have hs2 : (k != k) = false := by simp
              have hs3 : (d == d') = false := by simpa using hd
              clear HN HT
              go_wp2_with fail
              go_quiet (fail)
              have HWn : Hid (wr.drewN nq = w.drewN (nd + nq)) := by unfold Hid; rw [HW.out]; exact drewN_add w nd nq
              go_wp2
              go_ret
              exact ⟨by rw [HN'.out]; rfl, nd + nq, HWn.out⟩
          · have HN' : Hid (decide (A = B) = false) := decide_eq_false (HN.out (by simp [hk]))
            have hs1 : (p != p) = false := by simp
            have hs2 : (k != k') = true := by simpa using hk
            clear HN HT
            go_wp2_with fail
            go_quiet (fail)
            have HWn : Hid (wr.drewN nq = w.drewN (nd + nq)) := by unfold Hid; rw [HW.out]; exact drewN_add w nd nq
            go_wp2
            go_ret
            exact ⟨by rw [HN'.out]; rfl, nd + nq, HWn.out⟩
        · have HN' : Hid (decide (A = B) = false) := decide_eq_false (HN.out (by simp [hp]))
          have hs1 : (!(p == p')) = true := by simpa using hp
          clear HN HT
          go_wp2_with fail
          go_quiet (fail)
          have HWn : Hid (wr.drewN nq = w.drewN (nd + nq)) := by unfold Hid; rw [HW.out]; exact drewN_add w nd nq
          go_wp2
          go_ret
          exact ⟨by rw [HN'.out]; rfl, nd + nq, HWn.out⟩
      · obtain rfl : i = A.length := by omega
        have hkn : ¬ ((A.length : Nat) : Int) < ((A.length : Nat) : Int) := by omega
        have HE : Hid (decide (A = B) = true) := by
          unfold Hid
          rw [List.take_length, HLn.out, List.take_length] at ht
          exact decide_eq_true ht
        clear ht
        go_wp2
        go_ret
        exact ⟨by rw [HE.out]; rfl, nd, HW.out⟩
  · have hl' : (((A.length : Nat) : Int) != ((B.length : Nat) : Int)) = true := by simpa using fun h => hl (by omega)
    have HE : Hid (decide (A = B) = false) := decide_eq_false (fun h => hl (by rw [h]))
    go_enter Try.func32, Try.ntmps32
    go_wp2
    go_ret
    exact ⟨by rw [HE.out]; rfl, 0, rfl⟩

end Go.Proofs.Ytangnoicnogddaa.Tr
