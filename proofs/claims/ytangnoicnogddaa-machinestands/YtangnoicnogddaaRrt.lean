/- The contract of the document's Right. -/
import Derived.Test.YtangnoicnogddaaRgh
namespace Go.Proofs.Ytangnoicnogddaa.Tr
open Go.RowKit

theorem Ents.path {w : World} {bb bo : Nat} {L : List Ent} (h : EntsAt w bb bo L) (i : Nat) (hi : i < L.length) : w.cell? ⟨bb, bo + i * 3, none⟩ = some (.string ⟨L[i].path.toArray⟩) ∧ L[i].path.length ≤ 140737488351232 := by
  obtain ⟨da, dc, h1, h2, h3, h4⟩ := h i hi
  exact ⟨h1, h4.path⟩

theorem toList_mk (l : List UInt8) : (ByteArray.mk l.toArray).toList = l := by
  rw [ByteArray.toList_eq]

set_option maxRecDepth 100000 in
set_option maxHeartbeats 1000000 in
theorem rright_any (w : World) (ad : Option Addr) (L : List Ent) (cap : Nat) (hL : Ents w ad L) :
    Calls Try.prog 54 #[.slice ad L.length cap] w fun e w' => e = .returned (.bool (rightB L)) ∧ Fr (fun _ => False) w w' := by
  have HL := hid hL
  clear hL
  by_cases h1 : 24 < L.length
  · have h1' : (24 : Int) < ((L.length : Nat) : Int) := by omega
    have HR := hid (rightB_long L h1)
    go_enter Try.func54, Try.ntmps54
    go_wp2
    go_ret
    exact ⟨by rw [HR.out]; rfl, Fr.refl _ _⟩
  have h1' : ¬ (24 : Int) < ((L.length : Nat) : Int) := by omega
  have HR := hid (rightB_short L h1)
  generalize rightB L = r at *
  go_enter Try.func54, Try.ntmps54
  go_wp2_with fail
  go_loopw [3] (fun iv wr => ∃ i : Nat, i ≤ L.length ∧ iv = .int .i64 (i : Int) ∧ r = rightR (L.take i) (L.drop i) ∧ Fr (fun _ => False) w wr) (fun iv _ => L.length - (intOf iv).toNat)
  case atStart => exact ⟨0, Nat.zero_le _, rfl, HR.out, Fr.refl _ _⟩
  case round =>
    obtain ⟨i, hi, rfl, ha, hF⟩ := hrel
    have HF := hid hF
    clear HR
    by_cases hlt : i < L.length
    · have hi1 : (i : Int) < ((L.length : Nat) : Int) := by omega
      have hi0 : (0 : Int) ≤ (i : Int) := Int.natCast_nonneg _
      obtain ⟨bb, bo, rfl, hE⟩ := HL.out (fun e => by simp [e] at hlt)
      have HE := hid hE
      obtain ⟨da, dc, c0, c1, c2, hv⟩ := (hE.fr HF.out) i hlt
      have HA : Hid (r = (oneB L[i] && (L.take i).all (fun y => !clash y.path L[i].path) && rightR (L.take (i + 1)) (L.drop (i + 1)))) := by
        unfold Hid; rw [ha, rightR_step L i hlt]
      have HOne := hid (one_any wr L[i] da dc hv)
      have hpi := hv.path
      clear ha hF hE HL hv
      obtain ⟨wo, hwo⟩ : ∃ wo, wo = wr := ⟨_, rfl⟩
      subst hwo
      cases hb : oneB L[i] with
      | false =>
        rw [hb] at HOne HA
        go_wp2_with (go_at_call 76; refine HOne.out.mono ?_; rintro e w1 ⟨rfl, f1⟩; have F1 : Hid (Fr (fun _ => False) w w1) := HF.out.trans f1 (fun _ h => h.elim))
        go_ret
        exact ⟨by rw [HA.out]; rfl, F1.out⟩
      | true =>
        rw [hb] at HOne HA
        go_wp2_with (go_at_call 76; refine HOne.out.mono ?_; rintro e w1 ⟨rfl, f1⟩; have F1 : Hid (Fr (fun _ => False) w w1) := HF.out.trans f1 (fun _ h => h.elim); clear f1)
        go_loopw [5] (fun kv wr => ∃ k : Nat, k ≤ i ∧ kv = .int .i64 (k : Int) ∧ ((L.take i).take k).all (fun y => !clash y.path L[i].path) = true ∧ wr = w1) (fun kv _ => i - (intOf kv).toNat)
        case atStart => exact ⟨0, Nat.zero_le _, rfl, rfl, rfl⟩
        case round =>
          obtain ⟨k, hk, rfl, hak, rfl⟩ := hrel
          by_cases hkl : k < i
          · have hk1 : (k : Int) < (i : Int) := by omega
            have hk0 : (0 : Int) ≤ (k : Int) := Int.natCast_nonneg _
            have hk2 : (k : Int) < ((L.length : Nat) : Int) := by omega
            obtain ⟨ck, hpk⟩ := Ents.path (HE.out.fr F1.out) k (by omega)
            obtain ⟨ci, _⟩ := Ents.path (HE.out.fr F1.out) i hlt
            have hkt : k < (L.take i).length := by simp; omega
            have HBad := hid (all_clash_bad (L.take i) L[i].path k hkt)
            have HOk := hid (all_clash_ok (L.take i) L[i].path k hkt hak)
            simp only [List.getElem_take] at HBad HOk
            have HC := hid (clash_eq L[k].path L[i].path)
            generalize L[k] = y at *
            generalize L[i] = x at *
            clear c0 c1 c2 hak hkt
            cases hq : Op.bytesLess y.path x.path with
            | false =>
              have HB := hid (HBad.out (by rw [HC.out, hq]; rfl))
              go_wp2
              go_ret
              exact ⟨by rw [HA.out, HB.out]; rfl, F1.out⟩
            | true =>
              rw [hq] at HC
              rw [hasPrefix_slash] at HC
              by_cases hls : y.path.length < x.path.length
              · have hls' : ((y.path.length : Nat) : Int) < ((x.path.length : Nat) : Int) := by omega
                rw [decide_eq_true hls] at HC
                have HX := hid (ext_sub x.path 0 (y.path.length + 1))
                have HT : Hid (sub x.path 0 (y.path.length + 1) = x.path.take (y.path.length + 1)) := by unfold Hid sub; rfl
                have HS : Hid (((ByteArray.mk x.path.toArray).extract 0 (y.path.length + 1)).toList = x.path.take (y.path.length + 1)) := by
                  unfold Hid; rw [HX.out, HT.out]; exact toList_mk _
                have HS2 : Hid (((ByteArray.mk y.path.toArray) ++ (ByteArray.mk #[47])).toList = y.path ++ [47]) := by
                  unfold Hid; rw [str_cat y.path [47]]; exact toList_mk _
                go_wp2
                · rename_i hst
                  have HB := hid (HBad.out (by rw [HC.out, ← HS.out, ← HS2.out, hst]; rfl))
                  go_ret
                  exact ⟨by rw [HA.out, HB.out]; rfl, F1.out⟩
                · rename_i hst
                  have HB := hid (HOk.out (by rw [HC.out, ← HS.out, ← HS2.out, hst]; rfl))
                  exact ⟨⟨k + 1, by omega, rfl, HB.out, trivial⟩, by simp [intOf]; omega⟩
              · have hls' : ¬ ((y.path.length : Nat) : Int) < ((x.path.length : Nat) : Int) := by omega
                have HB := hid (HOk.out (by rw [HC.out, decide_eq_false hls]; rfl))
                go_wp2
                exact ⟨⟨k + 1, by omega, rfl, HB.out, trivial⟩, by simp [intOf]; omega⟩
          · obtain rfl : k = i := by omega
            have hkn : ¬ (k : Int) < (k : Int) := by omega
            rw [List.take_take, Nat.min_self] at hak
            have HAk := hid hak
            clear hak
            go_wp2
            exact ⟨⟨k + 1, by omega, by go_num, by rw [HA.out, HAk.out]; rfl, F1.out⟩, by simp [intOf]; omega⟩
    · obtain rfl : i = L.length := by omega
      have hkn : ¬ ((L.length : Nat) : Int) < ((L.length : Nat) : Int) := by omega
      rw [rightR_end L _ (Nat.le_refl _)] at ha
      have HA := hid ha
      clear ha
      go_wp2
      go_ret
      exact ⟨by rw [HA.out]; rfl, HF.out⟩

end Go.Proofs.Ytangnoicnogddaa.Tr
