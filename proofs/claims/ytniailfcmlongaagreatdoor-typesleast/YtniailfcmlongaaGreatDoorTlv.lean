/- TypesLeast: the walk. -/
import Derived.Test.YtniailfcmlongaaGreatDoorTlsM
import Derived.Test.YtniailfcmlongaaGreatDoorArdM
import Derived.Test.YtniailfcmlongaaGreatDoorTswM
import Derived.Deep.RegionHeldLaw
namespace Go.Proofs.YtniailfcmlongaaGreatDoor.Tr
open Go.RowKit

theorem own_emp {W : World} {e base : Nat} (h : W.heap[e]? = some (.cells #[] 30 (0, 0))) (hb : base ≤ e) : W.ownsRow base 30 8 (.slice (some ⟨e, 0, none⟩) 0 0) ([] : List Dz).length (flatD []) :=
  ⟨rfl, .inr ⟨e, 0, #[], rfl, hb, h, Nat.le_refl _, by decide, rfl, rfl⟩⟩
theorem own_empty (w : World) (base : Nat) (hb : base ≤ w.heap.size) : (w.alloc (.cells #[] 30)).ownsRow base 30 8 (.slice (some ⟨w.heap.size, 0, none⟩) 0 0) ([] : List Dz).length (flatD []) :=
  ⟨rfl, .inr ⟨w.heap.size, 0, #[], rfl, hb, heap_alloc_new w _, Nat.le_refl _, by decide, rfl, rfl⟩⟩
/-- The cells of a row of definitions. -/
theorem DsIn.dz {w : World} {L : List Dt} {bb bo : Nat} (h : DsIn w L (some ⟨bb, bo, none⟩)) : ∃ F : List Dz, F.map (·.1) = L ∧ (∀ z ∈ F, DIn w z.1 z.2) ∧ ∀ i (hi : i < F.length), eight w bb (bo + i * 8) (F[i]).2 := by
  obtain ⟨Y, hY1, hY2⟩ := list_of (fun i (y : Dv) => ∃ hi : i < L.length, eight w bb (bo + i * 8) y ∧ DIn w L[i] y) L.length (fun i hi => by
    obtain ⟨b', o', y, e, y1, y2⟩ := h.at i hi
    simp only [Option.some.injEq, Addr.mk.injEq, and_true] at e
    obtain ⟨rfl, rfl⟩ := e
    exact ⟨y, hi, y1, y2⟩)
  refine ⟨L.zip Y, by rw [List.map_fst_zip (by omega)], fun z hz => ?_, fun i hi => ?_⟩
  · obtain ⟨i, hi, rfl⟩ := List.getElem_of_mem hz
    rw [List.length_zip] at hi
    rw [List.getElem_zip]
    obtain ⟨_, _, g⟩ := hY2 i (by omega)
    exact g
  · rw [List.length_zip] at hi
    rw [List.getElem_zip]
    obtain ⟨_, g, _⟩ := hY2 i (by omega)
    exact g
theorem dsw_own {w0 w : World} {B cap : Nat} {ad : Option Addr} {F : List Dz} (h : w.ownsRow B 30 8 (.slice ad F.length cap) F.length (flatD F)) (hD : ∀ z ∈ F, DIn w0 z.1 z.2) : DsW w0 w (F.map (·.1)) ad := fun hne => by
  have hpos : 0 < F.length := by
    rcases Nat.eq_zero_or_pos F.length with h0 | h0
    · exfalso; apply hne; rw [List.eq_nil_of_length_eq_zero h0]; rfl
    · exact h0
  obtain ⟨g, c, cur, e, _, _, hc, _, ht⟩ := own_row h hpos
  simp only [Value.slice.injEq] at e
  refine ⟨g, 0, e.1, fun i hi => ?_⟩
  have hi' : i < F.length := by simpa using hi
  refine ⟨F[i].2, ?_, ?_⟩
  · have := holds_eight (own_holds F hc ht) i (by simpa using hi')
    simpa using this
  · simp only [List.getElem_map]
    exact hD F[i] (List.getElem_mem hi')
theorem vin_zero (w : World) : VIn w (.mk 0 0 0 [] [] []) vZ := by
  rw [VIn]
  exact ⟨⟨rfl, rfl, rfl, rfl⟩, ⟨⟨by decide, by decide⟩, ⟨by decide, by decide⟩, by simp, by simp⟩, ⟨rfl, by simp, by simp, fun h => absurd rfl h⟩, ⟨rfl, by simp, by simp⟩, by rw [IIn]; trivial⟩

set_option maxRecDepth 100000 in
set_option maxHeartbeats 8000000 in
theorem typesLeast_walk (w : World) (t : List UInt8) (L M : List Dt) (P : List Int) (ad md pd : Option Addr) (lc mc pc : Nat) (hl : t.length ≤ 140737488355328) (hm : Mx w) (hL : DsIn w L ad) (hM : DsIn w M md) (hP : Ins w pd P) (hLl : L.length ≤ 140737488351232) (hMl : M.length ≤ 140737488351232) (hPl : P.length ≤ 140737488351232) :
    Calls Tryz.prog 6 #[.string ⟨t.toArray⟩, .slice ad L.length lc, .slice md M.length mc, .slice pd P.length pc] w fun e w' => e = .returned (.bool true) ∧ Fr (fun _ => False) w w' := by
  have hst := fun (W : World) (a : Addr) (m : Mode) (f : Nat) => run_store Tryz.prog W a (.float .f64 f) m rfl
  have HS := hid (shown_any w hm)
  have H1 : Hid (∀ W, Env w W → Calls Tryz.prog 11 #[.slice ad L.length lc] W fun e w' => e = .returned (.bool (smB L)) ∧ Fr (fun _ => False) W w') := fun W e => small_any W L ad lc (hL.env e) hLl
  have H2 : Hid (∀ W, Env w W → Calls Tryz.prog 11 #[.slice md M.length mc] W fun e w' => e = .returned (.bool (smB M)) ∧ Fr (fun _ => False) W w') := fun W e => small_any W M md mc (hM.env e) hMl
  have HQ1 : Hid (smB L = true → L.length ≤ 100) := fun h => by unfold smB at h; simp at h; exact h.2
  have HQ2 : Hid (smB M = true → M.length ≤ 100) := fun h => by unfold smB at h; simp at h; exact h.2
  have HMx := hid hm
  have HL := hid hL
  have HM := hid hM
  have HP := hid hP
  have HT := hid hl
  have HPl := hid hPl
  generalize smB L = q1 at *
  generalize smB M = q2 at *
  clear hm hL hM hP hl hPl
  go_enter Tryz.func6, Tryz.ntmps6
  go_wp2_with fail
  refine HS.out.mono ?_
  rintro e w1 ⟨rfl, f1⟩
  have HF1 := hid f1
  clear f1 HS
  go_wp2_with fail
  refine (H1.out _ (Env.of HF1.out)).mono ?_
  rintro e w2 ⟨rfl, f2⟩
  have HF2 := hid (HF1.out.trans f2 (fun _ h => h.elim))
  clear f2 HF1 H1
  go_wp2_with fail
  refine (H2.out _ (Env.of HF2.out)).mono ?_
  rintro e w3 ⟨rfl, f3⟩
  have HF3 := hid (HF2.out.trans f3 (fun _ h => h.elim))
  clear f3 HF2 H2
  cases q1 with
  | false =>
    go_wp2_with fail
    go_ret
    exact ⟨rfl, HF3.out⟩
  | true =>
  cases q2 with
  | false =>
    go_wp2_with fail
    go_ret
    exact ⟨rfl, HF3.out⟩
  | true =>
  have hL100 := HQ1.out rfl
  have hM100 := HQ2.out rfl
  clear HQ1 HQ2 hLl hMl
  by_cases hne : L = []
  · have h0 : (((L.length : Nat) : Int) == 0) = true := by rw [hne]; rfl
    go_wp2_with fail
    go_ret
    exact ⟨rfl, HF3.out⟩
  have hpos : 0 < L.length := List.length_pos_iff.2 hne
  have h0 : (((L.length : Nat) : Int) == 0) = false := by simp; exact hne
  have h0' : (0 : Int) < ((L.length : Nat) : Int) := by omega
  obtain ⟨bb, bo, y0, rfl, z1, z2⟩ := HL.out.at 0 hpos
  obtain ⟨k0, k1, k2, k3, k4, k5, k6, k7⟩ := eight_env z1 (Env.of HF3.out)
  rw [Nat.zero_mul, Nat.add_zero] at k6
  have HLp : Hid (L.foldl lessP y0.p = leastP L) := by
    unfold Hid
    cases L with
    | nil => exact absurd rfl hne
    | cons d r => rw [z2.2.1]; exact least_take d r
  have HNe := hid hne
  generalize y0.p = p0 at *
  clear z1 z2 hne k0 k1 k2 k3 k4 k5 k7
  go_wp2_with fail
  clear k6 h0 h0'
  go_loopw [12, 13] (fun lv iv wr => ∃ (i : Nat) (a : Int), i ≤ L.length ∧ iv = .int .i64 (i : Int) ∧ lv = .int .i64 a ∧ a = (L.take i).foldl lessP p0 ∧ Fr (fun _ => False) w wr) (fun _ iv _ => L.length - (intOf iv).toNat)
  case atStart => exact ⟨0, p0, Nat.zero_le _, rfl, rfl, by simp, HF3.out⟩
  case round =>
    obtain ⟨i, a, hi, rfl, rfl, hA, hF⟩ := hrel
    have HA := hid hA
    have HF := hid hF
    clear hA hF HF3
    by_cases hlt : i < L.length
    · have hlt' : (i : Int) < ((L.length : Nat) : Int) := by omega
      obtain ⟨bb', bo', y, e, y1, y2⟩ := HL.out.at i hlt
      simp only [Option.some.injEq, Addr.mk.injEq, and_true] at e
      obtain ⟨rfl, rfl⟩ := e
      have k6 := (eight_env y1 (Env.of HF.out)).2.2.2.2.2.2.1
      have HA2 : Hid ((L.take (i + 1)).foldl lessP p0 = lessP a L[i]) := by
        unfold Hid
        rw [List.take_succ_eq_append_getElem hlt, List.foldl_append, ← HA.out]
        rfl
      rw [show lessP a L[i] = (if y.p < a then y.p else a) by unfold lessP; rw [y2.2.1]] at HA2
      generalize y.p = p at *
      clear y1 y2 HA
      by_cases hp : p < a
      · have hp2 : ¬ a ≤ p := by omega
        have hp3 : min a p = p := by omega
        rw [if_pos hp] at HA2
        go_wp2_with fail
        exact ⟨⟨i + 1, p, by omega, by first | rfl | (congr 1), rfl, HA2.out.symm, HF.out⟩, by simp [intOf]; omega⟩
      · have hp2 : a ≤ p := by omega
        have hp3 : min a p = a := by omega
        rw [if_neg hp] at HA2
        go_wp2_with fail
        exact ⟨⟨i + 1, a, by omega, by first | rfl | (congr 1), rfl, HA2.out.symm, HF.out⟩, by simp [intOf]; omega⟩
    · have hlt' : ¬ (i : Int) < ((L.length : Nat) : Int) := by omega
      have HA2 : Hid (a = leastP L) := by unfold Hid; rw [HA.out, List.take_of_length_le (by omega), HLp.out]
      clear HA HLp
      obtain ⟨F0, hF0, hFD, hF8⟩ := HL.out.dz
      have HF0 := hid hF0
      have HFD := hid hFD
      have HL0 : Hid (L.length = F0.length) := by unfold Hid; rw [← hF0, List.length_map]
      have hF100 : F0.length ≤ 100 := by have := HL0.out; omega
      have HK0 : Hid (Kpt L a F0) := by unfold Hid; rw [HA2.out]; exact kpt_start HNe.out hF0
      have HFa : Hid (Fr (fun _ => False) w (wr.alloc (.cells #[] 30))) := HF.out.alloc _
      have HSrc : Hid (∀ q u, (flatD F0)[q]? = some u → (wr.alloc (.cells #[] 30)).cell? ⟨bb, bo + q, none⟩ = some u) := fun q u hu => (Env.of HFa.out).cell (flatD_src hF8 q u hu)
      have HOe := hid (own_empty wr w.heap.size HF.out.size)
      have hszw : w.heap.size ≤ (wr.alloc (.cells #[] 30)).heap.size := HFa.out.size
      clear hF0 hFD hF8
      go_wp2_with (at_builtin; refine Hid.out ?_)
      refine wpList_app_Ds (by rfl) _ _ (by rfl) w.heap.size _ [] F0 (some ⟨bb, bo, none⟩) lc (by rfl) (by rw [← HL0.out]; rfl) HOe.out (fun _ => ⟨bb, bo, rfl, HSrc.out⟩) hszw (by simp; omega) ?_
      intro v' W' ho hg
      have HO1 : Hid (W'.ownsRow w.heap.size 30 8 v' F0.length (flatD F0)) := ho
      have HF1 : Hid (Fr (fun _ => False) w W') := HFa.out.grown hg (fun k hk => .inr (by simp only [Value.ownBlock, Option.some.injEq] at hk; have := HF.out.size; omega))
      clear ho hg HF HFa HSrc HOe hszw hlt hlt' hi HL0
      go_wp2_with fail
      go_loopw [14, 15, 16] (fun lv iv _ wr => ∃ (i : Nat) (F : List Dz), i ≤ M.length ∧ iv = .int .i64 (i : Int) ∧ wr.ownsRow w.heap.size 30 8 lv F.length (flatD F) ∧ Kpt L a F ∧ (∀ z ∈ F, DIn w z.1 z.2) ∧ F.length ≤ 100 + i ∧ Fr (fun _ => False) w wr) (fun _ iv _ _ => M.length - (intOf iv).toNat)
      case atStart => exact ⟨0, F0, Nat.zero_le _, rfl, HO1.out, HK0.out, HFD.out, by omega, HF1.out⟩
      case round =>
        obtain ⟨j, F, hj, rfl, hO, hK, hD, hFl, hF⟩ := hrel
        have HO := hid hO
        have HK := hid hK
        have HD := hid hD
        have HF := hid hF
        clear hO hK hD hF HF1 HO1 HK0 HF0 HFD
        by_cases hlt : j < M.length ∧ j < P.length
        · obtain ⟨h1, h2⟩ := hlt
          have h1' : (j : Int) < ((M.length : Nat) : Int) := by omega
          have h2' : (j : Int) < ((P.length : Nat) : Int) := by omega
          have hFp : 0 < F.length := by
            have h := HK.out.1
            have h2 := cntF_pos HNe.out
            rw [← h] at h2
            have h3 := List.length_filter_le (fun d : Dt => decide (d.p = a)) (F.map (·.1))
            rw [List.length_map] at h3
            omega
          obtain ⟨mb, mo, y, rfl, y1, y2⟩ := HM.out.at j h1
          obtain ⟨pb, po, rfl, hp1⟩ := HP.out (fun e => by rw [e] at h2; simp at h2)
          obtain ⟨q1, q2⟩ := hp1 j h2
          obtain ⟨k0, k1, k2, k3, k4, k5, k6, k7⟩ := eight_env y1 (Env.of HF.out)
          have HC : Hid (Calls Tryz.prog 19 #[y.x.v] wr fun e w' => e = .returned (.bool (rtB M[j].v 32)) ∧ Fr (fun _ => False) wr w') := rright_any y2.1 wr (Env.of HF.out)
          have HDy := hid y2
          have HY1 := hid y1
          have HQ1 := hid q1
          have HPp := hid y2.2.1
          have hz64 : I64 P[j] := q2
          generalize hzz : P[j] = z at *
          generalize hq : rtB M[j].v 32 = q at *
          have HQr := hid hq
          clear hq hzz hp1 y1 y2 q1 q2 HM HP
          by_cases hp : y.p ≤ a
          · obtain ⟨⟨k, n, f, tt, na, nl, nc, ia, il, ic⟩, p, o⟩ := y
            simp only [Vv.v] at *
            go_wp2_with fail
            exact ⟨⟨j + 1, F, by omega, by first | rfl | (congr 1), HO.out, HK.out, HD.out, by omega, HF.out⟩, by simp [intOf]; omega⟩
          have hp2 : decide (y.p ≤ a) = false := by simpa using hp
          have HPa : Hid (a < M[j].p) := by unfold Hid; have := HPp.out; omega
          clear hp
          obtain ⟨g, fc, cur, hv, hgB, hgl, hgc, hfc, hgt⟩ := own_row HO.out hFp
          subst hv
          clear hgc hgt
          obtain ⟨⟨k, n, f, tt, na, nl, nc, ia, il, ic⟩, p, o⟩ := y
          simp only [Vv.v] at *
          go_wp2_with fail
          refine HC.out.mono ?_
          rintro e w2 ⟨rfl, f2⟩
          have HF2 := hid (HF.out.trans f2 (fun _ h => h.elim))
          have HO2 := hid (own_fr HO.out f2 (fun _ _ h => h))
          clear f2 HF HO HC k0 k1 k2 k3 k4 k5 k6 k7
          cases q with
          | false =>
            go_wp2_with fail
            exact ⟨⟨j + 1, F, by omega, by first | rfl | (congr 1), HO2.out, HK.out, HD.out, by omega, HF2.out⟩, by simp [intOf]; omega⟩
          | true =>
            have kp := (Env.of HF2.out).cell HQ1.out
            obtain ⟨k0, k1, k2, k3, k4, k5, k6, k7⟩ := eight_env HY1.out (Env.of HF2.out)
            obtain ⟨z1, z2⟩ := hz64
            have hFl2 : F.length ≤ 300 := by omega
            by_cases hz : z < 0
            · have hzr : -(z + 1) ≤ 9223372036854775807 := by omega
              have hzr2 : 0 ≤ -(z + 1) := by omega
              obtain ⟨kk, hkk, ek⟩ : ∃ kk : Nat, kk ≤ F.length ∧ -(z + 1).tmod ((F.length : Int) + 1) = (kk : Int) := by
                have e1 : -(z + 1).tmod ((F.length : Int) + 1) = (-(z + 1)) % ((F.length : Int) + 1) := by rw [← Int.neg_tmod, Int.tmod_eq_emod_of_nonneg hzr2]
                have e2 := Int.emod_nonneg (-(z + 1)) (show ((F.length : Int) + 1) ≠ 0 by omega)
                have e3 := Int.emod_lt_of_pos (-(z + 1)) (show 0 < ((F.length : Int) + 1) by omega)
                exact ⟨((-(z + 1)) % ((F.length : Int) + 1)).toNat, by omega, by rw [e1]; omega⟩
              have HEk := hid ek
              clear ek
              go_wp2_with fail
              rw [HEk.out]
              have b1 : (kk : Int) ≤ ((F.length : Nat) : Int) := by omega
              have b2 : (kk : Int) ≤ ((fc : Nat) : Int) := by omega
              have b3 : ((F.length : Nat) : Int) ≤ ((fc : Nat) : Int) := by omega
              have HY8 := hid (eight_env HY1.out (Env.of HF2.out))
              have HKp : Hid (∀ W', Fr (fun _ => False) w2 W' → eight W' mb (mo + j * 8) ⟨⟨k, n, f, tt, na, nl, nc, ia, il, ic⟩, p, o⟩) := fun W' hf => eight_env HY8.out (Env.of hf)
              have htk : (F.take kk).length = kk := by rw [List.length_take]; omega
              have HT1 : Hid (∀ W', Fr (fun _ => False) w2 W' → ∀ q u, (flatD (F.take kk))[q]? = some u → W'.cell? ⟨g, 0 + q, none⟩ = some u) := fun W' hf q u hu => by
                obtain ⟨g0, c0, cur0, hv0, _, _, hgc0, _, hgt0⟩ := own_row HO2.out hFp
                simp only [Value.slice.injEq, Option.some.injEq, Addr.mk.injEq, and_true] at hv0
                obtain ⟨⟨rfl, _⟩, _⟩ := hv0
                refine flatD_src (W := W') (bb := g) (bo := 0) (Y := F.take kk) (fun i hi => ?_) q u hu
                have hi2 : i < F.length := by rw [htk] at hi; omega
                have := holds_eight (own_holds F hgc0 hgt0) i (by simpa using hi2)
                rw [List.getElem_take]
                exact eight_env (by simpa using this) (Env.of hf)
              have HhB : Hid ((w2.alloc (.cells #[] 30)).heap[w2.heap.size]? = some (.cells #[] 30 (0, 0))) := heap_alloc_new w2 _
              have HhA : Hid (∀ ob, ((w2.alloc (.cells #[] 30)).alloc ob).heap[w2.heap.size]? = some (.cells #[] 30 (0, 0))) := fun ob => (Below.heap_alloc _ ob _ (by rw [World.size_alloc]; omega)).trans (heap_alloc_new w2 _)
              have HhC : Hid (∀ ob, ((w2.alloc ob).alloc (.cells #[] 30)).heap[w2.heap.size + 1]? = some (.cells #[] 30 (0, 0))) := fun ob => by
                have := heap_alloc_new (w2.alloc ob) (.cells #[] 30)
                rw [World.size_alloc] at this
                exact this
              have hk1000 : ([] : List Dz).length + (F.take kk).length ≤ 1000000 := by simp; omega
              have hk1001 : (F.take kk).length + ([(M[j], ⟨⟨k, n, f, tt, na, nl, nc, ia, il, ic⟩, p, o⟩)] : List Dz).length ≤ 1000000 := by simp; omega
              have hdk : (F.drop kk).length = F.length - kk := by rw [List.length_drop]
              have hk1002 : (F.take kk ++ [(M[j], ⟨⟨k, n, f, tt, na, nl, nc, ia, il, ic⟩, p, o⟩)] : List Dz).length + (F.drop kk).length ≤ 1000000 := by rw [List.length_append, htk, hdk]; simp; omega
              have HT3 : Hid (∀ W', Fr (fun _ => False) w2 W' → F.drop kk ≠ [] → ∃ bb bo, (if fc = kk then some (⟨g, 0, none⟩ : Addr) else some ⟨g, kk * 8, none⟩) = some ⟨bb, bo, none⟩ ∧ ∀ q u, (flatD (F.drop kk))[q]? = some u → W'.cell? ⟨bb, bo + q, none⟩ = some u) := fun W' hf hne2 => by
                have hl9 : 0 < (F.drop kk).length := List.length_pos_iff.2 hne2
                rw [hdk] at hl9
                refine ⟨g, kk * 8, by rw [if_neg (by omega)], fun q u hu => ?_⟩
                obtain ⟨g0, c0, cur0, hv0, _, _, hgc0, _, hgt0⟩ := own_row HO2.out hFp
                simp only [Value.slice.injEq, Option.some.injEq, Addr.mk.injEq, and_true] at hv0
                obtain ⟨⟨rfl, _⟩, _⟩ := hv0
                refine flatD_src (W := W') (bb := g) (bo := kk * 8) (Y := F.drop kk) (fun i hi => ?_) q u hu
                have hi2 : kk + i < F.length := by rw [hdk] at hi; omega
                have := holds_eight (own_holds F hgc0 hgt0) (kk + i) (by simpa using hi2)
                rw [List.getElem_drop, show kk * 8 + i * 8 = 0 + (kk + i) * 8 by omega]
                exact eight_env (by simpa using this) (Env.of hf)
              have HSz : Hid (∀ W', Fr (fun _ => False) w2 W' → w2.heap.size ≤ W'.heap.size) := fun W' hf => hf.size
              have HNs : Hid (∀ (W' : World) (bq : Nat), W'.heap[bq]? = some (.cells #[.int .i64 k, .int .i64 n, .float .f64 f, .string ⟨tt.toArray⟩, .slice na nl nc, .slice ia il ic, .int .i64 p, .int .i64 o] 30) → ∀ q u, (flatD ([(M[j], ⟨⟨k, n, f, tt, na, nl, nc, ia, il, ic⟩, p, o⟩)] : List Dz))[q]? = some u → W'.cell? ⟨bq, 0 + q, none⟩ = some u) := fun W' bq h q u hu => by
                rw [Nat.zero_add, cell_of_row W' bq q _ _ (0, 0) h]
                have e : ∀ z : Dz, flatD [z] = encZ z := fun z => by simp [flatD]
                rw [e] at hu
                simpa [encZ] using hu
              have HnA : Hid (((w2.alloc (.cells #[] 30)).alloc (.cells #[.int .i64 k, .int .i64 n, .float .f64 f, .string ⟨tt.toArray⟩, .slice na nl nc, .slice ia il ic, .int .i64 p, .int .i64 o] 30)).heap[w2.heap.size + 1]? = some (.cells #[.int .i64 k, .int .i64 n, .float .f64 f, .string ⟨tt.toArray⟩, .slice na nl nc, .slice ia il ic, .int .i64 p, .int .i64 o] 30)) := by
                have := heap_alloc_new (w2.alloc (.cells #[] 30)) (.cells #[.int .i64 k, .int .i64 n, .float .f64 f, .string ⟨tt.toArray⟩, .slice na nl nc, .slice ia il ic, .int .i64 p, .int .i64 o] 30)
                rw [World.size_alloc] at this
                exact this
              have HnC : Hid (((w2.alloc (.cells #[.int .i64 k, .int .i64 n, .float .f64 f, .string ⟨tt.toArray⟩, .slice na nl nc, .slice ia il ic, .int .i64 p, .int .i64 o] 30)).alloc (.cells #[] 30)).heap[w2.heap.size]? = some (.cells #[.int .i64 k, .int .i64 n, .float .f64 f, .string ⟨tt.toArray⟩, .slice na nl nc, .slice ia il ic, .int .i64 p, .int .i64 o] 30)) := (Below.heap_alloc _ _ _ (by rw [World.size_alloc]; omega)).trans (heap_alloc_new w2 _)
              have HgA : Hid (∀ W1 : World, (∀ q, q < ((w2.alloc (.cells #[] 30)).alloc (.cells #[.int .i64 k, .int .i64 n, .float .f64 f, .string ⟨tt.toArray⟩, .slice na nl nc, .slice ia il ic, .int .i64 p, .int .i64 o] 30)).heap.size → some q ≠ some w2.heap.size → W1.heap[q]? = ((w2.alloc (.cells #[] 30)).alloc (.cells #[.int .i64 k, .int .i64 n, .float .f64 f, .string ⟨tt.toArray⟩, .slice na nl nc, .slice ia il ic, .int .i64 p, .int .i64 o] 30)).heap[q]?) → W1.heap[w2.heap.size + 1]? = some (.cells #[.int .i64 k, .int .i64 n, .float .f64 f, .string ⟨tt.toArray⟩, .slice na nl nc, .slice ia il ic, .int .i64 p, .int .i64 o] 30)) := fun W1 h => (h _ (by rw [World.size_alloc, World.size_alloc]; omega) (by simp)).trans HnA.out
              have HgC : Hid (∀ W1 : World, (∀ q, q < ((w2.alloc (.cells #[.int .i64 k, .int .i64 n, .float .f64 f, .string ⟨tt.toArray⟩, .slice na nl nc, .slice ia il ic, .int .i64 p, .int .i64 o] 30)).alloc (.cells #[] 30)).heap.size → some q ≠ some (w2.heap.size + 1) → W1.heap[q]? = ((w2.alloc (.cells #[.int .i64 k, .int .i64 n, .float .f64 f, .string ⟨tt.toArray⟩, .slice na nl nc, .slice ia il ic, .int .i64 p, .int .i64 o] 30)).alloc (.cells #[] 30)).heap[q]?) → W1.heap[w2.heap.size]? = some (.cells #[.int .i64 k, .int .i64 n, .float .f64 f, .string ⟨tt.toArray⟩, .slice na nl nc, .slice ia il ic, .int .i64 p, .int .i64 o] 30)) := fun W1 h => (h _ (by rw [World.size_alloc, World.size_alloc]; omega) (by simp)).trans HnC.out
              go_region_held_law (fun W' => eight W' mb (mo + j * 8) ⟨⟨k, n, f, tt, na, nl, nc, ia, il, ic⟩, p, o⟩)
                (first | (refine HKp.out _ ?_; repeat (first | exact Fr.refl _ _ | exact F3.out | exact F2.out | exact F1.out | refine Fr.drew ?_ | refine Fr.alloc ?_ _)))
                ((first
                  | (have G1 := F2; clear G1
                     refine step_app_Ds (by rfl) (.tmp 111) (.tmp 114) (by rfl) w2.heap.size v2 (F.take kk ++ [(M[j], ⟨⟨k, n, f, tt, na, nl, nc, ia, il, ic⟩, p, o⟩)]) (F.drop kk) (if fc = kk then some ⟨g, 0, none⟩ else some ⟨g, kk * 8, none⟩) (fc - kk) (by rfl) (by rw [hdk]; rfl)
                      (own_fr HO3.out (by repeat (first | exact Fr.refl _ _ | refine Fr.drew ?_ | refine Fr.alloc ?_ _)) (fun _ _ h => h)) (HT3.out _ (by repeat (first | exact Fr.refl _ _ | exact F3.out | exact F2.out | exact F1.out | refine Fr.drew ?_ | refine Fr.alloc ?_ _))) (HSz.out _ (by repeat (first | exact Fr.refl _ _ | exact F3.out | exact F2.out | exact F1.out | refine Fr.drew ?_ | refine Fr.alloc ?_ _))) hk1002 ?_
                     intro v3 W3 ho3 hg3 hl3
                     have HO4 := hid ho3
                     have F3 : Hid (Fr (fun _ => False) w2 W3) := Fr.grown (by repeat (first | exact Fr.refl _ _ | exact F3.out | exact F2.out | exact F1.out | refine Fr.drew ?_ | refine Fr.alloc ?_ _)) hg3 (fun k hk => .inr (own_lt HO3.out k hk).1)
                     clear ho3 hg3 hl3)
                  | (have G1 := F1; clear G1
                     refine step_app_Ds (by rfl) (.tmp 105) (.tmp 110) (by rfl) w2.heap.size v1 (F.take kk) [(M[j], ⟨⟨k, n, f, tt, na, nl, nc, ia, il, ic⟩, p, o⟩)] (some ⟨_, 0, none⟩) 1 (by rfl) (by rfl)
                      (own_fr HO1.out (by repeat (first | exact Fr.refl _ _ | refine Fr.drew ?_ | refine Fr.alloc ?_ _)) (fun _ _ h => h))
                      (fun _ => ⟨_, 0, rfl, HNs.out _ _ (by first | exact HN1.out | exact heap_alloc_new _ _)⟩)
                      (HSz.out _ (by repeat (first | exact Fr.refl _ _ | exact F3.out | exact F2.out | exact F1.out | refine Fr.drew ?_ | refine Fr.alloc ?_ _))) hk1001 ?_
                     intro v2 W2 ho2 hg2 hl2
                     have HO3 := hid ho2
                     have F2 : Hid (Fr (fun _ => False) w2 W2) := Fr.grown (by repeat (first | exact Fr.refl _ _ | exact F3.out | exact F2.out | exact F1.out | refine Fr.drew ?_ | refine Fr.alloc ?_ _)) hg2 (fun k hk => .inr (own_lt HO1.out k hk).1)
                     clear ho2 hg2 hl2)
                  | (refine step_app_Ds (by rfl) (.tmp 101) (.tmp 104) (by rfl) w2.heap.size _ [] (F.take kk) (some ⟨g, 0, none⟩) fc (by rfl) (by rw [htk]; rfl)
                      (by first | exact own_emp HhB.out (by omega) | exact own_emp (HhA.out _) (by omega) | exact own_emp (HhC.out _) (by omega))
                      (fun _ => ⟨g, 0, rfl, HT1.out _ (by repeat (first | exact Fr.refl _ _ | refine Fr.drew ?_ | refine Fr.alloc ?_ _))⟩)
                      (HSz.out _ (by repeat (first | exact Fr.refl _ _ | refine Fr.drew ?_ | refine Fr.alloc ?_ _))) hk1000 ?_
                     intro v1 W1 ho1 hg1 hl1
                     have HO1 : Hid (W1.ownsRow w2.heap.size 30 8 v1 (F.take kk).length (flatD (F.take kk))) := ho1
                     have F1 : Hid (Fr (fun _ => False) w2 W1) := Fr.grown (by repeat (first | exact Fr.refl _ _ | refine Fr.drew ?_ | refine Fr.alloc ?_ _)) hg1 (fun k hk => .inr (by have h9 : some _ = some _ := hk; simp only [Option.some.injEq] at h9; omega))
                     first
                       | have HN1 := hid (HgA.out _ hg1.block)
                       | have HN1 := hid (HgC.out _ hg1.block)
                       | skip
                     clear ho1 hg1 hl1)))
              all_goals
                have HFe := hid (HF2.out.trans F3.out (fun _ h => h.elim))
                have HOe2 := hid (own_down HO4.out HF2.out.size)
                have HKe := hid (kpt_ins HK.out kk (M[j], ⟨⟨k, n, f, tt, na, nl, nc, ia, il, ic⟩, p, o⟩) HPa.out HQr.out)
                have HDe : Hid (∀ z ∈ F.take kk ++ [(M[j], (⟨⟨k, n, f, tt, na, nl, nc, ia, il, ic⟩, p, o⟩ : Dv))] ++ F.drop kk, DIn w z.1 z.2) := fun z hz => by
                  rcases List.mem_append.1 hz with hz | hz
                  · rcases List.mem_append.1 hz with hz | hz
                    · exact HD.out z (List.mem_of_mem_take hz)
                    · rw [List.mem_singleton.1 hz]; exact HDy.out
                  · exact HD.out z (List.mem_of_mem_drop hz)
                have hle : (F.take kk ++ [(M[j], (⟨⟨k, n, f, tt, na, nl, nc, ia, il, ic⟩, p, o⟩ : Dv))] ++ F.drop kk).length ≤ 100 + (j + 1) := by
                  rw [List.length_append, List.length_append, htk, hdk]; simp; omega
                go_wp2_with fail
                exact ⟨⟨j + 1, _, by omega, by first | rfl | (congr 1), HOe2.out, HKe.out, HDe.out, hle, HFe.out⟩, by simp [intOf]; omega⟩
            · have hzr2 : 0 ≤ z := by omega
              obtain ⟨kk, hkk, ek⟩ : ∃ kk : Nat, kk ≤ F.length ∧ z % ((F.length : Int) + 1) = (kk : Int) := by
                have e2 := Int.emod_nonneg z (show ((F.length : Int) + 1) ≠ 0 by omega)
                have e3 := Int.emod_lt_of_pos z (show 0 < ((F.length : Int) + 1) by omega)
                exact ⟨(z % ((F.length : Int) + 1)).toNat, by omega, by omega⟩
              have HEk := hid ek
              clear ek
              go_wp2_with fail
              rw [HEk.out]
              have b1 : (kk : Int) ≤ ((F.length : Nat) : Int) := by omega
              have b2 : (kk : Int) ≤ ((fc : Nat) : Int) := by omega
              have b3 : ((F.length : Nat) : Int) ≤ ((fc : Nat) : Int) := by omega
              have HY8 := hid (eight_env HY1.out (Env.of HF2.out))
              have HKp : Hid (∀ W', Fr (fun _ => False) w2 W' → eight W' mb (mo + j * 8) ⟨⟨k, n, f, tt, na, nl, nc, ia, il, ic⟩, p, o⟩) := fun W' hf => eight_env HY8.out (Env.of hf)
              have htk : (F.take kk).length = kk := by rw [List.length_take]; omega
              have HT1 : Hid (∀ W', Fr (fun _ => False) w2 W' → ∀ q u, (flatD (F.take kk))[q]? = some u → W'.cell? ⟨g, 0 + q, none⟩ = some u) := fun W' hf q u hu => by
                obtain ⟨g0, c0, cur0, hv0, _, _, hgc0, _, hgt0⟩ := own_row HO2.out hFp
                simp only [Value.slice.injEq, Option.some.injEq, Addr.mk.injEq, and_true] at hv0
                obtain ⟨⟨rfl, _⟩, _⟩ := hv0
                refine flatD_src (W := W') (bb := g) (bo := 0) (Y := F.take kk) (fun i hi => ?_) q u hu
                have hi2 : i < F.length := by rw [htk] at hi; omega
                have := holds_eight (own_holds F hgc0 hgt0) i (by simpa using hi2)
                rw [List.getElem_take]
                exact eight_env (by simpa using this) (Env.of hf)
              have HhB : Hid ((w2.alloc (.cells #[] 30)).heap[w2.heap.size]? = some (.cells #[] 30 (0, 0))) := heap_alloc_new w2 _
              have HhA : Hid (∀ ob, ((w2.alloc (.cells #[] 30)).alloc ob).heap[w2.heap.size]? = some (.cells #[] 30 (0, 0))) := fun ob => (Below.heap_alloc _ ob _ (by rw [World.size_alloc]; omega)).trans (heap_alloc_new w2 _)
              have HhC : Hid (∀ ob, ((w2.alloc ob).alloc (.cells #[] 30)).heap[w2.heap.size + 1]? = some (.cells #[] 30 (0, 0))) := fun ob => by
                have := heap_alloc_new (w2.alloc ob) (.cells #[] 30)
                rw [World.size_alloc] at this
                exact this
              have hk1000 : ([] : List Dz).length + (F.take kk).length ≤ 1000000 := by simp; omega
              have hk1001 : (F.take kk).length + ([(M[j], ⟨⟨k, n, f, tt, na, nl, nc, ia, il, ic⟩, p, o⟩)] : List Dz).length ≤ 1000000 := by simp; omega
              have hdk : (F.drop kk).length = F.length - kk := by rw [List.length_drop]
              have hk1002 : (F.take kk ++ [(M[j], ⟨⟨k, n, f, tt, na, nl, nc, ia, il, ic⟩, p, o⟩)] : List Dz).length + (F.drop kk).length ≤ 1000000 := by rw [List.length_append, htk, hdk]; simp; omega
              have HT3 : Hid (∀ W', Fr (fun _ => False) w2 W' → F.drop kk ≠ [] → ∃ bb bo, (if fc = kk then some (⟨g, 0, none⟩ : Addr) else some ⟨g, kk * 8, none⟩) = some ⟨bb, bo, none⟩ ∧ ∀ q u, (flatD (F.drop kk))[q]? = some u → W'.cell? ⟨bb, bo + q, none⟩ = some u) := fun W' hf hne2 => by
                have hl9 : 0 < (F.drop kk).length := List.length_pos_iff.2 hne2
                rw [hdk] at hl9
                refine ⟨g, kk * 8, by rw [if_neg (by omega)], fun q u hu => ?_⟩
                obtain ⟨g0, c0, cur0, hv0, _, _, hgc0, _, hgt0⟩ := own_row HO2.out hFp
                simp only [Value.slice.injEq, Option.some.injEq, Addr.mk.injEq, and_true] at hv0
                obtain ⟨⟨rfl, _⟩, _⟩ := hv0
                refine flatD_src (W := W') (bb := g) (bo := kk * 8) (Y := F.drop kk) (fun i hi => ?_) q u hu
                have hi2 : kk + i < F.length := by rw [hdk] at hi; omega
                have := holds_eight (own_holds F hgc0 hgt0) (kk + i) (by simpa using hi2)
                rw [List.getElem_drop, show kk * 8 + i * 8 = 0 + (kk + i) * 8 by omega]
                exact eight_env (by simpa using this) (Env.of hf)
              have HSz : Hid (∀ W', Fr (fun _ => False) w2 W' → w2.heap.size ≤ W'.heap.size) := fun W' hf => hf.size
              have HNs : Hid (∀ (W' : World) (bq : Nat), W'.heap[bq]? = some (.cells #[.int .i64 k, .int .i64 n, .float .f64 f, .string ⟨tt.toArray⟩, .slice na nl nc, .slice ia il ic, .int .i64 p, .int .i64 o] 30) → ∀ q u, (flatD ([(M[j], ⟨⟨k, n, f, tt, na, nl, nc, ia, il, ic⟩, p, o⟩)] : List Dz))[q]? = some u → W'.cell? ⟨bq, 0 + q, none⟩ = some u) := fun W' bq h q u hu => by
                rw [Nat.zero_add, cell_of_row W' bq q _ _ (0, 0) h]
                have e : ∀ z : Dz, flatD [z] = encZ z := fun z => by simp [flatD]
                rw [e] at hu
                simpa [encZ] using hu
              have HnA : Hid (((w2.alloc (.cells #[] 30)).alloc (.cells #[.int .i64 k, .int .i64 n, .float .f64 f, .string ⟨tt.toArray⟩, .slice na nl nc, .slice ia il ic, .int .i64 p, .int .i64 o] 30)).heap[w2.heap.size + 1]? = some (.cells #[.int .i64 k, .int .i64 n, .float .f64 f, .string ⟨tt.toArray⟩, .slice na nl nc, .slice ia il ic, .int .i64 p, .int .i64 o] 30)) := by
                have := heap_alloc_new (w2.alloc (.cells #[] 30)) (.cells #[.int .i64 k, .int .i64 n, .float .f64 f, .string ⟨tt.toArray⟩, .slice na nl nc, .slice ia il ic, .int .i64 p, .int .i64 o] 30)
                rw [World.size_alloc] at this
                exact this
              have HnC : Hid (((w2.alloc (.cells #[.int .i64 k, .int .i64 n, .float .f64 f, .string ⟨tt.toArray⟩, .slice na nl nc, .slice ia il ic, .int .i64 p, .int .i64 o] 30)).alloc (.cells #[] 30)).heap[w2.heap.size]? = some (.cells #[.int .i64 k, .int .i64 n, .float .f64 f, .string ⟨tt.toArray⟩, .slice na nl nc, .slice ia il ic, .int .i64 p, .int .i64 o] 30)) := (Below.heap_alloc _ _ _ (by rw [World.size_alloc]; omega)).trans (heap_alloc_new w2 _)
              have HgA : Hid (∀ W1 : World, (∀ q, q < ((w2.alloc (.cells #[] 30)).alloc (.cells #[.int .i64 k, .int .i64 n, .float .f64 f, .string ⟨tt.toArray⟩, .slice na nl nc, .slice ia il ic, .int .i64 p, .int .i64 o] 30)).heap.size → some q ≠ some w2.heap.size → W1.heap[q]? = ((w2.alloc (.cells #[] 30)).alloc (.cells #[.int .i64 k, .int .i64 n, .float .f64 f, .string ⟨tt.toArray⟩, .slice na nl nc, .slice ia il ic, .int .i64 p, .int .i64 o] 30)).heap[q]?) → W1.heap[w2.heap.size + 1]? = some (.cells #[.int .i64 k, .int .i64 n, .float .f64 f, .string ⟨tt.toArray⟩, .slice na nl nc, .slice ia il ic, .int .i64 p, .int .i64 o] 30)) := fun W1 h => (h _ (by rw [World.size_alloc, World.size_alloc]; omega) (by simp)).trans HnA.out
              have HgC : Hid (∀ W1 : World, (∀ q, q < ((w2.alloc (.cells #[.int .i64 k, .int .i64 n, .float .f64 f, .string ⟨tt.toArray⟩, .slice na nl nc, .slice ia il ic, .int .i64 p, .int .i64 o] 30)).alloc (.cells #[] 30)).heap.size → some q ≠ some (w2.heap.size + 1) → W1.heap[q]? = ((w2.alloc (.cells #[.int .i64 k, .int .i64 n, .float .f64 f, .string ⟨tt.toArray⟩, .slice na nl nc, .slice ia il ic, .int .i64 p, .int .i64 o] 30)).alloc (.cells #[] 30)).heap[q]?) → W1.heap[w2.heap.size]? = some (.cells #[.int .i64 k, .int .i64 n, .float .f64 f, .string ⟨tt.toArray⟩, .slice na nl nc, .slice ia il ic, .int .i64 p, .int .i64 o] 30)) := fun W1 h => (h _ (by rw [World.size_alloc, World.size_alloc]; omega) (by simp)).trans HnC.out
              go_region_held_law (fun W' => eight W' mb (mo + j * 8) ⟨⟨k, n, f, tt, na, nl, nc, ia, il, ic⟩, p, o⟩)
                (first | (refine HKp.out _ ?_; repeat (first | exact Fr.refl _ _ | exact F3.out | exact F2.out | exact F1.out | refine Fr.drew ?_ | refine Fr.alloc ?_ _)))
                ((first
                  | (have G1 := F2; clear G1
                     refine step_app_Ds (by rfl) (.tmp 111) (.tmp 114) (by rfl) w2.heap.size v2 (F.take kk ++ [(M[j], ⟨⟨k, n, f, tt, na, nl, nc, ia, il, ic⟩, p, o⟩)]) (F.drop kk) (if fc = kk then some ⟨g, 0, none⟩ else some ⟨g, kk * 8, none⟩) (fc - kk) (by rfl) (by rw [hdk]; rfl)
                      (own_fr HO3.out (by repeat (first | exact Fr.refl _ _ | refine Fr.drew ?_ | refine Fr.alloc ?_ _)) (fun _ _ h => h)) (HT3.out _ (by repeat (first | exact Fr.refl _ _ | exact F3.out | exact F2.out | exact F1.out | refine Fr.drew ?_ | refine Fr.alloc ?_ _))) (HSz.out _ (by repeat (first | exact Fr.refl _ _ | exact F3.out | exact F2.out | exact F1.out | refine Fr.drew ?_ | refine Fr.alloc ?_ _))) hk1002 ?_
                     intro v3 W3 ho3 hg3 hl3
                     have HO4 := hid ho3
                     have F3 : Hid (Fr (fun _ => False) w2 W3) := Fr.grown (by repeat (first | exact Fr.refl _ _ | exact F3.out | exact F2.out | exact F1.out | refine Fr.drew ?_ | refine Fr.alloc ?_ _)) hg3 (fun k hk => .inr (own_lt HO3.out k hk).1)
                     clear ho3 hg3 hl3)
                  | (have G1 := F1; clear G1
                     refine step_app_Ds (by rfl) (.tmp 105) (.tmp 110) (by rfl) w2.heap.size v1 (F.take kk) [(M[j], ⟨⟨k, n, f, tt, na, nl, nc, ia, il, ic⟩, p, o⟩)] (some ⟨_, 0, none⟩) 1 (by rfl) (by rfl)
                      (own_fr HO1.out (by repeat (first | exact Fr.refl _ _ | refine Fr.drew ?_ | refine Fr.alloc ?_ _)) (fun _ _ h => h))
                      (fun _ => ⟨_, 0, rfl, HNs.out _ _ (by first | exact HN1.out | exact heap_alloc_new _ _)⟩)
                      (HSz.out _ (by repeat (first | exact Fr.refl _ _ | exact F3.out | exact F2.out | exact F1.out | refine Fr.drew ?_ | refine Fr.alloc ?_ _))) hk1001 ?_
                     intro v2 W2 ho2 hg2 hl2
                     have HO3 := hid ho2
                     have F2 : Hid (Fr (fun _ => False) w2 W2) := Fr.grown (by repeat (first | exact Fr.refl _ _ | exact F3.out | exact F2.out | exact F1.out | refine Fr.drew ?_ | refine Fr.alloc ?_ _)) hg2 (fun k hk => .inr (own_lt HO1.out k hk).1)
                     clear ho2 hg2 hl2)
                  | (refine step_app_Ds (by rfl) (.tmp 101) (.tmp 104) (by rfl) w2.heap.size _ [] (F.take kk) (some ⟨g, 0, none⟩) fc (by rfl) (by rw [htk]; rfl)
                      (by first | exact own_emp HhB.out (by omega) | exact own_emp (HhA.out _) (by omega) | exact own_emp (HhC.out _) (by omega))
                      (fun _ => ⟨g, 0, rfl, HT1.out _ (by repeat (first | exact Fr.refl _ _ | refine Fr.drew ?_ | refine Fr.alloc ?_ _))⟩)
                      (HSz.out _ (by repeat (first | exact Fr.refl _ _ | refine Fr.drew ?_ | refine Fr.alloc ?_ _))) hk1000 ?_
                     intro v1 W1 ho1 hg1 hl1
                     have HO1 : Hid (W1.ownsRow w2.heap.size 30 8 v1 (F.take kk).length (flatD (F.take kk))) := ho1
                     have F1 : Hid (Fr (fun _ => False) w2 W1) := Fr.grown (by repeat (first | exact Fr.refl _ _ | refine Fr.drew ?_ | refine Fr.alloc ?_ _)) hg1 (fun k hk => .inr (by have h9 : some _ = some _ := hk; simp only [Option.some.injEq] at h9; omega))
                     first
                       | have HN1 := hid (HgA.out _ hg1.block)
                       | have HN1 := hid (HgC.out _ hg1.block)
                       | skip
                     clear ho1 hg1 hl1)))
              all_goals
                have HFe := hid (HF2.out.trans F3.out (fun _ h => h.elim))
                have HOe2 := hid (own_down HO4.out HF2.out.size)
                have HKe := hid (kpt_ins HK.out kk (M[j], ⟨⟨k, n, f, tt, na, nl, nc, ia, il, ic⟩, p, o⟩) HPa.out HQr.out)
                have HDe : Hid (∀ z ∈ F.take kk ++ [(M[j], (⟨⟨k, n, f, tt, na, nl, nc, ia, il, ic⟩, p, o⟩ : Dv))] ++ F.drop kk, DIn w z.1 z.2) := fun z hz => by
                  rcases List.mem_append.1 hz with hz | hz
                  · rcases List.mem_append.1 hz with hz | hz
                    · exact HD.out z (List.mem_of_mem_take hz)
                    · rw [List.mem_singleton.1 hz]; exact HDy.out
                  · exact HD.out z (List.mem_of_mem_drop hz)
                have hle : (F.take kk ++ [(M[j], (⟨⟨k, n, f, tt, na, nl, nc, ia, il, ic⟩, p, o⟩ : Dv))] ++ F.drop kk).length ≤ 100 + (j + 1) := by
                  rw [List.length_append, List.length_append, htk, hdk]; simp; omega
                go_wp2_with fail
                exact ⟨⟨j + 1, _, by omega, by first | rfl | (congr 1), HOe2.out, HKe.out, HDe.out, hle, HFe.out⟩, by simp [intOf]; omega⟩
        · rcases (show (¬ j < M.length) ∨ (j < M.length ∧ ¬ j < P.length) by omega) with h1 | ⟨h1, h2⟩
          · have h1' : decide ((j : Int) < ((M.length : Nat) : Int)) = false := by simp; omega
            have hFp : 0 < F.length := by
              have h := HK.out.1
              have h2 := cntF_pos HNe.out
              rw [← h] at h2
              have h3 := List.length_filter_le (fun d : Dt => decide (d.p = a)) (F.map (·.1))
              rw [List.length_map] at h3
              omega
            obtain ⟨g, fc, cur, hv, hgB, hgl, hgc, hfc, hgt⟩ := own_row HO.out hFp
            subst hv
            have HM1 := hid (Merge_any w wr (Env.of HF.out) t L (some ⟨bb, bo, none⟩) lc HT.out (HMx.out.env (Env.of HF.out)) (DsW.env (DsIn.w HL.out) (Env.of HF.out)) (by omega))
            have HSm : Hid (mge t (F.map (·.1)) = mge t L) := kpt_same HNe.out (by have := HK.out; rw [HA2.out] at this; exact this) t
            generalize mge t L = R at *
            clear hgc hgt HK HL HM HP HNe HA2 hpos
            go_wp2_with fail
            refine HM1.out.mono ?_
            rintro e w4 ⟨f4, ⟨er, e1, rfl⟩ | ⟨v1, x1, e1, rfl, hv1⟩⟩
            · have HF4 := hid (HF.out.trans f4 (fun _ h => h.elim))
              have HF4b := hid (HF4.out.trans (vFr w4 vZ) (fun _ h => h.elim))
              have HO4 : Hid ((vBox w4 vZ).ownsRow w.heap.size 30 8 (.slice (some ⟨g, 0, none⟩) F.length fc) F.length (flatD F)) := own_alloc (own_fr HO.out f4 (fun _ _ h => h)) _
              have HB4 := hid (vBlk w4 vZ)
              have HM2 := hid (Merge_any w (vBox w4 vZ) (Env.of HF4b.out) t (F.map (·.1)) (some ⟨g, 0, none⟩) fc HT.out (HMx.out.env (Env.of HF4b.out)) (dsw_own HO4.out HD.out) (by rw [List.length_map]; omega))
              rw [List.length_map] at HM2
              have HE := hid e1
              clear f4 e1 HM1 HF4 HO HF
              rw [show vZ.v = Value.agg #[.int .i64 0, .int .i64 0, .float .f64 0, .string ⟨#[]⟩, .slice none 0 0, .slice none 0 0] from rfl]
              go_wp2_with fail
              refine HM2.out.mono ?_
              rintro e w5 ⟨f5, ⟨er2, e2, rfl⟩ | ⟨v2, x2, e2, rfl, hv2⟩⟩
              · rw [HSm.out, HE.out] at e2
                injection e2 with e2
                subst e2
                have HF5 := hid (HF4b.out.trans f5 (fun _ h => h.elim))
                have HF5b := hid (HF5.out.trans (vFr w5 vZ) (fun _ h => h.elim))
                have HB5 := hid ((vFr w5 vZ).blk (f5.blk HB4.out (fun h => h)) (fun h => h))
                obtain ⟨c0, c1, c2, c3, c4, c5⟩ := HB5.out.six
                obtain ⟨d0, d1, d2, d3, d4, d5⟩ := (vBlk w5 vZ).six
                have HC := hid (rsame_any (.mk 0 0 0 [] [] []) vZ vZ (vBox w5 vZ) (vin_zero _) (vin_zero _))
                have her : (er == er) = true := by simp
                clear f5 HM2 HF5 HB5 HB4
                rw [show vZ.v = Value.agg #[.int .i64 0, .int .i64 0, .float .f64 0, .string ⟨#[]⟩, .slice none 0 0, .slice none 0 0] from rfl]
                go_wp2_with fail
                refine HC.out.mono ?_
                rintro e w6 ⟨rfl, f6⟩
                have HF6 := hid (HF5b.out.trans f6 (fun _ h => h.elim))
                clear f6
                go_wp2_with fail
                go_ret
                exact ⟨rfl, HF6.out⟩
              · rw [HSm.out, HE.out] at e2
                cases e2
            · have HF4 := hid (HF.out.trans f4 (fun _ h => h.elim))
              have HF4b := hid (HF4.out.trans (vFr w4 x1) (fun _ h => h.elim))
              have HO4 : Hid ((vBox w4 x1).ownsRow w.heap.size 30 8 (.slice (some ⟨g, 0, none⟩) F.length fc) F.length (flatD F)) := own_alloc (own_fr HO.out f4 (fun _ _ h => h)) _
              have HB4 := hid (vBlk w4 x1)
              have HM2 := hid (Merge_any w (vBox w4 x1) (Env.of HF4b.out) t (F.map (·.1)) (some ⟨g, 0, none⟩) fc HT.out (HMx.out.env (Env.of HF4b.out)) (dsw_own HO4.out HD.out) (by rw [List.length_map]; omega))
              rw [List.length_map] at HM2
              have HE := hid e1
              have HV1 := hid hv1
              clear f4 e1 HM1 HF4 HO HF hv1
              obtain ⟨k, n, f, tt, na, nl, nc, ia, il, ic⟩ := x1
              simp only [Vv.v] at *
              go_wp2_with fail
              refine HM2.out.mono ?_
              rintro e w5 ⟨f5, ⟨er2, e2, rfl⟩ | ⟨v2, x2, e2, rfl, hv2⟩⟩
              · rw [HSm.out, HE.out] at e2
                cases e2
              · rw [HSm.out, HE.out] at e2
                injection e2 with e2
                subst e2
                have HF5 := hid (HF4b.out.trans f5 (fun _ h => h.elim))
                have HF5b := hid (HF5.out.trans (vFr w5 x2) (fun _ h => h.elim))
                have HB5 := hid ((vFr w5 x2).blk (f5.blk HB4.out (fun h => h)) (fun h => h))
                obtain ⟨c0, c1, c2, c3, c4, c5⟩ := HB5.out.six
                obtain ⟨d0, d1, d2, d3, d4, d5⟩ := (vBlk w5 x2).six
                have HFx : Hid (Fr (fun _ => False) (vBox w4 ⟨k, n, f, tt, na, nl, nc, ia, il, ic⟩) (vBox w5 x2)) := f5.trans (vFr w5 x2) (fun _ h => h.elim)
                have HC := hid (rsame_any v1 ⟨k, n, f, tt, na, nl, nc, ia, il, ic⟩ x2 (vBox w5 x2)
                  (HV1.out _ (Env.of HF5b.out) (fun q q1 q2 => by
                    rw [HFx.out.block q (by rw [World.size_alloc]; omega) (fun h => h)]
                    exact Below.heap_alloc w4 _ q q2))
                  (hv2 _ (Env.of HF5b.out) (fun q q1 q2 => Below.heap_alloc w5 _ q q2)))
                clear f5 HM2 HF5 HB5 HB4 hv2 HV1 HFx
                obtain ⟨k', n', f', tt', na', nl', nc', ia', il', ic'⟩ := x2
                simp only [Vv.v] at *
                go_wp2_with fail
                refine HC.out.mono ?_
                rintro e w6 ⟨rfl, f6⟩
                have HF6 := hid (HF5b.out.trans f6 (fun _ h => h.elim))
                clear f6
                go_wp2_with fail
                go_ret
                exact ⟨rfl, HF6.out⟩
          · have h1' : (j : Int) < ((M.length : Nat) : Int) := by omega
            have h2' : decide ((j : Int) < ((P.length : Nat) : Int)) = false := by simp; omega
            have hFp : 0 < F.length := by
              have h := HK.out.1
              have h2 := cntF_pos HNe.out
              rw [← h] at h2
              have h3 := List.length_filter_le (fun d : Dt => decide (d.p = a)) (F.map (·.1))
              rw [List.length_map] at h3
              omega
            obtain ⟨g, fc, cur, hv, hgB, hgl, hgc, hfc, hgt⟩ := own_row HO.out hFp
            subst hv
            have HM1 := hid (Merge_any w wr (Env.of HF.out) t L (some ⟨bb, bo, none⟩) lc HT.out (HMx.out.env (Env.of HF.out)) (DsW.env (DsIn.w HL.out) (Env.of HF.out)) (by omega))
            have HSm : Hid (mge t (F.map (·.1)) = mge t L) := kpt_same HNe.out (by have := HK.out; rw [HA2.out] at this; exact this) t
            generalize mge t L = R at *
            clear hgc hgt HK HL HM HP HNe HA2 hpos
            go_wp2_with fail
            refine HM1.out.mono ?_
            rintro e w4 ⟨f4, ⟨er, e1, rfl⟩ | ⟨v1, x1, e1, rfl, hv1⟩⟩
            · have HF4 := hid (HF.out.trans f4 (fun _ h => h.elim))
              have HF4b := hid (HF4.out.trans (vFr w4 vZ) (fun _ h => h.elim))
              have HO4 : Hid ((vBox w4 vZ).ownsRow w.heap.size 30 8 (.slice (some ⟨g, 0, none⟩) F.length fc) F.length (flatD F)) := own_alloc (own_fr HO.out f4 (fun _ _ h => h)) _
              have HB4 := hid (vBlk w4 vZ)
              have HM2 := hid (Merge_any w (vBox w4 vZ) (Env.of HF4b.out) t (F.map (·.1)) (some ⟨g, 0, none⟩) fc HT.out (HMx.out.env (Env.of HF4b.out)) (dsw_own HO4.out HD.out) (by rw [List.length_map]; omega))
              rw [List.length_map] at HM2
              have HE := hid e1
              clear f4 e1 HM1 HF4 HO HF
              rw [show vZ.v = Value.agg #[.int .i64 0, .int .i64 0, .float .f64 0, .string ⟨#[]⟩, .slice none 0 0, .slice none 0 0] from rfl]
              go_wp2_with fail
              refine HM2.out.mono ?_
              rintro e w5 ⟨f5, ⟨er2, e2, rfl⟩ | ⟨v2, x2, e2, rfl, hv2⟩⟩
              · rw [HSm.out, HE.out] at e2
                injection e2 with e2
                subst e2
                have HF5 := hid (HF4b.out.trans f5 (fun _ h => h.elim))
                have HF5b := hid (HF5.out.trans (vFr w5 vZ) (fun _ h => h.elim))
                have HB5 := hid ((vFr w5 vZ).blk (f5.blk HB4.out (fun h => h)) (fun h => h))
                obtain ⟨c0, c1, c2, c3, c4, c5⟩ := HB5.out.six
                obtain ⟨d0, d1, d2, d3, d4, d5⟩ := (vBlk w5 vZ).six
                have HC := hid (rsame_any (.mk 0 0 0 [] [] []) vZ vZ (vBox w5 vZ) (vin_zero _) (vin_zero _))
                have her : (er == er) = true := by simp
                clear f5 HM2 HF5 HB5 HB4
                rw [show vZ.v = Value.agg #[.int .i64 0, .int .i64 0, .float .f64 0, .string ⟨#[]⟩, .slice none 0 0, .slice none 0 0] from rfl]
                go_wp2_with fail
                refine HC.out.mono ?_
                rintro e w6 ⟨rfl, f6⟩
                have HF6 := hid (HF5b.out.trans f6 (fun _ h => h.elim))
                clear f6
                go_wp2_with fail
                go_ret
                exact ⟨rfl, HF6.out⟩
              · rw [HSm.out, HE.out] at e2
                cases e2
            · have HF4 := hid (HF.out.trans f4 (fun _ h => h.elim))
              have HF4b := hid (HF4.out.trans (vFr w4 x1) (fun _ h => h.elim))
              have HO4 : Hid ((vBox w4 x1).ownsRow w.heap.size 30 8 (.slice (some ⟨g, 0, none⟩) F.length fc) F.length (flatD F)) := own_alloc (own_fr HO.out f4 (fun _ _ h => h)) _
              have HB4 := hid (vBlk w4 x1)
              have HM2 := hid (Merge_any w (vBox w4 x1) (Env.of HF4b.out) t (F.map (·.1)) (some ⟨g, 0, none⟩) fc HT.out (HMx.out.env (Env.of HF4b.out)) (dsw_own HO4.out HD.out) (by rw [List.length_map]; omega))
              rw [List.length_map] at HM2
              have HE := hid e1
              have HV1 := hid hv1
              clear f4 e1 HM1 HF4 HO HF hv1
              obtain ⟨k, n, f, tt, na, nl, nc, ia, il, ic⟩ := x1
              simp only [Vv.v] at *
              go_wp2_with fail
              refine HM2.out.mono ?_
              rintro e w5 ⟨f5, ⟨er2, e2, rfl⟩ | ⟨v2, x2, e2, rfl, hv2⟩⟩
              · rw [HSm.out, HE.out] at e2
                cases e2
              · rw [HSm.out, HE.out] at e2
                injection e2 with e2
                subst e2
                have HF5 := hid (HF4b.out.trans f5 (fun _ h => h.elim))
                have HF5b := hid (HF5.out.trans (vFr w5 x2) (fun _ h => h.elim))
                have HB5 := hid ((vFr w5 x2).blk (f5.blk HB4.out (fun h => h)) (fun h => h))
                obtain ⟨c0, c1, c2, c3, c4, c5⟩ := HB5.out.six
                obtain ⟨d0, d1, d2, d3, d4, d5⟩ := (vBlk w5 x2).six
                have HFx : Hid (Fr (fun _ => False) (vBox w4 ⟨k, n, f, tt, na, nl, nc, ia, il, ic⟩) (vBox w5 x2)) := f5.trans (vFr w5 x2) (fun _ h => h.elim)
                have HC := hid (rsame_any v1 ⟨k, n, f, tt, na, nl, nc, ia, il, ic⟩ x2 (vBox w5 x2)
                  (HV1.out _ (Env.of HF5b.out) (fun q q1 q2 => by
                    rw [HFx.out.block q (by rw [World.size_alloc]; omega) (fun h => h)]
                    exact Below.heap_alloc w4 _ q q2))
                  (hv2 _ (Env.of HF5b.out) (fun q q1 q2 => Below.heap_alloc w5 _ q q2)))
                clear f5 HM2 HF5 HB5 HB4 hv2 HV1 HFx
                obtain ⟨k', n', f', tt', na', nl', nc', ia', il', ic'⟩ := x2
                simp only [Vv.v] at *
                go_wp2_with fail
                refine HC.out.mono ?_
                rintro e w6 ⟨rfl, f6⟩
                have HF6 := hid (HF5b.out.trans f6 (fun _ h => h.elim))
                clear f6
                go_wp2_with fail
                go_ret
                exact ⟨rfl, HF6.out⟩
end Go.Proofs.YtniailfcmlongaaGreatDoor.Tr
