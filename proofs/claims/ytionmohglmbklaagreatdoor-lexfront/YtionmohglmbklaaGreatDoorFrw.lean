/- The walk of LexFront. -/
import Derived.Test.YtionmohglmbklaaGreatDoorFrt
import Derived.Test.YtionmohglmbklaaGreatDoorShw
namespace Go.Proofs.YtionmohglmbklaaGreatDoor.Tr
open Go.RowKit

theorem Tks.drewF {w : World} {g : Nat} {L : List Tok} (h : Tks w g L) (m : Nat) : Tks (w.drewN m) g L := ⟨h.kind, h.text, h.int, h.flt, h.at_⟩
theorem cell_fr {w w' : World} {a : Addr} {v : Value} (f : Fr (fun _ => False) w w') (h : w.cell? a = some v) : w'.cell? a = some v := ((Env.refl w).fr f (fun _ h => h.elim)).cell h
theorem Tks.fr {w w' : World} {g : Nat} {L : List Tok} (h : Tks w g L) (f : Fr (fun _ => False) w w') : Tks w' g L :=
  ⟨fun i hi => cell_fr f (h.kind i hi), fun i hi => cell_fr f (h.text i hi), fun i hi => cell_fr f (h.int i hi), fun i hi => cell_fr f (h.flt i hi), fun i hi => cell_fr f (h.at_ i hi)⟩
def FrSt (w : World) (g g2 k : Nat) (L M : List Tok) (iv : Value) (wr : World) : Prop := ∃ i : Nat, i ≤ k ∧ iv = .int .i64 (i : Int) ∧ Tks wr g L ∧ Tks wr g2 M ∧ Fr (fun _ => False) w wr

set_option maxRecDepth 100000 in
set_option maxHeartbeats 8000000 in
theorem lexFront_any {w : World} (hT : Tabs w) (hN : Nums2 w) (t : List UInt8) (hl : t.length ≤ 140737488351232) (z : Int) (hz0 : -9223372036854775808 ≤ z) (hz1 : z < 9223372036854775808) : Calls Tryz.prog 7 #[.string ⟨t.toArray⟩, .int .i64 z] w fun e w' => e = .returned (.bool true) ∧ Fr (fun _ => False) w w' := by
  have HS := hid (shown_any hT (Env.refl w))
  have hrun : ∃ L o, (∀ W, Env w W → Calls Tryz.prog 19 #[.string ⟨t.toArray⟩] W (AllPost W L o)) ∧ (o = none → t.length ≤ 4096 ∧ Plcs t 0 L ∧ L.length ≤ 5000 ∧ 0 < L.length ∧ (∀ x ∈ L, Op.floatEq .f64 x.flt x.flt = true) ∧ ∀ j (hj : j < L.length), Run w (t.take L[j].at_) 0 (L.take j ++ [endT (t.take L[j].at_)]) none) := by
    by_cases h4 : t.length ≤ 4096
    · obtain ⟨L, o, hr, hL, hG⟩ := run_ex2 hN h4 t.length 0 (by omega) (Nat.zero_le _)
      have hp := run_places hr (Nat.zero_le _)
      exact ⟨L, o, fun W e => all_any e h4 hr (by omega), fun h => ⟨h4, hp.1, by omega, (hp.2.1 h).1, hG, run_take hr (Nat.zero_le _)⟩⟩
    · exact ⟨[], some (4096, 2), fun W _ => all_long (by omega) hl, fun h => absurd h (by simp)⟩
  obtain ⟨L, o, hall, hnone⟩ := hrun
  have HAll := hid hall
  have HNone := hid hnone
  obtain ⟨z2, hz2, hz3, hz4⟩ : ∃ z2 : Int, (z2 = if z < 0 then -(z + 1) else z) ∧ 0 ≤ z2 ∧ z2 < 9223372036854775808 := ⟨_, rfl, by split <;> omega, by split <;> omega⟩
  clear hT hN hall hnone hl
  go_enter Tryz.func7, Tryz.ntmps7
  go_wp2_with fail
  refine HS.out.mono ?_
  rintro e w1 ⟨rfl, f1⟩
  have HF1 := hid f1
  have HA := hid (HAll.out w1 ((Env.refl w).fr f1 (fun _ h => h.elim)))
  clear f1 HS HAll
  cases o with
  | some ae =>
    obtain ⟨a, e⟩ := ae
    unfold AllPost at HA
    clear hz0 hz1 hz2 hz3 hz4
    go_wp2_with fail
    refine HA.out.mono ?_
    rintro ee w2 ⟨fb, rfl, g2, q2, f2⟩
    have HF2 := hid (HF1.out.same f2)
    clear g2 q2 f2 HA HF1
    go_wp2_with fail
    go_ret
    exact ⟨rfl, HF2.out⟩
  | none =>
    obtain ⟨hl, hp, hL5, hpos, hG, hcut⟩ := HNone.out rfl
    unfold AllPost at HA
    have HP := hid hp
    have HGd := hid hG
    have HCut := hid hcut
    clear hp hG hcut HNone
    obtain ⟨k, hk, hkL⟩ : ∃ k : Nat, z2.tmod (L.length : Int) = (k : Int) ∧ k < L.length := by
      have h1 := Int.tmod_eq_emod_of_nonneg (b := (L.length : Int)) hz3
      have h2 := Int.emod_nonneg z2 (show (L.length : Int) ≠ 0 by omega)
      have h3 := Int.emod_lt_of_pos z2 (show (0 : Int) < (L.length : Int) by omega)
      exact ⟨(z2 % (L.length : Int)).toNat, by rw [h1]; omega, by omega⟩
    go_wp2_with fail
    refine HA.out.mono ?_
    rintro ee w2 ⟨v, rfl, ho, f2⟩
    obtain ⟨g, cap, rfl, _, hTk⟩ := toks_own ho rfl hpos
    have hF2 := HF1.out.same f2
    have ka := hTk.at_ k hkL
    have hfit := (HP.out.fit k hkL).le
    have hR := HCut.out k hkL
    obtain ⟨c, hc⟩ : ∃ c, c = L[k].at_ := ⟨_, rfl⟩
    rw [← hc] at ka hfit hR
    have hlen : (t.take c).length = c := by rw [List.length_take]; omega
    have HA2 := hid (all_any ((Env.refl w).fr hF2 (fun _ h => h.elim)) (by rw [hlen]; omega) hR (by rw [List.length_append, List.length_take]; simp; omega))
    unfold AllPost at HA2
    have hext : (ByteArray.mk t.toArray).extract 0 c = ⟨(t.take c).toArray⟩ := by
      rw [ext_sub]
      simp [sub]
    have HTk := hid hTk
    have HF2 := hid hF2
    have hLne : ((L.length : Int) == 0) = false := by rw [beq_eq_false_iff_ne]; omega
    have qa : decide ((c : Int) < 0) = false := decide_eq_false (by omega)
    have qb : decide ((c : Int) > (t.length : Int)) = false := decide_eq_false (by omega)
    have qc : (c : Int) ≤ (t.length : Int) := by omega
    have qd : (0 : Int) ≤ (c : Int) := by omega
    have qe : (0 : Int) ≤ (k : Int) := by omega
    have qf : (k : Int) < (L.length : Int) := by omega
    have qg : (L.length : Int) ≤ 5000 := by omega
    clear ho f2 hTk hF2 HA HF1 hR HCut hc hfit
    by_cases hneg : z < 0
    all_goals
      first
        | (rw [if_pos hneg] at hz2; have qn : decide (z < 0) = true := decide_eq_true hneg; rw [hz2] at hk)
        | (rw [if_neg hneg] at hz2; have qn : decide (z < 0) = false := decide_eq_false hneg; rw [hz2] at hk; have hneg2 : 0 ≤ z := by omega)
      go_wp2_with fail
      refine HA2.out.mono ?_
      rintro ee w3 ⟨v2, rfl, ho2, f3⟩
      obtain ⟨M, hM⟩ : ∃ M, M = L.take k ++ [endT (t.take c)] := ⟨_, rfl⟩
      rw [← hM] at ho2
      have hMl : M.length = k + 1 := by rw [hM, List.length_append, List.length_take]; simp; omega
      obtain ⟨g2, cap2, rfl, _, hTm⟩ := toks_own ho2 rfl (by omega)
      have hTl := HTk.out.fr f3
      have HF3 := HF2.out.same f3
      have hMk : M[k]'(by omega) = ⟨0, [], 0, 0, c⟩ := by
        have : M[k]? = some (endT (t.take c)) := by
          rw [hM, List.getElem?_append_right (by rw [List.length_take]; omega), List.length_take, Nat.min_eq_left (by omega), Nat.sub_self]; rfl
        rw [List.getElem?_eq_getElem (by omega)] at this
        rw [Option.some.inj this]
        unfold endT
        rw [hlen]
      have hMi : ∀ i (h1 : i < M.length) (h2 : i < L.length), i < k → M[i] = L[i] := by
        intro i h1 h2 hi
        have : M[i]? = L[i]? := by
          rw [hM, List.getElem?_append_left (by rw [List.length_take]; omega), List.getElem?_take, if_pos hi]
        rw [List.getElem?_eq_getElem (by omega), List.getElem?_eq_getElem (by omega)] at this
        exact Option.some.inj this
      have k0 := hTm.kind k (by omega)
      have k1 := hTm.text k (by omega)
      have k2 := hTm.int k (by omega)
      have k3 := hTm.flt k (by omega)
      have k4 := hTm.at_ k (by omega)
      rw [hMk] at k0 k1 k2 k3 k4
      simp only at k0 k1 k2 k3 k4
      have kb := cell_fr f3 ka
      have heq := fun m => eqTokIn ⟨0, [], 0, 0, c⟩ ⟨0, [], 0, 0, c⟩ (w3.drewN m)
      rw [tokEq_refl _ floatEq0] at heq
      simp only [tokV] at heq
      have hfl := fun m => eqFlt 9998 (w3.drewN m) 0 0
      rw [floatEq0] at hfl
      have HSt : Hid (∀ m, FrSt w g g2 k L M (.int .i64 0) (w3.drewN m)) := fun m => ⟨0, Nat.zero_le _, rfl, hTl.drewF m, hTm.drewF m, HF3.drewN m⟩
      have HMi := hid hMi
      have qh : ((k : Int) + 1 != (k : Int) + 1) = false := by simp
      have qi : (k : Int) < (k : Int) + 1 := by omega
      have HMl := hid hMl
      have hMl2 : ((k + 1 : Nat) : Int) = (k : Int) + 1 := by omega
      rw [hMl]
      clear ho2 f3 hTm hTl HF3 HF2 HTk hMk hMi hM HA2 hMl ka hl hL5
      clear hz0 hz1 hz3 hz4 hneg hk
      go_wp2_with fail
      go_quiet (fail)
      go_wp2_with fail
      clear heq hfl k0 k1 k2 k3 k4 kb
      go_loopw [10] (fun iv wr => FrSt w g g2 k L M iv wr) (fun iv _ => k - (intOf iv).toNat)
      case atStart => exact HSt.out _
      case round =>
        obtain ⟨i, hi, rfl, hTl, hTm, hF⟩ := hrel
        have hi0 : (0 : Int) ≤ (i : Int) := Int.natCast_nonneg _
        rcases Nat.lt_or_ge i k with hlt | hge
        · have hML := HMl.out
          have m0 := hTm.kind i (by omega)
          have m1 := hTm.text i (by omega)
          have m2 := hTm.int i (by omega)
          have m3 := hTm.flt i (by omega)
          have m4 := hTm.at_ i (by omega)
          rw [HMi.out i (by omega) (by omega) hlt] at m0 m1 m2 m3 m4
          have l0 := hTl.kind i (by omega)
          have l1 := hTl.text i (by omega)
          have l2 := hTl.int i (by omega)
          have l3 := hTl.flt i (by omega)
          have l4 := hTl.at_ i (by omega)
          have hfe := HGd.out L[i] (List.getElem_mem (by omega))
          have HNx : Hid (∀ m, FrSt w g g2 k L M (.int .i64 ((i : Int) + 1)) (wr.drewN m)) := fun m => ⟨i + 1, hlt, rfl, hTl.drewF m, hTm.drewF m, hF.drewN m⟩
          generalize L[i] = x at *
          have heq := fun m => eqTokIn x x (wr.drewN m)
          rw [tokEq_refl _ hfe] at heq
          have hfl := fun m => eqFlt 9998 (wr.drewN m) x.flt x.flt
          rw [hfe] at hfl
          obtain ⟨xk, xt, xi, xf, xa⟩ := x
          simp only [tokV] at heq hfl m0 m1 m2 m3 m4 l0 l1 l2 l3 l4
          have q1 : (i : Int) < (k : Int) := by omega
          have q2 : (i : Int) < (k : Int) + 1 := by omega
          have q3 : (i : Int) < (L.length : Int) := by omega
          have q4 : (k : Int) ≤ 5000 := by omega
          clear hTl hTm hF hfe HSt hML
          go_wp2_with fail
          go_quiet (fail)
          go_wp2_with fail
          exact ⟨HNx.out _, by simp [intOf]; omega⟩
        · obtain rfl : i = k := by omega
          have q1 : decide ((i : Int) < (i : Int)) = false := decide_eq_false (by omega)
          have HF := hid hF
          clear hTl hTm hF HSt
          go_wp2_with fail
          go_ret
          exact ⟨rfl, HF.out⟩

end Go.Proofs.YtionmohglmbklaaGreatDoor.Tr
