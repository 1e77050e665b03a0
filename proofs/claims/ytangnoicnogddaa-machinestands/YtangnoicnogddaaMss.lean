/- MachineStands' walk. -/
import Derived.Test.YtangnoicnogddaaMga
import Derived.Test.YtangnoicnogddaaMmy
namespace Go.Proofs.Ytangnoicnogddaa.Tr
open Go.RowKit

theorem do_units (s : St) (a : Ac) : ∀ u ∈ (doF s a).1.r, u ∈ s.r ∨ u = a.u := by
  unfold doF
  intro u
  split
  · unfold stopF
    cases fi s.r a.n with
    | none => exact fun h => .inl h
    | some k =>
      cases hb : s.p.headD false with
      | true => simp only [if_true]; exact fun h => .inl h
      | false => simp only [Bool.false_eq_true, if_false]; exact fun h => .inl ((List.eraseIdx_sublist _ _).subset h)
  split
  · unfold removeF; split <;> exact fun h => .inl h
  split
  · unfold dropF; split <;> exact fun h => .inl h
  split
  · unfold fileF; split <;> exact fun h => .inl h
  split
  · unfold userF; split <;> exact fun h => .inl h
  split
  · unfold startF
    split
    · split
      · exact fun h => .inl h
      · split
        · exact fun h => .inl h
        · intro h
          rcases List.mem_append.1 h with h | h
          · exact .inl h
          · exact .inr (List.mem_singleton.1 h)
    · exact fun h => .inl h
  · exact fun h => .inl h
/-- A unit's lists together. -/
def Bnd (u : Ut) : Prop := u.r.length + u.a.length ≤ 1048576
theorem path_less {s : St} (h : s.ok) {j : Nat} (hj : j + 1 < s.f.length) : Op.bytesLess s.f[j].path s.f[j + 1].path = true := by
  have := List.pairwise_iff_getElem.1 h.f j (j + 1) (by simp [paths]; omega) (by simpa [paths] using hj) (by omega)
  simp only [paths, List.getElem_map] at this
  rw [bytesLess_eq]; exact decide_eq_true this
theorem user_less {s : St} (h : s.ok) {j : Nat} (hj : j + 1 < s.u.length) : Op.bytesLess s.u[j] s.u[j + 1] = true := by
  have := List.pairwise_iff_getElem.1 h.u j (j + 1) (by omega) hj (by omega)
  rw [bytesLess_eq]; exact decide_eq_true this
theorem name_ne {s : St} (h : s.ok) {k i : Nat} (hk : k < i) (hi : i < s.r.length) : (s.r[k].n == s.r[i].n) = false := by
  have := List.pairwise_iff_getElem.1 h.r k i (by simp; omega) (by simpa using hi) hk
  simp only [List.getElem_map] at this
  simpa using this

set_option maxRecDepth 100000 in
set_option maxHeartbeats 16000000 in
theorem stands_walk (w : World) (p : List Bool) (ad : Option Addr) (cap : Nat) (L : List Ac) (la : Option Addr) (lc : Nat) (hp : Bools w ad p) (hpl : p.length ≤ 140737488351232) (hL : Acs w L la) (hLl : L.length ≤ lim) (hLb : ∀ a ∈ L, Bnd a.u) :
    Calls Try.prog 5 #[.slice ad p.length cap, .slice la L.length lc] w fun e w' => e = .returned (.bool true) ∧ Fr (fun _ => False) w w' := by
  have HP := hid hp
  have HL := hid hL
  have HLb := hid hLb
  have hl' : L.length ≤ 140737488351232 := hLl
  clear hp hL hLl hLb
  go_enter Try.func5, Try.ntmps5
  go_wp2_with fail
  refine (shown_any w).mono ?_
  rintro e w1 ⟨rfl, f1⟩
  have F1 := hid f1
  clear f1
  go_wp2_with fail
  refine (lv_new w1).mono ?_
  rintro e w2 ⟨mb, rfl, f2, l2⟩
  have F2 := hid (F1.out.trans f2 (fun _ h => h.elim))
  have L2 : Hid (Lv (fun k => k < w.heap.size) w2 mb ⟨[], [], [], []⟩) := l2.less (fun k hk => Nat.lt_of_lt_of_le hk F1.out.size)
  clear f2 l2
  go_wp2_with fail
  refine (lv_plan L2.out p ad cap (HP.out.env (Env.of F2.out)) hpl).mono ?_
  rintro e w3 ⟨rfl, l3, k3⟩
  have F3 := hid (F2.out.kept k3)
  have L3 := hid l3
  clear l3 k3 L2 F1 F2 HP
  go_wp2_with fail
  go_loopw [7] (fun iv wr => ∃ (i : Nat) (s : St), i ≤ L.length ∧ iv = .int .i64 (i : Int) ∧ Lv (fun k => k < w.heap.size) wr mb s ∧ Fr (fun _ => False) w wr ∧ ∀ u ∈ s.r, Bnd u) (fun iv _ => L.length - (intOf iv).toNat)
  case atStart => exact ⟨0, _, Nat.zero_le _, rfl, L3.out, F3.out, by simp⟩
  case round =>
    obtain ⟨i, s, hi, rfl, hlv, hF, hbd⟩ := hrel
    have HLv := hid hlv
    have HF := hid hF
    have HBd := hid hbd
    clear hlv hF hbd L3 F3
    by_cases hlt : i < L.length ∧ i < 200
    · obtain ⟨hlt, h200⟩ := hlt
      have hi1 : decide ((i : Int) < ((L.length : Nat) : Int)) = true := by simp; omega
      have hi2 : decide ((i : Int) < 200) = true := by simp; omega
      have hi0 : (0 : Int) ≤ (i : Int) := Int.natCast_nonneg _
      have hi3 : (i : Int) < ((L.length : Nat) : Int) := by omega
      obtain ⟨b, o, z, rfl, hc, ha⟩ := HL.out i hlt
      have HA := hid ha
      have HBa := hid (HLb.out L[i] (List.getElem_mem hlt))
      have c0 := (Env.of HF.out).cell (hc 0 _ rfl)
      have c1 := (Env.of HF.out).cell (hc 1 _ rfl)
      have c2 := (Env.of HF.out).cell (hc 2 _ rfl)
      have c3 := (Env.of HF.out).cell (hc 3 _ rfl)
      have c4 := (Env.of HF.out).cell (hc 4 _ rfl)
      have c5 := (Env.of HF.out).cell (hc 5 _ rfl)
      have c6 := (Env.of HF.out).cell (hc 6 _ rfl)
      have c7 := (Env.of HF.out).cell (hc 7 _ rfl)
      have c8 := (Env.of HF.out).cell (hc 8 _ rfl)
      simp only [Nat.add_zero] at c0
      generalize L[i] = a at *
      clear hc ha HL HLb
      go_wp2_with fail
      refine (cd_any wr a z (HA.out.env HF.out)).mono ?_
      rintro e w6 hcd
      obtain ⟨z6, rfl, f6, l6, a6⟩ := cd_lv HLv.out hcd
      have F6 := hid (HF.out.trans f6 (fun _ h => h.elim))
      have HDo := hid (lv_do l6 a z6 a6)
      clear hcd f6 l6 a6 c0 c1 c2 c3 c4 c5 c6 c7 c8
      go_wp2_with fail
      refine HDo.out.mono ?_
      rintro e w7 ⟨rfl, l7, k7⟩
      have F7 := hid (F6.out.kept (k7.less (fun k hk => .inl hk)))
      have L7 : Hid (Lv (fun k => k < w.heap.size) w7 mb (doF s a).1) := l7.less (fun k hk => .inl hk)
      have HB7 : Hid (∀ u ∈ (doF s a).1.r, Bnd u) := fun u hu => (do_units s a u hu).elim (HBd.out u) (fun h => by rw [h]; exact HBa.out)
      clear l7 k7 HDo
      generalize (doF s a).2 = code
      go_wp2_with fail
      exact ⟨⟨i + 1, _, by omega, by go_num, L7.out, F7.out, HB7.out⟩, by simp [intOf]; omega⟩
    · have hR : Hid (¬ (i < L.length ∧ i < 200)) := hlt
      clear hlt
      have HOb := hid (lv_obs HLv.out)
      clear HL HLb
      by_cases hlt : i < L.length
      · have h200 : ¬ i < 200 := fun h => hR.out ⟨hlt, h⟩
        have hi1 : decide ((i : Int) < ((L.length : Nat) : Int)) = true := by simp; omega
        have hi2 : decide ((i : Int) < 200) = false := by simp; omega
        clear hR
        go_wp2_with fail
        refine HOb.out.mono ?_
        rintro e w4 hob
        obtain ⟨o, rfl, f4, _, v5⟩ := obs_box HLv.out hob
        have F5 := hid ((HF.out.trans f4 (fun _ h => h.elim)).trans (oFr w4 o) (fun _ h => h.elim))
        have V5 := hid (fun (W : World) (f : Fr (fun _ => False) (oBox w4 o) W) => And.intro (v5 W (fr_kp f)).1 (v5 W (fr_kp f)).2.three)
        have h0 := (V5.out _ (Fr.refl _ _)).1
        have e1 := h0.fl
        have e2 := h0.ul
        have e3 := h0.rl
        clear hob f4 v5 h0 HOb
        obtain ⟨fa, fl, fc, ua, ul, uc, ra, rl, rc⟩ := o
        simp only at e1 e2 e3
        subst e1 e2 e3
        have HOk := hid HLv.out.ok
        have hfl := HLv.out.ok.fl
        have hul := HLv.out.ok.ul
        have hrl := HLv.out.ok.rl
        clear HLv HF
        simp only [Ov.v, Ov.cs]
        go_wp2_with fail
        obtain ⟨W5, hW5⟩ : ∃ W5, W5 = oBox w4 ⟨fa, s.f.length, fc, ua, s.u.length, uc, ra, s.r.length, rc⟩ := ⟨_, rfl⟩
        have hW' : w4.alloc (.cells #[.slice fa s.f.length fc, .slice ua s.u.length uc, .slice ra s.r.length rc] 33) = W5 := hW5.symm
        rw [← hW5] at F5 V5
        rw [hW']
        clear hW' hW5
        -- the files rise
        go_loopw [9] (fun iv wq => ∃ j : Nat, iv = .int .i64 ((j : Int) + 1) ∧ j ≤ s.f.length ∧ Fr (fun _ => False) W5 wq) (fun iv _ => s.f.length + 1 - (intOf iv).toNat)
        case atStart => exact ⟨0, rfl, Nat.zero_le _, Fr.refl _ _⟩
        case round =>
          obtain ⟨j, rfl, hj, hF⟩ := hrel
          have HG := hid hF
          clear hF
          obtain ⟨ho, k0, k1, k2⟩ := V5.out _ HG.out
          have HO := hid ho
          clear ho
          by_cases hlt : j + 1 < s.f.length
          · have hj1 : (j : Int) + 1 < ((s.f.length : Nat) : Int) := by omega
            have hj0 : (0 : Int) ≤ (j : Int) := Int.natCast_nonneg _
            have hj2 : (j : Int) < ((s.f.length : Nat) : Int) := by omega
            have hj3 : (0 : Int) ≤ (j : Int) + 1 := by omega
            have htn : ((j : Int) + 1).toNat = j + 1 := by omega
            obtain ⟨bb, bo, da, dc, hfa, c0, c1, c2, _⟩ := HO.out.f.at j (by omega)
            obtain ⟨bb', bo', da', dc', hfa', d0, d1, d2, _⟩ := HO.out.f.at (j + 1) hlt
            subst hfa
            simp only [Option.some.injEq, Addr.mk.injEq, and_true] at hfa'
            obtain ⟨rfl, rfl⟩ := hfa'
            have hbl := path_less HOk.out hlt
            generalize s.f[j] = x at *
            generalize s.f[j + 1] = y at *
            obtain ⟨xp, xk, xd⟩ := x
            obtain ⟨yp, yk, yd⟩ := y
            simp only at c0 c1 c2 d0 d1 d2 hbl
            have hge : (!Op.bytesLess xp yp) = false := by rw [hbl]; rfl
            go_wp2_with fail
            go_quiet (fail)
            have HGn := hid (HG.out.drewN nq)
            go_wp2_with fail
            exact ⟨⟨j + 1, congrArg _ (by omega), by omega, HGn.out⟩, by simp [intOf]; omega⟩
          · have hkn : ¬ (j : Int) + 1 < ((s.f.length : Nat) : Int) := by omega
            clear hlt hj
            obtain ⟨wa, hwa⟩ : ∃ wa, wa = wr := ⟨_, rfl⟩
            subst hwa
            clear HO k0 k1 k2
            obtain ⟨_, k0, k1, k2⟩ := V5.out _ HG.out
            go_wp2_with fail
            -- the users rise
            go_loopw [10] (fun iv wq => ∃ j : Nat, iv = .int .i64 ((j : Int) + 1) ∧ j ≤ s.u.length ∧ Fr (fun _ => False) W5 wq) (fun iv _ => s.u.length + 1 - (intOf iv).toNat)
            case atStart => exact ⟨0, rfl, Nat.zero_le _, HG.out⟩
            case round =>
              obtain ⟨j, rfl, hj, hF⟩ := hrel
              have HG := hid hF
              clear hF k0 k1 k2
              obtain ⟨ho, k0, k1, k2⟩ := V5.out _ HG.out
              have HO := hid ho
              clear ho
              by_cases hlt : j + 1 < s.u.length
              · have hj1 : (j : Int) + 1 < ((s.u.length : Nat) : Int) := by omega
                have hj0 : (0 : Int) ≤ (j : Int) := Int.natCast_nonneg _
                have hj2 : (j : Int) < ((s.u.length : Nat) : Int) := by omega
                have hj3 : (0 : Int) ≤ (j : Int) + 1 := by omega
                have htn : ((j : Int) + 1).toNat = j + 1 := by omega
                obtain ⟨bb, bo, hua, c0⟩ := HO.out.u.at j (by omega)
                obtain ⟨bb', bo', hua', d0⟩ := HO.out.u.at (j + 1) hlt
                subst hua
                simp only [Option.some.injEq, Addr.mk.injEq, and_true] at hua'
                obtain ⟨rfl, rfl⟩ := hua'
                have hbl := user_less HOk.out hlt
                generalize s.u[j] = xp at *
                generalize s.u[j + 1] = yp at *
                have hge : (!Op.bytesLess xp yp) = false := by rw [hbl]; rfl
                go_wp2_with fail
                go_quiet (fail)
                have HGn := hid (HG.out.drewN nq)
                go_wp2_with fail
                exact ⟨⟨j + 1, congrArg _ (by omega), by omega, HGn.out⟩, by simp [intOf]; omega⟩
              · have hkn : ¬ (j : Int) + 1 < ((s.u.length : Nat) : Int) := by omega
                clear hlt hj
                obtain ⟨wa, hwa⟩ : ∃ wa, wa = wr := ⟨_, rfl⟩
                subst hwa
                clear HO
                go_wp2_with fail
                -- the units
                go_loopw [11, 12, 13] (fun iv _ _ wq => ∃ j : Nat, iv = .int .i64 (j : Int) ∧ j ≤ s.r.length ∧ Fr (fun _ => False) W5 wq) (fun iv _ _ _ => s.r.length - (intOf iv).toNat)
                case atStart => exact ⟨0, rfl, Nat.zero_le _, HG.out⟩
                case round =>
                  obtain ⟨j, rfl, hj, hF⟩ := hrel
                  have HG := hid hF
                  clear hF k0 k1 k2
                  obtain ⟨ho, k0, k1, k2⟩ := V5.out _ HG.out
                  have HO := hid ho
                  clear ho
                  by_cases hlt : j < s.r.length
                  · have hj1 : (j : Int) < ((s.r.length : Nat) : Int) := by omega
                    have hj0 : (0 : Int) ≤ (j : Int) := Int.natCast_nonneg _
                    obtain ⟨bb, bo, hra⟩ := HO.out.r.some hlt
                    subst hra
                    obtain ⟨x, x1, x2⟩ := HO.out.r.get j hlt
                    obtain ⟨c0, c1, c2, c3⟩ := x1.all
                    have HMy := hid (rmay_any wr s.r[j] x x2 (HBd.out _ (List.getElem_mem hlt)))
                    rw [HOk.out.m _ (List.getElem_mem hlt)] at HMy
                    have HNe := hid (fun (k : Nat) (hk : k < j) => name_ne HOk.out hk hlt)
                    have HUs := hid (fun (W : World) (f : Fr (fun _ => False) W5 W) => (V5.out W f).1.r)
                    clear x1 x2 HO
                    obtain ⟨n', st, xra, xrl, xrc, xaa, xal, xac⟩ := x
                    simp only [Uv.v, Uv.cs] at HMy c0 c1 c2 c3
                    go_wp2_with fail
                    refine HMy.out.mono ?_
                    rintro e w8 ⟨rfl, f8⟩
                    have HG8 := hid (HG.out.trans f8 (fun _ h => h.elim))
                    clear f8 k0 k1 k2 c0 c1 c2 c3 HMy
                    go_wp2_with fail
                    go_loopw [13] (fun iv wq => ∃ k : Nat, iv = .int .i64 (k : Int) ∧ k ≤ j ∧ Fr (fun _ => False) W5 wq) (fun iv _ => j - (intOf iv).toNat)
                    case atStart => exact ⟨0, rfl, Nat.zero_le _, HG8.out⟩
                    case round =>
                      obtain ⟨k, rfl, hk, hF⟩ := hrel
                      have HGk := hid hF
                      clear hF
                      by_cases hkj : k < j
                      · have hk1 : (k : Int) < (j : Int) := by omega
                        have hk0 : (0 : Int) ≤ (k : Int) := Int.natCast_nonneg _
                        have hk2 : (k : Int) < ((s.r.length : Nat) : Int) := by omega
                        obtain ⟨_, k0, k1, k2⟩ := V5.out _ HGk.out
                        obtain ⟨y, y1, y2⟩ := (HUs.out _ HGk.out).get k (by omega)
                        obtain ⟨z, z1, z2⟩ := (HUs.out _ HGk.out).get j hlt
                        have c0 := y1.all.1
                        have d0 := z1.all.1
                        rw [y2.n] at c0
                        rw [z2.n] at d0
                        have hne := HNe.out k hkj
                        clear y1 y2 z1 z2
                        generalize s.r[k].n = xn at *
                        generalize s.r[j].n = yn at *
                        go_wp2_with fail
                        go_quiet (fail)
                        have HGn := hid (HGk.out.drewN nq)
                        go_wp2_with fail
                        exact ⟨⟨k + 1, by go_num, by omega, HGn.out⟩, by simp [intOf]; omega⟩
                      · obtain rfl : k = j := by omega
                        have hkn2 : ¬ (k : Int) < (k : Int) := by omega
                        go_wp2_with fail
                        exact ⟨⟨k + 1, by go_num, by omega, HGk.out⟩, by simp [intOf]; omega⟩
                  · obtain rfl : j = s.r.length := by omega
                    have hkn2 : ¬ ((s.r.length : Nat) : Int) < ((s.r.length : Nat) : Int) := by omega
                    have g1 : decide (((s.f.length : Nat) : Int) ≤ 24) = true := by simp; omega
                    have g2 : decide (((s.u.length : Nat) : Int) ≤ 16) = true := by simp; omega
                    have g3 : decide (((s.r.length : Nat) : Int) ≤ 24) = true := by simp; omega
                    clear HO
                    go_wp2_with fail
                    go_ret
                    exact ⟨rfl, F5.out.trans HG.out (fun _ h => h.elim)⟩
      · have hi1 : decide ((i : Int) < ((L.length : Nat) : Int)) = false := by simp; omega
        clear hR
        go_wp2_with fail
        refine HOb.out.mono ?_
        rintro e w4 hob
        obtain ⟨o, rfl, f4, _, v5⟩ := obs_box HLv.out hob
        have F5 := hid ((HF.out.trans f4 (fun _ h => h.elim)).trans (oFr w4 o) (fun _ h => h.elim))
        have V5 := hid (fun (W : World) (f : Fr (fun _ => False) (oBox w4 o) W) => And.intro (v5 W (fr_kp f)).1 (v5 W (fr_kp f)).2.three)
        have h0 := (V5.out _ (Fr.refl _ _)).1
        have e1 := h0.fl
        have e2 := h0.ul
        have e3 := h0.rl
        clear hob f4 v5 h0 HOb
        obtain ⟨fa, fl, fc, ua, ul, uc, ra, rl, rc⟩ := o
        simp only at e1 e2 e3
        subst e1 e2 e3
        have HOk := hid HLv.out.ok
        have hfl := HLv.out.ok.fl
        have hul := HLv.out.ok.ul
        have hrl := HLv.out.ok.rl
        clear HLv HF
        simp only [Ov.v, Ov.cs]
        go_wp2_with fail
        obtain ⟨W5, hW5⟩ : ∃ W5, W5 = oBox w4 ⟨fa, s.f.length, fc, ua, s.u.length, uc, ra, s.r.length, rc⟩ := ⟨_, rfl⟩
        have hW' : w4.alloc (.cells #[.slice fa s.f.length fc, .slice ua s.u.length uc, .slice ra s.r.length rc] 33) = W5 := hW5.symm
        rw [← hW5] at F5 V5
        rw [hW']
        clear hW' hW5
        -- the files rise
        go_loopw [9] (fun iv wq => ∃ j : Nat, iv = .int .i64 ((j : Int) + 1) ∧ j ≤ s.f.length ∧ Fr (fun _ => False) W5 wq) (fun iv _ => s.f.length + 1 - (intOf iv).toNat)
        case atStart => exact ⟨0, rfl, Nat.zero_le _, Fr.refl _ _⟩
        case round =>
          obtain ⟨j, rfl, hj, hF⟩ := hrel
          have HG := hid hF
          clear hF
          obtain ⟨ho, k0, k1, k2⟩ := V5.out _ HG.out
          have HO := hid ho
          clear ho
          by_cases hlt : j + 1 < s.f.length
          · have hj1 : (j : Int) + 1 < ((s.f.length : Nat) : Int) := by omega
            have hj0 : (0 : Int) ≤ (j : Int) := Int.natCast_nonneg _
            have hj2 : (j : Int) < ((s.f.length : Nat) : Int) := by omega
            have hj3 : (0 : Int) ≤ (j : Int) + 1 := by omega
            have htn : ((j : Int) + 1).toNat = j + 1 := by omega
            obtain ⟨bb, bo, da, dc, hfa, c0, c1, c2, _⟩ := HO.out.f.at j (by omega)
            obtain ⟨bb', bo', da', dc', hfa', d0, d1, d2, _⟩ := HO.out.f.at (j + 1) hlt
            subst hfa
            simp only [Option.some.injEq, Addr.mk.injEq, and_true] at hfa'
            obtain ⟨rfl, rfl⟩ := hfa'
            have hbl := path_less HOk.out hlt
            generalize s.f[j] = x at *
            generalize s.f[j + 1] = y at *
            obtain ⟨xp, xk, xd⟩ := x
            obtain ⟨yp, yk, yd⟩ := y
            simp only at c0 c1 c2 d0 d1 d2 hbl
            have hge : (!Op.bytesLess xp yp) = false := by rw [hbl]; rfl
            go_wp2_with fail
            go_quiet (fail)
            have HGn := hid (HG.out.drewN nq)
            go_wp2_with fail
            exact ⟨⟨j + 1, congrArg _ (by omega), by omega, HGn.out⟩, by simp [intOf]; omega⟩
          · have hkn : ¬ (j : Int) + 1 < ((s.f.length : Nat) : Int) := by omega
            clear hlt hj
            obtain ⟨wa, hwa⟩ : ∃ wa, wa = wr := ⟨_, rfl⟩
            subst hwa
            clear HO k0 k1 k2
            obtain ⟨_, k0, k1, k2⟩ := V5.out _ HG.out
            go_wp2_with fail
            -- the users rise
            go_loopw [10] (fun iv wq => ∃ j : Nat, iv = .int .i64 ((j : Int) + 1) ∧ j ≤ s.u.length ∧ Fr (fun _ => False) W5 wq) (fun iv _ => s.u.length + 1 - (intOf iv).toNat)
            case atStart => exact ⟨0, rfl, Nat.zero_le _, HG.out⟩
            case round =>
              obtain ⟨j, rfl, hj, hF⟩ := hrel
              have HG := hid hF
              clear hF k0 k1 k2
              obtain ⟨ho, k0, k1, k2⟩ := V5.out _ HG.out
              have HO := hid ho
              clear ho
              by_cases hlt : j + 1 < s.u.length
              · have hj1 : (j : Int) + 1 < ((s.u.length : Nat) : Int) := by omega
                have hj0 : (0 : Int) ≤ (j : Int) := Int.natCast_nonneg _
                have hj2 : (j : Int) < ((s.u.length : Nat) : Int) := by omega
                have hj3 : (0 : Int) ≤ (j : Int) + 1 := by omega
                have htn : ((j : Int) + 1).toNat = j + 1 := by omega
                obtain ⟨bb, bo, hua, c0⟩ := HO.out.u.at j (by omega)
                obtain ⟨bb', bo', hua', d0⟩ := HO.out.u.at (j + 1) hlt
                subst hua
                simp only [Option.some.injEq, Addr.mk.injEq, and_true] at hua'
                obtain ⟨rfl, rfl⟩ := hua'
                have hbl := user_less HOk.out hlt
                generalize s.u[j] = xp at *
                generalize s.u[j + 1] = yp at *
                have hge : (!Op.bytesLess xp yp) = false := by rw [hbl]; rfl
                go_wp2_with fail
                go_quiet (fail)
                have HGn := hid (HG.out.drewN nq)
                go_wp2_with fail
                exact ⟨⟨j + 1, congrArg _ (by omega), by omega, HGn.out⟩, by simp [intOf]; omega⟩
              · have hkn : ¬ (j : Int) + 1 < ((s.u.length : Nat) : Int) := by omega
                clear hlt hj
                obtain ⟨wa, hwa⟩ : ∃ wa, wa = wr := ⟨_, rfl⟩
                subst hwa
                clear HO
                go_wp2_with fail
                -- the units
                go_loopw [11, 12, 13] (fun iv _ _ wq => ∃ j : Nat, iv = .int .i64 (j : Int) ∧ j ≤ s.r.length ∧ Fr (fun _ => False) W5 wq) (fun iv _ _ _ => s.r.length - (intOf iv).toNat)
                case atStart => exact ⟨0, rfl, Nat.zero_le _, HG.out⟩
                case round =>
                  obtain ⟨j, rfl, hj, hF⟩ := hrel
                  have HG := hid hF
                  clear hF k0 k1 k2
                  obtain ⟨ho, k0, k1, k2⟩ := V5.out _ HG.out
                  have HO := hid ho
                  clear ho
                  by_cases hlt : j < s.r.length
                  · have hj1 : (j : Int) < ((s.r.length : Nat) : Int) := by omega
                    have hj0 : (0 : Int) ≤ (j : Int) := Int.natCast_nonneg _
                    obtain ⟨bb, bo, hra⟩ := HO.out.r.some hlt
                    subst hra
                    obtain ⟨x, x1, x2⟩ := HO.out.r.get j hlt
                    obtain ⟨c0, c1, c2, c3⟩ := x1.all
                    have HMy := hid (rmay_any wr s.r[j] x x2 (HBd.out _ (List.getElem_mem hlt)))
                    rw [HOk.out.m _ (List.getElem_mem hlt)] at HMy
                    have HNe := hid (fun (k : Nat) (hk : k < j) => name_ne HOk.out hk hlt)
                    have HUs := hid (fun (W : World) (f : Fr (fun _ => False) W5 W) => (V5.out W f).1.r)
                    clear x1 x2 HO
                    obtain ⟨n', st, xra, xrl, xrc, xaa, xal, xac⟩ := x
                    simp only [Uv.v, Uv.cs] at HMy c0 c1 c2 c3
                    go_wp2_with fail
                    refine HMy.out.mono ?_
                    rintro e w8 ⟨rfl, f8⟩
                    have HG8 := hid (HG.out.trans f8 (fun _ h => h.elim))
                    clear f8 k0 k1 k2 c0 c1 c2 c3 HMy
                    go_wp2_with fail
                    go_loopw [13] (fun iv wq => ∃ k : Nat, iv = .int .i64 (k : Int) ∧ k ≤ j ∧ Fr (fun _ => False) W5 wq) (fun iv _ => j - (intOf iv).toNat)
                    case atStart => exact ⟨0, rfl, Nat.zero_le _, HG8.out⟩
                    case round =>
                      obtain ⟨k, rfl, hk, hF⟩ := hrel
                      have HGk := hid hF
                      clear hF
                      by_cases hkj : k < j
                      · have hk1 : (k : Int) < (j : Int) := by omega
                        have hk0 : (0 : Int) ≤ (k : Int) := Int.natCast_nonneg _
                        have hk2 : (k : Int) < ((s.r.length : Nat) : Int) := by omega
                        obtain ⟨_, k0, k1, k2⟩ := V5.out _ HGk.out
                        obtain ⟨y, y1, y2⟩ := (HUs.out _ HGk.out).get k (by omega)
                        obtain ⟨z, z1, z2⟩ := (HUs.out _ HGk.out).get j hlt
                        have c0 := y1.all.1
                        have d0 := z1.all.1
                        rw [y2.n] at c0
                        rw [z2.n] at d0
                        have hne := HNe.out k hkj
                        clear y1 y2 z1 z2
                        generalize s.r[k].n = xn at *
                        generalize s.r[j].n = yn at *
                        go_wp2_with fail
                        go_quiet (fail)
                        have HGn := hid (HGk.out.drewN nq)
                        go_wp2_with fail
                        exact ⟨⟨k + 1, by go_num, by omega, HGn.out⟩, by simp [intOf]; omega⟩
                      · obtain rfl : k = j := by omega
                        have hkn2 : ¬ (k : Int) < (k : Int) := by omega
                        go_wp2_with fail
                        exact ⟨⟨k + 1, by go_num, by omega, HGk.out⟩, by simp [intOf]; omega⟩
                  · obtain rfl : j = s.r.length := by omega
                    have hkn2 : ¬ ((s.r.length : Nat) : Int) < ((s.r.length : Nat) : Int) := by omega
                    have g1 : decide (((s.f.length : Nat) : Int) ≤ 24) = true := by simp; omega
                    have g2 : decide (((s.u.length : Nat) : Int) ≤ 16) = true := by simp; omega
                    have g3 : decide (((s.r.length : Nat) : Int) ≤ 24) = true := by simp; omega
                    clear HO
                    go_wp2_with fail
                    go_ret
                    exact ⟨rfl, F5.out.trans HG.out (fun _ h => h.elim)⟩
end Go.Proofs.Ytangnoicnogddaa.Tr
