/- The walk of LexPlaces. -/
import Derived.Test.YtionmohglmbklaaGreatDoorPlc
namespace Go.Proofs.YtionmohglmbklaaGreatDoor.Tr
open Go.RowKit

theorem Tks.drewN {w : World} {g : Nat} {L : List Tok} (h : Tks w g L) (m : Nat) : Tks (w.drewN m) g L := ⟨h.kind, h.text, h.int, h.flt, h.at_⟩
theorem Hnl.env {w0 W : World} (h : Hnl w0) (e : Env w0 W) : Hnl W := ⟨e.cell h.1, Nat.lt_of_lt_of_le h.2 e.1⟩
/-- The loop's state. -/
def PlSt (w : World) (g : Nat) (L : List Tok) (iv : Value) (wr : World) : Prop := ∃ i : Nat, i ≤ L.length ∧ iv = .int .i64 (i : Int) ∧ Tks wr g L ∧ Fr (fun _ => False) w wr

set_option maxRecDepth 100000 in
set_option maxHeartbeats 8000000 in
theorem lexPlaces_any {w : World} (hT : Tabs w) (hH : Hnl w) (hN : Nums w) (t : List UInt8) (hl : t.length ≤ 140737488351232) : Calls Tryz.prog 5 #[.string ⟨t.toArray⟩] w fun e w' => e = .returned (.bool true) ∧ Fr (fun _ => False) w w' := by
  have HS := hid (shown_any hT (Env.refl w))
  have HH := hid hH
  have hrun : ∃ L o, (∀ W, Env w W → Calls Tryz.prog 19 #[.string ⟨t.toArray⟩] W (AllPost W L o)) ∧ (o = none → t.length ≤ 4096 ∧ Plcs t 0 L ∧ L.length ≤ 5000 ∧ ∃ h : 0 < L.length, L[L.length - 1] = endT t) ∧ (∀ a e, o = some (a, e) → a ≤ t.length ∧ e ≠ 0) := by
    by_cases h4 : t.length ≤ 4096
    · obtain ⟨L, o, hr, hL⟩ := run_ex hN h4 t.length 0 (by omega) (Nat.zero_le _)
      have hp := run_places hr (Nat.zero_le _)
      exact ⟨L, o, fun W e => all_any e h4 hr (by omega), fun h => ⟨h4, hp.1, by omega, hp.2.1 h⟩, hp.2.2⟩
    · refine ⟨[], some (4096, 2), fun W _ => all_long (by omega) hl, (fun h => absurd h (by simp)), fun a e h => ?_⟩
      injection h with h; injection h with h1 h2; subst h1 h2
      exact ⟨by omega, by decide⟩
  obtain ⟨L, o, hall, hnone, hsome⟩ := hrun
  have HAll := hid hall
  have HNone := hid hnone
  have HSome := hid hsome
  clear hT hH hN hall hnone hsome hl
  go_enter Tryz.func5, Tryz.ntmps5
  go_wp2_with fail
  refine HS.out.mono ?_
  rintro e w1 ⟨rfl, f1⟩
  have HF1 := hid f1
  have HA := hid (HAll.out w1 ((Env.refl w).fr f1 (fun _ h => h.elim)))
  clear f1 HS HAll
  cases o with
  | some ae =>
    obtain ⟨a, e⟩ := ae
    obtain ⟨h1, h2⟩ := HSome.out a e rfl
    unfold AllPost at HA
    go_wp2_with fail
    refine HA.out.mono ?_
    rintro ee w2 ⟨fb, rfl, g2, q2, f2⟩
    have hF2 := HF1.out.same f2
    have HFt := hid (fault_hit q2 (HH.out.env ((Env.refl w).fr hF2 (fun _ h => h.elim))))
    have HF2 := hid hF2
    clear g2 q2 f2 hF2 HA HF1
    go_wp2_with fail
    refine HFt.out.mono ?_
    rintro ee w3 ⟨rfl, f3⟩
    have HF3 := hid (HF2.out.same f3)
    clear f3 HFt HF2
    have q1 : decide ((a : Int) ≥ 0) = true := decide_eq_true (by omega)
    have q2 : decide ((a : Int) ≤ (t.length : Int)) = true := decide_eq_true (by omega)
    have q3 : (e != 0) = true := by simpa using h2
    have HF4 := hid (HF3.out.alloc (.cells #[.int .i64 (a : Int), .int .i64 e] 33))
    go_wp2_with fail
    go_ret
    exact ⟨rfl, HF4.out⟩
  | none =>
    obtain ⟨hl, hp, hL5, hpos, hlast⟩ := HNone.out rfl
    unfold AllPost at HA
    go_wp2_with fail
    refine HA.out.mono ?_
    rintro ee w2 ⟨v, rfl, ho, f2⟩
    obtain ⟨g, cap, rfl, _, hTk⟩ := toks_own ho rfl hpos
    have HSt : Hid (PlSt w g L (.int .i64 0) w2) := ⟨0, Nat.zero_le _, rfl, hTk, HF1.out.same f2⟩
    have HP := hid hp
    have HLa := hid hlast
    clear ho f2 hTk HA HF1 hp hlast HNone HSome
    go_wp2_with fail
    go_loopw [7] (fun iv wr => PlSt w g L iv wr) (fun iv _ => L.length - (intOf iv).toNat)
    case atStart => exact HSt.out
    case round =>
      obtain ⟨i, hi, rfl, hTk, hF⟩ := hrel
      have hi0 : (0 : Int) ≤ (i : Int) := Int.natCast_nonneg _
      rcases Nat.lt_or_ge i L.length with hlt | hlt
      · have hi1 : (i : Int) < (L.length : Int) := by omega
        have hfit := HP.out.fit i hlt
        have k0 := hTk.kind i hlt
        have k1 := hTk.text i hlt
        have k4 := hTk.at_ i hlt
        have HNx : Hid (∀ m, PlSt w g L (.int .i64 ((i : Int) + 1)) (wr.drewN m)) := fun m => ⟨i + 1, hlt, rfl, hTk.drewN m, hF.drewN m⟩
        have hup : i = 0 ∨ ∃ j, i = j + 1 ∧ ∃ h : j < L.length, L[j].at_ < L[i].at_ := by
          cases i with
          | zero => exact .inl rfl
          | succ j => exact .inr ⟨j, rfl, by omega, HP.out.up j hlt⟩
        have hupc : i = 0 ∨ ∃ (j : Nat) (y : Nat), i = j + 1 ∧ wr.cell? ⟨g, j * 5 + 4, none⟩ = some (.int .i64 (y : Int)) ∧ y < L[i].at_ := by
          rcases hup with e | ⟨j, e, hj, hlt2⟩
          · exact .inl e
          · exact .inr ⟨j, _, e, hTk.at_ j hj, hlt2⟩
        generalize L[i] = x at *
        obtain ⟨kd, tx, xi, xf, at_⟩ := x
        simp only at k0 k1 k4 hfit hupc
        obtain ⟨b1, b2, b3⟩ := hfit
        simp only at b1 b2 b3
        have q1 : decide ((at_ : Int) < 0) = false := decide_eq_false (by omega)
        have q2 : decide ((at_ : Int) > (t.length : Int)) = false := decide_eq_false (by omega)
        have q2n : decide (t.length < at_) = false := decide_eq_false (by omega)
        have hat0 : (0 : Int) ≤ (at_ : Int) := Int.natCast_nonneg _
        clear hTk hF hup HP HLa HSt
        go_upto_region 10 with fail
        go_cut [86] (fun cv wx => cv = .bool false ∧ ∃ m, wx = wr.drewN m)
        case rest =>
          obtain ⟨rfl, m, rfl⟩ := hcut
          clear hupc q1 q2 q2n
          by_cases hk4 : kd = 4
          · subst hk4
            obtain ⟨hal, h34⟩ := b2 rfl
            have hat1 : (at_ : Int) < (t.length : Int) := by omega
            have q3 : ((((ByteArray.mk t.toArray)[at_]'(by simpa [ByteArray.size] using hal)).toNat : Int) != 34) = false := by rw [str_at t at_ hal, h34]; rfl
            clear b2 b3 h34
            go_wp2_with fail
            exact ⟨HNx.out _, by simp [intOf]; omega⟩
          · obtain ⟨b4, b5⟩ := b3 hk4
            have q4 : (kd == 4) = false := by simpa using hk4
            have q7 : decide ((at_ : Int) + (tx.length : Int) > (t.length : Int)) = false := decide_eq_false (by omega)
            have q7n : decide (t.length < at_ + tx.length) = false := decide_eq_false (by omega)
            have q7m : decide ((t.length : Int) < (at_ : Int) + (tx.length : Int)) = false := decide_eq_false (by omega)
            have hx := ext_sub t at_ (at_ + tx.length)
            rw [b5] at hx
            have q8 : (at_ : Int) + (tx.length : Int) ≤ (t.length : Int) := by omega
            have q9 : (at_ : Int) ≤ (at_ : Int) + (tx.length : Int) := by omega
            have q10 : (0 : Int) ≤ (at_ : Int) + (tx.length : Int) := by omega
            have q11 : (tx.length : Int) ≤ 4096 := by omega
            have q12 : (at_ : Int) ≤ 4096 := by omega
            have q13 : (i : Int) ≤ 5000 := by omega
            clear b2 b3 b5 hk4 hl hL5
            go_wp2_with fail
            go_quiet (fail)
            go_wp2_with fail
            exact ⟨HNx.out _, by simp [intOf]; omega⟩
        have hi5 : i ≤ 5000 := by omega
        clear b1 b2 b3 HNx k0 k1 hl hL5
        rcases hupc with rfl | ⟨j, y, rfl, kj, hyj⟩
        · go_quiet (fail)
          go_wp2_with fail
          go_meet
          exact ⟨rfl, _, rfl⟩
        · have e1 : ((j + 1 : Nat) : Int) = (j : Int) + 1 := by omega
          have q5 : decide ((at_ : Int) ≤ (y : Int)) = false := decide_eq_false (by omega)
          have hj5 : (j : Int) ≤ 5000 := by omega
          have q5n : decide (at_ ≤ y) = false := decide_eq_false (by omega)
          have q6n : decide ((0 : Int) < (j : Int) + 1) = true := decide_eq_true (by omega)
          have hj0 : (0 : Int) ≤ (j : Int) := Int.natCast_nonneg _
          have hj1 : (j : Int) < (L.length : Int) := by omega
          have q6 : decide ((j : Int) + 1 > 0) = true := decide_eq_true (by omega)
          rw [e1] at hi1 hi0 ⊢
          clear e1 hyj
          go_quiet (fail)
          go_wp2_with fail
          go_meet
          exact ⟨rfl, _, rfl⟩
      · have hstop : decide ((i : Int) < (L.length : Int)) = false := decide_eq_false (by omega)
        obtain ⟨n, hn⟩ : ∃ n, L.length = n + 1 := ⟨L.length - 1, by omega⟩
        have k0 := hTk.kind n (by omega)
        have k1 := hTk.text n (by omega)
        have k2 := hTk.int n (by omega)
        have k3 := hTk.flt n (by omega)
        have k4 := hTk.at_ n (by omega)
        have hln : L[n]'(by omega) = endT t := by
          have := HLa.out
          simp only [hn, Nat.add_sub_cancel] at this
          exact this
        rw [hln] at k0 k1 k2 k3 k4
        simp only [endT] at k0 k1 k2 k3 k4
        have HFr : Hid (∀ m, Fr (fun _ => False) w (wr.drewN m)) := fun m => hF.drewN m
        have heq := eqTokIn ⟨0, [], 0, 0, t.length⟩ ⟨0, [], 0, 0, t.length⟩ wr
        rw [tokEq_refl _ floatEq0] at heq
        simp only [tokV] at heq
        have hfl := eqFlt 9998 wr 0 0
        rw [floatEq0] at hfl
        have hLn : (L.length : Int) = (n : Int) + 1 := by omega
        have hn1 : ((n + 1 : Nat) : Int) = (n : Int) + 1 := by omega
        have q1 : decide ((n : Int) + 1 > 0) = true := decide_eq_true (by omega)
        have hn0 : (0 : Int) ≤ (n : Int) := Int.natCast_nonneg _
        have q2 : (n : Int) < (n : Int) + 1 := by omega
        have q3 : decide ((n : Int) + 1 < (n : Int) + 1) = false := decide_eq_false (by omega)
        have hn5 : (n : Int) ≤ 5000 := by omega
        obtain rfl : i = n + 1 := by omega
        clear hTk hF HP HLa HSt hln hstop hlt hi hpos hL5 hLn
        rw [hn, hn1]
        clear hn1 hn
        go_wp2_with fail
        go_ret
        exact ⟨rfl, HFr.out 0⟩

end Go.Proofs.YtionmohglmbklaaGreatDoor.Tr
