/- UnitsOrders, walked. -/
import Derived.Test.YtcpeebkfnnkjnaaDoorUov
import Derived.Test.YtcpeebkfnnkjnaaDoorUro
import Derived.Test.YtcpeebkfnnkjnaaDoorUww
namespace Go.Proofs.YtcpeebkfnnkjnaaDoor.Tr
open Go.RowKit Go.Maps

set_option maxRecDepth 100000 in
set_option maxHeartbeats 16000000 in
theorem unitsOrders_walk (w : World) (l : List Ut) (ad : Option Addr) (cap : Nat) (hU : Us w w l ad) (hl : l.length ≤ lim) (hT : TabAt 1 Lib.deBruijn32tab w) :
    Calls Tryd.prog 3 #[.slice ad l.length cap] w fun e w' => e = .returned (.bool true) ∧ Fr (fun _ => False) w w' := by
  have HU := hid hU
  have HT := hid hT
  have HSh := hid (shown_any w hT)
  have HLl := hid hl
  clear hU hT hl
  go_enter Tryd.func3, Tryd.ntmps3
  go_wp2_with fail
  refine HSh.out.mono ?_
  rintro e w1 ⟨rfl, f1⟩
  have HF1 := hid f1
  have HL1 := hid (large_any w w1 l ad cap (HU.out.env (Env.of f1)) HLl.out)
  clear f1 HSh
  obtain ⟨b1, hb1⟩ : ∃ b, b = decide (2000 < l.length + tot l) := ⟨_, rfl⟩
  rw [← hb1] at HL1
  have HB := hid hb1
  clear hb1
  go_wp2_with fail
  refine HL1.out.mono ?_
  rintro e w3 ⟨rfl, f3⟩
  have HF3 := hid (HF1.out.trans f3 (fun _ h => h.elim))
  clear f3 HL1 HF1
  cases b1 with
  | true =>
    go_wp2_with fail
    go_ret
    exact ⟨rfl, HF3.out⟩
  | false =>
    have hl2 : l.length + tot l ≤ 2000 := by have := of_decide_eq_false HB.out.symm; omega
    have HSm : Hid (∀ u ∈ l, u.r.length ≤ 2000 ∧ u.a.length ≤ 2000) := fun u hu => by have := tot_mem l u hu; omega
    have hll : l.length ≤ 2000 := by omega
    clear hl2 HB HLl
    have HC1 := hid (copied_any w w3 (Env.of HF3.out) l ad cap (HU.out.env (Env.of HF3.out)) hll HSm.out)
    go_wp2_with fail
    refine HC1.out.mono ?_
    rintro e w4 ⟨f4, v4, X4, rfl, hOt4⟩
    obtain ⟨va4, vc4, hv4⟩ := own_len hOt4.own
    subst hv4
    rw [hOt4.row.1]
    have HF4 := hid (HF3.out.trans f4 (fun _ h => h.elim))
    have HU4 := hid (us_own (w0 := w4) hOt4.own hOt4.row)
    have HC2 := hid (rorder_head w w4 (Env.of HF4.out) l ad cap (HU.out.env (Env.of HF4.out)) (by omega))
    clear f4 hOt4 HC1 HF3
    obtain ⟨x, n, er, hord⟩ : ∃ x n e, ordF l = (x, n, e) := ⟨_, _, _, rfl⟩
    rw [hord] at HC2
    have HOrd := hid hord
    clear hord
    go_wp2_with fail
    refine HC2.out.mono ?_
    rintro e w5 ⟨f5, v5, X5, rfl, hown5, hrow5⟩
    obtain ⟨va5, vc5, hv5⟩ := own_len hown5
    subst hv5
    rw [hrow5.1]
    have HF5 := hid (HF4.out.trans f5 (fun _ h => h.elim))
    have HU5 := hid ((HU4.out.env (Env.of f5)).up (Env.of f5))
    have HX5 := hid (us_own hown5 hrow5)
    have hxb : x.length ≤ lim := by have := ord_le HOrd.out; unfold lim; omega
    have hxs : x.length ≤ 1000000 := by have := ord_le HOrd.out; omega
    have hee : (er != er) = false := by simp
    have hnn : (n != n) = false := by simp
    dsimp only at HX5 ⊢
    clear f5 hown5 hrow5 HC2 HF4 HU4
    go_wp2_with fail
    go_loopw [9] (fun tv wr => ∃ t : Nat, t ≤ 2 ∧ tv = .int .i64 (t : Int) ∧ Fr (fun _ => False) w5 wr) (fun tv _ => 2 - (intOf tv).toNat)
    case atStart => exact ⟨0, by omega, rfl, Fr.refl _ _⟩
    case round =>
      obtain ⟨t, ht, rfl, hF⟩ := hrel
      have HF := hid hF
      clear hF
      by_cases ht2 : t < 2
      · have ht1 : (t : Int) < 2 := by omega
        have HFw := hid (HF5.out.trans HF.out (fun _ h => h.elim))
        have HC := hid (order_any w5 wr (Env.of HF.out) l va4 vc4 (HU5.out.env (Env.of HF.out)) (by omega) (fun u hu => by have := HSm.out u hu; omega) (tab_fr HT.out HFw.out))
        rw [HOrd.out] at HC
        go_wp2_with fail
        refine HC.out.mono ?_
        rintro e w6 ⟨f6, v6, X6, rfl, hOt6⟩
        obtain ⟨va6, vc6, hv6⟩ := own_len hOt6.own
        subst hv6
        rw [hOt6.row.1]
        have HF6 := hid f6
        have HOt := hid hOt6
        have HE6 := hid (Env.of (HF.out.trans f6 (fun _ h => h.elim)))
        have HEw := hid (Env.of (HFw.out.trans f6 (fun _ h => h.elim)))
        have HSa := hid (sameAll_any w6 w6 (Env.refl _) x x va6 va5 vc6 vc5 (us_own hOt6.own hOt6.row) ((HX5.out.env HE6.out).up HEw.out) hxb)
        rw [decide_eq_true (rfl : x = x)] at HSa
        have HXl : Hid (X6.length = x.length) := hOt6.row.1
        dsimp only
        clear f6 hOt6 HC HE6 HEw
        go_wp2_with fail
        refine HSa.out.mono ?_
        rintro e w7 ⟨rfl, f7⟩
        have HF7 := hid (HF6.out.trans f7 (fun _ h => h.elim))
        have HOt7 := hid (HOt.out.fr f7)
        clear f7 HSa HF6 HOt
        go_wp2_with fail
        obtain ⟨W0, hW0⟩ : ∃ W0, W0 = wr := ⟨_, rfl⟩
        subst hW0
        have HRb : Hid (0 < x.length → ∃ rb, va6 = some ⟨rb, 0, none⟩ ∧ Iw W0 X6 rb 0 w7) := fun h => by
          obtain ⟨rb, cp, e, hi⟩ := Iw.start HF7.out HOt7.out (by rw [HXl.out]; exact h)
          cases e
          exact ⟨rb, rfl, hi⟩
        have HRow := hid HOt7.out.row
        have HFz := hid HFw.out
        clear HOt7 HFw
        go_loopw [14] (fun iv wx => ∃ i : Nat, i ≤ x.length ∧ iv = .int .i64 (i : Int) ∧ Fr (fun _ => False) W0 wx ∧ ∀ rb, va6 = some ⟨rb, 0, none⟩ → 0 < x.length → Iw W0 X6 rb i wx) (fun iv _ => x.length - (intOf iv).toNat)
        case atStart => exact ⟨0, Nat.zero_le _, rfl, HF7.out, fun rb e h => by
          obtain ⟨rb', e', hi⟩ := HRb.out h
          rw [e'] at e
          cases e
          exact hi⟩
        case round =>
          obtain ⟨i, hi, rfl, hFi, hIw⟩ := hrel
          by_cases hil : i < x.length
          · have hi1 : (i : Int) < ((x.length : Nat) : Int) := by omega
            have hi0 : (0 : Int) ≤ (i : Int) := Int.natCast_nonneg _
            obtain ⟨rb, rfl, _⟩ := HRb.out (by omega)
            have HI := hid (hIw rb rfl (by omega))
            have HIl : Hid (i < X6.length) := by unfold Hid; rw [HXl.out]; exact hil
            have HUi := hid (HRow.out.2 i hil HIl.out)
            obtain ⟨y, hy⟩ : ∃ y, y = X6[i]'HIl.out := ⟨_, rfl⟩
            have HCell : Hid (∀ wx, Iw W0 X6 rb i wx → fourB wx rb (i * 4) y) := fun wx h => by rw [hy]; exact h.cells HIl.out
            have HLw : Hid (∀ wx, Iw W0 X6 rb i wx → Lw wx W0.heap.size y.ra y.rl ∧ Lw wx W0.heap.size y.aa y.al) := fun wx h => h.lw y (by rw [hy]; exact List.getElem_mem _)
            have hb1 : y.rl ≤ 140737488351232 := by rw [hy, HUi.out.rl]; exact HUi.out.ok.r
            have hb2 : y.al ≤ 140737488351232 := by rw [hy, HUi.out.al]; exact HUi.out.ok.a
            clear hIw hFi hy HUi HF7
            obtain ⟨n', s', ra, rl, rc, aa, al, ac⟩ := y
            simp only at hb1 hb2
            go_wp2_with fail
            go_loopw [15] (fun kv wx => ∃ k : Nat, k ≤ rl ∧ kv = .int .i64 (k : Int) ∧ Iw W0 X6 rb i wx) (fun kv _ => rl - (intOf kv).toNat)
            case atStart => exact ⟨0, Nat.zero_le _, rfl, HI.out⟩
            case round =>
              obtain ⟨k, hk, rfl, hI⟩ := hrel
              clear HI
              have HI := hid hI
              clear hI
              obtain ⟨c0, c1, c2, c3⟩ := HCell.out wr HI.out
              try simp only at c0 c1 c2 c3
              by_cases hkl : k < rl
              · have hk1 : (k : Int) < ((rl : Nat) : Int) := by omega
                have hk0 : (0 : Int) ≤ (k : Int) := Int.natCast_nonneg _
                obtain ⟨g, cur, c, e, hb, hg, hc, hz⟩ := Lw.at (HLw.out wr HI.out).1 hkl
                try simp only at e
                subst e
                have HI2 := hid (HI.out.put (k := k) hg hb (.string ⟨#[63]⟩))
                clear hg hb
                go_wp2_with fail
                exact ⟨⟨k + 1, by omega, by go_num, HI2.out⟩, by simp [intOf]; omega⟩
              · have hk1 : ¬ ((k : Int) < ((rl : Nat) : Int)) := by omega
                go_wp2_with fail
                go_loopw [16] (fun kv wx => ∃ k : Nat, k ≤ al ∧ kv = .int .i64 (k : Int) ∧ Iw W0 X6 rb i wx) (fun kv _ => al - (intOf kv).toNat)
                case atStart => exact ⟨0, Nat.zero_le _, rfl, HI.out⟩
                case round =>
                  obtain ⟨k, hk, rfl, hI⟩ := hrel
                  clear HI
                  have HI := hid hI
                  clear hI
                  obtain ⟨c0, c1, c2, c3⟩ := HCell.out wr HI.out
                  try simp only at c0 c1 c2 c3
                  by_cases hkl : k < al
                  · have hk1 : (k : Int) < ((al : Nat) : Int) := by omega
                    have hk0 : (0 : Int) ≤ (k : Int) := Int.natCast_nonneg _
                    obtain ⟨g, cur, c, e, hb, hg, hc, hz⟩ := Lw.at (HLw.out wr HI.out).2 hkl
                    try simp only at e
                    subst e
                    have HI2 := hid (HI.out.put (k := k) hg hb (.string ⟨#[63]⟩))
                    clear hg hb
                    go_wp2_with fail
                    exact ⟨⟨k + 1, by omega, by go_num, HI2.out⟩, by simp [intOf]; omega⟩
                  · have hk1 : ¬ ((k : Int) < ((al : Nat) : Int)) := by omega
                    have hth := HI.out.there HIl.out
                    have z0 : wr.frozen? ⟨rb, i * 4, none⟩ = false := (hth 0 (by omega)).2
                    have z1 : wr.frozen? ⟨rb, i * 4 + 1, none⟩ = false := (hth 1 (by omega)).2
                    have z2 : wr.frozen? ⟨rb, i * 4 + 2, none⟩ = false := (hth 2 (by omega)).2
                    have z3 : wr.frozen? ⟨rb, i * 4 + 3, none⟩ = false := (hth 3 (by omega)).2
                    clear hth
                    have HI9 : Hid (Iw W0 X6 rb (i + 1) ((((wr.setCell ⟨rb, i * 4, none⟩ (.string ⟨#[]⟩)).setCell ⟨rb, i * 4 + 1, none⟩ (.string ⟨#[]⟩)).setCell ⟨rb, i * 4 + 2, none⟩ (.slice none 0 0)).setCell ⟨rb, i * 4 + 3, none⟩ (.slice none 0 0))) := by
                      unfold Hid
                      rw [← sets_uZ]
                      exact HI.out.zero HIl.out rfl
                    go_wp2_with fail
                    exact ⟨⟨i + 1, by omega, by go_num, HI9.out.fr, fun rb' e _ => by cases e; exact HI9.out⟩, by simp [intOf]; omega⟩
          · have hi1 : ¬ ((i : Int) < ((x.length : Nat) : Int)) := by omega
            have HF2 := hid (HF.out.trans hFi (fun _ h => h.elim))
            clear hIw hFi
            go_wp2_with fail
            exact ⟨⟨t + 1, by omega, by go_num, HF2.out⟩, by simp [intOf]; omega⟩
      · have ht1 : ¬ ((t : Int) < 2) := by omega
        have HFw := hid (HF5.out.trans HF.out (fun _ h => h.elim))
        have HSa := hid (sameAll_any wr wr (Env.refl _) l l va4 ad vc4 cap ((HU5.out.env (Env.of HF.out)).up (Env.of HF.out)) ((HU.out.env (Env.of HFw.out)).up (Env.of HFw.out)) (by unfold lim; omega))
        rw [decide_eq_true (rfl : l = l)] at HSa
        go_wp2_with fail
        refine HSa.out.mono ?_
        rintro e w8 ⟨rfl, f8⟩
        have HF8 := hid (HFw.out.trans f8 (fun _ h => h.elim))
        clear f8 HSa
        go_wp2_with fail
        go_ret
        exact ⟨rfl, HF8.out⟩
end Go.Proofs.YtcpeebkfnnkjnaaDoor.Tr
