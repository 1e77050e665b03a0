/- AllocPlays: the walk. -/
import Derived.Test.YtehoiahgkbnjdaaGreatOplM
import Derived.Test.YtehoiahgkbnjdaaGreatStaM
import Derived.LaidEqlPtr
namespace Go.Proofs.YtehoiahgkbnjdaaGreat.Al
open Go.RowKit Go.Shelf Dk Wl

theorem sz36' : (Tryz.prog.info? 36).map (·.size) = some 2 := by kernel_rfl
theorem OpAt.range' {w : World} {lb o : Nat} {x : OpR} (h : OpAt w lb o x) : w.rangeAt lb o [.int .i64 x.kind, .int .i64 x.n] := by
  intro j v hv
  match j with
  | 0 => simp at hv; subst hv; exact h.kind
  | 1 => simp at hv; subst hv; exact h.n
  | j + 2 => simp at hv
theorem PS.kp {G : Nat → Prop} {w0 wr : World} {l p sp q rp n m : Nat} (h : PS G w0 wr l p sp q rp n m) : Kp G w0 wr := by
  obtain ⟨bl, bt, T, D, L, bv, iv, sv, v, R, S, P, _⟩ := h
  exact P.kp

theorem info91 : (Tryz.prog.info? 91).isSome = true := by kernel_rfl
theorem eq26 (l : Nat) (W : World) : (binOp .eql 26 (pv l) (pv l)).run Tryz.prog W = .ok (.bool true) W := by
  cases h : Tryz.prog.info? 91 with
  | none => have := info91; rw [h] at this; cases this
  | some j => exact run_eql_ptr_same W ⟨l, 0, none⟩ Tryz.underlying26 h
set_option maxRecDepth 100000 in
set_option maxHeartbeats 1000000 in
theorem Log_ok {G : Nat → Prop} {w : World} {sp l : Nat} {y : Ly} (hs : Spc G w sp l y) : Calls Tryz.prog 15 #[pv sp] w fun e w' => e = .returned (pv l) ∧ w' = w := by
  have c0 : w.cell? ⟨sp, 0, none⟩ = some (pv l) := hs.b.cell 0
  clear hs
  go_enter Tryz.func15, Tryz.ntmps15
  go_wp2
  go_ret
  exact ⟨rfl, rfl⟩

set_option maxRecDepth 100000 in
set_option maxHeartbeats 8000000 in
theorem plays_walk (G : Nat → Prop) (w : World) (hG : ∀ k, G k → k < w.heap.size) (a : Int) (h0 : -9223372036854775808 ≤ a) (h1 : a ≤ 9223372036854775807) (ad : Option Addr) (len cap : Nat) (hA : ArgOps G w ad len) :
    Calls Tryz.prog 3 #[.int .i64 a, .slice ad len cap] w fun x w' => x = .returned (.bool true) ∧ Kp G w w' := by
  have HSh := hid (shown_al G w hG)
  have HSz := hid (fun W => size_any W a h0 h1)
  have hsb := size_b a
  have HHG := hid hG
  have HA := hid hA
  clear h0 h1 hG hA
  generalize sizeN a = n at *
  have HM := hid (fun W (hW : ∀ k, G k → k < W.heap.size) => made_al G W hW n (by omega) (by omega))
  have Hn : Hid (64 ≤ n ∧ n ≤ 1024) := by unfold Hid; omega
  clear hsb
  go_enter Tryz.func3, Tryz.ntmps3
  go_wp2_with fail
  refine HSh.out.mono ?_
  rintro x w1 ⟨rfl, k1⟩
  have HK1 := hid k1
  clear HSh k1
  go_wp2_with fail
  refine (HSz.out _).mono ?_
  rintro x w2 ⟨rfl, rfl⟩
  have HM2 := hid (HM.out w2 (fun k hk => Nat.lt_of_lt_of_le (HHG.out k hk) HK1.out.size))
  clear HSz HM HHG
  go_wp2_with fail
  refine HM2.out.mono ?_
  rintro x w3 ⟨p, l, sp, bl, bt, D, L, rfl, o3, b3, hsp, k3, a3, t3⟩
  have HI : Hid (∀ (u : Rv) (w4 : World), RRep w4 u.rp n u.b u.i u.s (Rs.new n) → (∀ j, u.foot j → w3.heap.size ≤ j) → Nw w3 w4 → ∀ (v : Rv) (w5 : World), RRep w5 v.rp n v.b v.i v.s (Rs.new n) → (∀ j, v.foot j → w4.heap.size ≤ j) → Nw w4 w5 → ∀ (w6 : World), Nw w5 w6 → ∀ t, Blk w6 w5.heap.size t [pv v.rp] → PS G w w6 l p sp w5.heap.size u.rp n 9000000) := fun u w4 r4 hu f4 v w5 r5 hv f5 w6 f6 t hq =>
    ⟨bl, bt, T0 n, D, L, u.b, u.i, u.s, v, Rs.new n, Rs.new n, PSx.init o3 b3 a3 (Kp.trans HK1.out k3) r4 hu f4 r5 hv f5 f6 hq, by rw [t3]; exact sim_new n Hn.out.1 Hn.out.2, sim_new n Hn.out.1 Hn.out.2, (T0_at n Hn.out.1 Hn.out.2).1, by simp [Rs.new]⟩
  have HNw := hid (rnew_ok w3 n Hn.out.1 Hn.out.2)
  clear HM2 o3 b3 hsp k3 a3 t3 HK1
  go_wp2_with fail
  refine HNw.out.mono ?_
  rintro x w4 ⟨rp, bv, iv, sv, rfl, r4, hu, f4⟩
  have HCl := hid (clone_any r4 Hn.out.1 Hn.out.2 rfl)
  have HI4 := hid (HI.out ⟨rp, bv, iv, sv⟩ w4 r4 hu f4)
  clear HNw HI r4 hu f4
  go_wp2_with fail
  refine HCl.out.mono ?_
  rintro x w5 ⟨rq, bq, iq, sq, rfl, r5, hv, f5⟩
  have HI5 := hid (HI4.out ⟨rq, bq, iq, sq⟩ w5 r5 hv f5)
  clear HCl HI4 r5 hv f5
  have HB0 : Hid (PS G w (w5.alloc (.cells #[pv rq] 30)) l p sp w5.heap.size rp n 9000000) := HI5.out _ ((Fr.refl _ w5).alloc _) 30 (Blk.new w5 30 [pv rq])
  clear HI5
  go_wp2_with fail
  generalize w5.heap.size = q at *
  generalize w5.alloc (.cells #[pv rq] 30) = wq at *
  go_loopw [11, 12] (fun i _ wr => ∃ k : Nat, k ≤ len ∧ k ≤ 200 ∧ i = .int .i64 (k : Int) ∧ PS G w wr l p sp q rp n (9000000 - 600 * k)) (fun i _ _ => 200 - (intOf i).toNat)
  case atStart => exact ⟨0, Nat.zero_le _, Nat.zero_le _, rfl, HB0.out⟩
  case round =>
    obtain ⟨k, hk, hk200, rfl, hM⟩ := hrel
    have HM := hid hM
    clear hM HB0
    by_cases hlt : k < len ∧ k < 200
    · have hk1 : (k : Int) < (len : Int) := by omega
      have hk2 : (k : Int) < 200 := by omega
      have hk0 : (0 : Int) ≤ (k : Int) := Int.natCast_nonneg _
      obtain ⟨lb, lo, x, rfl, hx, hg⟩ := HA.out k hlt.1
      have HR := hid (hx.kp HM.out.kp hg).range'
      have HSt := hid (step_any (m := 9000000 - 600 * (k + 1)) (HM.out.le (by omega)) Hn.out.1 Hn.out.2 (by omega) x.kind x.n hx.n0.1 hx.n0.2)
      clear hx hg HM
      go_wp2_with (first | (refine wpList_load_mid (by rfl) 36 _ (by rfl) lb (lo + k * 2) (by rfl) [.int .i64 x.kind, .int .i64 x.n] _ HR.out Tryz.underlying36 rfl sz36' ?_))
      refine HSt.out.mono ?_
      rintro y w6 ⟨rfl, hP⟩
      have HB := hid hP
      clear HSt hP HR
      go_wp2
      exact ⟨⟨k + 1, by omega, by omega, by go_num, HB.out⟩, by simp [intOf]; omega⟩
    · obtain ⟨bl1, bt1, T, D1, L1, bv1, iv1, sv1, v, R, S, P, s, ss, ht, hz⟩ := HM.out
      have HP := hid P
      have Hss := hid ss
      have Hht := hid ht
      have HLy := hid (Layout_ok P.spc)
      have hcase : ((k : Int) < (len : Int) ∧ ¬ (k : Int) < 200) ∨ ¬ (k : Int) < (len : Int) := by omega
      clear HM P s ss ht hz hlt HA
      unfold Ly.v Ly.cells at HLy
      generalize wr = wz at *
      clear wr
      rcases hcase with ⟨hk1, hk2⟩ | hk1
      all_goals
        go_wp2_with fail
        refine HLy.out.mono ?_
        rintro y w6 ⟨rfl, f6⟩
        have f7 : Nw wz (w6.alloc (.cells #[.int .i64 ((lay n).s : Int), .int .i64 ((lay n).lg : Int), .int .i64 ((lay n).ll : Int), .int .i64 ((lay n).mp : Int), .int .i64 ((lay n).nd : Int), .int .i64 ((lay n).tb : Int), .int .i64 ((lay n).no : Int), .int .i64 ((lay n).da : Int)] 38)) := f6.alloc _
        have HP7 := hid (HP.out.nw f7)
        have elg : ((lay n).lg : Int) = 1 := rfl
        have HOp := hid (Open_live (ownL_own HP7.out.o) HP7.out.a HP7.out.o.r.ok Hn.out.1 Hn.out.2)
        rw [elg]
        rw [elg] at HOp HP7
        clear HLy f6 f7 HP elg
        go_wp2_with fail
        refine HOp.out.mono ?_
        rintro y w8 ⟨L8, l8, bl8, bt8, rfl, o8, k8, a8, t8⟩
        have hr8 : L8.reach 0 = 0 := a8.reach 0 (by have := Hn.out; omega) (.inl rfl)
        have ht8 : L8.tell D1 0 = headB n := by
          have := a8.tell 0 (by have := Hn.out; omega) (.inl rfl)
          rw [t8] at this
          exact this.trans Hht.out
        have HOa := hid (Open_al o8 n Hn.out.1 Hn.out.2 hr8 a8.up)
        rw [ht8, decide_eq_true rfl] at HOa
        have HC8 : Hid (RRep w8 v.rp n v.b v.i v.s S) := HP7.out.c.of_same (fun j hj => k8.block j (HP7.out.c.lt j hj) (fun hn => hn (.inr (.inr (.inr (.inr hj))))))
        have HQ8 : Hid (∃ t, Blk w8 q t [pv v.rp]) := by
          obtain ⟨t, hq⟩ := HP7.out.qc
          exact ⟨t, Kp.blk k8 hq (.inr (.inr (.inl rfl)))⟩
        have HK8 := hid (Kp.trans HP7.out.kp (Kp.less k8 (fun _ hk => .inl hk)))
        have HA8 := hid a8
        have Ht8 := hid t8
        clear HOp o8 k8 a8 t8 hr8 ht8 HP7
        go_wp2_with fail
        refine HOa.out.mono ?_
        rintro y w9 hw9
        unfold OpenAl at hw9
        rw [if_pos rfl] at hw9
        obtain ⟨sp9, rfl, o9, b9, _, k9⟩ := hw9
        have c9 : RRep w9 v.rp n v.b v.i v.s S := HC8.out.of_same (fun j hj => k9.block j (HC8.out.lt j hj) (fun hn => hn (.inr (.inr (.inr (.inr hj))))))
        obtain ⟨tq, hq8⟩ := HQ8.out
        have hq9 : Blk w9 q tq [pv v.rp] := Kp.blk k9 hq8 (.inr (.inr (.inl rfl)))
        have cq : w9.cell? ⟨q, 0, none⟩ = some (pv v.rp) := hq9.cell 0
        have HSt := hid (step_count (q := q) o9 ⟨b9, .inr rfl⟩ HA8.out Hn.out.1 Hn.out.2 (by rw [Ht8.out]; exact Hss.out) c9 (fun j hj => .inl (.inr (.inr (.inr (.inr hj))))) 9 0 (by omega))
        have HLg : Hid (∀ W, Kp (fun k => KX G sp q ⟨rp, bv1, iv1, sv1⟩ v k ∨ k = sp9) w9 W → Calls Tryz.prog 15 #[pv sp9] W fun e w' => e = .returned (pv l8) ∧ w' = W) := fun W k => Log_ok (G := fun k => KX G sp q ⟨rp, bv1, iv1, sv1⟩ v k ∨ k = sp9) ⟨Kp.blk k b9 (.inr rfl), .inr rfl⟩
        have HK9 := hid (Kp.trans HK8.out (Kp.less k9 (fun _ hk => .inl hk)))
        clear HOa o9 b9 k9 c9 hq8 hq9 HC8 HQ8 HA8 Ht8 HK8 Hss Hht
        go_wp2_with fail
        refine HSt.out.mono ?_
        rintro y w10 ⟨rfl, o10, k10⟩
        have HL10 := hid (HLg.out _ k10)
        have HK10 := hid (Kp.trans HK9.out (Kp.less k10 (fun _ hk => .inl (.inl hk))))
        clear HSt o10 k10 HLg HK9 cq
        go_wp2_with fail
        refine HL10.out.mono ?_
        rintro y w11 ⟨rfl, rfl⟩
        clear HL10
        have heq := eq26 l8
        go_wp2
        go_ret
        exact ⟨by simp, HK10.out⟩

end Go.Proofs.YtehoiahgkbnjdaaGreat.Al
