/- AllocBack: the walk. -/
import Derived.Test.YtehoiahgkbnjdaaGreatOps
namespace Go.Proofs.YtehoiahgkbnjdaaGreat.Al
open Go.RowKit Go.Shelf Dk Wl

theorem sz36 : (Tryz.prog.info? 36).map (·.size) = some 2 := by kernel_rfl
theorem OpAt.range {w : World} {lb o : Nat} {x : OpR} (h : OpAt w lb o x) : w.rangeAt lb o [.int .i64 x.kind, .int .i64 x.n] := by
  intro j v hv
  match j with
  | 0 => simp at hv; subst hv; exact h.kind
  | 1 => simp at hv; subst hv; exact h.n
  | j + 2 => simp at hv

/-- In mid-way of what is committed. -/
def BkMid (G : Nat → Prop) (w wr : World) (l p sp n m : Nat) : Prop := ∃ bl bt T D L, OwnL (fun k => G k ∨ k = sp) wr l p bl bt D L ∧ Spc (fun k => G k ∨ k = sp) wr sp l (lay n) ∧ AI n m T D L ∧ L.st = [] ∧ Kp G w wr
/-- In mid-way of what is not. -/
def BkAft (G : Nat → Prop) (w wr : World) (l p bl bt sp n m : Nat) (T : Nat → Sec) (D : Dsk) : Prop := ∃ L, OwnL (fun k => G k ∨ k = sp) wr l p bl bt D L ∧ Spc (fun k => G k ∨ k = sp) wr sp l (lay n) ∧ AI n m T D L ∧ Kp G w wr

set_option maxRecDepth 100000 in
set_option maxHeartbeats 4000000 in
theorem back_walk (G : Nat → Prop) (w : World) (hG : ∀ k, G k → k < w.heap.size) (a : Int) (h0 : -9223372036854775808 ≤ a) (h1 : a ≤ 9223372036854775807) (ad1 : Option Addr) (len1 cap1 : Nat) (ad2 : Option Addr) (len2 cap2 : Nat) (hA1 : ArgOps G w ad1 len1) (hA2 : ArgOps G w ad2 len2) :
    Calls Tryz.prog 5 #[.int .i64 a, .slice ad1 len1 cap1, .slice ad2 len2 cap2] w fun x w' => x = .returned (.bool true) ∧ Kp G w w' := by
  have HSh := hid (shown_al G w hG)
  have HSz := hid (fun W => size_any W a h0 h1)
  have hsb := size_b a
  have HHG := hid hG
  have HA1 := hid hA1
  have HA2 := hid hA2
  clear h0 h1 hG hA1 hA2
  generalize sizeN a = n at *
  have HM := hid (fun W (hW : ∀ k, G k → k < W.heap.size) => made_al G W hW n (by omega) (by omega))
  have Hn : Hid (64 ≤ n ∧ n ≤ 1024) := by unfold Hid; omega
  clear hsb
  go_enter Tryz.func5, Tryz.ntmps5
  go_wp2_with fail
  refine HSh.out.mono ?_
  rintro x w1 ⟨rfl, k1⟩
  have HK1 := hid k1
  clear HSh k1
  go_wp2_with fail
  refine (HSz.out _).mono ?_
  rintro x w2 ⟨rfl, rfl⟩
  have HM2 := hid (HM.out w2 (fun k hk => Nat.lt_of_lt_of_le (HHG.out k hk) HK1.out.size))
  clear HSz HM HHG
  go_wp2_with fail
  refine HM2.out.mono ?_
  rintro x w3 ⟨p, l, sp, bl, bt, D, L, rfl, o3, b3, hsp, k3, a3, t3⟩
  have HB0 : Hid (BkMid G w w3 l p sp n 9000000) := ⟨bl, bt, _, D, L, o3, ⟨b3, .inr rfl⟩, a3, t3, Kp.trans HK1.out k3⟩
  clear HM2 o3 b3 hsp k3 a3 t3 HK1
  go_wp2_with fail
  go_loopw [11] (fun i wr => ∃ k : Nat, k ≤ len1 ∧ k ≤ 60 ∧ i = .int .i64 (k : Int) ∧ BkMid G w wr l p sp n (9000000 - 600 * k)) (fun i _ => 60 - (intOf i).toNat)
  case atStart => exact ⟨0, Nat.zero_le _, Nat.zero_le _, rfl, HB0.out⟩
  case round =>
    obtain ⟨k, hk, hk60, rfl, hM⟩ := hrel
    have HM := hid hM
    clear hM HB0
    by_cases hlt : k < len1 ∧ k < 60
    · have hk1 : (k : Int) < (len1 : Int) := by omega
      have hk2 : (k : Int) < 60 := by omega
      have hk0 : (0 : Int) ≤ (k : Int) := Int.natCast_nonneg _
      obtain ⟨bl1, bt1, T, D1, L1, o1, s1, a1, t1, k1⟩ := HM.out
      obtain ⟨lb, lo, x, rfl, hx, hg⟩ := HA1.out k hlt.1
      have HR := hid (hx.kp k1 hg).range
      have HAc := hid (act_any o1 s1 a1 Hn.out.1 Hn.out.2 x.kind x.n)
      have HS1 := hid s1
      have HK1 := hid k1
      clear hx hg o1 s1 a1 t1 k1 HM
      go_wp2_with (first | (refine wpList_load_mid (by rfl) 36 _ (by rfl) lb (lo + k * 2) (by rfl) [.int .i64 x.kind, .int .i64 x.n] _ HR.out Tryz.underlying36 rfl sz36 ?_))
      refine HAc.out.mono ?_
      rintro y w4 ⟨rfl, L4, o4, a4, k4⟩
      have hll := lay_ll n Hn.out.2
      have HCo := hid (Commit_any o4 (a4.sm.le (by omega)) (by have := a4.lg; omega) (by have := cost_le a4.c; omega) (by rw [a4.ln]; exact a4.c))
      have hac := AI.commit (m := 9000000 - 600 * (k + 1)) ({ a4 with sm := a4.sm.le (by omega) }) Hn.out.2 o4.r.ok o4.r.ml.2.1 o4.r.mt.2.1 o4.r.mt.2.2
      rw [hac.1] at HCo
      have HAi := hid hac.2
      have HS4 := hid (HS1.out.kp k4)
      have HK4 := hid (Kp.trans HK1.out (Kp.less k4 (fun _ hk => .inl hk)))
      clear HAc o4 a4 k4 hll hac HR HS1 HK1
      go_wp2_with fail
      refine HCo.out.mono ?_
      rintro y w5 ⟨rfl, ⟨bl5, bt5, o5⟩, k5⟩
      have HB : Hid (BkMid G w w5 l p sp n (9000000 - 600 * (k + 1))) := ⟨bl5, bt5, _, _, _, o5, HS4.out.kp k5, HAi.out.1, HAi.out.2, Kp.trans HK4.out (Kp.less k5 (fun _ hk => .inl hk))⟩
      clear HCo o5 k5 HS4 HAi HK4
      go_wp2
      exact ⟨⟨k + 1, by omega, by omega, by go_num, HB.out⟩, by simp [intOf]; omega⟩
    · obtain ⟨bl1, bt1, T, D1, L1, o1, s1, a1, t1, k1⟩ := HM.out
      have HPc := hid (picture_any o1 s1 a1 Hn.out.1 Hn.out.2)
      rw [t1] at HPc
      have hm1 : AI n 1000 T D1 L1 := { a1 with sm := a1.sm.le (by omega) }
      have HA1' := hid hm1
      have HS1 := hid s1
      have HK1 := hid k1
      have HTT : Hid (∀ L : Lg, over L.drop.st T = over [] T) := fun _ => rfl
      have hcase : ((k : Int) < (len1 : Int) ∧ ¬ (k : Int) < 60) ∨ ¬ (k : Int) < (len1 : Int) := by omega
      clear HM o1 s1 a1 t1 k1 hm1 hlt HA1
      generalize hS : strB (pic n (over [] T (lay n).mp) (over [] T (lay n).nd) n) = S at *
      have HSS := hid hS
      clear hS
      generalize wr = wq at *
      clear wr
      rcases hcase with ⟨hk1, hk2⟩ | hk1
      all_goals
        go_wp2_with fail
        refine HPc.out.mono ?_
        rintro y w4 ⟨rfl, o4, k4⟩
        have HB4 : Hid (BkAft G w w4 l p bl1 bt1 sp n 1000 T D1) := ⟨_, o4, HS1.out.kp k4, HA1'.out, Kp.trans HK1.out (Kp.less k4 (fun _ hk => .inl hk))⟩
        clear HPc o4 k4 HA1' HS1 HK1
        go_wp2_with fail
        go_loopw [13] (fun i wr => ∃ k : Nat, k ≤ len2 ∧ k ≤ 60 ∧ i = .int .i64 (k : Int) ∧ BkAft G w wr l p bl1 bt1 sp n 1000 T D1) (fun i _ => 60 - (intOf i).toNat)
        case atStart => exact ⟨0, Nat.zero_le _, Nat.zero_le _, rfl, HB4.out⟩
        case round =>
          obtain ⟨j, hj, hj60, rfl, hM⟩ := hrel
          have HM := hid hM
          clear hM HB4
          by_cases hlt : j < len2 ∧ j < 60
          · have hj1 : (j : Int) < (len2 : Int) := by omega
            have hj2 : (j : Int) < 60 := by omega
            have hj0 : (0 : Int) ≤ (j : Int) := Int.natCast_nonneg _
            obtain ⟨L5, o5, s5, a5, k5⟩ := HM.out
            obtain ⟨lb, lo, x, rfl, hx, hg⟩ := HA2.out j hlt.1
            have HR := hid (hx.kp k5 hg).range
            have HAc := hid (act_any o5 s5 a5 Hn.out.1 Hn.out.2 x.kind x.n)
            have HS5 := hid s5
            have HK5 := hid k5
            clear hx hg o5 s5 a5 k5 HM
            go_wp2_with (first | (refine wpList_load_mid (by rfl) 36 _ (by rfl) lb (lo + j * 2) (by rfl) [.int .i64 x.kind, .int .i64 x.n] _ HR.out Tryz.underlying36 rfl sz36 ?_))
            refine HAc.out.mono ?_
            rintro y w6 ⟨rfl, L6, o6, a6, k6⟩
            have HB : Hid (BkAft G w w6 l p bl1 bt1 sp n 1000 T D1) := ⟨L6, o6, HS5.out.kp k6, a6, Kp.trans HK5.out (Kp.less k6 (fun _ hk => .inl hk))⟩
            clear HAc o6 a6 k6 HS5 HK5 HR
            go_wp2
            exact ⟨⟨j + 1, by omega, by omega, by go_num, HB.out⟩, by simp [intOf]; omega⟩
          · obtain ⟨L5, o5, s5, a5, k5⟩ := HM.out
            have HDr := hid (drop_any o5)
            have HAd := hid a5.drop
            have HS5 := hid s5
            have HK5 := hid k5
            have hcase : ((j : Int) < (len2 : Int) ∧ ¬ (j : Int) < 60) ∨ ¬ (j : Int) < (len2 : Int) := by omega
            clear HM o5 s5 a5 k5 hlt
            rcases hcase with ⟨hj1, hj2⟩ | hj1
            all_goals
              go_wp2_with fail
              refine HDr.out.mono ?_
              rintro y w6 ⟨rfl, ⟨bt6, o6⟩, k6⟩
              have HS6 := hid (HS5.out.kp k6)
              have HK6 := hid (Kp.trans HK5.out (Kp.less k6 (fun _ hk => .inl hk)))
              have HPd := hid (picture_any o6 HS6.out HAd.out Hn.out.1 Hn.out.2)
              rw [HTT.out, HSS.out] at HPd
              clear HDr o6 k6 HS5 HK5 HAd
              go_wp2_with fail
              refine HPd.out.mono ?_
              rintro y w7 ⟨rfl, o7, k7⟩
              have HK7 := hid (Kp.trans HK6.out (Kp.less k7 (fun _ hk => .inl hk)))
              clear HPd o7 k7 HK6
              go_wp2
              go_ret
              exact ⟨by simp, HK7.out⟩

end Go.Proofs.YtehoiahgkbnjdaaGreat.Al
