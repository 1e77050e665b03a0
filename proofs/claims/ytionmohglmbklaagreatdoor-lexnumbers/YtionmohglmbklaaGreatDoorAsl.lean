/- The contract of atof64 where digits were left out that matter. -/
import Derived.Test.YtionmohglmbklaaGreatDoorAtt
import Derived.Test.YtionmohglmbklaaGreatDoorDse
namespace Go.Proofs.YtionmohglmbklaaGreatDoor.Tr
open Go.RowKit

/-- What the slow way gives. -/
def atofS (C : Nat → Nat × List UInt8) (t : List UInt8) (q : Nat) (ex : Int) : Nat × Bool :=
  ((fbF C ⟨(dsAt t q).L, (dsAt t q).dp + ex, (dsAt t q).tr⟩).1.toNat, (fbF C ⟨(dsAt t q).L, (dsAt t q).dp + ex, (dsAt t q).tr⟩).2)

theorem ext_all (t : List UInt8) : (ByteArray.mk t.toArray).extract 0 t.length = ⟨t.toArray⟩ := by
  rw [ext_sub, sub_all]; rfl
def zeroD : List Value := bs (List.replicate 800 0) ++ [.int .i64 0, .int .i64 0, .bool false, .bool false]
theorem zeroD_eq : Tryz.zeroCells198 = zeroD.toArray := by kernel_rfl
theorem zeroD_dc (w : World) : Dc (w.alloc (.cells Tryz.zeroCells198 198)) w.heap.size ⟨[], 0, false⟩ := by
  rw [zeroD_eq]
  exact ⟨List.replicate 800 0, ⟨Blk.new w _ _, List.length_replicate⟩, rfl⟩

theorem ato_cut' {w0 : World} {T : Nat → Nat × Nat} {Q : Nat → Nat} (h : Tbs w0 T Q) {t : List UInt8} {p q : Nat} (ht : FTx t p q) (htr : (rfAt t q).tr = true) (dp : Int) (hd0 : -200000 ≤ dp) (hd1 : dp ≤ 200000)
    (hR : ∀ w, Calls Tryz.prog 141 #[.string ⟨t.toArray⟩] w fun e w' => e = .returned (rfV (rfAt t q) t dp) ∧ w' = w)
    (x : Int) (hx : x = if (rfAt t q).m = 0 then 0 else dp - ((rfAt t q).nm : Int)) (hS : (rfAt t q).m ≠ 0 → -345 ≤ x → x ≤ 310 → sameT T (rfAt t q).m x = true) :
    Ato w0 t (atofT T (rfAt t q).m x) := by
  intro w hE
  have H := h.env hE
  have hi := RI.at ht q (Nat.le_refl _)
  have h0 : 0 < t.length := by have := ht.pq; have := ht.ql; omega
  have hnm := hi.nm
  refine atof_tr H.tab H.lay H.opt h0 (ht.dg 0 h0 (by have := ht.pq; omega) (by have := ht.pos; omega)) _ _ (pow_le19 hi.mb hi.nm) (by rw [hx]; split <;> omega) (by rw [hx]; split <;> omega) hS ?_
  refine (hR w).mono ?_
  rintro e w' ⟨rfl, rfl⟩
  refine ⟨?_, rfl⟩
  unfold rfV
  rw [htr, hx]

set_option maxRecDepth 100000 in
set_option maxHeartbeats 4000000 in
theorem atof_sl {w : World} {T : Nat → Nat × Nat} {C : Nat → Nat × List UInt8} (hT : Pw w T) (hC : FbT w C) (hG : 11 < w.heap.size) (hO : w.cell? ⟨5, 0, none⟩ = some (.bool true)) {t : List UInt8} {p' q : Nat} {ex : Int} (ht : FTx t p' q) (hx : FEnd t q ex) (m : Nat) (p : Int)
    (hm0 : m ≠ 0) (hm : m < 10000000000000000000) (hp0 : -345 ≤ p) (hp1 : p ≤ 310) (hS : sameT T m p = false) (hok : DOk (dsAt t q).L) (hb0 : -1000000 ≤ (dsAt t q).dp + ex) (hb1 : (dsAt t q).dp + ex ≤ 1000000)
    (hR : Calls Tryz.prog 141 #[.string ⟨t.toArray⟩] w fun e w' => e = .returned (.tuple #[.int .u64 (m : Int), .int .i64 p, .bool false, .bool true, .bool false, .int .i64 (t.length : Int), .bool true]) ∧ w' = w) :
    Calls Tryz.prog 121 #[.string ⟨t.toArray⟩] w fun e w' => e = .returned (.tuple #[.float .f64 (atofS C t q ex).1, .int .i64 (t.length : Int), errV (atofS C t q ex).2]) ∧ Fr (fun _ => False) w w' := by
  have HR := hid hR
  have h0 : 0 < t.length := by have := ht.pq; have := ht.ql; omega
  have HS := hid (special_digit w h0 (ht.dg 0 h0 (by have := ht.pq; omega) (by have := ht.pos; omega)))
  have hz : (bits BinOp.or .u64 0 0).toNat = 0 := by decide +kernel
  have hm1 : ((m : Int) == 0) = false := by simp; omega
  have hm2 : ¬ (m : Int) = 0 := by omega
  have hq1' : decide (p > 310) = false := decide_eq_false (by omega)
  have hq2' : decide (p < -345) = false := decide_eq_false (by omega)
  obtain ⟨i, hi1⟩ : ∃ i : Nat, p = (i : Int) - 348 := ⟨(p + 348).toNat, by omega⟩
  have hpi : (p + 348).toNat = i := by omega
  unfold sameT at hS
  rw [hpi] at hS
  have HPf := hid (pf64_any hT hG m i hm0 (by omega) (by omega) (by omega))
  have HPg := hid (fun W (f : Fr (fun _ => False) w W) => pf64_any (hT.env ((Env.refl w).fr f (fun _ h => h.elim))) (Nat.lt_of_lt_of_le hG f.size) (m + 1) i (by omega) (by omega) (by omega) (by omega))
  generalize pf64 T m i = R at HPf hS
  rw [← hi1] at HPf HPg
  have hm3 : ((m + 1 : Nat) : Int) = (m : Int) + 1 := by omega
  rw [hm3] at HPg
  generalize pf64 T (m + 1) i = R' at HPg hS
  have HSet : Hid (∀ W b, Dc W b ⟨[], 0, false⟩ → Calls Tryz.prog 147 #[pd b, .string ⟨t.toArray⟩] W fun e w' => e = .returned (.bool true) ∧ Fr (· = b) W w' ∧ Dc w' b ⟨(dsAt t q).L, (dsAt t q).dp + ex, (dsAt t q).tr⟩) := fun W b h => set_any h ht hx
  have HFb : Hid (∀ W b, Env w W → w.heap.size ≤ b → Dc W b ⟨(dsAt t q).L, (dsAt t q).dp + ex, (dsAt t q).tr⟩ → Calls Tryz.prog 148 #[pd b, .pointer (some ⟨6, 0, none⟩)] W fun e w' => e = .returned (.tuple #[.int .u64 (fbF C ⟨(dsAt t q).L, (dsAt t q).dp + ex, (dsAt t q).tr⟩).1, .bool (fbF C ⟨(dsAt t q).L, (dsAt t q).dp + ex, (dsAt t q).tr⟩).2]) ∧ Fr (· = b) W w') := fun W b e hb h => fb_any h hok e hb hC hb0 hb1
  unfold atofS
  generalize (⟨(dsAt t q).L, (dsAt t q).dp + ex, (dsAt t q).tr⟩ : DC) = s at *
  generalize fbF C s = F at *
  clear hT hpi hi1 hm3 hR hC ht hx hok hb0 hb1
  have hb1 : (m : Int) + 1 < 18446744073709551616 := by omega
  obtain ⟨R1, R2⟩ := R
  obtain ⟨S1, S2⟩ := R'
  obtain ⟨F1, F2⟩ := F
  simp only at hS ⊢ HFb
  have htl := ext_all t
  go_enter Tryz.func121, Tryz.ntmps121
  go_wp2_with fail
  refine HS.out.mono ?_
  rintro e w' ⟨rfl, rfl⟩
  clear HS
  go_wp2_with fail
  refine HR.out.mono ?_
  rintro e w' ⟨rfl, hw⟩
  rw [hw]
  clear HR hw
  go_wp2_with fail
  refine (bool2u_any w false).mono ?_
  rintro e w' ⟨rfl, rfl⟩
  go_wp2_with fail
  refine HPf.out.mono ?_
  rintro e w2 ⟨rfl, f2⟩
  have HF := hid f2
  have HPh := hid (HPg.out w2 f2)
  clear f2 HPf HPg
  go_wp2_with fail
  refine HPh.out.mono ?_
  rintro e w3 ⟨rfl, f3⟩
  have HF3 : Hid (Fr (fun _ => False) w w3) := HF.out.same f3
  clear f3 HF HPh
  have hsm2 : (FloatKind.f64.format.order R1 S1 == some Ordering.eq) = false := hS
  clear hS
  generalize errV R2 = v2 at *
  generalize errV S2 = v3 at *
  have HZ := hid (zeroD_dc w3)
  have HF4 := hid (HF3.out.alloc (.cells Tryz.zeroCells198 198))
  have HSz := hid HF3.out.size
  go_wp2_with fail
  refine (HSet.out _ _ HZ.out).mono ?_
  rintro e w4 ⟨rfl, f4, d4⟩
  have hF4 : Fr (fun _ => False) w w4 := HF4.out.trans f4 (fun i hi => .inr (by have := HSz.out; omega))
  have HB := hid (HFb.out w4 w3.heap.size ((Env.refl w).fr hF4 (fun _ h => h.elim)) HSz.out d4)
  have HF5 := hid hF4
  clear f4 d4 hF4 HSet HFb HZ HF4 HF3
  go_wp2_with fail
  refine HB.out.mono ?_
  rintro e w5 ⟨rfl, f5⟩
  have HF6 : Hid (Fr (fun _ => False) w w5) := HF5.out.trans f5 (fun i hi => .inr (by have := HSz.out; omega))
  have hfb := fun n => frombits_any w5 n
  clear f5 HB HF5
  cases F2
  all_goals
    go_wp2_with fail
    exact bodyPost_ret (results3 rfl rfl rfl rfl) rfl ⟨rfl, HF6.out⟩

/-- What atof64 gives of a float's text, whatever it is. -/
def atofA (T : Nat → Nat × Nat) (Q : Nat → Nat) (C : Nat → Nat × List UInt8) (t : List UInt8) (q : Nat) (ex : Int) : Nat × Bool :=
  let x : Int := if (rfAt t q).m = 0 then 0 else (rfAt t q).dp + ex - ((rfAt t q).nm : Int)
  if (rfAt t q).tr = false then atofN T (exF Q) (rfAt t q).m x
  else if (rfAt t q).m ≠ 0 ∧ -345 ≤ x ∧ x ≤ 310 ∧ sameT T (rfAt t q).m x = false then atofS C t q ex
  else atofT T (rfAt t q).m x

theorem ato_any {w0 : World} {T : Nat → Nat × Nat} {Q : Nat → Nat} {C : Nat → Nat × List UInt8} (h : Tbs w0 T Q) (hC : FbT w0 C) {t : List UInt8} {p q : Nat} {ex : Int} (ht : FTx t p q) (hx : FEnd t q ex) : Ato w0 t (atofA T Q C t q ex) := by
  have hi := RI.at ht q (Nat.le_refl _)
  have hl := ht.len
  have hql := ht.ql
  have h1 := hi.lo
  have h2 := hi.hi
  have hnm := hi.nm
  have hexb : -100000 ≤ ex ∧ ex ≤ 100000 := by
    rcases hx with ⟨_, e⟩ | ⟨r, sg, hr, e⟩
    · omega
    · have he := exAt_le hr.dg t.length (Nat.le_of_lt hr.rl) (Nat.le_refl _)
      have hsg : sg = 1 ∨ sg = -1 := by
        rcases hr.rq with ⟨_, e, _⟩ | ⟨_, e, _⟩ | ⟨_, e, _⟩
        · exact .inl e
        · exact .inl e
        · exact .inr e
      rcases hsg with rfl | rfl <;> omega
  have hR : ∀ w, Calls Tryz.prog 141 #[.string ⟨t.toArray⟩] w fun e w' => e = .returned (rfV (rfAt t q) t ((rfAt t q).dp + ex)) ∧ w' = w := by
    intro w
    rcases hx with ⟨rfl, rfl⟩ | ⟨r, sg, hr, rfl⟩
    · rw [Int.add_zero]; exact readFloat_plain w ht
    · exact readFloat_exp w ht hr
  unfold atofA
  simp only
  by_cases htr : (rfAt t q).tr = false
  · rw [if_pos htr]
    exact ato_of h ht htr _ (by omega) (by omega) hR
  · rw [if_neg htr]
    have htr' : (rfAt t q).tr = true := by simpa using htr
    obtain ⟨x, hxx⟩ : ∃ x : Int, x = if (rfAt t q).m = 0 then 0 else (rfAt t q).dp + ex - ((rfAt t q).nm : Int) := ⟨_, rfl⟩
    rw [← hxx]
    by_cases hS : (rfAt t q).m ≠ 0 ∧ -345 ≤ x ∧ x ≤ 310 ∧ sameT T (rfAt t q).m x = false
    · rw [if_pos hS]
      intro w hE
      have H := h.env hE
      have hds := DSI.at ht q (Nat.le_refl _)
      have hd1 := hds.lo
      have hd2 := hds.hi
      refine atof_sl H.tab (hC.env hE) H.lay H.opt ht hx _ x hS.1 (pow_le19 hi.mb hi.nm) hS.2.1 hS.2.2.1 hS.2.2.2 (ds_ok ht hS.1) (by omega) (by omega) ?_
      refine (hR w).mono ?_
      rintro e w' ⟨rfl, rfl⟩
      refine ⟨?_, rfl⟩
      unfold rfV
      rw [htr', hxx]
    · rw [if_neg hS]
      refine ato_cut' h ht htr' _ (by omega) (by omega) hR x hxx ?_
      intro hm a b
      cases hs : sameT T (rfAt t q).m x with
      | true => rfl
      | false => exact absurd ⟨hm, a, b, hs⟩ hS


end Go.Proofs.YtionmohglmbklaaGreatDoor.Tr
