/- The contracts of prescale and parseFloat64. -/
import Derived.Test.YtionmohglmbklaaGreatDoorPfa
import Derived.Laws.Closers25b
import Derived.Lib.ItoaNum
import Derived.Lib.MinMax
namespace Go.Proofs.YtionmohglmbklaaGreatDoor.Tr
open Go.RowKit

/-- The powers of ten lie where the library keeps them. -/
def Pw (w : World) (T : Nat → Nat × Nat) : Prop := ∀ i, i < 696 → w.cell? ⟨11, i * 2, none⟩ = some (.int .u64 ((T i).1 : Int)) ∧ w.cell? ⟨11, i * 2 + 1, none⟩ = some (.int .u64 ((T i).2 : Int)) ∧ (T i).1 < 18446744073709551616 ∧ (T i).2 < 18446744073709551616
theorem Pw.env {w0 W : World} {T : Nat → Nat × Nat} (h : Pw w0 T) (e : Env w0 W) : Pw W T := fun i hi => ⟨e.cell (h i hi).1, e.cell (h i hi).2.1, (h i hi).2.2⟩

theorem bitsU (op : BinOp) (a b : Int) : U64 (bits op .u64 a b) := by
  have h := bits_within op .u64 a b
  simp only [IntKind.min, IntKind.max, IntKind.signed, IntKind.bits] at h
  unfold U64
  simp at h
  omega

set_option maxRecDepth 100000 in
set_option maxHeartbeats 2000000 in
theorem prescale_any {w : World} {T : Nat → Nat × Nat} (hT : Pw w T) (pb i : Nat) (x0 x1 x2 : Value) (hb : Blk w pb 221 [x0, x1, x2]) (e p lp : Int) (hp : p = (i : Int) - 348) (hi : i < 696) (he : -3000 ≤ e ∧ e ≤ 3000) (hlp : -3000 ≤ lp ∧ lp ≤ 3000) :
    Calls Tryz.prog 172 #[pv pb, .int .i64 e, .int .i64 p, .int .i64 lp] w fun r w' => r = .returned (.tuple #[]) ∧ Blk w' pb 221 [.int .u64 ((T i).1 : Int), .int .u64 ((T i).2 : Int), .int .i64 (-(e + lp + 3))] ∧ Fr (· = pb) w w' := by
  obtain ⟨t0, t1, l0, l1⟩ := hT i hi
  have c0 := hb.cell 0
  have c1 := hb.cell 1
  have c2 := hb.cell 2
  have z0 := hb.frozen 0
  have z1 := hb.frozen 1
  have z2 := hb.frozen 2
  simp only [List.getElem?_cons_zero, List.getElem?_cons_succ] at c0 c1 c2
  have b1 := hb.setCell 0 (.int .u64 ((T i).1 : Int))
  have b2 := b1.setCell 1 (.int .u64 ((T i).2 : Int))
  have b3 := b2.setCell 2 (.int .i64 (-(e + lp + 3)))
  have HB := hid b3
  have HF := hid ((((Fr.refl (· = pb) w).setCell (p := ⟨pb, 0, none⟩) (.inl rfl) (.int .u64 ((T i).1 : Int))).setCell (p := ⟨pb, 1, none⟩) (.inl rfl) (.int .u64 ((T i).2 : Int))).setCell (p := ⟨pb, 2, none⟩) (.inl rfl) (.int .i64 (-(e + lp + 3))))
  clear b1 b2 b3 hT
  have hp1 : p - -348 = (i : Int) := by omega
  have hi0 : (0 : Int) ≤ (i : Int) := Int.natCast_nonneg _
  have hi1 : (i : Int) < 696 := by omega
  obtain ⟨he0, he1⟩ := he
  obtain ⟨hl0, hl1⟩ := hlp
  subst hp
  clear hp1
  generalize (T i).1 = A at *
  generalize (T i).2 = B at *
  go_enter Tryz.func172, Tryz.ntmps172
  go_wp2_with fail
  go_end0
  exact ⟨rfl, HB.out, HF.out⟩

theorem usF_u (x hi lo s : Nat) : U64 (usF x hi lo s) := by
  unfold usF
  simp only
  split
  · exact bitsU _ _ _
  · exact bitsU _ _ _
theorem U64.nat {x : Int} (h : U64 x) : ∃ n : Nat, x = (n : Int) ∧ n < 18446744073709551616 := by
  obtain ⟨h0, h1⟩ := h
  exact ⟨x.toNat, by omega, by omega⟩

/-- What parseFloat64 gives at a sign of nought: the float's bits, and whether it is too large. -/
def pf64 (T : Nat → Nat × Nat) (d i : Nat) : Nat × Bool :=
  let p : Int := (i : Int) - 348
  let b := Lib.bitLen d
  let lp : Int := p * 108853 / 32768
  let e : Int := min 1074 (53 - (b : Int) - lp)
  let s : Nat := (-(e - (64 - (b : Int)) + lp + 3)).toNat
  if 64 ≤ s then (0, false)
  else
    let x : Nat := (IntKind.u64.wrap ((d : Int) * 2 ^ (64 - b))).toNat
    let u : Int := usF x (T i).1 (T i).2 s
    let c : Nat := if decide (36028797018963966 ≤ u) then 1 else 0
    packF (bits BinOp.or .u64 0 (rndF (bits BinOp.or .u64 (u / 2 ^ c) (bits BinOp.and .u64 u 1)))) (-(e - (c : Int)))

theorem len_bounds {d : Nat} (h0 : d ≠ 0) (h : d < 18446744073709551616) : 1 ≤ Lib.bitLen d ∧ Lib.bitLen d ≤ 64 := by
  have hb := Lib.bitLenAux_bounds 64 d (by omega) h0
  unfold Lib.bitLen
  refine ⟨hb.1, ?_⟩
  rcases Nat.lt_or_ge 64 (Lib.bitLenAux 64 d) with hl | hl
  · exfalso
    have h1 : 2 ^ 64 ≤ 2 ^ (Lib.bitLenAux 64 d - 1) := Nat.pow_le_pow_right (by decide) (by omega)
    have h2 := hb.2.1
    omega
  · exact hl

set_option maxRecDepth 100000 in
set_option maxHeartbeats 4000000 in
theorem pf64_any {w : World} {T : Nat → Nat × Nat} (hT : Pw w T) (hG : 11 < w.heap.size) (d i : Nat) (hd : d ≠ 0) (hd1 : d < 18446744073709551616) (hi0 : 3 ≤ i) (hi : i ≤ 658) :
    Calls Tryz.prog 152 #[.int .u64 (d : Int), .int .i64 ((i : Int) - 348), .int .u64 0] w fun r w' => r = .returned (.tuple #[.float .f64 (pf64 T d i).1, errV (pf64 T d i).2]) ∧ Fr (fun _ => False) w w' := by
  have HL := hid (Tryz.bits_Len64 (d : Int) w (by omega) (by omega))
  rw [Int.toNat_natCast] at HL
  have hbb := len_bounds hd hd1
  obtain ⟨R, hR⟩ : ∃ R, R = pf64 T d i := ⟨_, rfl⟩
  rw [← hR]
  unfold pf64 at hR
  generalize Lib.bitLen d = b at *
  have HLg := hid (fun W => log2_any W ((i : Int) - 348) (by omega) (by omega))
  have hlp : -1160 ≤ ((i : Int) - 348) * 108853 / 32768 ∧ ((i : Int) - 348) * 108853 / 32768 ≤ 1030 := by omega
  simp only at hR
  generalize ((i : Int) - 348) * 108853 / 32768 = lp at *
  obtain ⟨hb0, hb1⟩ := hbb
  obtain ⟨hl0, hl1⟩ := hlp
  have hs8 : 8 ≤ -(min 1074 (53 - (b : Int) - lp) - (64 - (b : Int)) + lp + 3) := by omega
  have hee : -1041 ≤ min 1074 (53 - (b : Int) - lp) ∧ min 1074 (53 - (b : Int) - lp) ≤ 1074 := by omega
  have hng : Hid (¬ 11 = w.heap.size) := by unfold Hid; omega
  have HNew := hid (Blk.new w 221 [.int .u64 0, .int .u64 0, .int .i64 0])
  have HFr := hid ((Fr.refl (fun _ => False) w).alloc (.cells #[.int .u64 0, .int .u64 0, .int .i64 0] 221))
  have HPw := hid (hT.env ((Env.refl w).fr HFr.out (fun _ h => h.elim)))
  clear hT hG
  obtain ⟨S, hS⟩ : ∃ S : Nat, -(min 1074 (53 - (b : Int) - lp) - (64 - (b : Int)) + lp + 3) = (S : Int) := ⟨_, (Int.toNat_of_nonneg (by omega)).symm⟩
  have HS := hid hS
  have hSn : (-(min 1074 (53 - (b : Int) - lp) - (64 - (b : Int)) + lp + 3)).toNat = S := by rw [hS]; simp
  rw [hSn] at hR
  clear hSn hS
  generalize hn : w.heap.size = n at *
  have HPs := hid (prescale_any HPw.out n i _ _ _ HNew.out (min 1074 (53 - (b : Int) - lp) - (64 - (b : Int))) ((i : Int) - 348) lp rfl (by omega) (by omega) (by omega))
  rw [HS.out] at HPs
  by_cases h64 : 64 ≤ S
  · rw [if_pos h64] at hR
    subst hR
    have h64' : decide ((S : Int) ≥ 64) = true := decide_eq_true (by omega)
    have h64'' : (64 : Int) ≤ (S : Int) := by omega
    have hz : (bits BinOp.or .u64 0 0).toNat = 0 := by decide +kernel
    go_enter Tryz.func152, Tryz.ntmps152
    go_wp2_with fail
    refine HL.out.mono ?_
    rintro e w2 ⟨rfl, hw⟩
    rw [hw]
    clear hw HL
    go_wp2_with fail
    refine (HLg.out _).mono ?_
    rintro e w2 ⟨rfl, rfl⟩
    clear HLg
    go_wp2_with fail
    refine HPs.out.mono ?_
    rintro e w3 ⟨rfl, b3, f3⟩
    have c2 := b3.cell 2
    simp only [List.getElem?_cons_zero, List.getElem?_cons_succ] at c2
    have hfb := fun m => frombits_any w3 m
    have HF3 := hid (HFr.out.trans f3 (fun i hi => .inr (by omega)))
    clear b3 f3 HPs HFr HNew HPw
    go_wp2_with fail
    go_ret2
    refine ⟨?_, HF3.out⟩
    first | rfl | (simp only [hz]; rfl)
  · rw [if_neg h64] at hR
    have h64' : decide ((S : Int) ≥ 64) = false := decide_eq_false (by omega)
    have h64'' : ¬ (64 : Int) ≤ (S : Int) := by omega
    obtain ⟨X, hX, hX1⟩ := (U64.wrap ((d : Int) * 2 ^ (64 - b))).nat
    have hXn : (IntKind.u64.wrap ((d : Int) * 2 ^ (64 - b))).toNat = X := by rw [hX]; simp
    rw [hXn] at hR
    have HX := hid hX
    clear hX hXn
    have HBd := hid (HPw.out i (by omega)).2.2
    have hsub : (64 : Int) - (b : Int) = ((64 - b : Nat) : Int) := by omega
    have hshl := fun W => shl_run W (d : Int) (64 - b) (by omega) .i64
    rw [HX.out, ← hsub] at hshl
    clear hsub
    have HUu := hid (usF_u X (T i).1 (T i).2 S)
    have HR := hid hR
    clear hR
    go_enter Tryz.func152, Tryz.ntmps152
    go_wp2_with fail
    refine HL.out.mono ?_
    rintro e w2 ⟨rfl, hw⟩
    rw [hw]
    clear hw HL
    go_wp2_with fail
    refine (HLg.out _).mono ?_
    rintro e w2 ⟨rfl, rfl⟩
    clear HLg
    go_wp2_with fail
    refine HPs.out.mono ?_
    rintro e w3 ⟨rfl, b3, f3⟩
    have c2 := b3.cell 2
    simp only [List.getElem?_cons_zero, List.getElem?_cons_succ] at c2
    have HF3 := hid (HFr.out.trans f3 (fun i hi => .inr (by omega)))
    have HUs := hid (uscale_any w3 n X (T i).1 (T i).2 S b3 hX1 HBd.out.1 HBd.out.2 (by omega))
    clear b3 f3 HPs HFr HNew HPw
    go_wp2_with fail
    rw [HX.out]
    refine HUs.out.mono ?_
    rintro e w4 ⟨rfl, m4, rfl⟩
    clear HUs
    have HF4 := hid (HF3.out.drewN m4)
    generalize w3.drewN m4 = w4 at *
    clear HF3
    generalize usF X (T i).1 (T i).2 S = u at *
    have hu0 := HUu.out.1
    have hu1 := HUu.out.2
    by_cases hu : 36028797018963966 ≤ u
    · have hge' : decide (u ≥ 36028797018963966) = true := decide_eq_true (by omega)
      have hge2 : (36028797018963966 : Int) ≤ u := by omega
      have hcc : decide (36028797018963966 ≤ u) = true := decide_eq_true (by omega)
      have HR2 : Hid (R = packF (bits BinOp.or .u64 0 (rndF (bits BinOp.or .u64 (u / 2) (bits BinOp.and .u64 u 1)))) (-(min 1074 (53 - (b : Int) - lp) - 1))) := by
        have h := HR.out
        rw [hcc] at h
        simpa [Hid] using h
      clear HR
      go_wp2_with fail
      refine (unmin_any w4).mono ?_
      rintro e w5 ⟨rfl, rfl⟩
      go_wp2_with fail
      refine (bool2i_any _ _).mono ?_
      rintro e w5 ⟨rfl, rfl⟩
      try simp only [if_true]
      go_wp2_with fail
      refine (round_any w4 _ (bitsU _ _ _)).mono ?_
      rintro e w5 ⟨rfl, rfl⟩
      go_wp2_with fail
      refine (pack_any w4 _ _ (bitsU _ _ _) (by omega) (by omega)).mono ?_
      rintro e w5 ⟨rfl, rfl⟩
      rw [← HR2.out]
      obtain ⟨R1, R2⟩ := R
      cases R2
      all_goals
        simp only [errV, if_true, Bool.false_eq_true, if_false]
        go_wp2_with fail
        go_ret2
        exact ⟨rfl, HF4.out⟩
    · have hge' : decide (u ≥ 36028797018963966) = false := decide_eq_false (by omega)
      have hge2 : ¬ (36028797018963966 : Int) ≤ u := by omega
      have hcc : decide (36028797018963966 ≤ u) = false := decide_eq_false (by omega)
      have HR2 : Hid (R = packF (bits BinOp.or .u64 0 (rndF (bits BinOp.or .u64 (u) (bits BinOp.and .u64 u 1)))) (-(min 1074 (53 - (b : Int) - lp)))) := by
        have h := HR.out
        rw [hcc] at h
        simpa [Hid] using h
      clear HR
      go_wp2_with fail
      refine (unmin_any w4).mono ?_
      rintro e w5 ⟨rfl, rfl⟩
      go_wp2_with fail
      refine (bool2i_any _ _).mono ?_
      rintro e w5 ⟨rfl, rfl⟩
      try simp only [Bool.false_eq_true, if_false]
      go_wp2_with fail
      refine (round_any w4 _ (bitsU _ _ _)).mono ?_
      rintro e w5 ⟨rfl, rfl⟩
      go_wp2_with fail
      refine (pack_any w4 _ _ (bitsU _ _ _) (by omega) (by omega)).mono ?_
      rintro e w5 ⟨rfl, rfl⟩
      rw [← HR2.out]
      obtain ⟨R1, R2⟩ := R
      cases R2
      all_goals
        simp only [errV, if_true, Bool.false_eq_true, if_false]
        go_wp2_with fail
        go_ret2
        exact ⟨rfl, HF4.out⟩

end Go.Proofs.YtionmohglmbklaaGreatDoor.Tr
