/- The small functions under FormatFloat. -/
import Derived.Test.YtlepjghfcpgbcaaGreatDoorEnv
import Derived.Test.YtlepjghfcpgbcaaGreatDoorShf
import Derived.Laws.Closers25b
import Derived.Lib.ItoaNum
import Derived.Lib.MinMax
namespace Go.Proofs.YtlepjghfcpgbcaaGreatDoor.Tr
open Go.RowKit

/-- A word of 64 bits. -/
def U64 (x : Int) : Prop := 0 ≤ x ∧ x < 18446744073709551616
theorem U64.wrap (x : Int) : U64 (IntKind.u64.wrap x) := by
  unfold U64 IntKind.wrap
  simp [IntKind.signed, IntKind.bits]
  omega
set_option maxRecDepth 100000 in
theorem bool2u_any (w : World) (b : Bool) : Calls Tryz.prog 160 #[.bool b] w fun e w' => e = .returned (.int .u64 (if b then 1 else 0)) ∧ w = w' := by
  cases b
  all_goals
    go_enter Tryz.func160, Tryz.ntmps160
    go_wp2
    go_ret
    exact ⟨rfl, rfl⟩
set_option maxRecDepth 100000 in
theorem log2_any (w : World) (p : Int) (h0 : -400 ≤ p) (h1 : p ≤ 400) : Calls Tryz.prog 171 #[.int .i64 p] w fun e w' => e = .returned (.int .i64 (p * 108853 / 32768)) ∧ w = w' := by
  go_enter Tryz.func171, Tryz.ntmps171
  go_wp2
  go_ret
  exact ⟨rfl, rfl⟩
theorem and63 (s : Nat) (h : s < 64) : bits BinOp.and .i64 (s : Int) 63 = (s : Int) := by
  have : ∀ k : Fin 64, bits BinOp.and .i64 ((k.val : Nat) : Int) 63 = ((k.val : Nat) : Int) := by decide +kernel
  exact this ⟨s, h⟩
theorem shr_run (w : World) (x : Int) (s : Nat) (h : s < 64) (yk : IntKind) : (Op.shift BinOp.shr .u64 x yk (s : Int)).run Tryz.prog w = .ok (.int .u64 (x / 2 ^ s)) w := by
  unfold Op.shift
  rw [if_neg (by omega)]
  have e : min (s : Int).toNat (IntKind.u64).bits = s := by simp [IntKind.bits]; omega
  simp only [e]
  rw [Int.fdiv_eq_ediv_of_nonneg x (Int.le_of_lt (Int.pow_pos (by decide)))]
  rfl
theorem shl_run (w : World) (x : Int) (s : Nat) (h : s ≤ 64) (yk : IntKind) : (Op.shift BinOp.shl .u64 x yk (s : Int)).run Tryz.prog w = .ok (.int .u64 (IntKind.u64.wrap (x * 2 ^ s))) w := by
  unfold Op.shift
  rw [if_neg (by omega)]
  have e : min (s : Int).toNat (IntKind.u64).bits = s := by simp [IntKind.bits]; omega
  simp only [e]
  rfl

/-- What uscale gives. -/
def usF (x hi lo s : Nat) : Int :=
  let H : Nat := x * hi / 18446744073709551616
  let M : Nat := x * hi % 18446744073709551616
  let M2 : Nat := x * lo / 18446744073709551616
  if (IntKind.u64.wrap ((H : Int) / 2 ^ s * 2 ^ s) != (H : Int)) = true then bits BinOp.or .u64 ((H : Int) / 2 ^ s) 1
  else bits BinOp.or .u64 (IntKind.u64.wrap ((H : Int) - (if decide (M < M2) then 1 else 0)) / 2 ^ s) (if decide (1 < IntKind.u64.wrap ((M : Int) - (M2 : Int))) then 1 else 0)

set_option maxRecDepth 100000 in
set_option maxHeartbeats 2000000 in
theorem uscale_any (w : World) (pb x hi lo s : Nat) (hb : Blk w pb 189 [.int .u64 (hi : Int), .int .u64 (lo : Int), .int .i64 (s : Int)]) (hx : x < 18446744073709551616) (hh : hi < 18446744073709551616) (hl : lo < 18446744073709551616) (hs : s < 64) : Calls Tryz.prog 172 #[.int .u64 (x : Int), pv pb] w fun r w' => r = .returned (.int .u64 (usF x hi lo s)) ∧ ∃ m, w' = w.drewN m := by
  have c0 := hb.cell 0
  have c1 := hb.cell 1
  have c2 := hb.cell 2
  simp only [List.getElem?_cons_zero, List.getElem?_cons_succ] at c0 c1 c2
  have HM := hid (Tryz.bits_Mul64 x hi hx hh w)
  have HM2 := hid (Tryz.bits_Mul64 x lo hx hl w)
  have hand := and63 s hs
  have hshr := fun y => shr_run w y s hs .i64
  have hshr2 := fun n y => shr_run (w.drewN n) y s hs .i64
  have hshl := fun y => shl_run w y s (Nat.le_of_lt hs) .i64
  have hH : x * hi / 18446744073709551616 < 18446744073709551616 := by
    apply Nat.div_lt_of_lt_mul
    exact Nat.mul_lt_mul'' hx hh
  have hMid : x * hi % 18446744073709551616 < 18446744073709551616 := Nat.mod_lt _ (by decide)
  have hH2 : x * lo / 18446744073709551616 < 18446744073709551616 := by
    apply Nat.div_lt_of_lt_mul
    exact Nat.mul_lt_mul'' hx hl
  unfold usF
  generalize x * hi / 18446744073709551616 = H at *
  generalize x * hi % 18446744073709551616 = M at *
  generalize x * lo / 18446744073709551616 = M2 at *
  generalize x * lo % 18446744073709551616 = Z at *
  clear hb
  simp only
  cases q1 : (IntKind.u64.wrap ((H : Int) / 2 ^ s * 2 ^ s) != (H : Int)) with
  | true =>
    rw [if_pos rfl]
    go_enter Tryz.func172, Tryz.ntmps172
    go_wp2_with fail
    refine HM.out.mono ?_
    rintro e w2 ⟨rfl, hw⟩
    rw [hw]
    clear hw HM HM2
    go_wp2_with fail
    go_ret
    exact ⟨rfl, 0, rfl⟩
  | false =>
    rw [if_neg (by decide)]
    have HB1 := hid (bool2u_any w (decide (M < M2)))
    have HB2 : Hid (∀ n, Calls Tryz.prog 160 #[.bool (decide (1 < IntKind.u64.wrap ((M : Int) - (M2 : Int))))] (w.drewN n) fun e w' => e = .returned (.int .u64 (if decide (1 < IntKind.u64.wrap ((M : Int) - (M2 : Int))) then 1 else 0)) ∧ w' = w.drewN n) := fun n => (bool2u_any (w.drewN n) _).mono (fun e w' h => ⟨h.1, h.2.symm⟩)
    generalize hd1 : decide (M < M2) = d1 at *
    generalize hd2 : decide (1 < IntKind.u64.wrap ((M : Int) - (M2 : Int))) = d2 at *
    generalize (if d1 = true then (1 : Int) else 0) = q at *
    generalize (if d2 = true then (1 : Int) else 0) = q2 at *
    go_enter Tryz.func172, Tryz.ntmps172
    go_wp2_with fail
    refine HM.out.mono ?_
    rintro e w2 ⟨rfl, hw⟩
    rw [hw]
    clear hw HM
    go_wp2_with fail
    refine HM2.out.mono ?_
    rintro e w2 ⟨rfl, hw⟩
    rw [hw]
    clear hw HM2
    go_wp2_with fail
    refine HB1.out.mono ?_
    rintro e w2 ⟨rfl, rfl⟩
    clear HB1
    go_wp2_with fail
    go_quiet (first | (go_at_call 160; exact Calls.quiet_of_same (HB2.out _)))
    go_wp2
    go_ret
    exact ⟨rfl, _, rfl⟩

/-- The powers of ten lie where the library keeps them. -/
def Pw (w : World) (T : Nat → Nat × Nat) : Prop := ∀ i, i < 696 → w.cell? ⟨13, i * 2, none⟩ = some (.int .u64 ((T i).1 : Int)) ∧ w.cell? ⟨13, i * 2 + 1, none⟩ = some (.int .u64 ((T i).2 : Int)) ∧ (T i).1 < 18446744073709551616 ∧ (T i).2 < 18446744073709551616
theorem Pw.env {w0 W : World} {T : Nat → Nat × Nat} (h : Pw w0 T) (e : Env w0 W) : Pw W T := fun i hi => ⟨e.cell (h i hi).1, e.cell (h i hi).2.1, (h i hi).2.2⟩

theorem bitsU (op : BinOp) (a b : Int) : U64 (bits op .u64 a b) := by
  have h := bits_within op .u64 a b
  simp only [IntKind.min, IntKind.max, IntKind.signed, IntKind.bits] at h
  unfold U64
  simp at h
  omega

set_option maxRecDepth 100000 in
set_option maxHeartbeats 2000000 in
theorem prescale_any {w : World} {T : Nat → Nat × Nat} (hT : Pw w T) (pb i : Nat) (x0 x1 x2 : Value) (hb : Blk w pb 189 [x0, x1, x2]) (e p lp : Int) (hp : p = (i : Int) - 348) (hi : i < 696) (he : -3000 ≤ e ∧ e ≤ 3000) (hlp : -3000 ≤ lp ∧ lp ≤ 3000) :
    Calls Tryz.prog 170 #[pv pb, .int .i64 e, .int .i64 p, .int .i64 lp] w fun r w' => r = .returned (.tuple #[]) ∧ Blk w' pb 189 [.int .u64 ((T i).1 : Int), .int .u64 ((T i).2 : Int), .int .i64 (-(e + lp + 3))] ∧ Fr (· = pb) w w' := by
  obtain ⟨t0, t1, l0, l1⟩ := hT i hi
  have c0 := hb.cell 0
  have c1 := hb.cell 1
  have c2 := hb.cell 2
  have z0 := hb.frozen 0
  have z1 := hb.frozen 1
  have z2 := hb.frozen 2
  simp only [List.getElem?_cons_zero, List.getElem?_cons_succ] at c0 c1 c2
  have b1 := hb.setCell 0 (.int .u64 ((T i).1 : Int))
  have b2 := b1.setCell 1 (.int .u64 ((T i).2 : Int))
  have b3 := b2.setCell 2 (.int .i64 (-(e + lp + 3)))
  have HB := hid b3
  have HF := hid ((((Fr.refl (· = pb) w).setCell (p := ⟨pb, 0, none⟩) (.inl rfl) (.int .u64 ((T i).1 : Int))).setCell (p := ⟨pb, 1, none⟩) (.inl rfl) (.int .u64 ((T i).2 : Int))).setCell (p := ⟨pb, 2, none⟩) (.inl rfl) (.int .i64 (-(e + lp + 3))))
  clear b1 b2 b3 hT
  have hp1 : p - -348 = (i : Int) := by omega
  have hi0 : (0 : Int) ≤ (i : Int) := Int.natCast_nonneg _
  have hi1 : (i : Int) < 696 := by omega
  obtain ⟨he0, he1⟩ := he
  obtain ⟨hl0, hl1⟩ := hlp
  subst hp
  clear hp1
  generalize (T i).1 = A at *
  generalize (T i).2 = B at *
  go_enter Tryz.func170, Tryz.ntmps170
  go_wp2_with fail
  go_end0
  exact ⟨rfl, HB.out, HF.out⟩

theorem usF_u (x hi lo s : Nat) : U64 (usF x hi lo s) := by
  unfold usF
  simp only
  split
  · exact bitsU _ _ _
  · exact bitsU _ _ _
theorem U64.nat {x : Int} (h : U64 x) : ∃ n : Nat, x = (n : Int) ∧ n < 18446744073709551616 := by
  obtain ⟨h0, h1⟩ := h
  exact ⟨x.toNat, by omega, by omega⟩

end Go.Proofs.YtlepjghfcpgbcaaGreatDoor.Tr
