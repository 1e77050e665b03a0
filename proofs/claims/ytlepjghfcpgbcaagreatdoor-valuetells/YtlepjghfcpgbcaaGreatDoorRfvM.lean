import Derived.Test.YtlepjghfcpgbcaaGreatDoorFteM
import Derived.Test.YtlepjghfcpgbcaaGreatDoorFOr
import Derived.Laws.BitsAllLaws
import Derived.Deep.DeepCutAuto
/- Floats by their bits, in plain words: which are NaN, infinite, finite; no digit is an 'e'. -/
namespace Go.Proofs.YtlepjghfcpgbcaaGreatDoor.Tr
open Go.RowKit
open Ieee

abbrev oF (x y : Nat) : Option Ordering := FloatKind.f64.format.order x y
def MAXF : Nat := 9218868437227405311
def NMAX : Nat := 18442240474082181119
def rg (x : Nat) : Nat := x % 9223372036854775808
theorem read_eq (x : Nat) : double.read x = if rg x < 4503599627370496 then .number (x / 9223372036854775808 % 2 == 1) (rg x) (-1074)
    else if rg x < 9218868437227405312 then .number (x / 9223372036854775808 % 2 == 1) (4503599627370496 + rg x % 4503599627370496) (-1074 + ((rg x / 4503599627370496 - 1 : Nat) : Int))
    else if rg x = 9218868437227405312 then .infinity (x / 9223372036854775808 % 2 == 1) else .nan (x / 9223372036854775808 % 2 == 1) (rg x - 9218868437227405312) := rfl
theorem fin_read {x : Nat} (h : rg x < 9218868437227405312) : ∃ n m e, double.read x = .number n m e ∧ m < 9007199254740992 ∧ -1074 ≤ e ∧ e ≤ 971 := by
  rw [read_eq]
  by_cases h1 : rg x < 4503599627370496
  · rw [if_pos h1]; exact ⟨_, _, _, rfl, by omega, by omega, by omega⟩
  · rw [if_neg h1, if_pos h]; exact ⟨_, _, _, rfl, by omega, by omega, by omega⟩
theorem ord_self {x : Nat} (h : rg x < 9218868437227405312) : oF x x = some .eq := by
  obtain ⟨n, m, e, hr, _⟩ := fin_read h
  show (double.read x).order (double.read x) = _
  rw [hr]
  simp [Datum.order]
theorem ord_nan {x : Nat} (h : 9218868437227405312 < rg x) (y : Nat) : oF x y = none := by
  show (double.read x).order (double.read y) = _
  rw [read_eq, if_neg (by omega), if_neg (by omega), if_neg (by omega)]
  rfl
theorem read_max : double.read MAXF = .number false 9007199254740991 971 := by decide +kernel
theorem read_nmax : double.read NMAX = .number true 9007199254740991 971 := by decide +kernel
theorem mag_le {m : Nat} {e : Int} (h : m < 9007199254740992) (h1 : -1074 ≤ e) (h2 : e ≤ 971) : m <<< (e - (-1074)).toNat ≤ 9007199254740991 <<< ((971 : Int) - (-1074)).toNat := by
  rw [Nat.shiftLeft_eq, Nat.shiftLeft_eq]
  exact Nat.mul_le_mul (by omega) (Nat.pow_le_pow_right (by decide) (by omega))
theorem ord_max {x : Nat} (h : rg x < 9218868437227405312) : (oF x MAXF == some .gt) = false := by
  obtain ⟨n, m, e, hr, hm, he, he2⟩ := fin_read h
  have hh : oF x MAXF = some (compare (signed n m (e - (-1074)).toNat) (signed false 9007199254740991 ((971 : Int) - (-1074)).toNat)) := by
    show (double.read x).order (double.read MAXF) = _
    rw [hr, read_max, order_base _ _ _ _ _ _ (-1074) he (by decide)]
  rw [hh, beq_eq_false_iff_ne]
  intro hc
  have hc2 := (cmp_gt _ _).1 (Option.some.inj hc)
  have hl := mag_le hm he he2
  unfold signed at hc2
  generalize m <<< (e - (-1074)).toNat = A at *
  generalize 9007199254740991 <<< ((971 : Int) - (-1074)).toNat = B at *
  revert hc2
  cases n <;> simp <;> omega
theorem ord_nmax {x : Nat} (h : rg x < 9218868437227405312) : (oF x NMAX == some .lt) = false := by
  obtain ⟨n, m, e, hr, hm, he, he2⟩ := fin_read h
  have hh : oF x NMAX = some (compare (signed n m (e - (-1074)).toNat) (signed true 9007199254740991 ((971 : Int) - (-1074)).toNat)) := by
    show (double.read x).order (double.read NMAX) = _
    rw [hr, read_nmax, order_base _ _ _ _ _ _ (-1074) he (by decide)]
  rw [hh, beq_eq_false_iff_ne]
  intro hc
  have hc2 := (cmp_lt _ _).1 (Option.some.inj hc)
  have hl := mag_le hm he he2
  unfold signed at hc2
  generalize m <<< (e - (-1074)).toNat = A at *
  generalize 9007199254740991 <<< ((971 : Int) - (-1074)).toNat = B at *
  revert hc2
  cases n <;> simp <;> omega
theorem ord_some {x y : Nat} (h : rg x < 9218868437227405312) (hy : rg y < 9218868437227405312) : ∃ o, oF x y = some o := by
  obtain ⟨n, m, e, hr, _⟩ := fin_read h
  obtain ⟨n2, m2, e2, hr2, _⟩ := fin_read hy
  show ∃ o, (double.read x).order (double.read y) = some o
  rw [hr, hr2]
  exact ⟨_, rfl⟩
theorem neg_rg (x : Nat) : rg (x ^^^ 9223372036854775808) = rg x := by
  unfold rg
  rw [show (9223372036854775808 : Nat) = 2 ^ 63 from rfl, Nat.xor_mod_two_pow, Nat.mod_self, Nat.xor_zero]
def absN (x : Nat) : Nat := rg x
theorem abs_rg (x : Nat) : rg (absN x) = rg x := by unfold absN rg; omega
theorem bits_abs (x : Nat) (h : x < 18446744073709551616) : bits BinOp.andNot .u64 (x : Int) 9223372036854775808 = (absN x : Int) := by
  have h1 := u64_andNot_nat x 9223372036854775808 h (by decide)
  rw [show (18446744073709551615 - 9223372036854775808 : Nat) = 2 ^ 63 - 1 from rfl, Nat.and_two_pow_sub_one_eq_mod] at h1
  exact h1
/-- Of a finite float: is it written without an exponent? -/
def plO (a b c : Option Ordering) : Bool := (a == some .eq) || ((b == some .gt || b == some .eq) && c == some .lt)
def C6 : Nat := 4517329193108106637
def C21 : Nat := 4921056587992461136
def plB (x : Nat) : Bool := plO (oF (absN x) 0) (oF (absN x) C6) (oF (absN x) C21)

theorem fld_rg {x : Nat} (hr : rg x < 9218868437227405312) : fFld x ≠ 2047 := by unfold fFld; unfold rg at hr; omega
/-- A nought is written without an exponent. -/
theorem ma_pl {x : Nat} (h : x < 18446744073709551616) (hp : plB x = false) : fMa x ≠ 0 := by
  intro h0
  have hz : x = 0 ∨ x = 9223372036854775808 := by
    unfold fMa fFld at h0
    split at h0 <;> omega
  rcases hz with rfl | rfl
  · revert hp; decide +kernel
  · revert hp; decide +kernel

/-! ### Texts -/
theorem ftL_e (T : Nat → Nat × Nat) (x : Nat) : ∀ b ∈ ftL T x, b ≠ 101 := by
  intro b hb
  unfold ftL at hb
  rcases List.mem_append.1 hb with h | h
  · unfold dgD at h
    split at h
    · cases h
    · rw [Lib.decDigits_eq, List.mem_map] at h
      obtain ⟨t, _, rfl⟩ := h
      intro e
      have e2 := congrArg UInt8.toNat e
      unfold Lib.dg at e2
      simp at e2
      omega
  · have := List.mem_of_mem_drop h
    have e := List.eq_of_mem_replicate this
    rw [e]
    decide
/-- The digits ahead of the exponent, and what stands behind the 'e'. -/
def fxA (T : Nat → Nat × Nat) (x : Nat) : List UInt8 := efSign (fNeg x) ++ [eH (ftL T x) (ftN T x)] ++ eM (ftL T x) (ftN T x)
def fxC (T : Nat → Nat × Nat) (x : Nat) : List UInt8 := [exS (exX (ftP T x) (ftN T x))] ++ exD (exX (ftP T x) (ftN T x)).natAbs
theorem ftX_eq (T : Nat → Nat × Nat) (x : Nat) : ftX T x = fxA T x ++ 101 :: fxC T x := by
  unfold ftX eF fxA fxC
  simp [List.append_assoc]
theorem fxA_e (T : Nat → Nat × Nat) (x : Nat) : ∀ b ∈ fxA T x, b ≠ 101 := by
  intro b hb
  have hL := ftL_e T x
  unfold fxA at hb
  rcases List.mem_append.1 hb with h | h
  · rcases List.mem_append.1 h with h | h
    · unfold efSign at h
      split at h
      · rw [List.mem_singleton.1 h]; decide
      · cases h
    · rw [List.mem_singleton.1 h]
      unfold eH
      split
      · decide
      · rw [List.getD_eq_getElem?_getD, List.getElem?_eq_getElem (by rw [ftL_len]; decide)]
        exact hL _ (List.getElem_mem _)
  · unfold eM at h
    split at h
    · rcases List.mem_append.1 h with h | h
      · rw [List.mem_singleton.1 h]; decide
      · exact hL _ (List.mem_of_mem_drop (List.mem_of_mem_take h))
    · cases h
def wPt (l : List UInt8) : List UInt8 := if 46 ∈ l then l else l ++ [46, 48]
/-- A float's text. -/
def flT (T : Nat → Nat × Nat) (x : Nat) : List UInt8 :=
  if 9218868437227405312 < rg x then [110, 97, 110] else if rg x = 9218868437227405312 then (if x = 9218868437227405312 then [105, 110, 102] else [45, 105, 110, 102])
  else if plB x then wPt (ftF T x) else wPt (fxA T x) ++ 101 :: fxC T x
theorem efSign_len (n : Bool) : (efSign n).length ≤ 1 := by cases n <;> decide
theorem exD_len (y : Nat) : (exD y).length ≤ 3 := by
  unfold exD
  split
  · simp
  · split <;> simp
theorem wPt_len (l : List UInt8) : (wPt l).length ≤ l.length + 2 := by
  unfold wPt
  split
  · omega
  · simp
theorem eM_len (L : List UInt8) (n : Nat) : (eM L n).length ≤ n + 1 := by
  unfold eM
  split
  · simp; omega
  · simp
theorem ffI_len (L : List UInt8) (d : Int) (n : Nat) (h1 : d ≤ 400) : (ffI L d n).length ≤ 401 := by
  unfold ffI
  split
  · simp; omega
  · simp
theorem ffF_len (L : List UInt8) (d : Int) (n : Nat) (h0 : -400 ≤ d) (h2 : n ≤ 20) : (ffF L d n).length ≤ 430 := by
  unfold ffF
  split
  · simp; omega
  · simp
theorem flT_len (T : Nat → Nat × Nat) (x : Nat) : (flT T x).length ≤ 1000 := by
  unfold flT
  split
  · decide
  split
  · split <;> decide
  rename_i h1 h2
  have hr : rg x < 9218868437227405312 := by omega
  have hn := ftN_le T x
  split
  · have hw := wPt_len (ftF T x)
    have : (ftF T x).length ≤ 900 := by
      unfold ftF
      split
      · have := efSign_len (fNeg x)
        simp; omega
      · rename_i h3
        have hP := f_ok x h3 (fld_rg hr)
        have hq := ftP_ok T x hP.2.2.1 hP.2.2.2.1
        have a := efSign_len (fNeg x)
        have b := ffI_len (ftL T x) (ftP T x) (ftN T x) hq.2
        have c := ffF_len (ftL T x) (ftP T x) (ftN T x) hq.1 hn
        unfold fF
        simp only [List.length_append]
        omega
    omega
  · have a := efSign_len (fNeg x)
    have b := eM_len (ftL T x) (ftN T x)
    have c := exD_len (exX (ftP T x) (ftN T x)).natAbs
    have hw := wPt_len (fxA T x)
    have hA : (fxA T x).length ≤ 30 := by
      unfold fxA
      simp only [List.length_append, List.length_cons, List.length_nil]
      omega
    have hC : (fxC T x).length ≤ 10 := by
      unfold fxC
      simp only [List.length_append, List.length_cons, List.length_nil]
      omega
    simp only [List.length_append, List.length_cons]
    omega
end Go.Proofs.YtlepjghfcpgbcaaGreatDoor.Tr
/- FormatFloat, and the contract of the program's Float at any float. -/
namespace Go.Proofs.YtlepjghfcpgbcaaGreatDoor.Tr
open Go.RowKit

/-- The tables that a float's text asks. -/
structure TwU (w : World) (T : Nat → Nat × Nat) : Prop where
  pw : Pw w T
  tab : TabU w
theorem TwU.env {w0 W : World} {T : Nat → Nat × Nat} (h : TwU w0 T) (e : Env w0 W) : TwU W T := ⟨h.pw.env e, h.tab.env e⟩
theorem make24U (w : World) : (Instr.makeSlice 66 (.int .i64 0) (.int .i64 24)).run Tryz.prog w = .ok (.slice (some ⟨w.heap.size, 0, none⟩) 0 24) (w.alloc (.cells (List.replicate 24 (Value.int .u8 0)).toArray 5)) := by
  obtain ⟨i, hi, hz, hs, hb⟩ := info_parts info5
  have h := run_make (P := Tryz.prog) w 66 5 i (.int .u8 0) Tryz.underlying66 hi hz .i64 .i64 0 24 (by omega) (by decide) (by rw [hb]; decide) (by decide)
  rw [h, hs]
  have e : madeCells (Value.int .u8 0).cells 24 = (List.replicate 24 (Value.int .u8 0)).toArray := by
    apply Array.toList_inj.1
    exact toList_madeCells_one (.int .u8 0) 24
  rw [show (24 : Int).toNat * 1 = 24 from rfl, e]
  rfl
theorem own24U (w : World) : (w.alloc (.cells (List.replicate 24 (Value.int .u8 0)).toArray 5)).ownsRow w.heap.size 5 1 (.slice (some ⟨w.heap.size, 0, none⟩) 0 24) 0 (bs []) :=
  ⟨rfl, .inr ⟨w.heap.size, 24, _, rfl, Nat.le_refl _, heap_alloc_new w _, by decide, by unfold maxLen; decide, by rfl, by rfl⟩⟩
set_option maxRecDepth 100000 in
set_option maxHeartbeats 4000000 in
theorem ifmt_any (w : World) (x : Nat) (c : Nat) (R : List UInt8) (h : ∀ (W : World) (B : Nat) (v : Value), Env w W → W.ownsRow B 5 1 v 0 (bs []) → B ≤ W.heap.size →
    Calls Tryz.prog 120 #[v, .float .f64 x, .int .u8 (c : Int), .int .i64 (-1)] W fun e w' => ∃ v', e = .returned v' ∧ w'.ownsRow B 5 1 v' R.length (bs R) ∧ Fr (fun k => B ≤ k) W w') :
    Calls Tryz.prog 103 #[.float .f64 x, .int .u8 (c : Int), .int .i64 (-1), .int .i64 64] w fun e w' => e = .returned (.string ⟨R.toArray⟩) ∧ Fr (fun _ => False) w w' := by
  have hm : max (3 : Int) 24 = 24 := by decide
  have hmk := make24U w
  have HC := hid (h _ w.heap.size _ (Env.alloc w (.cells (List.replicate 24 (Value.int .u8 0)).toArray 5)) (own24U w) (by rw [World.size_alloc]; omega))
  have HF : Hid (Fr (fun _ => False) w (w.alloc (.cells (List.replicate 24 (Value.int .u8 0)).toArray 5))) := (Fr.refl _ w).alloc _
  clear h
  generalize (List.replicate 24 (Value.int .u8 0)).toArray = Z at *
  go_enter Tryz.func103, Tryz.ntmps103
  go_wp2_with fail
  refine HC.out.mono ?_
  rintro e w2 ⟨v2, rfl, o2, f2⟩
  obtain ⟨a2, c2, hv2⟩ := own_len o2
  subst hv2
  have hcv := conv_bytes (b := R) (src_own o2) c2
  have HF2 : Hid (Fr (fun _ => False) w w2) := HF.out.trans f2 (fun i hi => .inr hi)
  clear o2 f2 HC HF
  go_wp2_with fail
  go_ret
  exact ⟨rfl, HF2.out⟩
set_option maxRecDepth 100000 in
set_option maxHeartbeats 4000000 in
theorem pfmt_any (w : World) (x : Nat) (c : Nat) (R : List UInt8) (h : Calls Tryz.prog 103 #[.float .f64 x, .int .u8 (c : Int), .int .i64 (-1), .int .i64 64] w fun e w' => e = .returned (.string ⟨R.toArray⟩) ∧ Fr (fun _ => False) w w') :
    Calls Tryz.prog 75 #[.float .f64 x, .int .u8 (c : Int), .int .i64 (-1), .int .i64 64] w fun e w' => e = .returned (.string ⟨R.toArray⟩) ∧ Fr (fun _ => False) w w' := by
  have HC := hid h
  clear h
  go_enter Tryz.func75, Tryz.ntmps75
  go_wp2_with fail
  refine HC.out.mono ?_
  rintro e w2 ⟨rfl, f2⟩
  have HF2 := hid f2
  clear f2 HC
  go_wp2_with fail
  go_ret
  exact ⟨rfl, HF2.out⟩
theorem fmtU_f {w : World} {T : Nat → Nat × Nat} (hT : TwU w T) (x : Nat) (hx : x < 18446744073709551616) (hr : rg x < 9218868437227405312) :
    Calls Tryz.prog 75 #[.float .f64 x, .int .u8 102, .int .i64 (-1), .int .i64 64] w fun e w' => e = .returned (.string ⟨(ftF T x).toArray⟩) ∧ Fr (fun _ => False) w w' :=
  pfmt_any w x 102 (ftF T x) (ifmt_any w x 102 (ftF T x) fun W B v e ho hB => ftoa_f W (hT.pw.env e) (hT.tab.env e) x hx (fld_rg hr) B v ho hB)
theorem fmtU_e {w : World} {T : Nat → Nat × Nat} (hT : TwU w T) (x : Nat) (hx : x < 18446744073709551616) (hr : rg x < 9218868437227405312) (hp : plB x = false) :
    Calls Tryz.prog 75 #[.float .f64 x, .int .u8 101, .int .i64 (-1), .int .i64 64] w fun e w' => e = .returned (.string ⟨(ftX T x).toArray⟩) ∧ Fr (fun _ => False) w w' :=
  pfmt_any w x 101 (ftX T x) (ifmt_any w x 101 (ftX T x) fun W B v e ho hB => ftoa_e W (hT.pw.env e) (hT.tab.env e) x hx (fld_rg hr) (ma_pl hx hp) B v ho hB)

theorem ffbU_any (w : World) (n : Int) : (callFunc 34 #[.int .u64 n]).run Tryz.prog w = .ok (.value (.float .f64 n.toNat)) w := by
  rw [run_callFunc_extern Tryz.func34 (by kernel_rfl) (by kernel_rfl) (by kernel_rfl) (e := Extern.MathFloatBits.float64frombits) (by kernel_rfl)]
  rfl
set_option maxRecDepth 100000 in
theorem nanU_any (w : World) (f : Nat) : Calls Tryz.prog 70 #[.float .f64 f] w fun e w' => e = .returned (.bool (oF f f != some Ordering.eq)) ∧ w = w' := by
  go_enter Tryz.func70, Tryz.ntmps70
  go_wp2
  go_ret
  exact ⟨rfl, rfl⟩
set_option maxRecDepth 100000 in
theorem infU_p (w : World) (f : Nat) : Calls Tryz.prog 71 #[.float .f64 f, .int .i64 1] w fun e w' => e = .returned (.bool (oF f MAXF == some Ordering.gt)) ∧ w = w' := by
  go_enter Tryz.func71, Tryz.ntmps71
  go_wp2
  go_ret
  exact ⟨rfl, rfl⟩
theorem negU_any (w : World) (f : Nat) : (Op.unary UnOp.neg (.float .f64 f)).run Tryz.prog w = .ok (.float .f64 (f ^^^ 9223372036854775808)) w := rfl
set_option maxRecDepth 100000 in
theorem infU_n (w : World) (f : Nat) : Calls Tryz.prog 71 #[.float .f64 f, .int .i64 (-1)] w fun e w' => e = .returned (.bool (oF (f ^^^ 9223372036854775808) MAXF == some Ordering.gt)) ∧ w = w' := by
  have hn := negU_any w f
  go_enter Tryz.func71, Tryz.ntmps71
  go_wp2
  go_ret
  exact ⟨rfl, rfl⟩
set_option maxRecDepth 100000 in
theorem absU_any (w : World) (x : Nat) (hx : x < 18446744073709551616) : Calls Tryz.prog 73 #[.float .f64 x] w fun e w' => e = .returned (.float .f64 (absN x)) ∧ w = w' := by
  have h1 := fun W => fbits_any W x
  have h2 := fun W => ffbU_any W (absN x : Int)
  have h3 := bits_abs x hx
  rw [Int.toNat_natCast] at h2
  generalize absN x = y at *
  go_enter Tryz.func73, Tryz.ntmps73
  go_wp2
  go_ret
  exact ⟨rfl, rfl⟩
set_option maxRecDepth 100000 in
set_option maxHeartbeats 4000000 in
theorem plU_any (w : World) (y : Nat) : Calls Tryz.prog 72 #[.float .f64 y] w fun e w' => e = .returned (.bool (plO (oF y 0) (oF y C6) (oF y C21))) ∧ w = w' := by
  obtain ⟨a, ha⟩ : ∃ a, oF y 0 = a := ⟨_, rfl⟩
  obtain ⟨b, hb⟩ : ∃ b, oF y C6 = b := ⟨_, rfl⟩
  obtain ⟨c, hc⟩ : ∃ c, oF y C21 = c := ⟨_, rfl⟩
  have ha2 : FloatKind.f64.format.order y 0 = a := ha
  have hb2 : FloatKind.f64.format.order y 4517329193108106637 = b := hb
  have hc2 : FloatKind.f64.format.order y 4921056587992461136 = c := hc
  rw [ha, hb, hc]
  clear ha hb hc
  unfold plO
  rcases a with _ | (_ | _ | _) <;> rcases b with _ | (_ | _ | _) <;> rcases c with _ | (_ | _ | _)
  all_goals
    go_enter Tryz.func72, Tryz.ntmps72
    go_wp2
    go_ret
    exact ⟨rfl, rfl⟩
theorem index_in (A C : List UInt8) (c : UInt8) (h : ∀ b ∈ A, b ≠ c) : Lib.indexByte (A ++ c :: C) c = (A.length : Int) := by
  induction A with
  | nil => simp [Lib.indexByte]
  | cons a A ih =>
    have ha : (a == c) = false := by rw [beq_eq_false_iff_ne]; exact h a (List.mem_cons_self ..)
    have := ih (fun b hb => h b (List.mem_cons_of_mem _ hb))
    simp only [List.cons_append, Lib.indexByte, ha, this]
    have h1 : ((A.length : Int) == -1) = false := by rw [beq_eq_false_iff_ne]; omega
    simp [h1]
theorem index_mem (l : List UInt8) (c : UInt8) : decide (0 ≤ Lib.indexByte l c) = decide (c ∈ l) ∧ -1 ≤ Lib.indexByte l c := by
  induction l with
  | nil => simp [Lib.indexByte]
  | cons a l ih =>
    by_cases ha : a = c
    · subst ha
      simp [Lib.indexByte]
    · have ha2 : (a == c) = false := by rw [beq_eq_false_iff_ne]; exact ha
      have hm : decide (c ∈ a :: l) = decide (c ∈ l) := by
        simp [List.mem_cons, Ne.symm ha]
      rw [hm, ← ih.1]
      simp only [Lib.indexByte, ha2]
      obtain ⟨i1, i2⟩ := ih
      generalize Lib.indexByte l c = i at *
      by_cases hi : i = -1
      · subst hi; simp
      · have : (i == -1) = false := by rw [beq_eq_false_iff_ne]; exact hi
        simp only [this]
        constructor
        · simp; omega
        · simp; omega
set_option maxRecDepth 100000 in
theorem ptU_any (w : World) (l : List UInt8) (hl : l.length ≤ 1000000) : Calls Tryz.prog 74 #[.string ⟨l.toArray⟩] w fun e w' => e = .returned (.string ⟨(wPt l).toArray⟩) ∧ w = w' := by
  have HC := hid (Tryz.strings_Contains_one ⟨l.toArray⟩ 46 w)
  have e : decide (0 ≤ Lib.indexByte (ByteArray.mk l.toArray).data.toList 46) = decide (46 ∈ l) := (index_mem l 46).1
  rw [e] at HC
  unfold wPt
  by_cases h : 46 ∈ l
  · rw [if_pos h]
    rw [decide_eq_true h] at HC
    clear h e
    go_enter Tryz.func74, Tryz.ntmps74
    go_wp2_with fail
    refine HC.out.mono ?_
    rintro e w2 ⟨rfl, rfl⟩
    go_wp2_with fail
    go_ret
    exact ⟨rfl, rfl⟩
  · rw [if_neg h]
    rw [decide_eq_false h] at HC
    have hcat : (ByteArray.mk l.toArray) ++ (ByteArray.mk #[46, 48]) = ⟨(l ++ [46, 48]).toArray⟩ := by
      apply ByteArray.ext; simp
    have hlen : (9223372036854775807 < l.length + 2) = False := by simp; omega
    clear h e
    go_enter Tryz.func74, Tryz.ntmps74
    go_wp2_with fail
    refine HC.out.mono ?_
    rintro e w2 ⟨rfl, rfl⟩
    go_wp2_with fail
    go_ret
    exact ⟨by rw [← hcat]; rfl, rfl⟩
set_option maxRecDepth 100000 in
theorem cutU_in (w : World) (A C : List UInt8) (c : UInt8) (h : ∀ b ∈ A, b ≠ c) (hA : A.length ≤ 1000000) (hC : C.length ≤ 1000000) : Calls Tryz.prog 104 #[.string ⟨(A ++ c :: C).toArray⟩, .string ⟨#[c]⟩] w fun e w' => e = .returned (.tuple #[.string ⟨A.toArray⟩, .string ⟨C.toArray⟩, .bool true]) ∧ ∃ m, w' = w.drewN m := by
  have HC := hid (Tryz.stringslite_Index_one ⟨(A ++ c :: C).toArray⟩ c w)
  have e : Lib.indexByte (ByteArray.mk (A ++ c :: C).toArray).data.toList c = (A.length : Int) := index_in A C c h
  rw [e] at HC
  have x1 : (ByteArray.mk (A ++ c :: C).toArray).extract 0 A.length = ⟨A.toArray⟩ := by
    apply ByteArray.ext; simp [ByteArray.data_extract, List.extract_eq_take_drop]
  have x2 : (ByteArray.mk (A ++ c :: C).toArray).extract (A.length + 1) (A.length + (C.length + 1)) = ⟨C.toArray⟩ := by
    apply ByteArray.ext
    have : A.length + (C.length + 1) - (A.length + 1) = C.length := by omega
    simp [ByteArray.data_extract, List.extract_eq_take_drop, this, List.drop_append]
    rw [List.drop_eq_nil_of_le (by omega)]
    simp
  have hs : (ByteArray.mk (A ++ c :: C).toArray).size = A.length + (C.length + 1) := by
    show (A ++ c :: C).toArray.size = _
    simp
  generalize ByteArray.mk (A ++ c :: C).toArray = S at *
  have b1 : (A.length : Int) ≤ (A.length : Int) + ((C.length : Int) + 1) := by omega
  have b2 : A.length ≤ A.length + (C.length + 1) := by omega
  have b3 : A.length + 1 ≤ A.length + (C.length + 1) := by omega
  clear h e
  go_enter Tryz.func104, Tryz.ntmps104
  go_wp2_with fail
  refine HC.out.mono ?_
  rintro e w2 ⟨rfl, rfl⟩
  go_wp2_with fail
  go_quiet (fail)
  go_wp2_with fail
  go_ret3
  exact ⟨by first | rfl | (rw [x1, x2]), _, rfl⟩
end Go.Proofs.YtlepjghfcpgbcaaGreatDoor.Tr
/- The contract of the program's Float at any float. -/
namespace Go.Proofs.YtlepjghfcpgbcaaGreatDoor.Tr
open Go.RowKit

set_option maxRecDepth 100000 in
theorem strCut_in (w : World) (A C : List UInt8) (c : UInt8) (h : ∀ b ∈ A, b ≠ c) (hA : A.length ≤ 1000000) (hC : C.length ≤ 1000000) : Calls Tryz.prog 76 #[.string ⟨(A ++ c :: C).toArray⟩, .string ⟨#[c]⟩] w fun e w' => e = .returned (.tuple #[.string ⟨A.toArray⟩, .string ⟨C.toArray⟩, .bool true]) ∧ ∃ m, w' = w.drewN m := by
  have HC := hid (cutU_in w A C c h hA hC)
  generalize (A ++ c :: C).toArray = S at *
  clear h
  go_enter Tryz.func76, Tryz.ntmps76
  go_wp2_with fail
  refine HC.out.mono ?_
  rintro e w2 ⟨rfl, m, rfl⟩
  go_wp2_with fail
  go_ret3
  exact ⟨rfl, _, rfl⟩

theorem cat3 (a b : List UInt8) : (ByteArray.mk a.toArray) ++ (ByteArray.mk b.toArray) = ⟨(a ++ b).toArray⟩ := by
  apply ByteArray.ext; simp

set_option maxRecDepth 100000 in
set_option maxHeartbeats 2000000 in
theorem float_any {w : World} {T : Nat → Nat × Nat} (hT : TwU w T) (x : Nat) (hx : x < 18446744073709551616) : Calls Tryz.prog 35 #[.float .f64 x] w fun e w' => e = .returned (.string ⟨(flT T x).toArray⟩) ∧ Fr (fun _ => False) w w' := by
  have HT := hid hT
  have HN := hid (nanU_any w x)
  have HI := hid (infU_p w x)
  have HJ := hid (infU_n w x)
  clear hT
  by_cases h1 : 9218868437227405312 < rg x
  · have e1 : flT T x = [110, 97, 110] := by unfold flT; rw [if_pos h1]
    have e2 : (oF x x != some Ordering.eq) = true := by rw [ord_nan h1]; rfl
    rw [e1]
    rw [e2] at HN
    clear h1 e1 e2 hx HI HJ HT
    go_enter Tryz.func35, Tryz.ntmps35
    go_wp2_with fail
    refine HN.out.mono ?_
    rintro e w2 ⟨rfl, rfl⟩
    go_wp2_with fail
    go_ret
    exact ⟨rfl, Fr.refl _ _⟩
  by_cases h2 : rg x = 9218868437227405312
  · have hxx : x = 9218868437227405312 ∨ x = 18442240474082181120 := by unfold rg at h2; omega
    rcases hxx with rfl | rfl
    · have e1 : flT T 9218868437227405312 = [105, 110, 102] := by unfold flT; rw [if_neg h1, if_pos h2, if_pos rfl]
      have e2 : (oF 9218868437227405312 9218868437227405312 != some Ordering.eq) = false := by decide +kernel
      have e3 : (oF 9218868437227405312 MAXF == some Ordering.gt) = true := by decide +kernel
      rw [e1]
      rw [e2] at HN
      rw [e3] at HI
      clear h1 h2 e1 e2 e3 hx HJ HT
      go_enter Tryz.func35, Tryz.ntmps35
      go_wp2_with fail
      refine HN.out.mono ?_
      rintro e w2 ⟨rfl, rfl⟩
      go_wp2_with fail
      refine HI.out.mono ?_
      rintro e w2 ⟨rfl, rfl⟩
      go_wp2_with fail
      go_ret
      exact ⟨rfl, Fr.refl _ _⟩
    · have e1 : flT T 18442240474082181120 = [45, 105, 110, 102] := by unfold flT; rw [if_neg h1, if_pos h2, if_neg (by decide)]
      have e2 : (oF 18442240474082181120 18442240474082181120 != some Ordering.eq) = false := by decide +kernel
      have e3 : (oF 18442240474082181120 MAXF == some Ordering.gt) = false := by decide +kernel
      have e4 : (oF (18442240474082181120 ^^^ 9223372036854775808) MAXF == some Ordering.gt) = true := by decide +kernel
      rw [e1]
      rw [e2] at HN
      rw [e3] at HI
      rw [e4] at HJ
      clear h1 h2 e1 e2 e3 e4 hx HT
      go_enter Tryz.func35, Tryz.ntmps35
      go_wp2_with fail
      refine HN.out.mono ?_
      rintro e w2 ⟨rfl, rfl⟩
      go_wp2_with fail
      refine HI.out.mono ?_
      rintro e w2 ⟨rfl, rfl⟩
      go_wp2_with fail
      refine HJ.out.mono ?_
      rintro e w2 ⟨rfl, rfl⟩
      go_wp2_with fail
      go_ret
      exact ⟨rfl, Fr.refl _ _⟩
  have hr : rg x < 9218868437227405312 := by omega
  have e2 : (oF x x != some Ordering.eq) = false := by rw [ord_self hr]; rfl
  rw [e2] at HN
  rw [ord_max hr] at HI
  rw [ord_max (by rw [neg_rg]; exact hr)] at HJ
  have HA := hid (absU_any w x hx)
  have HP := hid (plU_any w (absN x))
  have HPl : Hid (plO (oF (absN x) 0) (oF (absN x) C6) (oF (absN x) C21) = plB x) := hid rfl
  rw [HPl.out] at HP
  cases hp : plB x with
  | true =>
    have e1 : flT T x = wPt (ftF T x) := by unfold flT; rw [if_neg h1, if_neg h2, if_pos hp]
    rw [e1]
    rw [hp] at HP
    have HF := hid (fmtU_f HT.out x hx hr)
    have hl : (ftF T x).length ≤ 1000000 := by
      have := flT_len T x
      rw [e1] at this
      unfold wPt at this
      split at this
      · omega
      · simp at this; omega
    clear e1 h1 h2 e2 hx hr HT HPl hp
    generalize ftF T x = R at *
    generalize absN x = Y at *
    go_enter Tryz.func35, Tryz.ntmps35
    go_wp2_with fail
    refine HN.out.mono ?_
    rintro e w2 ⟨rfl, rfl⟩
    go_wp2_with fail
    refine HI.out.mono ?_
    rintro e w2 ⟨rfl, rfl⟩
    go_wp2_with fail
    refine HJ.out.mono ?_
    rintro e w2 ⟨rfl, rfl⟩
    go_wp2_with fail
    refine HA.out.mono ?_
    rintro e w2 ⟨rfl, rfl⟩
    go_wp2_with fail
    refine HP.out.mono ?_
    rintro e w2 ⟨rfl, rfl⟩
    go_wp2_with fail
    refine HF.out.mono ?_
    rintro e w2 ⟨rfl, f2⟩
    have HF2 := hid f2
    clear f2
    go_wp2_with fail
    refine (ptU_any w2 R hl).mono ?_
    rintro e w3 ⟨rfl, rfl⟩
    go_wp2_with fail
    go_ret
    exact ⟨rfl, HF2.out⟩
  | false =>
    have e1 : flT T x = wPt (fxA T x) ++ 101 :: fxC T x := by unfold flT; rw [if_neg h1, if_neg h2, if_neg (by rw [hp]; decide)]
    have hl := flT_len T x
    rw [e1] at hl ⊢
    rw [hp] at HP
    have HF := hid (fmtU_e HT.out x hx hr hp)
    rw [ftX_eq] at HF
    have HE := hid (fxA_e T x)
    clear e1 h1 h2 e2 hx hr HT HPl hp
    generalize fxA T x = P at *
    generalize fxC T x = C at *
    generalize absN x = Y at *
    have hl2 : (wPt P).length + (1 + C.length) ≤ 1000 := by
      rw [List.length_append, List.length_cons] at hl; omega
    have hPl : P.length ≤ 1000 := by
      have : P.length ≤ (wPt P).length := by
        unfold wPt
        split
        · omega
        · simp
      omega
    have hCl : C.length ≤ 1000 := by omega
    have HCut := hid (fun W => strCut_in W P C 101 HE.out (by omega) (by omega))
    have HPt := hid (fun W => ptU_any W P (by omega))
    have c1 := cat3 (wPt P) [101]
    have c2 := cat3 (wPt P ++ [101]) C
    have hc2 : (wPt P ++ [101]) ++ C = wPt P ++ 101 :: C := by simp
    rw [hc2] at c2
    generalize wPt P = Q at *
    obtain ⟨Q1, hQ1⟩ : ∃ Q1, Q1 = Q ++ [101] := ⟨_, rfl⟩
    rw [← hQ1] at c1 c2
    have hQl : Q1.length ≤ 1000 := by rw [hQ1]; simp; omega
    have hQl2 : Q.length ≤ 1000 := by omega
    have l1 : (9223372036854775807 < Q.length + 1) = False := by simp; omega
    have l2 : (9223372036854775807 < Q1.length + C.length) = False := by simp; omega
    obtain ⟨S, hS⟩ : ∃ S, S = P ++ 101 :: C := ⟨_, rfl⟩
    rw [← hS] at HF HCut
    obtain ⟨R, hR⟩ : ∃ R, R = Q ++ 101 :: C := ⟨_, rfl⟩
    rw [← hR] at c2 ⊢
    clear hl hl2 hc2 hQ1 HE hS hR
    go_enter Tryz.func35, Tryz.ntmps35
    go_wp2_with fail
    refine HN.out.mono ?_
    rintro e w2 ⟨rfl, rfl⟩
    go_wp2_with fail
    refine HI.out.mono ?_
    rintro e w2 ⟨rfl, rfl⟩
    go_wp2_with fail
    refine HJ.out.mono ?_
    rintro e w2 ⟨rfl, rfl⟩
    go_wp2_with fail
    refine HA.out.mono ?_
    rintro e w2 ⟨rfl, rfl⟩
    go_wp2_with fail
    refine HP.out.mono ?_
    rintro e w2 ⟨rfl, rfl⟩
    go_wp2_with fail
    refine HF.out.mono ?_
    rintro e w2 ⟨rfl, f2⟩
    have HF2 := hid f2
    clear f2
    go_wp2_with fail
    refine (HCut.out w2).mono ?_
    rintro e w3 ⟨rfl, m3, rfl⟩
    have HF3 := hid (HF2.out.drewN m3)
    go_wp2_with fail
    refine (HPt.out _).mono ?_
    rintro e w4 ⟨rfl, rfl⟩
    go_wp2_with fail
    go_ret
    exact ⟨by first | rfl | rw [← c2, ← c1], HF3.out⟩
end Go.Proofs.YtlepjghfcpgbcaaGreatDoor.Tr
/- The contract of the document's Float at any float. -/
namespace Go.Proofs.YtlepjghfcpgbcaaGreatDoor.Tr
open Go.RowKit

theorem strU_at (l : List UInt8) (k : Nat) (h : k < l.length) : (ByteArray.mk l.toArray)[k]'(by simpa [ByteArray.size] using h) = l[k] := rfl
theorem mem_take_succ {α : Type} [DecidableEq α] {l : List α} {i : Nat} (h : i < l.length) {c : α} (h1 : c ∉ l.take i) (h2 : l[i] ≠ c) : c ∉ l.take (i + 1) := by
  rw [List.take_succ_eq_append_getElem h]
  intro hm
  rcases List.mem_append.1 hm with hm | hm
  · exact h1 hm
  · exact h2 (List.mem_singleton.1 hm).symm
theorem byte_ne {a : UInt8} {n : Nat} (hn : n < 256) (h : a ≠ UInt8.ofNat n) : ((a.toNat : Int) == (n : Int)) = false := by
  rw [beq_eq_false_iff_ne]
  intro e
  apply h
  apply UInt8.toNat_inj.1
  simp
  omega
/-- Is one asked for an exponent? -/
def rqO (a b c : Option Ordering) : Bool := (a != some .eq) && (b == some .lt || (c == some .gt || c == some .eq))
theorem rqO_pl {a b c : Option Ordering} (ha : ∃ o, a = some o) (hb : ∃ o, b = some o) (hc : ∃ o, c = some o) : rqO a b c = !plO a b c := by
  obtain ⟨a, rfl⟩ := ha
  obtain ⟨b, rfl⟩ := hb
  obtain ⟨c, rfl⟩ := hc
  cases a <;> cases b <;> cases c <;> rfl

set_option maxRecDepth 100000 in
set_option maxHeartbeats 8000000 in
theorem rfloat_any {w : World} {T : Nat → Nat × Nat} (hT : TwU w T) (x : Nat) (hx : x < 18446744073709551616) : Calls Tryz.prog 44 #[.float .f64 x] w fun e w' => e = .returned (.string ⟨(flT T x).toArray⟩) ∧ Fr (fun _ => False) w w' := by
  have HT := hid hT
  clear hT
  by_cases h1 : 9218868437227405312 < rg x
  · have e1 : flT T x = [110, 97, 110] := by unfold flT; rw [if_pos h1]
    have e2 : (FloatKind.f64.format.order x x != some Ordering.eq) = true := by rw [show FloatKind.f64.format.order x x = none from ord_nan h1 x]; rfl
    rw [e1]
    clear h1 e1 hx HT
    go_enter Tryz.func44, Tryz.ntmps44
    go_wp2_with fail
    go_ret
    exact ⟨rfl, Fr.refl _ _⟩
  by_cases h2 : rg x = 9218868437227405312
  · have hxx : x = 9218868437227405312 ∨ x = 18442240474082181120 := by unfold rg at h2; omega
    rcases hxx with rfl | rfl
    · have e1 : flT T 9218868437227405312 = [105, 110, 102] := by unfold flT; rw [if_neg h1, if_pos h2, if_pos rfl]
      have e2 : (FloatKind.f64.format.order 9218868437227405312 9218868437227405312 != some Ordering.eq) = false := by decide +kernel
      have e3 : (FloatKind.f64.format.order 9218868437227405312 9218868437227405311 == some Ordering.gt) = true := by decide +kernel
      rw [e1]
      clear h1 h2 e1 hx HT
      go_enter Tryz.func44, Tryz.ntmps44
      go_wp2_with fail
      go_ret
      exact ⟨rfl, Fr.refl _ _⟩
    · have e1 : flT T 18442240474082181120 = [45, 105, 110, 102] := by unfold flT; rw [if_neg h1, if_pos h2, if_neg (by decide)]
      have e2 : (FloatKind.f64.format.order 18442240474082181120 18442240474082181120 != some Ordering.eq) = false := by decide +kernel
      have e3 : (FloatKind.f64.format.order 18442240474082181120 9218868437227405311 == some Ordering.gt) = false := by decide +kernel
      have e4 : (FloatKind.f64.format.order 18442240474082181120 18442240474082181119 == some Ordering.lt) = true := by decide +kernel
      rw [e1]
      clear h1 h2 e1 hx HT
      go_enter Tryz.func44, Tryz.ntmps44
      go_wp2_with fail
      go_ret
      exact ⟨rfl, Fr.refl _ _⟩
  have hr : rg x < 9218868437227405312 := by omega
  have e2 : (FloatKind.f64.format.order x x != some Ordering.eq) = false := by rw [show FloatKind.f64.format.order x x = some .eq from ord_self hr]; rfl
  have e3 : (FloatKind.f64.format.order x 9218868437227405311 == some Ordering.gt) = false := ord_max hr
  have e4 : (FloatKind.f64.format.order x 18442240474082181119 == some Ordering.lt) = false := ord_nmax hr
  have HA := hid (absU_any w x hx)
  have hy : rg (absN x) < 9218868437227405312 := by rw [abs_rg]; exact hr
  obtain ⟨a, ha⟩ : ∃ a, oF (absN x) 0 = a := ⟨_, rfl⟩
  obtain ⟨b, hb⟩ : ∃ b, oF (absN x) C6 = b := ⟨_, rfl⟩
  obtain ⟨c, hc⟩ : ∃ c, oF (absN x) C21 = c := ⟨_, rfl⟩
  have hso : rqO a b c = !plB x := by
    have := rqO_pl (ord_some hy (y := 0) (by decide)) (ord_some hy (y := C6) (by decide)) (ord_some hy (y := C21) (by decide))
    rw [ha, hb, hc] at this
    rw [this]
    unfold plB
    rw [ha, hb, hc]
  have ha2 : FloatKind.f64.format.order (absN x) 0 = a := ha
  have hb2 : FloatKind.f64.format.order (absN x) 4517329193108106637 = b := hb
  have hc2 : FloatKind.f64.format.order (absN x) 4921056587992461136 = c := hc
  have HFf := hid (fun W e => fmtU_f (HT.out.env (w0 := w) (W := W) e) x hx hr)
  have HFe : Hid (plB x = false → ∀ W, Env w W → Calls Tryz.prog 75 #[.float .f64 x, .int .u8 101, .int .i64 (-1), .int .i64 64] W fun e w' => e = .returned (.string ⟨(ftX T x).toArray⟩) ∧ Fr (fun _ => False) W w') := hid (fun hp W e => fmtU_e (HT.out.env e) x hx hr hp)
  have hlen := flT_len T x
  have HS := hid hso
  have HE := hid (fxA_e T x)
  have HXe := hid (ftX_eq T x)
  have HR : Hid (flT T x = if plB x then wPt (ftF T x) else wPt (fxA T x) ++ 101 :: fxC T x) := by
    unfold Hid flT; rw [if_neg h1, if_neg h2]
  clear h1 h2 hx hr hy ha hb hc hso HT
  generalize absN x = Y at *
  go_enter Tryz.func44, Tryz.ntmps44
  go_wp2_with fail
  refine HA.out.mono ?_
  rintro e w2 ⟨rfl, rfl⟩
  go_upto_region 8 with fail
  go_cut [26] (fun qv wx => qv = .bool (rqO a b c) ∧ w = wx)
  case first =>
    clear HFf HFe HS HE HXe HR hlen
    rcases a with _ | (_ | _ | _) <;> rcases b with _ | (_ | _ | _) <;> rcases c with _ | (_ | _ | _)
    all_goals
      go_wp2_with fail
      all_goals go_meet
      exact ⟨rfl, rfl⟩
  case rest =>
    obtain ⟨rfl, rfl⟩ := hcut
    rw [HS.out]
    clear HS ha2 hb2 hc2 e2 e3 e4 HA
    cases hp : plB x with
    | true =>
      have HF := hid (HFf.out w (Env.refl w))
      have HR2 : Hid (flT T x = wPt (ftF T x)) := by unfold Hid; rw [HR.out, hp]; rfl
      rw [HR2.out] at hlen
      have hl : (ftF T x).length ≤ 1000 := by
        unfold wPt at hlen
        split at hlen
        · omega
        · simp at hlen; omega
      have HW := hid (show wPt (ftF T x) = if 46 ∈ ftF T x then ftF T x else ftF T x ++ [46, 48] from rfl)
      generalize hwp : wPt (ftF T x) = Q at *
      generalize ftF T x = R at *
      clear HFf HFe HR hwp hlen hp HE HXe
      simp only [Bool.not_true]
      go_wp2_with fail
      refine HF.out.mono ?_
      rintro e w2 ⟨rfl, f2⟩
      have HF2 := hid f2
      clear f2 HF
      go_wp2_with fail
      go_loopw [7] (fun iv wr => ∃ i : Nat, i ≤ R.length ∧ iv = .int .i64 (i : Int) ∧ 46 ∉ R.take i ∧ wr = w2) (fun iv _ => R.length - (intOf iv).toNat)
      case atStart => exact ⟨0, Nat.zero_le _, rfl, by simp, rfl⟩
      case round =>
        obtain ⟨i, hi, rfl, hn, rfl⟩ := hrel
        have Hn := hid hn
        clear hn
        by_cases hlt : i < R.length
        · have hlti : (i : Int) < (R.length : Int) := by omega
          by_cases hc : R[i] = 46
          · have hq : ((((ByteArray.mk R.toArray)[i]'(by simpa [ByteArray.size] using hlt)).toNat : Int) == 46) = true := by rw [strU_at R i hlt, hc]; rfl
            have HQ : Hid (Q = R) := by unfold Hid; rw [HW.out, if_pos (by rw [← hc]; exact List.getElem_mem hlt)]
            clear hc
            go_wp2_with fail
            go_ret
            exact ⟨by rw [HR2.out, HQ.out]; rfl, HF2.out⟩
          · have hq : ((((ByteArray.mk R.toArray)[i]'(by simpa [ByteArray.size] using hlt)).toNat : Int) == 46) = false := by rw [strU_at R i hlt]; exact byte_ne (n := 46) (by decide) hc
            have Hn2 := hid (mem_take_succ hlt Hn.out hc)
            clear hc
            go_wp2_with fail
            exact ⟨⟨i + 1, by omega, by first | rfl | (congr 1), Hn2.out, by first | rfl | trivial⟩, by simp [intOf]; omega⟩
        · have hlti : ¬ (i : Int) < (R.length : Int) := by omega
          have HQ : Hid (Q = R ++ [46, 48]) := by
            unfold Hid; rw [HW.out, if_neg]
            intro h
            apply Hn.out
            rw [List.take_of_length_le (by omega)]
            exact h
          have c1 := cat3 R [46, 48]
          have l1 : (9223372036854775807 < R.length + 2) = False := by simp; omega
          go_wp2_with fail
          go_ret
          exact ⟨by rw [HR2.out, HQ.out]; first | rfl | (rw [← c1]; rfl), HF2.out⟩
    | false =>
      have HF := hid (HFe.out hp w (Env.refl w))
      have HR2 : Hid (flT T x = wPt (fxA T x) ++ 101 :: fxC T x) := by unfold Hid; rw [HR.out, hp]; rfl
      rw [HR2.out] at hlen
      rw [HXe.out] at HF
      have hl : (fxA T x).length ≤ 1000 ∧ (fxC T x).length ≤ 1000 := by
        rw [List.length_append, List.length_cons] at hlen
        unfold wPt at hlen
        split at hlen
        · omega
        · simp at hlen; omega
      obtain ⟨hlA, hlC⟩ := hl
      have HW := hid (show wPt (fxA T x) = if 46 ∈ fxA T x then fxA T x else fxA T x ++ [46, 48] from rfl)
      generalize hwp : wPt (fxA T x) = Q at *
      generalize fxA T x = P at *
      generalize fxC T x = C at *
      obtain ⟨S, hS⟩ : ∃ S, S = P ++ 101 :: C := ⟨_, rfl⟩
      have hSl : S.length = P.length + (1 + C.length) := by rw [hS, List.length_append, List.length_cons]; omega
      have hSl2 : S.length ≤ 2100 := by omega
      have HSP : Hid (∀ i (h : i < P.length), S[i]? = some P[i]) := fun i h => by rw [hS, List.getElem?_append_left h, List.getElem?_eq_getElem h]
      have HSe : Hid (S[P.length]? = some 101) := by unfold Hid; rw [hS, List.getElem?_append_right (Nat.le_refl _), Nat.sub_self]; rfl
      have HSl := hid hSl
      have HS := hid hS
      rw [← hS] at HF
      clear HFf HFe HR hwp hlen hp HXe hS hSl
      simp only [Bool.not_false]
      go_wp2_with fail
      refine HF.out.mono ?_
      rintro e w2 ⟨rfl, f2⟩
      have HF2 := hid f2
      clear f2 HF
      go_wp2_with fail
      go_loopw [5] (fun iv wr => ∃ i : Nat, i ≤ P.length ∧ iv = .int .i64 (i : Int) ∧ 46 ∉ P.take i ∧ wr = w2) (fun iv _ => P.length - (intOf iv).toNat)
      case atStart => exact ⟨0, Nat.zero_le _, rfl, by simp, rfl⟩
      case round =>
        obtain ⟨i, hi, rfl, hn, rfl⟩ := hrel
        have Hn := hid hn
        clear hn
        have hlt : i < S.length := by have := HSl.out; omega
        have hlti : (i : Int) < (S.length : Int) := by omega
        by_cases hlP : i < P.length
        · have hSi : S[i] = P[i] := by
            have := HSP.out i hlP
            rw [List.getElem?_eq_getElem hlt] at this
            exact Option.some.inj this
          have hne : P[i] ≠ 101 := HE.out _ (List.getElem_mem hlP)
          by_cases hc : P[i] = 46
          · have hq : ((((ByteArray.mk S.toArray)[i]'(by simpa [ByteArray.size] using hlt)).toNat : Int) == 46) = true := by rw [strU_at S i hlt, hSi, hc]; rfl
            have HQ : Hid (Q = P) := by unfold Hid; rw [HW.out, if_pos (by rw [← hc]; exact List.getElem_mem hlP)]
            clear hc hSi hne
            go_wp2_with fail
            go_ret
            exact ⟨by rw [HR2.out, HQ.out, ← HS.out]; rfl, HF2.out⟩
          · have hq : ((((ByteArray.mk S.toArray)[i]'(by simpa [ByteArray.size] using hlt)).toNat : Int) == 46) = false := by rw [strU_at S i hlt, hSi]; exact byte_ne (n := 46) (by decide) hc
            have hq2 : ((((ByteArray.mk S.toArray)[i]'(by simpa [ByteArray.size] using hlt)).toNat : Int) == 101) = false := by rw [strU_at S i hlt, hSi]; exact byte_ne (n := 101) (by decide) hne
            have Hn2 := hid (mem_take_succ hlP Hn.out hc)
            clear hc hSi hne
            go_wp2_with fail
            exact ⟨⟨i + 1, by omega, by first | rfl | (congr 1), Hn2.out, by first | rfl | trivial⟩, by simp [intOf]; omega⟩
        · obtain rfl : i = P.length := by omega
          have hSi : S[P.length] = 101 := by
            have := HSe.out
            rw [List.getElem?_eq_getElem hlt] at this
            exact Option.some.inj this
          have hq : ((((ByteArray.mk S.toArray)[P.length]'(by simpa [ByteArray.size] using hlt)).toNat : Int) == 46) = false := by rw [strU_at S _ hlt, hSi]; rfl
          have hq2 : ((((ByteArray.mk S.toArray)[P.length]'(by simpa [ByteArray.size] using hlt)).toNat : Int) == 101) = true := by rw [strU_at S _ hlt, hSi]; rfl
          have HQ : Hid (Q = P ++ [46, 48]) := by
            unfold Hid; rw [HW.out, if_neg]
            intro h
            apply Hn.out
            rw [List.take_of_length_le (Nat.le_refl _)]
            exact h
          have x1 : (ByteArray.mk S.toArray).extract 0 P.length = ⟨P.toArray⟩ := by
            rw [HS.out]; apply ByteArray.ext; simp [ByteArray.data_extract, List.extract_eq_take_drop]
          have x2 : (ByteArray.mk S.toArray).extract P.length S.length = ⟨(101 :: C).toArray⟩ := by
            rw [HSl.out, HS.out]; apply ByteArray.ext
            have : P.length + (1 + C.length) - P.length = C.length + 1 := by omega
            simp [ByteArray.data_extract, List.extract_eq_take_drop, this]
          have c1 := cat3 P [46, 48]
          have c2 := cat3 (P ++ [46, 48]) (101 :: C)
          have HQ2 : Hid (Q ++ 101 :: C = P ++ 46 :: 48 :: 101 :: C) := by unfold Hid; rw [HQ.out]; simp
          have hPS : P.length ≤ S.length := by omega
          clear hSi
          go_wp2_with fail
          go_quiet (fail)
          go_wp2_with fail
          go_ret
          exact ⟨by rw [HR2.out, HQ2.out]; first | rfl | (rw [← c2, ← c1]; rfl), HF2.out.drewN _⟩
end Go.Proofs.YtlepjghfcpgbcaaGreatDoor.Tr
