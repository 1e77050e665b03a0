import Derived.Test.YtlepjghfcpgbcaaGreatDoorSfb
import Derived.Test.YtlepjghfcpgbcaaGreatDoorEgg
import Derived.Test.YtlepjghfcpgbcaaGreatDoorEgh
import Derived.Test.YtlepjghfcpgbcaaGreatDoorEgf
import Derived.Laws.Bits64b
import Derived.Lib.ItoaLen
import Derived.Test.YtlepjghfcpgbcaaGreatDoorFmd
import Derived.Deep.RegionHeld3
import Derived.Deep.QuietTactic
/- What FormatFloat gives of a float's bits, in plain words. -/
namespace Go.Proofs.YtlepjghfcpgbcaaGreatDoor.Tr
open Go.RowKit

theorem len_pow {d : Nat} (h0 : d ≠ 0) (h : d < 18446744073709551616) : 2 ^ (Lib.bitLen d - 1) ≤ d ∧ d < 2 ^ Lib.bitLen d ∧ 1 ≤ Lib.bitLen d := by
  have hb := Lib.bitLenAux_bounds 64 d (by omega) h0
  unfold Lib.bitLen
  exact ⟨hb.2.1, hb.2.2, hb.1⟩

def fNeg (x : Nat) : Bool := decide (9223372036854775808 ≤ x)
/-- The exponent's field; 0's is that of 1. -/
def fFld (x : Nat) : Nat := x / 4503599627370496 % 2048
def fMa (x : Nat) : Nat := if fFld x = 0 then x % 4503599627370496 else x % 4503599627370496 + 4503599627370496
def fEx (x : Nat) : Nat := if fFld x = 0 then 1 else fFld x
def fS (x : Nat) : Nat := 64 - Lib.bitLen (fMa x)
def fM (x : Nat) : Nat := fMa x * 2 ^ fS x
def fE (x : Nat) : Int := (fEx x : Int) - 1023 - fS x - 52

theorem fMa_lt (x : Nat) : fMa x < 9007199254740992 := by unfold fMa; split <;> omega
theorem f_ok (x : Nat) (hm : fMa x ≠ 0) (hf : fFld x ≠ 2047) : 9223372036854775808 ≤ fM x ∧ fM x + 2 ^ sfZ (fE x) ≤ 18446744073709551616 ∧ -1137 ≤ fE x ∧ fE x ≤ 960 ∧ 11 ≤ fS x ∧ fS x ≤ 63 ∧ Lib.bitLen (fMa x) + fS x = 64 ∧ fM x < 18446744073709551616 := by
  have hlt := fMa_lt x
  obtain ⟨b1, b2, b3⟩ := len_pow hm (by omega)
  have hl : Lib.bitLen (fMa x) ≤ 53 := by
    rcases Nat.lt_or_ge 53 (Lib.bitLen (fMa x)) with h | h
    · have h1 : 2 ^ 53 ≤ 2 ^ (Lib.bitLen (fMa x) - 1) := Nat.pow_le_pow_right (by decide) (by omega)
      omega
    · exact h
  have hs : Lib.bitLen (fMa x) + fS x = 64 := by unfold fS; omega
  have hx : fFld x < 2048 := Nat.mod_lt _ (by decide)
  have hnorm : fFld x ≠ 0 → Lib.bitLen (fMa x) = 53 := by
    intro h
    have h52 : 4503599627370496 ≤ fMa x := by unfold fMa; rw [if_neg h]; omega
    rcases Nat.lt_or_ge (Lib.bitLen (fMa x)) 53 with h1 | h1
    · have h2 : 2 ^ Lib.bitLen (fMa x) ≤ 2 ^ 52 := Nat.pow_le_pow_right (by decide) (by omega)
      omega
    · omega
  have hz : sfZ (fE x) ≤ fS x ∧ -1137 ≤ fE x ∧ fE x ≤ 960 := by
    unfold fE
    by_cases h : fFld x = 0
    · have e : fEx x = 1 := by unfold fEx; rw [if_pos h]
      rw [e]
      refine ⟨?_, by omega, by omega⟩
      unfold sfZ
      split <;> omega
    · have e : fEx x = fFld x := by unfold fEx; rw [if_neg h]
      have := hnorm h
      rw [e]
      refine ⟨?_, by omega, by omega⟩
      unfold sfZ
      split <;> omega
  have hp : 2 ^ Lib.bitLen (fMa x) * 2 ^ fS x = 18446744073709551616 := by rw [← Nat.pow_add, hs]
  have hp2 : 2 ^ (Lib.bitLen (fMa x) - 1) * 2 ^ fS x = 9223372036854775808 := by
    rw [← Nat.pow_add, show Lib.bitLen (fMa x) - 1 + fS x = 63 by omega]
  have hq : 2 ^ sfZ (fE x) ≤ 2 ^ fS x := Nat.pow_le_pow_right (by decide) hz.1
  have m1 : 2 ^ (Lib.bitLen (fMa x) - 1) * 2 ^ fS x ≤ fM x := Nat.mul_le_mul_right _ b1
  have m2 : (fMa x + 1) * 2 ^ fS x ≤ 2 ^ Lib.bitLen (fMa x) * 2 ^ fS x := Nat.mul_le_mul_right _ b2
  have m3 : (fMa x + 1) * 2 ^ fS x = fM x + 2 ^ fS x := by unfold fM; rw [Nat.add_mul, Nat.one_mul]
  have m4 : 0 < 2 ^ fS x := Nat.two_pow_pos _
  refine ⟨by omega, by omega, hz.2.1, hz.2.2, by omega, by omega, hs, by omega⟩

def ftd (T : Nat → Nat × Nat) (x : Nat) : Nat := (shF T (fM x) (fE x)).1.toNat
def ftp (T : Nat → Nat × Nat) (x : Nat) : Int := (shF T (fM x) (fE x)).2
def dgD (d : Nat) : List UInt8 := if d = 0 then [] else Lib.decDigits d
def ndD (d : Nat) : Nat := if d = 0 then 0 else Lib.nDigits d
def zz32 : List UInt8 := List.replicate 32 0
def ftL (T : Nat → Nat × Nat) (x : Nat) : List UInt8 := dgD (ftd T x) ++ zz32.drop (ndD (ftd T x))
def ftN (T : Nat → Nat × Nat) (x : Nat) : Nat := trimN (dgD (ftd T x)) (ndD (ftd T x))
def ftP (T : Nat → Nat × Nat) (x : Nat) : Int := (ndD (ftd T x) : Int) + ftp T x
/-- The text in the format 'f', and in the format 'e', of a float that is finite. -/
def ftF (T : Nat → Nat × Nat) (x : Nat) : List UInt8 := if fMa x = 0 then efSign (fNeg x) ++ [48] else fF (fNeg x) (ftL T x) (ftP T x) (ftN T x)
def ftX (T : Nat → Nat × Nat) (x : Nat) : List UInt8 := eF (fNeg x) (ftL T x) (ftP T x) (ftN T x)

theorem dgD_len (d : Nat) : (dgD d).length = ndD d := by
  unfold dgD ndD
  split
  · rfl
  · exact Lib.decDigits_length d
theorem ndD_le (d : Nat) (h : d < 18446744073709551616) : ndD d ≤ 20 := by
  unfold ndD
  split
  · omega
  · exact Lib.nDigits_le20 d h
theorem ftd_lt (T : Nat → Nat × Nat) (x : Nat) : ftd T x < 18446744073709551616 := by
  have h := shF_u T (fM x) (fE x)
  unfold ftd
  obtain ⟨h0, h1⟩ := h
  omega
theorem ftL_len (T : Nat → Nat × Nat) (x : Nat) : (ftL T x).length = 32 := by
  have h := ndD_le (ftd T x) (ftd_lt T x)
  unfold ftL
  rw [List.length_append, dgD_len, List.length_drop]
  show ndD (ftd T x) + (32 - ndD (ftd T x)) = 32
  omega
theorem ftN_le (T : Nat → Nat × Nat) (x : Nat) : ftN T x ≤ 20 := Nat.le_trans (trimN_le _ _) (ndD_le _ (ftd_lt T x))
theorem ftP_ok (T : Nat → Nat × Nat) (x : Nat) (h0 : -1137 ≤ fE x) (h1 : fE x ≤ 960) : -400 ≤ ftP T x ∧ ftP T x ≤ 400 := by
  have h := shF_p T (fM x) (fE x) h0 h1
  have h2 := ndD_le (ftd T x) (ftd_lt T x)
  unfold ftP ftp
  omega

/-! ### What the bits are -/
theorem bits_fld (x : Nat) (h : x < 18446744073709551616) : bits BinOp.and .i64 ((x : Int) / 4503599627370496) 2047 = (fFld x : Int) := by
  have hx : (BitVec.ofInt 64 ((x : Int) / 4503599627370496)).toNat = x / 4503599627370496 := by
    have e : (x : Int) / 4503599627370496 = ((x / 4503599627370496 : Nat) : Int) := by omega
    rw [e, BitVec.ofInt_natCast, BitVec.toNat_ofNat]
    omega
  show IntKind.i64.wrap ((BitVec.ofInt 64 ((x : Int) / 4503599627370496) &&& BitVec.ofInt 64 2047).toNat : Int) = _
  have h2 : (BitVec.ofInt 64 2047).toNat = 2 ^ 11 - 1 := by decide
  rw [BitVec.toNat_and, hx, h2, Nat.and_two_pow_sub_one_eq_mod, IntKind.wrap_i64]
  unfold fFld
  omega
theorem bits_ma (x : Nat) (h : x < 18446744073709551616) : bits BinOp.and .u64 (x : Int) 4503599627370495 = ((x % 4503599627370496 : Nat) : Int) := by
  have := bits_and_u64_nat x 4503599627370495 h (by decide)
  rw [show (4503599627370495 : Nat) = 2 ^ 52 - 1 by decide, Nat.and_two_pow_sub_one_eq_mod] at this
  exact this
theorem bits_im (m : Nat) (h : m < 4503599627370496) : bits BinOp.or .u64 (m : Int) 4503599627370496 = ((m + 4503599627370496 : Nat) : Int) := by
  have h1 := bits_or_u64_nat m 4503599627370496 (by omega) (by decide)
  have h2 : m ||| 4503599627370496 = m + 4503599627370496 := by
    have h3 := Nat.two_pow_add_eq_or_of_lt (i := 52) (b := m) (by omega) 1
    rw [Nat.mul_one] at h3
    rw [Nat.or_comm, Nat.add_comm]
    exact h3.symm
  rw [h2] at h1
  exact h1
end Go.Proofs.YtlepjghfcpgbcaaGreatDoor.Tr
/- setDigits of any digits, of none too. -/
namespace Go.Proofs.YtlepjghfcpgbcaaGreatDoor.Tr
open Go.RowKit

set_option maxRecDepth 100000 in
set_option maxHeartbeats 2000000 in
theorem setDigits_D (w : World) (b : Nat) (t : TypeId) (L : List UInt8) (hb : Blk w b t (bs L)) (hL : L.length = 32) (d : Nat) (hd : d < 18446744073709551616) (nd : Nat) (hn2 : nd ≤ 20) (hnd : d < 10 ^ nd) (D : List UInt8) (hlen : D.length = nd) (HD : Hid (∀ v' dk, Lib.FmtInv nd d 0 v' dk → dk.toList = D)) (p : Int) (hp0 : -3000 ≤ p) (hp1 : p ≤ 3000) :
    Calls Tryz.prog 141 #[.slice (some ⟨b, 0, none⟩) 32 32, .int .u64 (d : Int), .int .i64 p, .int .i64 (nd : Int)] w fun e w' => e = .returned (.tuple #[.int .i64 ((nd : Int) + p), .int .i64 ((trimN D nd : Nat) : Int)]) ∧ Blk w' b t (bs (D ++ L.drop nd)) ∧ Fr (· = b) w w' := by
  have hH : Sort.Holds encB w b 0 (L.take nd).toArray := fun j hj => by
    have hj' : j < nd := by simp at hj; omega
    refine ⟨?_, hb.frozen _⟩
    rw [Nat.zero_add, hb.cell, bs, List.getElem?_map, List.getElem?_eq_getElem (by omega), getElem!_pos _ j hj]
    simp [bv]
  have hsz : (L.take nd).toArray.size = nd := by simp; omega
  have HFB := hid (Tryz.internal_strconv_formatBase10 b 0 32 d (L.take nd).toArray w hH (by rw [hsz]; exact hnd) hd (by rw [hsz]; omega))
  rw [hsz] at HFB
  have HB := hid hb
  have HLn := hid hL
  have HDl := hid hlen
  clear hb hH hsz hnd hd hL hlen
  have hle : ¬ (32 : Int) < (nd : Int) := by omega
  have h32 : (nd : Int) ≤ 32 := by omega
  go_enter Tryz.func141, Tryz.ntmps141
  go_wp2_with fail
  refine HFB.out.mono ?_
  rintro e w2 ⟨rfl, q, v', dk, hw, hi⟩
  have hdk := HD.out v' dk hi
  have hds : dk.size = nd := hi.size
  have hB2 : Blk w2 b t (bs (D ++ L.drop nd)) := by
    have h := HB.out.putRow dk (by rw [hds, bs_length, HLn.out]; omega)
    rw [hdk, hds] at h
    have e : bs (D ++ L.drop nd) = bs D ++ (bs L).drop nd := by simp [bs]
    rw [e, hw]
    exact h
  have hF2 : Fr (· = b) w w2 := by rw [hw]; exact (Fr.putRow w b dk).drewN q
  have HP := hid (And.intro hB2 hF2)
  have hcell : ∀ j : Nat, j < nd → w2.cell? ⟨b, j, none⟩ = some (.int .u8 (((D.getD j 0).toNat : Nat) : Int)) := fun j hj => by
    rw [hB2.cell, bs, List.getElem?_map, List.getElem?_append_left (by rw [HDl.out]; exact hj), List.getElem?_eq_getElem (by rw [HDl.out]; exact hj), List.getD_eq_getElem?_getD, List.getElem?_eq_getElem (by rw [HDl.out]; exact hj)]
    rfl
  have HC := hid hcell
  clear hw hi hdk hds hB2 hF2 HFB HD HB hcell
  go_wp2_with fail
  go_loopw [3] (fun kv wr => ∃ k : Nat, k ≤ nd ∧ kv = .int .i64 (k : Int) ∧ trimN D k = trimN D nd ∧ wr = w2) (fun kv _ => (intOf kv).toNat)
  case atStart => exact ⟨nd, Nat.le_refl _, rfl, rfl, rfl⟩
  case round =>
    obtain ⟨k, hk, rfl, hT, rfl⟩ := hrel
    have HT := hid hT
    clear hT
    cases k with
    | zero =>
      have HT0 : Hid (trimN D nd = 0) := HT.out.symm
      clear HT
      go_wp2_with fail
      go_ret2
      exact ⟨by rw [HT0.out]; rfl, HP.out⟩
    | succ k =>
      have hc := HC.out k (by omega)
      have hk1 : (((k + 1 : Nat) : Int) - 1) = (k : Int) := by omega
      have hpos : (0 : Int) < ((k + 1 : Nat) : Int) := by omega
      by_cases h48 : (D.getD k 0).toNat = 48
      · have HT2 : Hid (trimN D k = trimN D nd) := by
          unfold Hid; rw [← HT.out]
          show _ = if (D.getD k 0).toNat = 48 then trimN D k else k + 1
          rw [if_pos h48]
        rw [h48] at hc
        clear HT
        go_wp2_with fail
        exact ⟨⟨k, by omega, by congr 1, HT2.out, by first | rfl | trivial⟩, by simp [intOf]⟩
      · have HT2 : Hid (trimN D nd = k + 1) := by
          unfold Hid; rw [← HT.out]
          show (if (D.getD k 0).toNat = 48 then trimN D k else k + 1) = _
          rw [if_neg h48]
        have h48' : (((D.getD k 0).toNat : Int) == 48) = false := by rw [beq_eq_false_iff_ne]; omega
        generalize (D.getD k 0).toNat = c at *
        clear HT
        go_wp2_with fail
        go_ret2
        exact ⟨by rw [HT2.out]; rfl, HP.out⟩
theorem setDigitsU (w : World) (b : Nat) (t : TypeId) (L : List UInt8) (hb : Blk w b t (bs L)) (hL : L.length = 32) (d : Nat) (hd : d < 18446744073709551616) (nd : Nat) (hn2 : nd ≤ 20) (hnd : d < 10 ^ nd) (hdig : nd = Lib.nDigits d) (p : Int) (hp0 : -3000 ≤ p) (hp1 : p ≤ 3000) :
    Calls Tryz.prog 141 #[.slice (some ⟨b, 0, none⟩) 32 32, .int .u64 (d : Int), .int .i64 p, .int .i64 (nd : Int)] w fun e w' => e = .returned (.tuple #[.int .i64 ((nd : Int) + p), .int .i64 ((trimN (Lib.decDigits d) nd : Nat) : Int)]) ∧ Blk w' b t (bs (Lib.decDigits d ++ L.drop nd)) ∧ Fr (· = b) w w' := by
  have hlen : (Lib.decDigits d).length = nd := by rw [Lib.decDigits_length, hdig]
  refine setDigits_D w b t L hb hL d hd nd hn2 hnd _ hlen ?_ p hp0 hp1
  intro v' dk hi
  have hs := hi.size
  apply List.ext_getElem
  · rw [hlen]; simpa using hs
  · intro j h1 h2
    rw [hdig] at hi
    rw [Lib.row_is_numeral hi j h2, getElem!_pos dk j (by simpa using h1)]
    simp
/-- Of 0 no digit is written. -/
theorem setDigits_0 (w : World) (b : Nat) (t : TypeId) (L : List UInt8) (hb : Blk w b t (bs L)) (hL : L.length = 32) (p : Int) (hp0 : -3000 ≤ p) (hp1 : p ≤ 3000) :
    Calls Tryz.prog 141 #[.slice (some ⟨b, 0, none⟩) 32 32, .int .u64 0, .int .i64 p, .int .i64 0] w fun e w' => e = .returned (.tuple #[.int .i64 (0 + p), .int .i64 0]) ∧ Blk w' b t (bs L) ∧ Fr (· = b) w w' := by
  have h := setDigits_D w b t L hb hL 0 (by decide) 0 (by decide) (by decide) [] rfl (fun v' dk hi => by
    have hs := hi.size
    exact List.eq_nil_of_length_eq_zero (by simpa using hs)) p hp0 hp1
  exact h
end Go.Proofs.YtlepjghfcpgbcaaGreatDoor.Tr
/- ftoa64 at any float that is finite, in the shortest form. (gen/genfta.py) -/
namespace Go.Proofs.YtlepjghfcpgbcaaGreatDoor.Tr
open Go.RowKit

def TabU (w : World) : Prop := Lib.TabIs Tryz.prog w "internal/strconv.uint64pow10" .u64 Lib.pow10Tab
theorem TabU.env {w0 W : World} (h : TabU w0) (e : Env w0 W) : TabU W := by
  unfold TabU Lib.TabIs World.var? at *
  cases hg : Tryz.prog.globalNamed "internal/strconv.uint64pow10" with
  | none => simp [hg] at h
  | some g =>
    simp only [hg, Option.bind_some] at h ⊢
    have hb : g < w0.heap.size := by
      rcases Nat.lt_or_ge g w0.heap.size with hl | hl
      · exact hl
      · exfalso
        rw [Array.getElem?_eq_none hl] at h
        simp at h
    rw [e.2 g hb]
    exact h
theorem fbU_any (w : World) (f : Nat) : (callFunc 136 #[.float .f64 f]).run Tryz.prog w = .ok (.value (.int .u64 (f : Int))) w := by
  rw [run_callFunc_extern Tryz.func136 (by kernel_rfl) (by kernel_rfl) (by kernel_rfl) (e := Extern.MathFloatBits.float64bits) (by kernel_rfl)]
  rfl
set_option maxRecDepth 100000 in
theorem num_0 (w : World) (hT : TabU w) : Calls Tryz.prog 112 #[.int .u64 0] w fun e w' => e = .returned (.int .i64 0) ∧ w' = w := by
  have HL := hid (Tryz.bits_Len64 0 w (by decide) (by decide))
  have e0 : Lib.bitLen (0 : Int).toNat = 0 := by decide +kernel
  rw [e0] at HL
  have HK := hid (l10_any w 0 (by decide) (by decide))
  have e1 : l10 0 = 0 := by decide
  rw [e1] at HK
  have HB := hid (Tryz.internal_strconv_bool2_int false w)
  have hc : w.cell? ⟨3, 0, none⟩ = some (.int .u64 1) := Lib.TabIs.cell (g := 3) hT (by kernel_rfl) 0 (by decide)
  clear hT
  go_enter Tryz.func112, Tryz.ntmps112
  go_wp2_with fail
  refine HL.out.mono ?_
  rintro e w2 ⟨rfl, rfl⟩
  go_wp2_with fail
  refine HK.out.mono ?_
  rintro e w2 ⟨rfl, rfl⟩
  go_wp2_with fail
  refine HB.out.mono ?_
  rintro e w2 ⟨rfl, rfl⟩
  go_wp2_with fail
  go_ret
  exact ⟨rfl, rfl⟩
theorem num_any (w : World) (hT : TabU w) (d : Nat) (hd : d < 18446744073709551616) : Calls Tryz.prog 112 #[.int .u64 (d : Int)] w fun e w' => e = .returned (.int .i64 (ndD d : Int)) ∧ w' = w := by
  unfold ndD
  by_cases h : d = 0
  · subst h
    rw [if_pos rfl]
    exact num_0 w hT
  · rw [if_neg h]
    exact (Tryz.internal_strconv_numDigits d (by omega) hd w hT).mono (fun e w' hh => ⟨hh.1, hh.2⟩)
theorem setD_any (w : World) (b : Nat) (t : TypeId) (hb : Blk w b t (bs zz32)) (d : Nat) (hd : d < 18446744073709551616) (p : Int) (hp0 : -3000 ≤ p) (hp1 : p ≤ 3000) :
    Calls Tryz.prog 141 #[.slice (some ⟨b, 0, none⟩) 32 32, .int .u64 (d : Int), .int .i64 p, .int .i64 (ndD d : Int)] w fun e w' => e = .returned (.tuple #[.int .i64 ((ndD d : Int) + p), .int .i64 ((trimN (dgD d) (ndD d) : Nat) : Int)]) ∧ Blk w' b t (bs (dgD d ++ zz32.drop (ndD d))) ∧ Fr (· = b) w w' := by
  unfold ndD dgD
  by_cases h : d = 0
  · subst h
    simp only [if_pos]
    exact setDigits_0 w b t zz32 hb (by decide) p hp0 hp1
  · simp only [if_neg h]
    exact setDigitsU w b t zz32 hb (by decide) d hd _ (Lib.nDigits_le20 d hd) (Lib.lt_pow_nDigits d) rfl p hp0 hp1

set_option maxRecDepth 100000 in
set_option maxHeartbeats 8000000 in
theorem ftoa_f (w : World) {T : Nat → Nat × Nat} (hp : Pw w T) (htab : TabU w) (x : Nat) (hx : x < 18446744073709551616) (hf : fFld x ≠ 2047) (B : Nat) (v : Value) (hown : w.ownsRow B 5 1 v 0 (bs [])) (hB : B ≤ w.heap.size) :
    Calls Tryz.prog 120 #[v, .float .f64 x, .int .u8 102, .int .i64 (-1)] w fun e w' => ∃ v', e = .returned v' ∧ w'.ownsRow B 5 1 v' (ftF T x).length (bs (ftF T x)) ∧ Fr (fun k => B ≤ k) w w' := by
  have hfb := fun W => fbU_any W x
  obtain ⟨a0, c0, hv0⟩ := own_len hown
  subst hv0
  have a1 := bits_fld x hx
  have a2 := bits_ma x hx
  have hma := fMa_lt x
  have a0n : ((x : Int) / 9223372036854775808 != 0) = fNeg x := by
    unfold fNeg
    by_cases h : 9223372036854775808 ≤ x
    · rw [decide_eq_true h, bne_iff_ne]; omega
    · rw [decide_eq_false h, bne_eq_false_iff_eq]; omega
  have hf2 : ((fFld x : Int) == 2047) = false := by rw [beq_eq_false_iff_ne]; omega
  have hfl : fFld x < 2048 := Nat.mod_lt _ (by decide)
  have HP := hid hp
  have HTb := hid htab
  have HOw := hid hown
  have HBs := hid hB
  have HMa := hid (show fMa x = if fFld x = 0 then x % 4503599627370496 else x % 4503599627370496 + 4503599627370496 from rfl)
  have HEx := hid (show fEx x = if fFld x = 0 then 1 else fFld x from rfl)
  have HX : Hid (fMa x ≠ 0 → 9223372036854775808 ≤ fM x ∧ fM x + 2 ^ sfZ (fE x) ≤ 18446744073709551616 ∧ -1137 ≤ fE x ∧ fE x ≤ 960 ∧ 11 ≤ fS x ∧ fS x ≤ 63 ∧ Lib.bitLen (fMa x) + fS x = 64 ∧ fM x < 18446744073709551616) := fun h => f_ok x h hf
  have HE : Hid (fE x = (fEx x : Int) - 1023 - fS x - 52) := hid rfl
  have HM : Hid (fM x = fMa x * 2 ^ fS x) := hid rfl
  have hxm : x % 4503599627370496 < 4503599627370496 := Nat.mod_lt _ (by decide)
  have a3 := bits_im (x % 4503599627370496) hxm
  have HRes : Hid (ftF T x = if fMa x = 0 then efSign (fNeg x) ++ [48] else fF (fNeg x) (ftL T x) (ftP T x) (ftN T x)) := hid rfl
  generalize hR : ftF T x = R at *
  clear hown hB hp htab hR hf
  obtain ⟨N, hN⟩ : ∃ N, N = fNeg x := ⟨_, rfl⟩
  rw [← hN] at a0n HRes
  generalize hMM : fMa x = M at *
  generalize hFF : fFld x = F at *
  generalize hEE : fEx x = E0 at *
  generalize hQQ : x % 4503599627370496 = Q at *
  clear hMM hFF hEE hQQ hN
  go_enter Tryz.func120, Tryz.ntmps120
  go_wp2_with fail
  go_quiet (fail)
  have hF0 : Fr (fun k => B ≤ k) w (w.drewN nq) := (Fr.refl _ w).drewN nq
  have hp1 : Pw (w.drewN nq) T := HP.out
  have ht1 : TabU (w.drewN nq) := HTb.out
  have ho1 : (w.drewN nq).ownsRow B 5 1 (.slice a0 0 c0) 0 (bs []) := owns_of_eq HOw.out (fun _ _ => rfl)
  have hb1 : B ≤ (w.drewN nq).heap.size := HBs.out
  clear HP HTb HOw HBs
  have HF0 := hid hF0
  have HP := hid hp1
  have HTb := hid ht1
  have HOw := hid ho1
  have HBs := hid hb1
  clear hF0 hp1 ht1 ho1 hb1
  generalize w.drewN nq = W at *
  go_upto_if 78 with fail
  go_cut [14, 15] (fun ev mv wx => ev = .int .i64 (E0 : Int) ∧ mv = .int .u64 (M : Int) ∧ wx = W)
  case first =>
    by_cases hF : F = 0
    · have e1 : E0 = 1 := by rw [HEx.out, if_pos hF]
      have e2 : M = Q := by rw [HMa.out, if_pos hF]
      subst hF
      go_wp2_with fail
      all_goals go_meet
      exact ⟨by rw [e1]; rfl, by rw [e2], rfl⟩
    · have e1 : E0 = F := by rw [HEx.out, if_neg hF]
      have e2 : M = Q + 4503599627370496 := by rw [HMa.out, if_neg hF]
      have hF2 : ((F : Int) == 0) = false := by rw [beq_eq_false_iff_ne]; omega
      subst e1
      subst e2
      go_wp2_with fail
      all_goals go_meet
      exact ⟨rfl, rfl, rfl⟩
  case rest =>
    obtain ⟨rfl, rfl, rfl⟩ := hcut
    clear a1 a2 a3 HMa
    have hE0 : E0 ≤ 2047 := by have := HEx.out; split at this <;> omega
    clear HEx
    by_cases hM : M = 0
    · have hMz : ((M : Int) == 0) = true := by rw [hM]; rfl
      have hD : Dz B wc wc (.slice a0 0 c0) [] := ⟨HOw.out, Fr.refl _ _, HBs.out⟩
      have HZ := hid (efg_zero wc B _ hD N)
      have HR2 : Hid (R = efSign N ++ [48]) := by unfold Hid; rw [HRes.out, if_pos hM]
      clear hD
      go_wp2_with fail
      refine HZ.out.mono ?_
      rintro e w5 ⟨v5, rfl, d5⟩
      rw [← HR2.out] at d5
      have HE5 := hid (And.intro d5.own (HF0.out.trans d5.fr (fun i hi => .inl hi)))
      clear d5 HZ HF0
      go_wp2_with fail
      go_ret
      exact ⟨_, rfl, HE5.out⟩
    · have hM2 : ((M : Int) == 0) = false := by rw [beq_eq_false_iff_ne]; omega
      obtain ⟨hm63, hmz, hE1, hE2, hs1, hs2, hls, hm64⟩ := HX.out hM
      have hHL := Tryz.bits_Len64 (M : Int)
      rw [Int.toNat_natCast] at hHL
      have HSh : Hid (∀ W0, Pw W0 T → Calls Tryz.prog 146 #[.int .u64 (fM x : Int), .int .i64 (fE x)] W0 fun r w' => r = .returned (.tuple #[.int .u64 (ftd T x : Int), .int .i64 (ftp T x)]) ∧ Fr (fun _ => False) W0 w') := hid (fun W0 h0 => by
        have h := short_any h0 (fM x) (fE x) hm63 hmz hE1 hE2
        have e : (shF T (fM x) (fE x)).1 = (ftd T x : Int) := by
          have := shF_u T (fM x) (fE x)
          unfold ftd
          obtain ⟨q0, q1⟩ := this
          omega
        rw [e] at h
        exact h)
      have hdl := ftd_lt T x
      have hpp := shF_p T (fM x) (fE x) hE1 hE2
      have hP4 := ftP_ok T x hE1 hE2
      have hnl := ndD_le (ftd T x) hdl
      have HNn := hid (ftN_le T x)
      have HLl := hid (ftL_len T x)
      have HPe : Hid ((ndD (ftd T x) : Int) + ftp T x = ftP T x) := hid rfl
      have HLe : Hid (dgD (ftd T x) ++ zz32.drop (ndD (ftd T x)) = ftL T x) := hid rfl
      have HNe2 : Hid (trimN (dgD (ftd T x)) (ndD (ftd T x)) = ftN T x) := hid rfl
      have hww : IntKind.u64.wrap ((M : Int) * 2 ^ fS x) = (fM x : Int) := by
        have e : ((fM x : Nat) : Int) = (M : Int) * 2 ^ fS x := by rw [HM.out]; push_cast; rfl
        rw [← e, IntKind.wrap_u64]
        omega
      have hEi : (E0 : Int) + -1023 - (fS x : Int) - 52 = fE x := by have := HE.out; omega
      have HR2 : Hid (R = fF N (ftL T x) (ftP T x) (ftN T x)) := by
        have := HRes.out
        rw [if_neg hM] at this; exact this
      have HHL : Hid (∀ W0, Calls Tryz.prog 130 #[.int .u64 (M : Int)] W0 fun e w' => e = .returned (.int .i64 (Lib.bitLen M : Int)) ∧ W0 = w') := hid (fun W0 => (hHL W0 (by omega) (by omega)).mono (fun e w' hh => ⟨hh.1, hh.2.symm⟩))
      have hp3 : -349 ≤ ftp T x := hpp.1
      have hp4 : ftp T x ≤ 349 := hpp.2
      obtain ⟨hP5, hP6⟩ := hP4
      have hsl : (64 : Int) - (Lib.bitLen M : Int) = (fS x : Int) := by omega
      have hx63 : fS x < 64 := by omega
      clear HX HE HM hHL hpp hls HRes hm63 hmz hE1 hE2
      generalize hftd : ftd T x = D0 at *
      generalize hftp : ftp T x = P0 at *
      generalize hfE : fE x = EE at *
      generalize hfM : fM x = MM at *
      generalize hfS : fS x = SS at *
      generalize hfP : ftP T x = PP at *
      generalize hfL : ftL T x = LL at *
      generalize hfN : ftN T x = NN at *
      clear hftd hftp hfE hfM hfS hfP hfL hfN
      have HE0 : Hid (Env wc (wc.alloc (.cells (bs zz32).toArray 150))) := Env.alloc wc _
      have HB0 : Hid (Blk (wc.alloc (.cells (bs zz32).toArray 150)) wc.heap.size 150 (bs zz32)) := Blk.new wc _ _
      have HSc := hid (HSh.out _ (HP.out.env HE0.out))
      have HT := hid (HTb.out.env HE0.out)
      have HO := hid (owns_alloc HOw.out (.cells (bs zz32).toArray 150))
      have HF1 := hid (HF0.out.alloc (.cells (bs zz32).toArray 150))
      have HNe : Hid ((Value.slice a0 0 c0).ownBlock ≠ some wc.heap.size) := fun e => by
        have := (HOw.out.lt _ e).2
        omega
      have HSz : Hid ((wc.alloc (.cells (bs zz32).toArray 150)).heap.size = wc.heap.size + 1) := World.size_alloc _ _
      have hzz : (bs zz32).toArray = #[.int .u8 0, .int .u8 0, .int .u8 0, .int .u8 0, .int .u8 0, .int .u8 0, .int .u8 0, .int .u8 0, .int .u8 0, .int .u8 0, .int .u8 0, .int .u8 0, .int .u8 0, .int .u8 0, .int .u8 0, .int .u8 0, .int .u8 0, .int .u8 0, .int .u8 0, .int .u8 0, .int .u8 0, .int .u8 0, .int .u8 0, .int .u8 0, .int .u8 0, .int .u8 0, .int .u8 0, .int .u8 0, .int .u8 0, .int .u8 0, .int .u8 0, .int .u8 0] := by rfl
      rw [hzz] at HSc HT HO HF1 HB0 HSz HE0
      clear HSh HF0 HP HTb HOw hzz
      generalize hn : wc.heap.size = n at *
      go_wp2_with fail
      refine (HHL.out _).mono ?_
      rintro e w2 ⟨rfl, rfl⟩
      clear HHL
      go_wp2_with fail
      refine HSc.out.mono ?_
      rintro e w2 ⟨rfl, f2⟩
      have HB2 := hid (f2.blk HB0.out (fun h => h))
      have HT2 := hid (HT.out.env (Env.of f2))
      have HO2 := hid (owns_of_eq (w' := w2) HO.out (fun k hk => f2.block k (HO.out.lt k hk).2 (fun h => h)))
      have HF2 := hid (HF1.out.trans f2 (fun _ h => h.elim))
      have HS2 : Hid (n < w2.heap.size) := by have := f2.size; have := HSz.out; unfold Hid; omega
      clear f2 HSc HB0 HT HO HF1
      go_wp2_with fail
      have hz2 : Blk w2 n 150 (bs zz32) := HB2.out
      have HND : Hid (∀ W', W'.heap = w2.heap → Calls Tryz.prog 112 #[.int .u64 (D0 : Int)] W' fun e w' => e = .returned (.int .i64 (ndD D0 : Int)) ∧ w' = W') := fun W' hW =>
        num_any W' (HT2.out.env ⟨by rw [hW]; exact Nat.le_refl _, fun j _ => by rw [hW]⟩) D0 hdl
      have HSD : Hid (∀ W', W'.heap = w2.heap → Calls Tryz.prog 141 #[.slice (some ⟨n, 0, none⟩) 32 32, .int .u64 (D0 : Int), .int .i64 P0, .int .i64 (ndD D0 : Int)] W' fun e w' => e = .returned (.tuple #[.int .i64 PP, .int .i64 (NN : Int)]) ∧ Blk w' n 150 (bs LL) ∧ Fr (· = n) W' w') := fun W' hW => by
        have h := setD_any W' n 150 (hz2.of_eq (by rw [hW])) D0 hdl P0 (by omega) (by omega)
        rw [HPe.out, HLe.out, HNe2.out] at h
        exact h
      clear hz2 HB2 HT2
      go_region_held3 (fun _ => True) (exact trivial) (first
        | (go_at_call 112; refine (HND.out _ (by rfl)).mono ?_; rintro e w3 ⟨rfl, rfl⟩)
        | (go_at_call 141; refine (HSD.out _ (by rfl)).mono ?_; rintro e w4 ⟨rfl, b4, f4⟩))
      have hD : Dst B n 150 (bs LL) w4 w4 (.slice a0 0 c0) [] := by
        refine ⟨owns_of_eq HO2.out (fun k hk => f4.block k (HO2.out.lt k hk).2 (fun e => HNe.out (by rw [hk, e]))), HNe.out, b4, Fr.refl _ _, ?_⟩
        have h1 := HBs.out
        have h2 := HS2.out
        have h3 : w2.heap.size ≤ w4.heap.size := f4.size
        omega
      have HF4 : Hid (Fr (fun k => B ≤ k) w w4) := HF2.out.drew.trans f4 (fun i hi => .inl (by rw [hi]; exact HBs.out))
      have hmx : max ((NN : Int) - PP) 0 = (if (0 : Int) ≤ (NN : Int) - PP then (NN : Int) - PP else 0) := by split <;> omega
      obtain ⟨prec, hprec⟩ : ∃ q, q = max ((NN : Int) - PP) 0 := ⟨_, rfl⟩
      have HEf := hid (efg_f w4 B n 150 LL _ [] hD HLl.out (by decide) N PP hP5 hP6 NN HNn.out prec (by omega))
      have hm1 : max ((NN : Int) - PP) 0 = prec := hprec.symm
      have hm2 : (if (NN : Int) - PP ≤ 0 then 0 else (NN : Int) - PP) = prec := by split <;> omega
      have hm3 : (if (0 : Int) ≤ (NN : Int) - PP then (NN : Int) - PP else 0) = prec := by split <;> omega
      have hNN := HNn.out
      clear hmx hprec
      clear hD f4 b4 HND HSD HF2 HO2
      go_wp2_with fail
      refine HEf.out.mono ?_
      rintro e w5 ⟨v5, rfl, d5⟩
      rw [List.nil_append, ← HR2.out] at d5
      have HE5 := hid (And.intro d5.own (HF4.out.trans d5.fr (fun i hi => .inl hi)))
      clear d5 HEf HF4
      go_wp2_with fail
      go_ret
      exact ⟨_, rfl, HE5.out⟩

end Go.Proofs.YtlepjghfcpgbcaaGreatDoor.Tr
/- ftoa64 with an exponent. (gen/genfta.py) -/
namespace Go.Proofs.YtlepjghfcpgbcaaGreatDoor.Tr
open Go.RowKit

theorem efg_e (w : World) (B b : Nat) (t : TypeId) (L : List UInt8) (v : Value) (S : List UInt8) (hD : Dst B b t (bs L) w w v S) (hL : L.length = 32) (hS : S.length ≤ 100) (neg : Bool) (dp : Int) (h0 : -400 ≤ dp) (h1 : dp ≤ 400) (nd : Nat) (h2 : nd ≤ 20) (prec : Int) (hp : prec = ((nd - 1 : Nat) : Int)) :
    Calls Tryz.prog 139 #[v, .bool neg, .slice (some ⟨b, 0, none⟩) 32 32, .int .i64 dp, .int .i64 (nd : Int), .int .i64 prec, .int .u8 101, .bool true] w fun e w' => ∃ v', e = .returned v' ∧ Dst B b t (bs L) w w' v' (S ++ eF neg L dp nd) := by
  by_cases c0 : nd = 0
  · exact efg_e0 w B b t L v S hD hL hS neg dp h0 h1 nd h2 prec hp c0
  · by_cases c1 : nd = 1
    · exact efg_e1 w B b t L v S hD hL hS neg dp h0 h1 nd h2 prec hp c1
    · exact efg_e2 w B b t L v S hD hL hS neg dp h0 h1 nd h2 prec hp (by omega)

set_option maxRecDepth 100000 in
set_option maxHeartbeats 8000000 in
theorem ftoa_e (w : World) {T : Nat → Nat × Nat} (hp : Pw w T) (htab : TabU w) (x : Nat) (hx : x < 18446744073709551616) (hf : fFld x ≠ 2047) (hnz : fMa x ≠ 0) (B : Nat) (v : Value) (hown : w.ownsRow B 5 1 v 0 (bs [])) (hB : B ≤ w.heap.size) :
    Calls Tryz.prog 120 #[v, .float .f64 x, .int .u8 101, .int .i64 (-1)] w fun e w' => ∃ v', e = .returned v' ∧ w'.ownsRow B 5 1 v' (ftX T x).length (bs (ftX T x)) ∧ Fr (fun k => B ≤ k) w w' := by
  have HNz := hid hnz
  clear hnz
  have hfb := fun W => fbU_any W x
  obtain ⟨a0, c0, hv0⟩ := own_len hown
  subst hv0
  have a1 := bits_fld x hx
  have a2 := bits_ma x hx
  have hma := fMa_lt x
  have a0n : ((x : Int) / 9223372036854775808 != 0) = fNeg x := by
    unfold fNeg
    by_cases h : 9223372036854775808 ≤ x
    · rw [decide_eq_true h, bne_iff_ne]; omega
    · rw [decide_eq_false h, bne_eq_false_iff_eq]; omega
  have hf2 : ((fFld x : Int) == 2047) = false := by rw [beq_eq_false_iff_ne]; omega
  have hfl : fFld x < 2048 := Nat.mod_lt _ (by decide)
  have HP := hid hp
  have HTb := hid htab
  have HOw := hid hown
  have HBs := hid hB
  have HMa := hid (show fMa x = if fFld x = 0 then x % 4503599627370496 else x % 4503599627370496 + 4503599627370496 from rfl)
  have HEx := hid (show fEx x = if fFld x = 0 then 1 else fFld x from rfl)
  have HX : Hid (fMa x ≠ 0 → 9223372036854775808 ≤ fM x ∧ fM x + 2 ^ sfZ (fE x) ≤ 18446744073709551616 ∧ -1137 ≤ fE x ∧ fE x ≤ 960 ∧ 11 ≤ fS x ∧ fS x ≤ 63 ∧ Lib.bitLen (fMa x) + fS x = 64 ∧ fM x < 18446744073709551616) := fun h => f_ok x h hf
  have HE : Hid (fE x = (fEx x : Int) - 1023 - fS x - 52) := hid rfl
  have HM : Hid (fM x = fMa x * 2 ^ fS x) := hid rfl
  have hxm : x % 4503599627370496 < 4503599627370496 := Nat.mod_lt _ (by decide)
  have a3 := bits_im (x % 4503599627370496) hxm
  have HRes : Hid (ftX T x = eF (fNeg x) (ftL T x) (ftP T x) (ftN T x)) := hid rfl
  generalize hR : ftX T x = R at *
  clear hown hB hp htab hR hf
  obtain ⟨N, hN⟩ : ∃ N, N = fNeg x := ⟨_, rfl⟩
  rw [← hN] at a0n HRes
  generalize hMM : fMa x = M at *
  generalize hFF : fFld x = F at *
  generalize hEE : fEx x = E0 at *
  generalize hQQ : x % 4503599627370496 = Q at *
  clear hMM hFF hEE hQQ hN
  go_enter Tryz.func120, Tryz.ntmps120
  go_wp2_with fail
  go_quiet (fail)
  have hF0 : Fr (fun k => B ≤ k) w (w.drewN nq) := (Fr.refl _ w).drewN nq
  have hp1 : Pw (w.drewN nq) T := HP.out
  have ht1 : TabU (w.drewN nq) := HTb.out
  have ho1 : (w.drewN nq).ownsRow B 5 1 (.slice a0 0 c0) 0 (bs []) := owns_of_eq HOw.out (fun _ _ => rfl)
  have hb1 : B ≤ (w.drewN nq).heap.size := HBs.out
  clear HP HTb HOw HBs
  have HF0 := hid hF0
  have HP := hid hp1
  have HTb := hid ht1
  have HOw := hid ho1
  have HBs := hid hb1
  clear hF0 hp1 ht1 ho1 hb1
  generalize w.drewN nq = W at *
  go_upto_if 78 with fail
  go_cut [14, 15] (fun ev mv wx => ev = .int .i64 (E0 : Int) ∧ mv = .int .u64 (M : Int) ∧ wx = W)
  case first =>
    by_cases hF : F = 0
    · have e1 : E0 = 1 := by rw [HEx.out, if_pos hF]
      have e2 : M = Q := by rw [HMa.out, if_pos hF]
      subst hF
      go_wp2_with fail
      all_goals go_meet
      exact ⟨by rw [e1]; rfl, by rw [e2], rfl⟩
    · have e1 : E0 = F := by rw [HEx.out, if_neg hF]
      have e2 : M = Q + 4503599627370496 := by rw [HMa.out, if_neg hF]
      have hF2 : ((F : Int) == 0) = false := by rw [beq_eq_false_iff_ne]; omega
      subst e1
      subst e2
      go_wp2_with fail
      all_goals go_meet
      exact ⟨rfl, rfl, rfl⟩
  case rest =>
    obtain ⟨rfl, rfl, rfl⟩ := hcut
    clear a1 a2 a3 HMa
    have hE0 : E0 ≤ 2047 := by have := HEx.out; split at this <;> omega
    clear HEx
    by_cases hM : M = 0
    · exact absurd hM HNz.out
    · have hM2 : ((M : Int) == 0) = false := by rw [beq_eq_false_iff_ne]; omega
      obtain ⟨hm63, hmz, hE1, hE2, hs1, hs2, hls, hm64⟩ := HX.out hM
      have hHL := Tryz.bits_Len64 (M : Int)
      rw [Int.toNat_natCast] at hHL
      have HSh : Hid (∀ W0, Pw W0 T → Calls Tryz.prog 146 #[.int .u64 (fM x : Int), .int .i64 (fE x)] W0 fun r w' => r = .returned (.tuple #[.int .u64 (ftd T x : Int), .int .i64 (ftp T x)]) ∧ Fr (fun _ => False) W0 w') := hid (fun W0 h0 => by
        have h := short_any h0 (fM x) (fE x) hm63 hmz hE1 hE2
        have e : (shF T (fM x) (fE x)).1 = (ftd T x : Int) := by
          have := shF_u T (fM x) (fE x)
          unfold ftd
          obtain ⟨q0, q1⟩ := this
          omega
        rw [e] at h
        exact h)
      have hdl := ftd_lt T x
      have hpp := shF_p T (fM x) (fE x) hE1 hE2
      have hP4 := ftP_ok T x hE1 hE2
      have hnl := ndD_le (ftd T x) hdl
      have HNn := hid (ftN_le T x)
      have HLl := hid (ftL_len T x)
      have HPe : Hid ((ndD (ftd T x) : Int) + ftp T x = ftP T x) := hid rfl
      have HLe : Hid (dgD (ftd T x) ++ zz32.drop (ndD (ftd T x)) = ftL T x) := hid rfl
      have HNe2 : Hid (trimN (dgD (ftd T x)) (ndD (ftd T x)) = ftN T x) := hid rfl
      have hww : IntKind.u64.wrap ((M : Int) * 2 ^ fS x) = (fM x : Int) := by
        have e : ((fM x : Nat) : Int) = (M : Int) * 2 ^ fS x := by rw [HM.out]; push_cast; rfl
        rw [← e, IntKind.wrap_u64]
        omega
      have hEi : (E0 : Int) + -1023 - (fS x : Int) - 52 = fE x := by have := HE.out; omega
      have HR2 : Hid (R = eF N (ftL T x) (ftP T x) (ftN T x)) := by
        have := HRes.out
        exact this
      have HHL : Hid (∀ W0, Calls Tryz.prog 130 #[.int .u64 (M : Int)] W0 fun e w' => e = .returned (.int .i64 (Lib.bitLen M : Int)) ∧ W0 = w') := hid (fun W0 => (hHL W0 (by omega) (by omega)).mono (fun e w' hh => ⟨hh.1, hh.2.symm⟩))
      have hp3 : -349 ≤ ftp T x := hpp.1
      have hp4 : ftp T x ≤ 349 := hpp.2
      obtain ⟨hP5, hP6⟩ := hP4
      have hsl : (64 : Int) - (Lib.bitLen M : Int) = (fS x : Int) := by omega
      have hx63 : fS x < 64 := by omega
      clear HX HE HM hHL hpp hls HRes hm63 hmz hE1 hE2
      generalize hftd : ftd T x = D0 at *
      generalize hftp : ftp T x = P0 at *
      generalize hfE : fE x = EE at *
      generalize hfM : fM x = MM at *
      generalize hfS : fS x = SS at *
      generalize hfP : ftP T x = PP at *
      generalize hfL : ftL T x = LL at *
      generalize hfN : ftN T x = NN at *
      clear hftd hftp hfE hfM hfS hfP hfL hfN
      have HE0 : Hid (Env wc (wc.alloc (.cells (bs zz32).toArray 150))) := Env.alloc wc _
      have HB0 : Hid (Blk (wc.alloc (.cells (bs zz32).toArray 150)) wc.heap.size 150 (bs zz32)) := Blk.new wc _ _
      have HSc := hid (HSh.out _ (HP.out.env HE0.out))
      have HT := hid (HTb.out.env HE0.out)
      have HO := hid (owns_alloc HOw.out (.cells (bs zz32).toArray 150))
      have HF1 := hid (HF0.out.alloc (.cells (bs zz32).toArray 150))
      have HNe : Hid ((Value.slice a0 0 c0).ownBlock ≠ some wc.heap.size) := fun e => by
        have := (HOw.out.lt _ e).2
        omega
      have HSz : Hid ((wc.alloc (.cells (bs zz32).toArray 150)).heap.size = wc.heap.size + 1) := World.size_alloc _ _
      have hzz : (bs zz32).toArray = #[.int .u8 0, .int .u8 0, .int .u8 0, .int .u8 0, .int .u8 0, .int .u8 0, .int .u8 0, .int .u8 0, .int .u8 0, .int .u8 0, .int .u8 0, .int .u8 0, .int .u8 0, .int .u8 0, .int .u8 0, .int .u8 0, .int .u8 0, .int .u8 0, .int .u8 0, .int .u8 0, .int .u8 0, .int .u8 0, .int .u8 0, .int .u8 0, .int .u8 0, .int .u8 0, .int .u8 0, .int .u8 0, .int .u8 0, .int .u8 0, .int .u8 0, .int .u8 0] := by rfl
      rw [hzz] at HSc HT HO HF1 HB0 HSz HE0
      clear HSh HF0 HP HTb HOw hzz
      generalize hn : wc.heap.size = n at *
      go_wp2_with fail
      refine (HHL.out _).mono ?_
      rintro e w2 ⟨rfl, rfl⟩
      clear HHL
      go_wp2_with fail
      refine HSc.out.mono ?_
      rintro e w2 ⟨rfl, f2⟩
      have HB2 := hid (f2.blk HB0.out (fun h => h))
      have HT2 := hid (HT.out.env (Env.of f2))
      have HO2 := hid (owns_of_eq (w' := w2) HO.out (fun k hk => f2.block k (HO.out.lt k hk).2 (fun h => h)))
      have HF2 := hid (HF1.out.trans f2 (fun _ h => h.elim))
      have HS2 : Hid (n < w2.heap.size) := by have := f2.size; have := HSz.out; unfold Hid; omega
      clear f2 HSc HB0 HT HO HF1
      go_wp2_with fail
      have hz2 : Blk w2 n 150 (bs zz32) := HB2.out
      have HND : Hid (∀ W', W'.heap = w2.heap → Calls Tryz.prog 112 #[.int .u64 (D0 : Int)] W' fun e w' => e = .returned (.int .i64 (ndD D0 : Int)) ∧ w' = W') := fun W' hW =>
        num_any W' (HT2.out.env ⟨by rw [hW]; exact Nat.le_refl _, fun j _ => by rw [hW]⟩) D0 hdl
      have HSD : Hid (∀ W', W'.heap = w2.heap → Calls Tryz.prog 141 #[.slice (some ⟨n, 0, none⟩) 32 32, .int .u64 (D0 : Int), .int .i64 P0, .int .i64 (ndD D0 : Int)] W' fun e w' => e = .returned (.tuple #[.int .i64 PP, .int .i64 (NN : Int)]) ∧ Blk w' n 150 (bs LL) ∧ Fr (· = n) W' w') := fun W' hW => by
        have h := setD_any W' n 150 (hz2.of_eq (by rw [hW])) D0 hdl P0 (by omega) (by omega)
        rw [HPe.out, HLe.out, HNe2.out] at h
        exact h
      clear hz2 HB2 HT2
      go_region_held3 (fun _ => True) (exact trivial) (first
        | (go_at_call 112; refine (HND.out _ (by rfl)).mono ?_; rintro e w3 ⟨rfl, rfl⟩)
        | (go_at_call 141; refine (HSD.out _ (by rfl)).mono ?_; rintro e w4 ⟨rfl, b4, f4⟩))
      have hD : Dst B n 150 (bs LL) w4 w4 (.slice a0 0 c0) [] := by
        refine ⟨owns_of_eq HO2.out (fun k hk => f4.block k (HO2.out.lt k hk).2 (fun e => HNe.out (by rw [hk, e]))), HNe.out, b4, Fr.refl _ _, ?_⟩
        have h1 := HBs.out
        have h2 := HS2.out
        have h3 : w2.heap.size ≤ w4.heap.size := f4.size
        omega
      have HF4 : Hid (Fr (fun k => B ≤ k) w w4) := HF2.out.drew.trans f4 (fun i hi => .inl (by rw [hi]; exact HBs.out))
      obtain ⟨prec, hprec⟩ : ∃ q : Int, q = max ((NN : Int) - 1) 0 := ⟨_, rfl⟩
      have HEf := hid (efg_e w4 B n 150 LL _ [] hD HLl.out (by decide) N PP hP5 hP6 NN HNn.out prec (by omega))
      have hm1 : max ((NN : Int) - 1) 0 = prec := hprec.symm
      have hm2 : (if (NN : Int) - 1 ≤ 0 then 0 else (NN : Int) - 1) = prec := by split <;> omega
      have hm3 : (if (0 : Int) ≤ (NN : Int) - 1 then (NN : Int) - 1 else 0) = prec := by split <;> omega
      have hNN := HNn.out
      clear hprec
      clear hD f4 b4 HND HSD HF2 HO2
      go_wp2_with fail
      refine HEf.out.mono ?_
      rintro e w5 ⟨v5, rfl, d5⟩
      rw [List.nil_append, ← HR2.out] at d5
      have HE5 := hid (And.intro d5.own (HF4.out.trans d5.fr (fun i hi => .inl hi)))
      clear d5 HEf HF4
      go_wp2_with fail
      go_ret
      exact ⟨_, rfl, HE5.out⟩

end Go.Proofs.YtlepjghfcpgbcaaGreatDoor.Tr
