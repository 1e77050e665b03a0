/- FormatFloat at 100. -/
import Derived.Test.YtlepjghfcpgbcaaGreatDoorFme
import Derived.Test.YtlepjghfcpgbcaaGreatDoorFlb
import Derived.Deep.RegionHeld3
namespace Go.Proofs.YtlepjghfcpgbcaaGreatDoor.Tr
open Go.RowKit

def Tab (w : World) : Prop := Lib.TabIs Tryz.prog w "internal/strconv.uint64pow10" .u64 Lib.pow10Tab
theorem Tab.env {w0 W : World} (h : Tab w0) (e : Env w0 W) : Tab W := by
  unfold Tab Lib.TabIs World.var? at *
  cases hg : Tryz.prog.globalNamed "internal/strconv.uint64pow10" with
  | none => simp [hg] at h
  | some g =>
    simp only [hg, Option.bind_some] at h ⊢
    have hb : g < w0.heap.size := by
      rcases Nat.lt_or_ge g w0.heap.size with hl | hl
      · exact hl
      · exfalso
        rw [Array.getElem?_eq_none hl] at h
        simp at h
    rw [e.2 g hb]
    exact h
/-- The tables that the text of 100 asks. -/
structure Tw (w : World) : Prop where
  pw : ∃ T, Pw w T ∧ T 362 = (13107200000000000000, 0)
  tab : Tab w
theorem Tw.env {w0 W : World} (h : Tw w0) (e : Env w0 W) : Tw W := by
  obtain ⟨⟨T, h1, h2⟩, h3⟩ := h
  exact ⟨⟨T, h1.env e, h2⟩, h3.env e⟩
theorem fb_any (w : World) (f : Nat) : (callFunc 136 #[.float .f64 f]).run Tryz.prog w = .ok (.value (.int .u64 (f : Int))) w := by
  rw [run_callFunc_extern Tryz.func136 (by kernel_rfl) (by kernel_rfl) (by kernel_rfl) (e := Extern.MathFloatBits.float64bits) (by kernel_rfl)]
  rfl
def z32 : List UInt8 := List.replicate 32 0

set_option maxRecDepth 100000 in
set_option maxHeartbeats 4000000 in
theorem ftoa_100 (w : World) (hT : Tw w) (B : Nat) (v : Value) (hown : w.ownsRow B 5 1 v 0 (bs [])) (hB : B ≤ w.heap.size) :
    Calls Tryz.prog 120 #[v, .float .f64 4636737291354636288, .int .u8 102, .int .i64 (-1)] w fun e w' => ∃ v', e = .returned v' ∧ w'.ownsRow B 5 1 v' 3 (bs [49, 48, 48]) ∧ Fr (fun k => B ≤ k) w w' := by
  obtain ⟨⟨T, hp, h362⟩, htab⟩ := hT
  have hfb := fun W => fb_any W 4636737291354636288
  obtain ⟨a0, c0, hv0⟩ := own_len hown
  subst hv0
  have a1 : bits BinOp.and .i64 1029 2047 = 1029 := by decide +kernel
  have a2 : bits BinOp.and .u64 4636737291354636288 4503599627370495 = 2533274790395904 := by decide +kernel
  have a3 : bits BinOp.or .u64 2533274790395904 4503599627370496 = 7036874417766400 := by decide +kernel
  have HL := hid (fun W => Tryz.bits_Len64 7036874417766400 W (by decide) (by decide))
  have hl : Lib.bitLen (7036874417766400 : Int).toNat = 53 := by decide +kernel
  rw [hl] at HL
  have HP := hid hp
  have HTb := hid htab
  have HOw := hid hown
  have HBs := hid hB
  clear hown hB hp htab
  go_enter Tryz.func120, Tryz.ntmps120
  go_wp2_with fail
  go_quiet (fail)
  have hF0 : Fr (fun k => B ≤ k) w (w.drewN nq) := (Fr.refl _ w).drewN nq
  have hp1 : Pw (w.drewN nq) T := HP.out
  have ht1 : Tab (w.drewN nq) := HTb.out
  have ho1 : (w.drewN nq).ownsRow B 5 1 (.slice a0 0 c0) 0 (bs []) := owns_of_eq HOw.out (fun _ _ => rfl)
  have hb1 : B ≤ (w.drewN nq).heap.size := HBs.out
  clear HP HTb HOw HBs
  generalize w.drewN nq = W at *
  have HE0 : Hid (Env W (W.alloc (.cells (bs z32).toArray 150))) := Env.alloc W _
  have HB0 : Hid (Blk (W.alloc (.cells (bs z32).toArray 150)) W.heap.size 150 (bs z32)) := Blk.new W _ _
  have HSh := hid (short_100 (hp1.env HE0.out) h362)
  have HT := hid (ht1.env HE0.out)
  have HO := hid (owns_alloc ho1 (.cells (bs z32).toArray 150))
  have HF1 := hid (hF0.alloc (.cells (bs z32).toArray 150))
  have HBs := hid hb1
  have HNe : Hid ((Value.slice a0 0 c0).ownBlock ≠ some W.heap.size) := fun e => by
    have := (ho1.lt _ e).2
    omega
  have HSz : Hid ((W.alloc (.cells (bs z32).toArray 150)).heap.size = W.heap.size + 1) := World.size_alloc _ _
  have hzz : (bs z32).toArray = #[.int .u8 0, .int .u8 0, .int .u8 0, .int .u8 0, .int .u8 0, .int .u8 0, .int .u8 0, .int .u8 0, .int .u8 0, .int .u8 0, .int .u8 0, .int .u8 0, .int .u8 0, .int .u8 0, .int .u8 0, .int .u8 0, .int .u8 0, .int .u8 0, .int .u8 0, .int .u8 0, .int .u8 0, .int .u8 0, .int .u8 0, .int .u8 0, .int .u8 0, .int .u8 0, .int .u8 0, .int .u8 0, .int .u8 0, .int .u8 0, .int .u8 0, .int .u8 0] := by rfl
  rw [hzz] at HSh HT HO HF1 HB0 HSz HE0
  clear hF0 hp1 ht1 ho1 hb1 hzz
  generalize hn : W.heap.size = n at *
  go_wp2_with fail
  refine (HL.out _).mono ?_
  rintro e w2 ⟨rfl, hw⟩
  rw [hw]
  clear hw w2 HL
  go_wp2_with fail
  refine HSh.out.mono ?_
  rintro e w2 ⟨rfl, f2⟩
  have HB2 := hid (f2.blk HB0.out (fun h => h))
  have HT2 := hid (HT.out.env (Env.of f2))
  have HO2 := hid (owns_of_eq (w' := w2) HO.out (fun k hk => f2.block k (HO.out.lt k hk).2 (fun h => h)))
  have HF2 := hid (HF1.out.trans f2 (fun _ h => h.elim))
  have HS2 : Hid (n < w2.heap.size) := by have := f2.size; have := HSz.out; unfold Hid; omega
  clear f2 HSh HB0 HT HO HF1
  go_wp2_with fail
  have hz2 : Blk w2 n 150 (bs z32) := HB2.out
  have HND : Hid (∀ W', W'.heap = w2.heap → Calls Tryz.prog 112 #[.int .u64 1000000000000000] W' fun e w' => e = .returned (.int .i64 16) ∧ w' = W') := fun W' hW => by
    have ht : Tab W' := HT2.out.env ⟨by rw [hW]; exact Nat.le_refl _, fun j _ => by rw [hW]⟩
    have h := Tryz.internal_strconv_numDigits 1000000000000000 (by decide) (by decide) W' ht
    have e : Lib.nDigits 1000000000000000 = 16 := by decide +kernel
    rw [e] at h
    exact h
  have HSD : Hid (∀ W', W'.heap = w2.heap → Calls Tryz.prog 141 #[.slice (some ⟨n, 0, none⟩) 32 32, .int .u64 1000000000000000, .int .i64 (-13), .int .i64 16] W' fun e w' => e = .returned (.tuple #[.int .i64 3, .int .i64 1]) ∧ Blk w' n 150 (bs (Lib.decDigits 1000000000000000 ++ z32.drop 16)) ∧ Fr (· = n) W' w') := fun W' hW => by
    have h := setDigits_any W' n 150 z32 (hz2.of_eq (by rw [hW])) (by decide) 1000000000000000 (by decide) 16 (by decide) (by decide) (by decide) (by decide +kernel) (-13) (by decide) (by decide)
    have e : trimN (Lib.decDigits 1000000000000000) 16 = 1 := by decide +kernel
    rw [e] at h
    exact h
  clear hz2 HB2 HT2
  go_region_held3 (fun _ => True) (exact trivial) (first
    | (go_at_call 112; refine (HND.out _ (by rfl)).mono ?_; rintro e w3 ⟨rfl, rfl⟩)
    | (go_at_call 141; refine (HSD.out _ (by rfl)).mono ?_; rintro e w4 ⟨rfl, b4, f4⟩))
  have hD : Dst B n 150 (bs (Lib.decDigits 1000000000000000 ++ z32.drop 16)) w4 w4 (.slice a0 0 c0) [] := by
    refine ⟨owns_of_eq HO2.out (fun k hk => f4.block k (HO2.out.lt k hk).2 (fun e => HNe.out (by rw [hk, e]))), HNe.out, b4, Fr.refl _ _, ?_⟩
    have h1 := HBs.out
    have h2 := HS2.out
    have h3 : w2.heap.size ≤ w4.heap.size := f4.size
    omega
  have HF4 : Hid (Fr (fun k => B ≤ k) w w4) := HF2.out.drew.trans f4 (fun i hi => .inl (by rw [hi]; exact HBs.out))
  have HEf := hid (efg_whole w4 B n 150 _ _ [] hD (by decide +kernel) (by decide) 3 1 (by decide) (by decide) (by decide))
  have HX : Hid (([] : List UInt8) ++ (Lib.decDigits 1000000000000000 ++ z32.drop 16).take (min 1 3) ++ List.replicate (3 - min 1 3) 48 = [49, 48, 48]) := by unfold Hid; decide +kernel
  rw [HX.out] at HEf
  clear hD f4 b4 HND HSD HX HF2 HO2
  go_wp2_with fail
  refine HEf.out.mono ?_
  rintro e w5 ⟨v5, rfl, d5⟩
  obtain ⟨a5, c5, hv5⟩ := own_len d5.own
  subst hv5
  have HE5 : Hid (w5.ownsRow B 5 1 (.slice a5 3 c5) 3 (bs [49, 48, 48]) ∧ Fr (fun k => B ≤ k) w w5) := ⟨d5.own, HF4.out.trans d5.fr (fun i hi => .inl hi)⟩
  clear d5 HEf HF4
  go_wp2_with fail
  go_ret
  exact ⟨_, rfl, HE5.out⟩

theorem src_row {w : World} {B : Nat} {a : Option Addr} {c : Nat} {b : List UInt8} (h : w.ownsRow B 5 1 (.slice a b.length c) b.length (bs b)) : Src w a b := src_own h

theorem make24 (w : World) : (Instr.makeSlice 66 (.int .i64 0) (.int .i64 24)).run Tryz.prog w = .ok (.slice (some ⟨w.heap.size, 0, none⟩) 0 24) (w.alloc (.cells (List.replicate 24 (Value.int .u8 0)).toArray 5)) := by
  obtain ⟨i, hi, hz, hs, hb⟩ := info_parts info5
  have h := run_make (P := Tryz.prog) w 66 5 i (.int .u8 0) Tryz.underlying66 hi hz .i64 .i64 0 24 (by omega) (by decide) (by rw [hb]; decide) (by decide)
  rw [h, hs]
  have e : madeCells (Value.int .u8 0).cells 24 = (List.replicate 24 (Value.int .u8 0)).toArray := by
    apply Array.toList_inj.1
    exact toList_madeCells_one (.int .u8 0) 24
  rw [show (24 : Int).toNat * 1 = 24 from rfl, e]
  rfl
theorem own24 (w : World) : (w.alloc (.cells (List.replicate 24 (Value.int .u8 0)).toArray 5)).ownsRow w.heap.size 5 1 (.slice (some ⟨w.heap.size, 0, none⟩) 0 24) 0 (bs []) :=
  ⟨rfl, .inr ⟨w.heap.size, 24, _, rfl, Nat.le_refl _, heap_alloc_new w _, by decide, by unfold maxLen; decide, by rfl, by rfl⟩⟩

set_option maxRecDepth 100000 in
set_option maxHeartbeats 4000000 in
theorem fmtf_100 (w : World) (hT : Tw w) : Calls Tryz.prog 103 #[.float .f64 4636737291354636288, .int .u8 102, .int .i64 (-1), .int .i64 64] w fun e w' => e = .returned (.string ⟨#[49, 48, 48]⟩) ∧ Fr (fun _ => False) w w' := by
  have hm : max (3 : Int) 24 = 24 := by decide
  have hmk := make24 w
  have HC := hid (ftoa_100 _ (hT.env (Env.alloc w (.cells (List.replicate 24 (Value.int .u8 0)).toArray 5))) w.heap.size _ (own24 w) (by rw [World.size_alloc]; omega))
  have HF : Hid (Fr (fun _ => False) w (w.alloc (.cells (List.replicate 24 (Value.int .u8 0)).toArray 5))) := (Fr.refl _ w).alloc _
  clear hT
  generalize (List.replicate 24 (Value.int .u8 0)).toArray = Z at *
  go_enter Tryz.func103, Tryz.ntmps103
  go_wp2_with fail
  refine HC.out.mono ?_
  rintro e w2 ⟨v2, rfl, o2, f2⟩
  obtain ⟨a2, c2, hv2⟩ := own_len o2
  subst hv2
  have hcv := conv_bytes (b := [49, 48, 48]) (src_own o2) c2
  simp only [List.length_cons, List.length_nil] at hcv
  have HF2 : Hid (Fr (fun _ => False) w w2) := HF.out.trans f2 (fun i hi => .inr hi)
  clear o2 f2 HC HF
  go_wp2_with fail
  go_ret
  exact ⟨rfl, HF2.out⟩
set_option maxRecDepth 100000 in
set_option maxHeartbeats 4000000 in
theorem pfmtf_100 (w : World) (hT : Tw w) : Calls Tryz.prog 75 #[.float .f64 4636737291354636288, .int .u8 102, .int .i64 (-1), .int .i64 64] w fun e w' => e = .returned (.string ⟨#[49, 48, 48]⟩) ∧ Fr (fun _ => False) w w' := by
  have HC := hid (fmtf_100 w hT)
  clear hT
  go_enter Tryz.func75, Tryz.ntmps75
  go_wp2_with fail
  refine HC.out.mono ?_
  rintro e w2 ⟨rfl, f2⟩
  have HF2 := hid f2
  clear f2 HC
  go_wp2_with fail
  go_ret
  exact ⟨rfl, HF2.out⟩
end Go.Proofs.YtlepjghfcpgbcaaGreatDoor.Tr
