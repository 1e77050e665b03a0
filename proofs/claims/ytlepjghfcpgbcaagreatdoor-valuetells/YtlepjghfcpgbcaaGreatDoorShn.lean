/- Text and Show of an int; shown. -/
import Derived.Test.YtlepjghfcpgbcaaGreatDoorRkn
import Derived.Test.YtlepjghfcpgbcaaGreatDoorFmg
import Derived.Lib.ItoaLen
namespace Go.Proofs.YtlepjghfcpgbcaaGreatDoor.Tr
open Go.RowKit

theorem fr_grow {w : World} (k : Nat) (os : Array Obj) : Fr (fun _ => False) w (Sort.grow (w.drewN k) os) :=
  ⟨rfl, rfl, rfl, by simp [Sort.grow], fun i hi _ => by rw [Sort.heap_grow_old _ _ (by simpa using hi)]; rfl⟩
theorem itoa_int (n : Int) (h : I64 n) {w W : World} (hT : Tab w) (e : Env w W) : Calls Tryz.prog 43 #[.int .i64 n, .int .i64 10] W fun e w' => e = .returned (.string ⟨(Lib.itoa n).toArray⟩) ∧ Fr (fun _ => False) W w' := by
  refine (Tryz.strconv_FormatInt_10 n h.1 h.2 W (hT.env e)).mono fun r w' hh => ⟨hh.1, ?_⟩
  obtain ⟨k, os, rfl⟩ := hh.2
  exact fr_grow k os

theorem itoa_len {n : Int} (h : I64 n) : (Lib.itoa n).length ≤ 21 := by
  have hd : ∀ u, u < 18446744073709551616 → (Lib.decDigits u).length ≤ 20 := fun u hu => by
    rw [Lib.decDigits_length]; exact Lib.nDigits_le20 u hu
  unfold I64 at h
  unfold Lib.itoa
  split
  · have := hd n.natAbs (by omega)
    simp only [List.length_cons]; omega
  · have := hd n.toNat (by omega)
    omega

set_option maxRecDepth 100000 in
set_option maxHeartbeats 1000000 in
theorem text_int (w : World) (n : Int) (h : I64 n) (hT : Tab w) : Calls Tryz.prog 17 #[(vI n).v] w fun e w' => e = .returned (.tuple #[.string ⟨(Lib.itoa n).toArray⟩, .int .i64 0]) ∧ Fr (fun _ => False) w w' := by
  have HB := hid (vBlk w (vI n))
  have HF := hid (vFr w (vI n))
  have HR := hid (fun W => right_sca W (vI n) (show (2 : Int) ≠ 5 by decide) (show (2 : Int) ≠ 6 by decide))
  rw [rightI] at HR
  have HI := hid (fun W (e : Env w W) => itoa_int n h hT e)
  clear h hT
  generalize (Lib.itoa n).toArray = S at *
  go_enter Tryz.func17, Tryz.ntmps17
  go_wp2_with fail
  refine (HR.out _).mono ?_
  rintro e w1 ⟨rfl, f1⟩
  have HB1 := hid (f1.blk HB.out (fun h => h))
  have HF1 := hid (HF.out.trans f1 (fun _ h => h.elim))
  clear f1 HB HF HR
  obtain ⟨c0, c1, c2, c3, c4, c5⟩ := HB1.out.six
  go_wp2_with fail
  refine (HI.out _ (Env.of HF1.out)).mono ?_
  rintro e w2 ⟨rfl, f2⟩
  have HF2 := hid (HF1.out.trans f2 (fun _ h => h.elim))
  clear f2
  go_wp2_with fail
  go_ret2
  exact ⟨rfl, HF2.out⟩

theorem fr_of_below {B : Nat} {w0 w w' : World} (h : Below B w w') (f : Fr (fun _ => False) w0 w) (hB : w0.heap.size ≤ B) : Fr (fun _ => False) w0 w' :=
  f.trans (F' := fun k => B ≤ k) ⟨h.os, h.tape, h.output, h.size, fun k hk hn => h.block k (by omega)⟩ (fun i hi => .inr (by omega))

theorem strCells_eq (t : List UInt8) : Lib.strCells ⟨t.toArray⟩ = Lib.byteCells t := by
  first | rfl | simp [Lib.strCells, Lib.byteCells]
theorem builder_env {T e : TypeId} {B b : Nat} {xs : List Value} {w w' : World} (h : Lib.IsBuilder T e B b xs w) (f : Fr (fun _ => False) w w') : Lib.IsBuilder T e B b xs w' := by
  have key : ∀ p, Lib.BuilderAt T e B b p xs w → Lib.BuilderAt T e B b p xs w' := by
    rintro p ⟨hB, v, hb, ho, hn⟩
    have hlt : b < w.heap.size := by
      rcases Nat.lt_or_ge b w.heap.size with hl | hl
      · exact hl
      · rw [Array.getElem?_eq_none hl] at hb; cases hb
    exact ⟨hB, v, (f.block b hlt (fun h => h)).trans hb, owns_of_eq ho (fun k hk => f.block k (ho.lt k hk).2 (fun h => h)), hn⟩
  exact h.elim (fun x => .inl (key _ x)) (fun x => .inr (key _ x))

set_option maxRecDepth 100000 in
set_option maxHeartbeats 1000000 in
theorem show_int (w : World) (n : Int) (h : I64 n) (hT : Tab w) (B b : Nat) (xs : List Value) (hb : Lib.IsBuilder 68 5 B b xs w) (hxs : xs.length ≤ 1000000) (hB : B ≤ w.heap.size) : Calls Tryz.prog 45 #[pv b, (vI n).v] w fun e w' => e = .returned (.tuple #[]) ∧ Lib.IsBuilder 68 5 B b (xs ++ Lib.byteCells (Lib.itoa n)) w' ∧ ∃ w1, Fr (fun _ => False) w w1 ∧ Below B w1 w' := by
  have HB := hid (vBlk w (vI n))
  have HF := hid (vFr w (vI n))
  have HT := hid (text_int (vBox w (vI n)) n h (hT.env (Env.alloc w _)))
  have HBd := hid (builder_env hb HF.out)
  have hl := itoa_len h
  clear h hT hb
  have HBs := hid hB
  generalize Lib.itoa n = S at *
  go_enter Tryz.func45, Tryz.ntmps45
  go_wp2_with fail
  refine HT.out.mono ?_
  rintro e w1 ⟨rfl, f1⟩
  have HW := hid (Tryz.Builder_WriteString B b xs ⟨S.toArray⟩ w1 (builder_env HBd.out f1) (by show xs.length + S.length ≤ _; omega) (Nat.le_trans HBs.out (Nat.le_trans HF.out.size f1.size)))
  have HF1 := hid (HF.out.trans f1 (fun _ h => h.elim))
  rw [strCells_eq] at HW
  clear f1 HBd HT
  go_wp2_with fail
  refine HW.out.mono ?_
  rintro e w2 ⟨rfl, b2, bel⟩
  have HE : Hid (Lib.IsBuilder 68 5 B b (xs ++ Lib.byteCells S) w2 ∧ ∃ w1, Fr (fun _ => False) w w1 ∧ Below B w1 w2) := ⟨.inr b2, w1, HF1.out, bel⟩
  clear b2 bel
  go_wp2_with fail
  go_end0
  exact ⟨rfl, HE.out⟩

set_option maxRecDepth 100000 in
set_option maxHeartbeats 1000000 in
theorem Show_int (w : World) (n : Int) (h : I64 n) (hT : Tab w) : Calls Tryz.prog 19 #[(vI n).v] w fun e w' => e = .returned (.string ⟨(Lib.itoa n).toArray⟩) ∧ Fr (fun _ => False) w w' := by
  have HB := hid (vBlk w (vI n))
  have HF := hid (vFr w (vI n))
  have HR := hid (fun W => right_sca W (vI n) (show (2 : Int) ≠ 5 by decide) (show (2 : Int) ≠ 6 by decide))
  rw [rightI] at HR
  have HS : Hid (∀ W, Fr (fun _ => False) w W → Calls Tryz.prog 45 #[pv W.heap.size, (vI n).v] (W.alloc (.cells #[.pointer none, .slice none 0 0] 68)) fun e w' => e = .returned (.tuple #[]) ∧ Lib.IsBuilder 68 5 W.heap.size W.heap.size ([] ++ Lib.byteCells (Lib.itoa n)) w' ∧ ∃ w1, Fr (fun _ => False) (W.alloc (.cells #[.pointer none, .slice none 0 0] 68)) w1 ∧ Below W.heap.size w1 w') :=
    fun W hf => show_int _ n h ((hT.env (Env.of hf)).env (Env.alloc W _)) W.heap.size W.heap.size [] (Lib.fresh_isBuilder 68 5 W) (by simp) (by rw [World.size_alloc]; omega)
  have HFA : Hid (∀ W, Fr (fun _ => False) w W → Fr (fun _ => False) w (W.alloc (.cells #[.pointer none, .slice none 0 0] 68))) := fun W hf => hf.alloc _
  clear h hT
  generalize Lib.itoa n = S at *
  go_enter Tryz.func19, Tryz.ntmps19
  go_wp2_with fail
  refine (HR.out _).mono ?_
  rintro e w1 ⟨rfl, f1⟩
  have HB1 := hid (f1.blk HB.out (fun h => h))
  have HF1 := hid (HF.out.trans f1 (fun _ h => h.elim))
  clear f1 HB HF HR
  obtain ⟨c0, c1, c2, c3, c4, c5⟩ := (HB1.out.alloc (.cells #[.pointer none, .slice none 0 0] 68)).six
  go_wp2_with fail
  refine (HS.out _ HF1.out).mono ?_
  rintro e w2 ⟨rfl, b2, w3, f3, bel⟩
  rw [List.nil_append] at b2
  have HF2 := hid (fr_of_below bel ((HFA.out _ HF1.out).trans f3 (fun _ h => h.elim)) HF1.out.size)
  have HSt := hid (Tryz.Builder_String_any w1.heap.size w1.heap.size S w2 b2 (by have := bel.size; have := f3.size; rw [World.size_alloc] at this; omega))
  clear b2 f3 bel HS HFA c0 c1 c2 c3 c4 c5 HB1
  have HFs := hid HF1.out.size
  go_wp2_with fail
  refine HSt.out.mono ?_
  rintro e w4 ⟨rfl, bel⟩
  have HF4 := hid (fr_of_below bel HF2.out HFs.out)
  clear bel
  go_wp2_with fail
  go_ret
  exact ⟨rfl, HF4.out⟩

theorem one_eq : eqN (vI 1) (vF 4607182418800017408) = true := by decide +kernel

set_option maxRecDepth 100000 in
set_option maxHeartbeats 4000000 in
theorem shown_any (w : World) (hT : Tw w) : Calls Tryz.prog 14 #[] w fun e w' => e = .returned (.bool true) ∧ Fr (fun _ => False) w w' := by
  have HT := hid hT
  clear hT
  have HQ := hid (fun W => reckon_ints W 47 (.inr (.inr (.inr rfl))) (-7) 2 (vI (-3)) 0 (ints_quo (-7) 2 (by decide) (by decide) (by decide)))
  have HP := hid (fun W => reckon_ints W 43 (.inl rfl) 9223372036854775807 1 vZ 16 (ints_plus 9223372036854775807 1 (by decide) (by decide)))
  have HE : Hid (∀ W, Calls Tryz.prog 25 #[(vI 1).v, (vF 4607182418800017408).v] W fun e w' => e = .returned (.tuple #[.bool true, .int .i64 0]) ∧ Fr (fun _ => False) W w') := fun W => by
    have h := Equal_any W (vI 1) (vF 4607182418800017408) true true (true, 0) (right_of_sca W (vI 1) (by decide) (by decide)) (right_of_sca W (vF 4607182418800017408) (by decide) (by decide)) (fun _ _ W' _ => by
      have h := equal_num W' (vI 1) (vF 4607182418800017408) rfl rfl
      rw [one_eq] at h
      exact h)
    exact h
  have HS : Hid (∀ W, Env w W → Calls Tryz.prog 19 #[(vI 5).v] W fun e w' => e = .returned (.string ⟨#[53]⟩) ∧ Fr (fun _ => False) W w') := fun W e => by
    have h := Show_int W 5 (by decide) (HT.out.tab.env e)
    have e5 : Lib.itoa 5 = [53] := by decide +kernel
    rw [e5] at h
    exact h
  have HFl := hid (fun W (e : Env w W) => float_100 W (HT.out.env e))
  clear HT
  go_enter Tryz.func14, Tryz.ntmps14
  go_wp2_with fail
  refine (whole_any _ (-7)).mono ?_
  rintro e w1 ⟨rfl, f1⟩
  go_wp2_with fail
  refine (whole_any _ 2).mono ?_
  rintro e w2 ⟨rfl, f2⟩
  have F2 := hid (f1.trans f2 (fun _ h => h.elim))
  clear f1 f2
  go_wp2_with fail
  refine (HQ.out _).mono ?_
  rintro e w3 ⟨rfl, f3⟩
  have F3 := hid (F2.out.trans f3 (fun _ h => h.elim))
  have HBz := hid (vBlk w3 vZ)
  have HFz := hid (F3.out.trans (vFr w3 vZ) (fun _ h => h.elim))
  clear f3 F2 HQ
  go_wp2_with (refine wpList_storeV (vI (-3)) (by rfl) _ _ (by rfl) HBz.out (by rfl) (by rfl) ?_; intro w4 b4 f4)
  have F4 := hid (HFz.out.trans f4 (fun i hi => .inr (by rw [hi]; exact F3.out.size)))
  have B4 := hid b4
  clear f4 b4 HBz HFz F3
  generalize w3.heap.size = A at *
  go_wp2_with fail
  refine (whole_any _ 9223372036854775807).mono ?_
  rintro e w5 ⟨rfl, f5⟩
  go_wp2_with fail
  refine (whole_any _ 1).mono ?_
  rintro e w6 ⟨rfl, f6⟩
  have G6 := hid (f5.trans f6 (fun _ h => h.elim))
  clear f5 f6
  go_wp2_with fail
  refine (HP.out _).mono ?_
  rintro e w7 ⟨rfl, f7⟩
  have G7 := hid (G6.out.trans f7 (fun _ h => h.elim))
  have B7 := hid (G7.out.blk B4.out (fun h => h))
  have F7 := hid (F4.out.trans G7.out (fun _ h => h.elim))
  have HBz := hid (vBlk w7 vZ)
  have HFz := hid (F7.out.trans (vFr w7 vZ) (fun _ h => h.elim))
  clear f7 G6 G7 B4 F4 HP
  go_wp2_with (refine wpList_storeV vZ (by rfl) _ _ (by rfl) HBz.out (by rfl) (by rfl) ?_; intro w8 b8 f8)
  have F8 := hid (HFz.out.trans f8 (fun i hi => .inr (by rw [hi]; exact F7.out.size)))
  have B8 := hid (f8.blk (B7.out.alloc _) (by have := B7.out.lt; omega))
  clear f8 b8 HBz HFz F7 B7
  go_wp2_with fail
  refine (whole_any _ 1).mono ?_
  rintro e w9 ⟨rfl, f9⟩
  go_wp2_with fail
  refine (real_any _ 4607182418800017408).mono ?_
  rintro e w10 ⟨rfl, f10⟩
  have G10 := hid (f9.trans f10 (fun _ h => h.elim))
  clear f9 f10
  go_wp2_with fail
  refine (HE.out _).mono ?_
  rintro e w11 ⟨rfl, f11⟩
  have G11 := hid (G10.out.trans f11 (fun _ h => h.elim))
  have B11 := hid (G11.out.blk B8.out (fun h => h))
  have F11 := hid (F8.out.trans G11.out (fun _ h => h.elim))
  clear f11 G10 G11 B8 F8 HE
  obtain ⟨c0, c1, c2, c3, c4, c5⟩ := B11.out.six
  go_wp2_with fail
  refine (HFl.out _ (Env.of F11.out)).mono ?_
  rintro e w12 ⟨rfl, f12⟩
  have F12 := hid (F11.out.trans f12 (fun _ h => h.elim))
  clear f12 F11 B11 c0 c1 c2 c3 c4 c5
  go_wp2_with fail
  refine (whole_any _ 5).mono ?_
  rintro e w13 ⟨rfl, f13⟩
  have F13 := hid (F12.out.trans f13 (fun _ h => h.elim))
  clear f13 F12
  go_wp2_with fail
  refine (HS.out _ (Env.of F13.out)).mono ?_
  rintro e w14 ⟨rfl, f14⟩
  have F14 := hid (F13.out.trans f14 (fun _ h => h.elim))
  clear f14 F13
  go_wp2_with fail
  go_ret
  exact ⟨rfl, F14.out⟩
end Go.Proofs.YtlepjghfcpgbcaaGreatDoor.Tr
