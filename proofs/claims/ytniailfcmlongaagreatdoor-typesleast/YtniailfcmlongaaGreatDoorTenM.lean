import Derived.Test.YtniailfcmlongaaGreatDoorTtkM
import Derived.Test.YtniailfcmlongaaGreatDoorShf
import Derived.Lib.ConvBytes
import Derived.Lib.SlicesS
/- The contracts of isNumber, isChoice, numberOf. -/
namespace Go.Proofs.YtniailfcmlongaaGreatDoor.Tr
open Go.RowKit

theorem bs_at (l : List UInt8) (j : Nat) (h : j < l.length) : (bs l)[j]? = some (bv l[j]) := by
  simp [bs, h]
theorem conv_in (w : World) (s : List UInt8) : ∃ w1 c, (convert 9 63 (.string ⟨s.toArray⟩)).run Tryz.prog w = .ok (.slice (some ⟨w.heap.size, 0, none⟩) s.length c) w1 ∧ (∀ j (h : j < s.length), w1.cell? ⟨w.heap.size, j, none⟩ = some (bv s[j])) ∧ Fr (fun _ => False) w w1 := by
  refine ⟨_, _, Lib.run_convert_string_bytes (P := Tryz.prog) w 9 63 5 ⟨s.toArray⟩ Tryz.underlying9 Tryz.underlying63 Tryz.underlying5, fun j hj => ?_, ?_⟩
  · rw [Lib.bytesWorld_cell w 5 ⟨s.toArray⟩ j hj]
    simp [bv, hj]
  · exact ⟨rfl, rfl, rfl, by rw [Lib.bytesWorld_size]; omega, fun k hk _ => Lib.bytesWorld_at_old w 5 _ k hk⟩

/-- A question to bytes: function g. -/
def Asks (g : Nat) (p : UInt8 → Bool) : Prop := (∀ args w, (callFunc g args).run Tryz.prog w = .ok (.enter g args) w) ∧ ∀ (W : World) (c : UInt8), Calls Tryz.prog g #[bv c] W fun e w' => e = .returned (.bool (p c)) ∧ W = w'
theorem asks_noDigit : Asks 106 noDig := ⟨enters_of Tryz.func106 (by kernel_rfl) rfl, isNoDigit_any⟩
theorem asks_foreign : Asks 108 foreignB := ⟨enters_of Tryz.func108 (by kernel_rfl) rfl, isForeign_any⟩

set_option maxRecDepth 100000 in
set_option maxHeartbeats 2000000 in
theorem indexFunc_any (g : Nat) (p : UInt8 → Bool) (hg : Asks g p) (w : World) (s : List UInt8) (b cap : Nat) (hl : s.length ≤ 140737488351232) (hc : ∀ j (h : j < s.length), w.cell? ⟨b, j, none⟩ = some (bv s[j])) :
    Calls Tryz.prog 125 #[.slice (some ⟨b, 0, none⟩) s.length cap, .func (.func g) #[] #[]] w fun e w' => (∃ r : Int, e = .returned (.int .i64 r) ∧ decide (0 ≤ r) = s.any p) ∧ w = w' := by
  obtain ⟨eg, hg2⟩ := hg
  have HG := hid hg2
  have HC := hid hc
  clear hg2 hc
  go_enter Tryz.func125, Tryz.ntmps125
  go_wp2_with fail
  go_loopw [5, 8] (fun _ iv wr => ∃ i : Nat, i ≤ s.length ∧ iv = .int .i64 (i : Int) ∧ (∀ j (h : j < s.length), j < i → p s[j] = false) ∧ w = wr) (fun _ iv _ => s.length - (intOf iv).toNat)
  case atStart => exact ⟨0, Nat.zero_le _, rfl, fun j _ hj => absurd hj (by omega), rfl⟩
  case round =>
    obtain ⟨i, hi, rfl, hA, rfl⟩ := hrel
    have HA := hid hA
    clear hA
    by_cases hlt : i < s.length
    · have hlt' : (i : Int) < ((s.length : Nat) : Int) := by omega
      have c0 := HC.out i hlt
      have hz : 0 + i = i := by omega
      have HT : Hid (p s[i] = true → s.any p = true) := fun h => List.any_eq_true.2 ⟨s[i], List.getElem_mem hlt, h⟩
      have HN : Hid (p s[i] = false → ∀ j (h : j < s.length), j < i + 1 → p s[j] = false) := fun h j hj hj' => by
        by_cases e : j = i
        · subst e; exact h
        · exact HA.out j hj (by omega)
      have HK := hid (HG.out w s[i])
      generalize hq : p s[i] = q at HK HT HN
      generalize s[i] = ch at *
      clear HA hq
      unfold bv at *
      go_wp2_with fail
      refine HK.out.mono ?_
      rintro e w2 ⟨rfl, rfl⟩
      cases q with
      | true =>
        have HE := hid (HT.out rfl)
        go_wp2_with fail
        go_ret
        exact ⟨⟨(i : Int), rfl, by rw [HE.out]; simp⟩, rfl⟩
      | false =>
        have HE := hid (HN.out rfl)
        go_wp2_with fail
        exact ⟨⟨i + 1, by omega, by first | rfl | (congr 1), HE.out, trivial⟩, by simp [intOf]; omega⟩
    · have hlt' : ¬ (i : Int) < ((s.length : Nat) : Int) := by omega
      have HR : Hid (s.any p = false) := List.any_eq_false.2 fun u hu => by
        obtain ⟨j, hj, rfl⟩ := List.getElem_of_mem hu
        rw [HA.out j hj (by omega)]; simp
      go_wp2_with fail
      go_ret
      exact ⟨⟨-1, rfl, by rw [HR.out]; rfl⟩, rfl⟩

set_option maxRecDepth 100000 in
set_option maxHeartbeats 2000000 in
theorem containsFunc_any (g : Nat) (p : UInt8 → Bool) (hg : Asks g p) (w : World) (s : List UInt8) (b cap : Nat) (hl : s.length ≤ 140737488351232) (hc : ∀ j (h : j < s.length), w.cell? ⟨b, j, none⟩ = some (bv s[j])) :
    Calls Tryz.prog 105 #[.slice (some ⟨b, 0, none⟩) s.length cap, .func (.func g) #[] #[]] w fun e w' => e = .returned (.bool (s.any p)) ∧ w = w' := by
  have HC := hid (indexFunc_any g p hg w s b cap hl hc)
  clear hg hc
  go_enter Tryz.func105, Tryz.ntmps105
  go_wp2_with fail
  refine HC.out.mono ?_
  rintro e w2 ⟨⟨r, rfl, hr⟩, rfl⟩
  have HR := hid hr
  clear hr
  go_wp2_with fail
  go_ret
  exact ⟨by rw [← HR.out]; rfl, rfl⟩

/-- '[]byte(s)' is asked. -/
theorem asked (w : World) (s : List UInt8) (hl : s.length ≤ 140737488351232) (g : Nat) (p : UInt8 → Bool) (hg : Asks g p) : ∃ w1 c, (convert 9 63 (.string ⟨s.toArray⟩)).run Tryz.prog w = .ok (.slice (some ⟨w.heap.size, 0, none⟩) s.length c) w1 ∧ Fr (fun _ => False) w w1 ∧
    Calls Tryz.prog 105 #[.slice (some ⟨w.heap.size, 0, none⟩) s.length c, .func (.func g) #[] #[]] w1 fun e w' => e = .returned (.bool (s.any p)) ∧ w1 = w' := by
  obtain ⟨w1, c, h1, h2, h3⟩ := conv_in w s
  exact ⟨w1, c, h1, h3, containsFunc_any g p hg w1 s w.heap.size c hl h2⟩

set_option maxRecDepth 100000 in
set_option maxHeartbeats 2000000 in
theorem tNumber_any (w : World) (s : List UInt8) (hl : s.length ≤ 140737488351232) : Calls Tryz.prog 86 #[.string ⟨s.toArray⟩] w fun e w' => e = .returned (.bool (isNumB s)) ∧ Fr (fun _ => False) w w' := by
  obtain ⟨w1, cap, hcv, hF, hC⟩ := asked w s hl _ _ asks_noDigit
  have HC := hid hC
  have HF := hid hF
  clear hC hF
  by_cases h0 : s = []
  · subst h0
    go_enter Tryz.func86, Tryz.ntmps86
    go_wp2_with fail
    go_ret
    exact ⟨rfl, Fr.refl _ _⟩
  have hpos : 0 < s.length := List.length_pos_iff.2 h0
  have h0' : (((s.length : Nat) : Int) == 0) = false := by simp; exact h0
  by_cases h9 : 9 < s.length
  · have h9' : decide ((9 : Int) < ((s.length : Nat) : Int)) = true := by simpa using (show (9 : Int) < ((s.length : Nat) : Int) by omega)
    have HR : Hid (isNumB s = false) := by unfold Hid isNumB; rw [decide_eq_false (show ¬ s.length ≤ 9 by omega)]; simp
    generalize isNumB s = q at *
    clear hcv h9 h0 hpos
    go_enter Tryz.func86, Tryz.ntmps86
    go_wp2_with fail
    go_ret
    exact ⟨by rw [HR.out]; rfl, Fr.refl _ _⟩
  have h9' : decide ((9 : Int) < ((s.length : Nat) : Int)) = false := by simpa using (show ((s.length : Nat) : Int) ≤ 9 by omega)
  have eh : s.head? = some s[0] := by cases s with
    | nil => exact absurd rfl h0
    | cons a r => rfl
  by_cases h1 : 1 < s.length
  · have h1' : decide ((1 : Int) < ((s.length : Nat) : Int)) = true := by simpa using (show (1 : Int) < ((s.length : Nat) : Int) by omega)
    by_cases h48 : s[0] = 48
    · have h48' : ((((ByteArray.mk s.toArray)[0]'(by simpa [ByteArray.size] using hpos)).toNat : Int) == 48) = true := by
        rw [str_at s 0 hpos, h48]; rfl
      have HR : Hid (isNumB s = false) := by unfold Hid isNumB; rw [decide_eq_true h1, eh, h48]; simp
      generalize isNumB s = q at *
      clear hcv h9 h1 h0 h48 eh
      go_enter Tryz.func86, Tryz.ntmps86
      go_wp2_with fail
      go_ret
      exact ⟨by rw [HR.out]; rfl, Fr.refl _ _⟩
    · have h48' : ((((ByteArray.mk s.toArray)[0]'(by simpa [ByteArray.size] using hpos)).toNat : Int) == 48) = false := by
        rw [str_at s 0 hpos, beq_eq_false_iff_ne]
        intro e
        exact h48 (UInt8.toNat_inj.1 (by simpa using (show s[0].toNat = 48 by omega)))
      have HR : Hid (isNumB s = !s.any noDig) := by
        unfold Hid isNumB
        rw [decide_eq_true (show s.length ≤ 9 by omega), decide_eq_true h0, eh]
        simp [h48]
      generalize isNumB s = q at *
      generalize s.any noDig = z at *
      clear h9 h1 h48 h0 eh
      go_enter Tryz.func86, Tryz.ntmps86
      go_wp2_with fail
      refine HC.out.mono ?_
      rintro e w2 ⟨rfl, rfl⟩
      go_wp2_with fail
      go_ret
      exact ⟨by rw [HR.out]; rfl, HF.out⟩
  · have h1' : decide ((1 : Int) < ((s.length : Nat) : Int)) = false := by simpa using (show ((s.length : Nat) : Int) ≤ 1 by omega)
    have HR : Hid (isNumB s = !s.any noDig) := by
      unfold Hid isNumB
      rw [decide_eq_true (show s.length ≤ 9 by omega), decide_eq_false h1, decide_eq_true h0]
      simp
    generalize isNumB s = q at *
    generalize s.any noDig = z at *
    clear h9 h1 h0 eh
    go_enter Tryz.func86, Tryz.ntmps86
    go_wp2_with fail
    refine HC.out.mono ?_
    rintro e w2 ⟨rfl, rfl⟩
    go_wp2_with fail
    go_ret
    exact ⟨by rw [HR.out]; rfl, HF.out⟩

set_option maxRecDepth 100000 in
set_option maxHeartbeats 2000000 in
theorem isChoice_any (w : World) (s : List UInt8) (hl : s.length ≤ 140737488351232) : Calls Tryz.prog 88 #[.string ⟨s.toArray⟩] w fun e w' => e = .returned (.bool (choiceB s)) ∧ Fr (fun _ => False) w w' := by
  obtain ⟨w1, cap, hcv, hF, hC⟩ := asked w s hl _ _ asks_foreign
  have HC := hid hC
  have HF := hid hF
  clear hC hF
  by_cases h0 : s = []
  · subst h0
    go_enter Tryz.func88, Tryz.ntmps88
    go_wp2_with fail
    go_ret
    exact ⟨rfl, Fr.refl _ _⟩
  have h0' : (s == []) = false := by simpa using h0
  have h0b : (s != []) = true := by simpa using h0
  have HR : Hid (choiceB s = !s.any foreignB) := by
    unfold Hid choiceB
    rw [decide_eq_true h0]
    simp
  generalize choiceB s = q at *
  generalize s.any foreignB = z at *
  clear h0
  go_enter Tryz.func88, Tryz.ntmps88
  go_wp2_with fail
  refine HC.out.mono ?_
  rintro e w2 ⟨rfl, rfl⟩
  go_wp2_with fail
  go_ret
  exact ⟨by rw [HR.out]; rfl, HF.out⟩

theorem parseInt_of (w : World) (s : List UInt8) (h : isNumB s = true) : Calls Tryz.prog 107 #[.string ⟨s.toArray⟩, .int .i64 10, .int .i64 64] w fun e w' => e = .returned (.tuple #[.int .i64 (digN s : Int), .nilIface]) ∧ Fr (fun _ => False) w w' := by
  refine (Tryz.strconv_ParseInt_10_at64_ok ⟨s.toArray⟩ (by have := (num_all h).2.1; simp [ByteArray.size]; omega) (digN s : Int) (parse_num h) w).mono ?_
  rintro e w' ⟨rfl, h | ⟨t, rfl⟩⟩
  · rw [h]; exact ⟨rfl, Fr.refl _ _⟩
  · exact ⟨rfl, rfl, rfl, rfl, by rw [Lib.bytesWorld_size]; omega, fun k hk _ => Lib.bytesWorld_at_old w 5 _ k hk⟩

set_option maxRecDepth 100000 in
set_option maxHeartbeats 2000000 in
theorem numberOf_any (w : World) (s : List UInt8) (h : isNumB s = true) : Calls Tryz.prog 87 #[.string ⟨s.toArray⟩] w fun e w' => e = .returned (.int .i64 (digN s : Int)) ∧ Fr (fun _ => False) w w' := by
  have HC := hid (parseInt_of w s h)
  clear h
  go_enter Tryz.func87, Tryz.ntmps87
  go_wp2_with fail
  refine HC.out.mono ?_
  rintro e w2 ⟨rfl, f2⟩
  have HF := hid f2
  clear f2
  go_wp2_with fail
  go_ret
  exact ⟨rfl, HF.out⟩
end Go.Proofs.YtniailfcmlongaaGreatDoor.Tr
/- The contract of readInt. -/
namespace Go.Proofs.YtniailfcmlongaaGreatDoor.Tr
open Go.RowKit

/-- Words that lie in a row. -/
structure Wds (w : World) (ad : Option Addr) (ws : List (List UInt8)) : Prop where
  at_ : Strs w ad ws
  few : ws.length ≤ 100
  short : ∀ s ∈ ws, s.length ≤ 64
theorem Wds.env {w W : World} {ad : Option Addr} {ws : List (List UInt8)} (h : Wds w ad ws) (e : Env w W) : Wds W ad ws := ⟨h.at_.env e, h.few, h.short⟩

set_option maxRecDepth 100000 in
set_option maxHeartbeats 4000000 in
theorem readInt_none (w : World) (ad : Option Addr) (cap : Nat) : Calls Tryz.prog 61 #[.slice ad 0 cap] w fun e w' => KPost w (intTy []) e w' := by
  have HF : Hid (Fr (fun _ => False) w (kBox w sInt (-9223372036854775808) 9223372036854775807 none 0 0 none)) := (Fr.refl _ w).alloc _
  have HK := hid (kBlk w sInt (-9223372036854775808) 9223372036854775807 none 0 0 none)
  go_enter Tryz.func61, Tryz.ntmps61
  go_wp2_with fail
  go_ret
  exact ⟨HF.out, .inr ⟨.int _ _, w.heap.size, rfl, rfl, HK.out.cell 0, HK.out.cell 1, HK.out.cell 2⟩⟩

set_option maxRecDepth 100000 in
set_option maxHeartbeats 4000000 in
theorem readInt_odd (w : World) (ad : Option Addr) (n cap : Nat) (h0 : n ≠ 0) (h2 : n ≠ 2) : Calls Tryz.prog 61 #[.slice ad n cap] w fun e w' => KPost w none e w' := by
  have HF : Hid (Fr (fun _ => False) w (kBox w sInt (-9223372036854775808) 9223372036854775807 none 0 0 none)) := (Fr.refl _ w).alloc _
  have h0' : (((n : Nat) : Int) == 0) = false := by simp; exact h0
  have h2' : (((n : Nat) : Int) != 2) = true := by simp; omega
  have h2b : (((n : Nat) : Int) == 2) = false := by simp; omega
  clear h0 h2
  go_enter Tryz.func61, Tryz.ntmps61
  go_wp2_with fail
  go_ret
  exact ⟨HF.out, .inl ⟨rfl, rfl⟩⟩

set_option maxRecDepth 100000 in
set_option maxHeartbeats 4000000 in
theorem readInt_two (w : World) (rb ro cap : Nat) (a b : List UInt8) (ha : a.length ≤ 64) (hb : b.length ≤ 64) (c0 : w.cell? ⟨rb, ro, none⟩ = some (.string ⟨a.toArray⟩)) (c1 : w.cell? ⟨rb, ro + 1, none⟩ = some (.string ⟨b.toArray⟩)) :
    Calls Tryz.prog 61 #[.slice (some ⟨rb, ro, none⟩) 2 cap] w fun e w' => KPost w (intTy [a, b]) e w' := by
  have HF : Hid (Fr (fun _ => False) w (kBox w sInt (-9223372036854775808) 9223372036854775807 none 0 0 none)) := (Fr.refl _ w).alloc _
  have HB := hid (kBlk w sInt (-9223372036854775808) 9223372036854775807 none 0 0 none)
  have HC := hid (show ∀ W, Env w W → W.cell? ⟨rb, ro, none⟩ = some (.string ⟨a.toArray⟩) ∧ W.cell? ⟨rb, ro + 1, none⟩ = some (.string ⟨b.toArray⟩) from fun W e => ⟨e.cell c0, e.cell c1⟩)
  have HNa := hid (fun W => tNumber_any W a (by omega))
  have HNb := hid (fun W => tNumber_any W b (by omega))
  have HVa := hid (fun W => numberOf_any W a)
  have HVb := hid (fun W => numberOf_any W b)
  have HLa := hid (fun h => digN_lt (s := a) h)
  have HLb := hid (fun h => digN_lt (s := b) h)
  have HT : Hid (intTy [a, b] = if isNumB a && isNumB b then (if digN a ≤ digN b then some (.int (digN a) (digN b)) else none) else none) := rfl
  generalize intTy [a, b] = T at *
  have hrb : rb < w.heap.size := by
    rcases Nat.lt_or_ge rb w.heap.size with h | h
    · exact h
    · exfalso
      unfold World.cell? at c0
      rw [Array.getElem?_eq_none h] at c0
      simp at c0
  clear c0 c1
  obtain ⟨c0, c1⟩ := HC.out _ (Env.of HF.out)
  generalize isNumB a = na at *
  generalize isNumB b = nb at *
  generalize digN a = da at *
  generalize digN b = db at *
  cases na with
  | false =>
    go_enter Tryz.func61, Tryz.ntmps61
    go_wp2_with fail
    refine (HNa.out _).mono ?_
    rintro e w1 ⟨rfl, f1⟩
    have HF1 := hid (HF.out.trans f1 (fun _ h => h.elim))
    clear f1 c0 c1
    go_wp2_with fail
    go_ret
    exact ⟨HF1.out, .inl ⟨by rw [HT.out]; rfl, rfl⟩⟩
  | true =>
  have HWa := hid (fun W => HVa.out W rfl)
  clear HVa
  go_enter Tryz.func61, Tryz.ntmps61
  go_wp2_with fail
  refine (HNa.out _).mono ?_
  rintro e w1 ⟨rfl, f1⟩
  have HF1 := hid (HF.out.trans f1 (fun _ h => h.elim))
  have HB1 := hid (f1.blk HB.out (fun h => h))
  clear f1 c0 c1
  obtain ⟨c0, c1⟩ := HC.out _ (Env.of HF1.out)
  go_wp2_with fail
  refine (HNb.out _).mono ?_
  rintro e w2 ⟨rfl, f2⟩
  have HF2 := hid (HF1.out.trans f2 (fun _ h => h.elim))
  have HB2 := hid (f2.blk HB1.out (fun h => h))
  clear f2 c0 c1
  cases nb with
  | false =>
    go_wp2_with fail
    go_ret
    exact ⟨HF2.out, .inl ⟨by rw [HT.out]; rfl, rfl⟩⟩
  | true =>
  have HWb := hid (fun W => HVb.out W rfl)
  clear HVb
  have HS : Hid (∀ W : World, Fr (fun _ => False) w2 W → W.cell? ⟨rb, ro, none⟩ = some (.string ⟨a.toArray⟩) ∧ W.cell? ⟨rb, ro + 1, none⟩ = some (.string ⟨b.toArray⟩)) := fun W f => HC.out W (Env.of (HF2.out.trans f (fun _ h => h.elim)))
  have HSs : Hid (∀ (W W' : World), Fr (fun _ => False) w2 W → (∀ k, k < w.heap.size → W'.heap[k]? = W.heap[k]?) → W'.cell? ⟨rb, ro, none⟩ = some (.string ⟨a.toArray⟩) ∧ W'.cell? ⟨rb, ro + 1, none⟩ = some (.string ⟨b.toArray⟩)) := fun W W' f e => by
    obtain ⟨h1, h2⟩ := HS.out W f
    have := e rb hrb
    unfold World.cell? at h1 h2 ⊢
    rw [this]
    exact ⟨h1, h2⟩
  go_wp2_with fail
  go_region_held3 (fun W => W.cell? ⟨rb, ro, none⟩ = some (.string ⟨a.toArray⟩) ∧ W.cell? ⟨rb, ro + 1, none⟩ = some (.string ⟨b.toArray⟩))
    (first | exact HS.out _ (Fr.refl _ _).drew | exact HS.out _ F1.out | exact HS.out _ F2.out | exact HSs.out _ _ F2.out (fun k hk => by first | exact Below.heap_setCell _ _ _ k (by show k ≠ w.heap.size; omega) | exact (Below.heap_setCell _ _ _ k (by show k ≠ w.heap.size; omega)).trans (Below.heap_setCell _ _ _ k (by show k ≠ w.heap.size; omega))))
    ((first
      | (go_at_call 87; have G1 := F1; clear G1; refine (HWb.out _).mono ?_; rintro e w4 ⟨rfl, f4⟩; have F2 : Hid (Fr (fun _ => False) w2 w4) := F1.out.trans f4 (fun _ h => h.elim); have B4 := F2.out.blk HB2.out (fun h => h); have d1 := B4.cell 1; have d2 := B4.cell 2; have z1 := B4.frozen 1; have z2 := B4.frozen 2; have HB4 := hid B4; clear B4)
      | (go_at_call 87; refine (HWa.out _).mono ?_; rintro e w3 ⟨rfl, f3⟩; have F1 : Hid (Fr (fun _ => False) w2 w3) := (Fr.refl _ w2).drew.trans f3 (fun _ h => h.elim))))
  obtain ⟨w5, hw5⟩ : ∃ w5, w5 = (w4.setCell ⟨w.heap.size, 1, none⟩ (.int .i64 (da : Int))).setCell ⟨w.heap.size, 2, none⟩ (.int .i64 (db : Int)) := ⟨_, rfl⟩
  rw [← hw5]
  have B5 : Blk w5 w.heap.size 70 [.string ⟨sInt.toArray⟩, .int .i64 (da : Int), .int .i64 (db : Int), .slice none 0 0, .pointer none] := by
    rw [hw5]; exact (HB4.out.setCell 1 _).setCell 2 _
  have HF5 : Hid (Fr (fun _ => False) w w5) := by
    rw [hw5]
    exact ((HF2.out.trans F2.out (fun _ h => h.elim)).setCell (.inr (Nat.le_refl _)) _).setCell (.inr (Nat.le_refl _)) _
  have HB5 := hid B5
  have e1 := B5.cell 1
  have e2 := B5.cell 2
  clear hw5 B5 d1 d2 z1 z2 HB4
  by_cases hle : da ≤ db
  · have hle' : decide ((da : Int) > (db : Int)) = false := by simpa using (show (da : Int) ≤ (db : Int) by omega)
    have hle2 : decide (db < da) = false := by simpa using hle
    have HT2 : Hid (T = some (.int (da : Int) (db : Int))) := by unfold Hid; rw [HT.out]; simp [hle]
    clear hle
    go_wp2_with fail
    go_quiet (fail)
    have HF6 := hid (HF5.out.drewN nq)
    have HB6 : Hid (Blk (w5.drewN nq) w.heap.size 70 [.string ⟨sInt.toArray⟩, .int .i64 (da : Int), .int .i64 (db : Int), .slice none 0 0, .pointer none]) := HB5.out
    go_wp2_with fail
    go_ret
    exact ⟨HF6.out, .inr ⟨_, w.heap.size, HT2.out, rfl, HB6.out.cell 0, HB6.out.cell 1, HB6.out.cell 2⟩⟩
  · have hle' : decide ((da : Int) > (db : Int)) = true := by simpa using (show (db : Int) < (da : Int) by omega)
    have hle2 : decide (db < da) = true := by simpa using hle
    have HT2 : Hid (T = none) := by unfold Hid; rw [HT.out]; simp [hle]
    clear hle
    go_wp2_with fail
    go_quiet (fail)
    have HF6 := hid (HF5.out.drewN nq)
    go_wp2_with fail
    go_ret
    exact ⟨HF6.out, .inl ⟨HT2.out, rfl⟩⟩

/-- readInt of any words. -/
theorem readInt_any (w : World) (ad : Option Addr) (cap : Nat) (ws : List (List UInt8)) (h : Wds w ad ws) : Calls Tryz.prog 61 #[.slice ad ws.length cap] w fun e w' => KPost w (intTy ws) e w' := by
  match ws, h with
  | [], h => exact readInt_none w ad cap
  | [a], h => exact readInt_odd w ad 1 cap (by decide) (by decide)
  | [a, b], h =>
    obtain ⟨rb, ro, rfl, hc⟩ := h.at_ (by simp)
    exact readInt_two w rb ro cap a b (h.short a (by simp)) (h.short b (by simp)) (by simpa using hc 0 (by simp)) (by simpa using hc 1 (by simp))
  | a :: b :: c :: r, h => exact readInt_odd w ad _ cap (by simp) (by simp)
end Go.Proofs.YtniailfcmlongaaGreatDoor.Tr
/- The contracts of slices.Contains of texts, readEnum. -/
namespace Go.Proofs.YtniailfcmlongaaGreatDoor.Tr
open Go.RowKit

theorem ba_inj {a b : List UInt8} : (ByteArray.mk a.toArray = ByteArray.mk b.toArray) ↔ a = b := by
  constructor
  · intro h
    have := congrArg (fun z => z.data.toList) h
    simpa using this
  · rintro rfl; rfl
theorem contains_ba (ws : List (List UInt8)) (x : List UInt8) : Lib.containsS (ws.map fun l => ByteArray.mk l.toArray) ⟨x.toArray⟩ = ws.contains x := by
  rw [Bool.eq_iff_iff, Lib.containsS_iff, List.contains_iff_mem]
  constructor
  · intro h
    obtain ⟨l, h1, h2⟩ := List.mem_map.1 h
    rw [← ba_inj.1 h2]; exact h1
  · intro h
    exact List.mem_map.2 ⟨x, h, rfl⟩
theorem contains_any (w : World) (ad : Option Addr) (n cap : Nat) (ws : List (List UInt8)) (hS : Strs w ad ws) (hn : n ≤ ws.length) (hl : ws.length ≤ 140737488351232) (x : List UInt8) :
    Calls Tryz.prog 43 #[.slice ad n cap, .string ⟨x.toArray⟩] w fun e w' => e = .returned (.bool ((ws.take n).contains x)) ∧ w = w' := by
  rcases Nat.eq_zero_or_pos n with h0 | hpos
  · subst h0
    refine (Tryz.slices_Contains_string_empty ad cap ⟨x.toArray⟩ w).mono ?_
    rintro e w' ⟨rfl, rfl⟩
    exact ⟨by simp, rfl⟩
  · obtain ⟨b, o, rfl, hc⟩ := hS (by intro e; rw [e] at hn; simp at hn; omega)
    refine (Tryz.slices_Contains_string b o n cap (ws.map fun l => ByteArray.mk l.toArray) ⟨x.toArray⟩ w (by simpa using hn) (by omega) (fun j hj => ?_)).mono ?_
    · have hj' : j < ws.length := by simpa using hj
      rw [hc j hj', List.getD_eq_getElem?_getD, List.getElem?_map, List.getElem?_eq_getElem hj']
      rfl
    · rintro e w' ⟨rfl, rfl⟩
      refine ⟨?_, rfl⟩
      rw [← List.map_take, contains_ba]

/-- May the word at i stand there? -/
def enAt (ws : List (List UInt8)) (i : Nat) : Bool := choiceB (ws.getD i []) && !(ws.take i).contains (ws.getD i [])
theorem enumB_true {ws : List (List UInt8)} (h : ∀ j, j < ws.length → enAt ws j = true) : enumB ws = true := List.all_eq_true.2 fun j hj => h j (List.mem_range.1 hj)
theorem enumB_false {ws : List (List UInt8)} {j : Nat} (hj : j < ws.length) (h : enAt ws j = false) : enumB ws = false := by
  cases e : enumB ws with
  | false => rfl
  | true =>
    have := List.all_eq_true.1 e j (List.mem_range.2 hj)
    unfold enAt at h
    rw [h] at this; cases this
def enumTy (ws : List (List UInt8)) : Option Ty := if ws ≠ [] ∧ enumB ws = true then some (.enum ws) else none

set_option maxRecDepth 100000 in
set_option maxHeartbeats 4000000 in
theorem readEnum_any (w : World) (ad : Option Addr) (cap : Nat) (ws : List (List UInt8)) (h : Wds w ad ws) (hcap : ws.length ≤ cap) : Calls Tryz.prog 62 #[.slice ad ws.length cap] w fun e w' => KPost w (enumTy ws) e w' := by
  by_cases h0 : ws = []
  · subst h0
    go_enter Tryz.func62, Tryz.ntmps62
    go_wp2_with fail
    go_ret
    exact ⟨Fr.refl _ _, .inl ⟨rfl, rfl⟩⟩
  obtain ⟨rb, ro, rfl, hc⟩ := h.at_ h0
  have HW := hid h
  have HC := hid hc
  have hfew : ws.length ≤ 100 := h.few
  have h0' : (((ws.length : Nat) : Int) == 0) = false := by simp; exact h0
  have HT : Hid (enumTy ws = if enumB ws = true then some (.enum ws) else none) := by unfold Hid enumTy; simp [h0]
  generalize enumTy ws = T at *
  clear h hc h0
  go_enter Tryz.func62, Tryz.ntmps62
  go_wp2_with fail
  go_loopw [3, 4, 10] (fun _ _ iv wr => ∃ i : Nat, i ≤ ws.length ∧ iv = .int .i64 (i : Int) ∧ (∀ j, j < i → enAt ws j = true) ∧ Fr (fun _ => False) w wr) (fun _ _ iv _ => ws.length - (intOf iv).toNat)
  case atStart => exact ⟨0, Nat.zero_le _, rfl, fun j hj => absurd hj (by omega), Fr.refl _ _⟩
  case round =>
    obtain ⟨i, hi, rfl, hA, hF⟩ := hrel
    have HA := hid hA
    have HF := hid hF
    clear hA hF
    by_cases hlt : i < ws.length
    · have hlt' : (i : Int) < ((ws.length : Nat) : Int) := by omega
      have hic : i ≤ cap := by omega
      have c0 := (Env.of HF.out).cell (HC.out i hlt)
      have hlen : ws[i].length ≤ 64 := HW.out.short _ (List.getElem_mem hlt)
      have eg : ws.getD i [] = ws[i] := by rw [List.getD_eq_getElem?_getD, List.getElem?_eq_getElem hlt]; rfl
      have HCh := hid (isChoice_any wr ws[i] (by omega))
      have HCo : Hid (∀ W, Fr (fun _ => False) w W → Calls Tryz.prog 43 #[.slice (some ⟨rb, ro, none⟩) i cap, .string ⟨ws[i].toArray⟩] W fun e w' => e = .returned (.bool ((ws.take i).contains ws[i])) ∧ W = w') := fun W f => contains_any W _ i cap ws (HW.out.at_.env (Env.of f)) (by omega) (by omega) ws[i]
      have HE : Hid (enAt ws i = (choiceB ws[i] && !(ws.take i).contains ws[i])) := by unfold Hid enAt; rw [eg]
      have HN0 : Hid (enAt ws i = false → enumB ws = false) := fun h => enumB_false hlt h
      have HN1 : Hid (enAt ws i = true → ∀ j, j < i + 1 → enAt ws j = true) := fun h j hj => by
        by_cases e : j = i
        · subst e; exact h
        · exact HA.out j (by omega)
      generalize enAt ws i = en at HE HN0 HN1
      generalize choiceB ws[i] = ch at *
      generalize (ws.take i).contains ws[i] = co at *
      generalize ws[i] = word at *
      clear HA eg
      go_wp2_with fail
      refine HCh.out.mono ?_
      rintro e w2 ⟨rfl, f2⟩
      have HF2 := hid (HF.out.trans f2 (fun _ h => h.elim))
      clear f2 c0
      cases ch with
      | false =>
        have HE2 := hid (HN0.out (by rw [HE.out]; rfl))
        go_wp2_with fail
        go_ret
        exact ⟨HF2.out, .inl ⟨by rw [HT.out, HE2.out]; rfl, rfl⟩⟩
      | true =>
        go_wp2_with fail
        refine (HCo.out _ HF2.out).mono ?_
        rintro e w3 ⟨rfl, rfl⟩
        cases co with
        | true =>
          have HE2 := hid (HN0.out (by rw [HE.out]; rfl))
          go_wp2_with fail
          go_ret
          exact ⟨HF2.out, .inl ⟨by rw [HT.out, HE2.out]; rfl, rfl⟩⟩
        | false =>
          have HE2 := hid (HN1.out (by rw [HE.out]; rfl))
          go_wp2_with fail
          exact ⟨⟨i + 1, by omega, by first | rfl | (congr 1), HE2.out, HF2.out⟩, by simp [intOf]; omega⟩
    · have hlt' : ¬ (i : Int) < ((ws.length : Nat) : Int) := by omega
      have HE : Hid (enumB ws = true) := enumB_true fun j hj => HA.out j (by omega)
      have HFk : Hid (Fr (fun _ => False) w (kBox wr sEnum 0 0 (some ⟨rb, ro, none⟩) ws.length cap none)) := HF.out.alloc _
      have HBk := hid (kBlk wr sEnum 0 0 (some ⟨rb, ro, none⟩) ws.length cap none)
      go_wp2_with fail
      go_ret
      exact ⟨HFk.out, .inr ⟨.enum ws, wr.heap.size, by rw [HT.out, HE.out]; rfl, rfl, HBk.out.cell 0, _, cap, HBk.out.cell 3, by omega, HW.out.at_.env (Env.of HFk.out)⟩⟩
end Go.Proofs.YtniailfcmlongaaGreatDoor.Tr
