/- The contracts of isNumber, isChoice, numberOf. -/
import Derived.Test.YtniailfcmlongaaGreatDoorTkd
import Derived.Test.YtniailfcmlongaaGreatDoorShf
import Derived.Lib.ConvBytes
namespace Go.Proofs.YtniailfcmlongaaGreatDoor.Tr
open Go.RowKit

theorem bs_at (l : List UInt8) (j : Nat) (h : j < l.length) : (bs l)[j]? = some (bv l[j]) := by
  simp [bs, h]
theorem conv_in (w : World) (s : List UInt8) : ∃ w1 c, (convert 9 63 (.string ⟨s.toArray⟩)).run Tryz.prog w = .ok (.slice (some ⟨w.heap.size, 0, none⟩) s.length c) w1 ∧ (∀ j (h : j < s.length), w1.cell? ⟨w.heap.size, j, none⟩ = some (bv s[j])) ∧ Fr (fun _ => False) w w1 := by
  refine ⟨_, _, Lib.run_convert_string_bytes (P := Tryz.prog) w 9 63 5 ⟨s.toArray⟩ Tryz.underlying9 Tryz.underlying63 Tryz.underlying5, fun j hj => ?_, ?_⟩
  · rw [Lib.bytesWorld_cell w 5 ⟨s.toArray⟩ j hj]
    simp [bv, hj]
  · exact ⟨rfl, rfl, rfl, by rw [Lib.bytesWorld_size]; omega, fun k hk _ => Lib.bytesWorld_at_old w 5 _ k hk⟩

/-- A question to bytes: function g. -/
def Asks (g : Nat) (p : UInt8 → Bool) : Prop := (∀ args w, (callFunc g args).run Tryz.prog w = .ok (.enter g args) w) ∧ ∀ (W : World) (c : UInt8), Calls Tryz.prog g #[bv c] W fun e w' => e = .returned (.bool (p c)) ∧ W = w'
theorem asks_noDigit : Asks 106 noDig := ⟨enters_of Tryz.func106 (by kernel_rfl) rfl, isNoDigit_any⟩
theorem asks_foreign : Asks 108 foreignB := ⟨enters_of Tryz.func108 (by kernel_rfl) rfl, isForeign_any⟩

set_option maxRecDepth 100000 in
set_option maxHeartbeats 2000000 in
theorem indexFunc_any (g : Nat) (p : UInt8 → Bool) (hg : Asks g p) (w : World) (s : List UInt8) (b cap : Nat) (hl : s.length ≤ 140737488351232) (hc : ∀ j (h : j < s.length), w.cell? ⟨b, j, none⟩ = some (bv s[j])) :
    Calls Tryz.prog 125 #[.slice (some ⟨b, 0, none⟩) s.length cap, .func (.func g) #[] #[]] w fun e w' => (∃ r : Int, e = .returned (.int .i64 r) ∧ decide (0 ≤ r) = s.any p) ∧ w = w' := by
  obtain ⟨eg, hg2⟩ := hg
  have HG := hid hg2
  have HC := hid hc
  clear hg2 hc
  go_enter Tryz.func125, Tryz.ntmps125
  go_wp2_with fail
  go_loopw [5, 8] (fun _ iv wr => ∃ i : Nat, i ≤ s.length ∧ iv = .int .i64 (i : Int) ∧ (∀ j (h : j < s.length), j < i → p s[j] = false) ∧ w = wr) (fun _ iv _ => s.length - (intOf iv).toNat)
  case atStart => exact ⟨0, Nat.zero_le _, rfl, fun j _ hj => absurd hj (by omega), rfl⟩
  case round =>
    obtain ⟨i, hi, rfl, hA, rfl⟩ := hrel
    have HA := hid hA
    clear hA
    by_cases hlt : i < s.length
    · have hlt' : (i : Int) < ((s.length : Nat) : Int) := by omega
      have c0 := HC.out i hlt
      have hz : 0 + i = i := by omega
      have HT : Hid (p s[i] = true → s.any p = true) := fun h => List.any_eq_true.2 ⟨s[i], List.getElem_mem hlt, h⟩
      have HN : Hid (p s[i] = false → ∀ j (h : j < s.length), j < i + 1 → p s[j] = false) := fun h j hj hj' => by
        by_cases e : j = i
        · subst e; exact h
        · exact HA.out j hj (by omega)
      have HK := hid (HG.out w s[i])
      generalize hq : p s[i] = q at HK HT HN
      generalize s[i] = ch at *
      clear HA hq
      unfold bv at *
      go_wp2_with fail
      refine HK.out.mono ?_
      rintro e w2 ⟨rfl, rfl⟩
      cases q with
      | true =>
        have HE := hid (HT.out rfl)
        go_wp2_with fail
        go_ret
        exact ⟨⟨(i : Int), rfl, by rw [HE.out]; simp⟩, rfl⟩
      | false =>
        have HE := hid (HN.out rfl)
        go_wp2_with fail
        exact ⟨⟨i + 1, by omega, by first | rfl | (congr 1), HE.out, trivial⟩, by simp [intOf]; omega⟩
    · have hlt' : ¬ (i : Int) < ((s.length : Nat) : Int) := by omega
      have HR : Hid (s.any p = false) := List.any_eq_false.2 fun u hu => by
        obtain ⟨j, hj, rfl⟩ := List.getElem_of_mem hu
        rw [HA.out j hj (by omega)]; simp
      go_wp2_with fail
      go_ret
      exact ⟨⟨-1, rfl, by rw [HR.out]; rfl⟩, rfl⟩

set_option maxRecDepth 100000 in
set_option maxHeartbeats 2000000 in
theorem containsFunc_any (g : Nat) (p : UInt8 → Bool) (hg : Asks g p) (w : World) (s : List UInt8) (b cap : Nat) (hl : s.length ≤ 140737488351232) (hc : ∀ j (h : j < s.length), w.cell? ⟨b, j, none⟩ = some (bv s[j])) :
    Calls Tryz.prog 105 #[.slice (some ⟨b, 0, none⟩) s.length cap, .func (.func g) #[] #[]] w fun e w' => e = .returned (.bool (s.any p)) ∧ w = w' := by
  have HC := hid (indexFunc_any g p hg w s b cap hl hc)
  clear hg hc
  go_enter Tryz.func105, Tryz.ntmps105
  go_wp2_with fail
  refine HC.out.mono ?_
  rintro e w2 ⟨⟨r, rfl, hr⟩, rfl⟩
  have HR := hid hr
  clear hr
  go_wp2_with fail
  go_ret
  exact ⟨by rw [← HR.out]; rfl, rfl⟩

/-- '[]byte(s)' is asked. -/
theorem asked (w : World) (s : List UInt8) (hl : s.length ≤ 140737488351232) (g : Nat) (p : UInt8 → Bool) (hg : Asks g p) : ∃ w1 c, (convert 9 63 (.string ⟨s.toArray⟩)).run Tryz.prog w = .ok (.slice (some ⟨w.heap.size, 0, none⟩) s.length c) w1 ∧ Fr (fun _ => False) w w1 ∧
    Calls Tryz.prog 105 #[.slice (some ⟨w.heap.size, 0, none⟩) s.length c, .func (.func g) #[] #[]] w1 fun e w' => e = .returned (.bool (s.any p)) ∧ w1 = w' := by
  obtain ⟨w1, c, h1, h2, h3⟩ := conv_in w s
  exact ⟨w1, c, h1, h3, containsFunc_any g p hg w1 s w.heap.size c hl h2⟩

set_option maxRecDepth 100000 in
set_option maxHeartbeats 2000000 in
theorem tNumber_any (w : World) (s : List UInt8) (hl : s.length ≤ 140737488351232) : Calls Tryz.prog 86 #[.string ⟨s.toArray⟩] w fun e w' => e = .returned (.bool (isNumB s)) ∧ Fr (fun _ => False) w w' := by
  obtain ⟨w1, cap, hcv, hF, hC⟩ := asked w s hl _ _ asks_noDigit
  have HC := hid hC
  have HF := hid hF
  clear hC hF
  by_cases h0 : s = []
  · subst h0
    go_enter Tryz.func86, Tryz.ntmps86
    go_wp2_with fail
    go_ret
    exact ⟨rfl, Fr.refl _ _⟩
  have hpos : 0 < s.length := List.length_pos_iff.2 h0
  have h0' : (((s.length : Nat) : Int) == 0) = false := by simp; exact h0
  by_cases h9 : 9 < s.length
  · have h9' : decide ((9 : Int) < ((s.length : Nat) : Int)) = true := by simpa using (show (9 : Int) < ((s.length : Nat) : Int) by omega)
    have HR : Hid (isNumB s = false) := by unfold Hid isNumB; rw [decide_eq_false (show ¬ s.length ≤ 9 by omega)]; simp
    generalize isNumB s = q at *
    clear hcv h9 h0 hpos
    go_enter Tryz.func86, Tryz.ntmps86
    go_wp2_with fail
    go_ret
    exact ⟨by rw [HR.out]; rfl, Fr.refl _ _⟩
  have h9' : decide ((9 : Int) < ((s.length : Nat) : Int)) = false := by simpa using (show ((s.length : Nat) : Int) ≤ 9 by omega)
  have eh : s.head? = some s[0] := by cases s with
    | nil => exact absurd rfl h0
    | cons a r => rfl
  by_cases h1 : 1 < s.length
  · have h1' : decide ((1 : Int) < ((s.length : Nat) : Int)) = true := by simpa using (show (1 : Int) < ((s.length : Nat) : Int) by omega)
    by_cases h48 : s[0] = 48
    · have h48' : ((((ByteArray.mk s.toArray)[0]'(by simpa [ByteArray.size] using hpos)).toNat : Int) == 48) = true := by
        rw [str_at s 0 hpos, h48]; rfl
      have HR : Hid (isNumB s = false) := by unfold Hid isNumB; rw [decide_eq_true h1, eh, h48]; simp
      generalize isNumB s = q at *
      clear hcv h9 h1 h0 h48 eh
      go_enter Tryz.func86, Tryz.ntmps86
      go_wp2_with fail
      go_ret
      exact ⟨by rw [HR.out]; rfl, Fr.refl _ _⟩
    · have h48' : ((((ByteArray.mk s.toArray)[0]'(by simpa [ByteArray.size] using hpos)).toNat : Int) == 48) = false := by
        rw [str_at s 0 hpos, beq_eq_false_iff_ne]
        intro e
        exact h48 (UInt8.toNat_inj.1 (by simpa using (show s[0].toNat = 48 by omega)))
      have HR : Hid (isNumB s = !s.any noDig) := by
        unfold Hid isNumB
        rw [decide_eq_true (show s.length ≤ 9 by omega), decide_eq_true h0, eh]
        simp [h48]
      generalize isNumB s = q at *
      generalize s.any noDig = z at *
      clear h9 h1 h48 h0 eh
      go_enter Tryz.func86, Tryz.ntmps86
      go_wp2_with fail
      refine HC.out.mono ?_
      rintro e w2 ⟨rfl, rfl⟩
      go_wp2_with fail
      go_ret
      exact ⟨by rw [HR.out]; rfl, HF.out⟩
  · have h1' : decide ((1 : Int) < ((s.length : Nat) : Int)) = false := by simpa using (show ((s.length : Nat) : Int) ≤ 1 by omega)
    have HR : Hid (isNumB s = !s.any noDig) := by
      unfold Hid isNumB
      rw [decide_eq_true (show s.length ≤ 9 by omega), decide_eq_false h1, decide_eq_true h0]
      simp
    generalize isNumB s = q at *
    generalize s.any noDig = z at *
    clear h9 h1 h0 eh
    go_enter Tryz.func86, Tryz.ntmps86
    go_wp2_with fail
    refine HC.out.mono ?_
    rintro e w2 ⟨rfl, rfl⟩
    go_wp2_with fail
    go_ret
    exact ⟨by rw [HR.out]; rfl, HF.out⟩

set_option maxRecDepth 100000 in
set_option maxHeartbeats 2000000 in
theorem isChoice_any (w : World) (s : List UInt8) (hl : s.length ≤ 140737488351232) : Calls Tryz.prog 88 #[.string ⟨s.toArray⟩] w fun e w' => e = .returned (.bool (choiceB s)) ∧ Fr (fun _ => False) w w' := by
  obtain ⟨w1, cap, hcv, hF, hC⟩ := asked w s hl _ _ asks_foreign
  have HC := hid hC
  have HF := hid hF
  clear hC hF
  by_cases h0 : s = []
  · subst h0
    go_enter Tryz.func88, Tryz.ntmps88
    go_wp2_with fail
    go_ret
    exact ⟨rfl, Fr.refl _ _⟩
  have h0' : (s == []) = false := by simpa using h0
  have h0b : (s != []) = true := by simpa using h0
  have HR : Hid (choiceB s = !s.any foreignB) := by
    unfold Hid choiceB
    rw [decide_eq_true h0]
    simp
  generalize choiceB s = q at *
  generalize s.any foreignB = z at *
  clear h0
  go_enter Tryz.func88, Tryz.ntmps88
  go_wp2_with fail
  refine HC.out.mono ?_
  rintro e w2 ⟨rfl, rfl⟩
  go_wp2_with fail
  go_ret
  exact ⟨by rw [HR.out]; rfl, HF.out⟩

theorem parseInt_of (w : World) (s : List UInt8) (h : isNumB s = true) : Calls Tryz.prog 107 #[.string ⟨s.toArray⟩, .int .i64 10, .int .i64 64] w fun e w' => e = .returned (.tuple #[.int .i64 (digN s : Int), .nilIface]) ∧ Fr (fun _ => False) w w' := by
  refine (Tryz.strconv_ParseInt_10_at64_ok ⟨s.toArray⟩ (by have := (num_all h).2.1; simp [ByteArray.size]; omega) (digN s : Int) (parse_num h) w).mono ?_
  rintro e w' ⟨rfl, h | ⟨t, rfl⟩⟩
  · rw [h]; exact ⟨rfl, Fr.refl _ _⟩
  · exact ⟨rfl, rfl, rfl, rfl, by rw [Lib.bytesWorld_size]; omega, fun k hk _ => Lib.bytesWorld_at_old w 5 _ k hk⟩

set_option maxRecDepth 100000 in
set_option maxHeartbeats 2000000 in
theorem numberOf_any (w : World) (s : List UInt8) (h : isNumB s = true) : Calls Tryz.prog 87 #[.string ⟨s.toArray⟩] w fun e w' => e = .returned (.int .i64 (digN s : Int)) ∧ Fr (fun _ => False) w w' := by
  have HC := hid (parseInt_of w s h)
  clear h
  go_enter Tryz.func87, Tryz.ntmps87
  go_wp2_with fail
  refine HC.out.mono ?_
  rintro e w2 ⟨rfl, f2⟩
  have HF := hid f2
  clear f2
  go_wp2_with fail
  go_ret
  exact ⟨rfl, HF.out⟩
end Go.Proofs.YtniailfcmlongaaGreatDoor.Tr
