/- Questions to a unit: names, starts, sameness. -/
import Derived.Test.YtangnoicnogddaaUsn
namespace Go.Proofs.Ytangnoicnogddaa.Tr
open Go.RowKit

set_option maxRecDepth 100000 in
set_option maxHeartbeats 2000000 in
theorem ixA_any (w : World) (l : List Nm) (ad : Option Addr) (cap : Nat) (p : Nm → Bool) (hL : Strs w ad l) (hl : l.length ≤ lim) (hK : ∀ W, Fr (fun _ => False) w W → ∀ i (h : i < l.length), Calls Try.prog 84 #[.string ⟨l[i].toArray⟩] W fun e w' => e = .returned (.bool (p l[i])) ∧ Fr (fun _ => False) W w') :
    Calls Try.prog 86 #[.slice ad l.length cap, .func (.func 84) #[] #[]] w fun e w' => (∃ r : Int, e = .returned (.int .i64 r) ∧ decide (0 ≤ r) = l.any p) ∧ Fr (fun _ => False) w w' := by
  have HC := hid hL
  have HG := hid hK
  have hl' : l.length ≤ 140737488351232 := hl
  clear hL hK hl
  go_enter Try.func86, Try.ntmps86
  go_wp2_with fail
  go_loopw [5, 8] (fun _ iv wr => ∃ i : Nat, i ≤ l.length ∧ iv = .int .i64 (i : Int) ∧ (∀ j (h : j < l.length), j < i → p l[j] = false) ∧ Fr (fun _ => False) w wr) (fun _ iv _ => l.length - (intOf iv).toNat)
  case atStart => exact ⟨0, Nat.zero_le _, rfl, fun j _ hj => absurd hj (by omega), Fr.refl _ _⟩
  case round =>
    obtain ⟨i, hi, rfl, hA, hF⟩ := hrel
    have HA := hid hA
    have HF := hid hF
    clear hA hF
    by_cases hlt : i < l.length
    · have hlt' : (i : Int) < ((l.length : Nat) : Int) := by omega
      obtain ⟨b, o, rfl, c0⟩ := (HC.out.env (Env.of HF.out)).at i hlt
      have HT : Hid (p l[i] = true → l.any p = true) := fun h => List.any_eq_true.2 ⟨l[i], List.getElem_mem hlt, h⟩
      have HN : Hid (p l[i] = false → ∀ j (h : j < l.length), j < i + 1 → p l[j] = false) := fun h j hj hj' => by
        by_cases e : j = i
        · subst e; exact h
        · exact HA.out j hj (by omega)
      have HK := hid (HG.out wr HF.out i hlt)
      generalize hq : p l[i] = q at HK HT HN
      generalize l[i] = ch at *
      clear HA hq
      go_wp2_with fail
      refine HK.out.mono ?_
      rintro e w2 ⟨rfl, f2⟩
      have HF2 := hid (HF.out.trans f2 (fun _ h => h.elim))
      clear f2
      cases q with
      | true =>
        have HE := hid (HT.out rfl)
        go_wp2_with fail
        go_ret
        exact ⟨⟨(i : Int), rfl, by rw [HE.out]; simp⟩, HF2.out⟩
      | false =>
        have HE := hid (HN.out rfl)
        go_wp2_with fail
        exact ⟨⟨i + 1, by omega, by first | rfl | (congr 1), HE.out, HF2.out⟩, by simp [intOf]; omega⟩
    · have hlt' : ¬ (i : Int) < ((l.length : Nat) : Int) := by omega
      have HR : Hid (l.any p = false) := List.any_eq_false.2 fun u hu => by
        obtain ⟨j, hj, rfl⟩ := List.getElem_of_mem hu
        rw [HA.out j hj (by omega)]; simp
      go_wp2_with fail
      go_ret
      exact ⟨⟨-1, rfl, by rw [HR.out]; rfl⟩, HF.out⟩
set_option maxRecDepth 100000 in
set_option maxHeartbeats 2000000 in
theorem ctA_any (w : World) (l : List Nm) (ad : Option Addr) (cap : Nat) (p : Nm → Bool) (hL : Strs w ad l) (hl : l.length ≤ lim) (hK : ∀ W, Fr (fun _ => False) w W → ∀ i (h : i < l.length), Calls Try.prog 84 #[.string ⟨l[i].toArray⟩] W fun e w' => e = .returned (.bool (p l[i])) ∧ Fr (fun _ => False) W w') :
    Calls Try.prog 74 #[.slice ad l.length cap, .func (.func 84) #[] #[]] w fun e w' => e = .returned (.bool (l.any p)) ∧ Fr (fun _ => False) w w' := by
  have HC := hid (ixA_any w l ad cap p hL hl hK)
  clear hL hK hl
  go_enter Try.func74, Try.ntmps74
  go_wp2_with fail
  refine HC.out.mono ?_
  rintro e w2 ⟨⟨r, rfl, hr⟩, hF⟩
  have HR := hid hr
  have HF := hid hF
  clear hr hF
  go_wp2_with fail
  go_ret
  exact ⟨by rw [← HR.out]; rfl, HF.out⟩

set_option maxRecDepth 100000 in
set_option maxHeartbeats 2000000 in
theorem ixB_any (w : World) (l : List Nm) (ad : Option Addr) (cap : Nat) (cb : Nat) (p : Nm → Bool) (hL : Strs w ad l) (hl : l.length ≤ lim) (hK : ∀ W, Fr (fun _ => False) w W → ∀ i (h : i < l.length), Calls Try.prog 75 #[.string ⟨l[i].toArray⟩, .pointer (some ⟨cb, 0, none⟩)] W fun e w' => e = .returned (.bool (p l[i])) ∧ Fr (fun _ => False) W w') :
    Calls Try.prog 86 #[.slice ad l.length cap, .func (.func 75) #[] #[.pointer (some ⟨cb, 0, none⟩)]] w fun e w' => (∃ r : Int, e = .returned (.int .i64 r) ∧ decide (0 ≤ r) = l.any p) ∧ Fr (fun _ => False) w w' := by
  have HC := hid hL
  have HG := hid hK
  have hl' : l.length ≤ 140737488351232 := hl
  clear hL hK hl
  go_enter Try.func86, Try.ntmps86
  go_wp2_with fail
  go_loopw [5, 8] (fun _ iv wr => ∃ i : Nat, i ≤ l.length ∧ iv = .int .i64 (i : Int) ∧ (∀ j (h : j < l.length), j < i → p l[j] = false) ∧ Fr (fun _ => False) w wr) (fun _ iv _ => l.length - (intOf iv).toNat)
  case atStart => exact ⟨0, Nat.zero_le _, rfl, fun j _ hj => absurd hj (by omega), Fr.refl _ _⟩
  case round =>
    obtain ⟨i, hi, rfl, hA, hF⟩ := hrel
    have HA := hid hA
    have HF := hid hF
    clear hA hF
    by_cases hlt : i < l.length
    · have hlt' : (i : Int) < ((l.length : Nat) : Int) := by omega
      obtain ⟨b, o, rfl, c0⟩ := (HC.out.env (Env.of HF.out)).at i hlt
      have HT : Hid (p l[i] = true → l.any p = true) := fun h => List.any_eq_true.2 ⟨l[i], List.getElem_mem hlt, h⟩
      have HN : Hid (p l[i] = false → ∀ j (h : j < l.length), j < i + 1 → p l[j] = false) := fun h j hj hj' => by
        by_cases e : j = i
        · subst e; exact h
        · exact HA.out j hj (by omega)
      have HK := hid (HG.out wr HF.out i hlt)
      generalize hq : p l[i] = q at HK HT HN
      generalize l[i] = ch at *
      clear HA hq
      go_wp2_with fail
      refine HK.out.mono ?_
      rintro e w2 ⟨rfl, f2⟩
      have HF2 := hid (HF.out.trans f2 (fun _ h => h.elim))
      clear f2
      cases q with
      | true =>
        have HE := hid (HT.out rfl)
        go_wp2_with fail
        go_ret
        exact ⟨⟨(i : Int), rfl, by rw [HE.out]; simp⟩, HF2.out⟩
      | false =>
        have HE := hid (HN.out rfl)
        go_wp2_with fail
        exact ⟨⟨i + 1, by omega, by first | rfl | (congr 1), HE.out, HF2.out⟩, by simp [intOf]; omega⟩
    · have hlt' : ¬ (i : Int) < ((l.length : Nat) : Int) := by omega
      have HR : Hid (l.any p = false) := List.any_eq_false.2 fun u hu => by
        obtain ⟨j, hj, rfl⟩ := List.getElem_of_mem hu
        rw [HA.out j hj (by omega)]; simp
      go_wp2_with fail
      go_ret
      exact ⟨⟨-1, rfl, by rw [HR.out]; rfl⟩, HF.out⟩
set_option maxRecDepth 100000 in
set_option maxHeartbeats 2000000 in
theorem ctB_any (w : World) (l : List Nm) (ad : Option Addr) (cap : Nat) (cb : Nat) (p : Nm → Bool) (hL : Strs w ad l) (hl : l.length ≤ lim) (hK : ∀ W, Fr (fun _ => False) w W → ∀ i (h : i < l.length), Calls Try.prog 75 #[.string ⟨l[i].toArray⟩, .pointer (some ⟨cb, 0, none⟩)] W fun e w' => e = .returned (.bool (p l[i])) ∧ Fr (fun _ => False) W w') :
    Calls Try.prog 74 #[.slice ad l.length cap, .func (.func 75) #[] #[.pointer (some ⟨cb, 0, none⟩)]] w fun e w' => e = .returned (.bool (l.any p)) ∧ Fr (fun _ => False) w w' := by
  have HC := hid (ixB_any w l ad cap cb p hL hl hK)
  clear hL hK hl
  go_enter Try.func74, Try.ntmps74
  go_wp2_with fail
  refine HC.out.mono ?_
  rintro e w2 ⟨⟨r, rfl, hr⟩, hF⟩
  have HR := hid hr
  have HF := hid hF
  clear hr hF
  go_wp2_with fail
  go_ret
  exact ⟨by rw [← HR.out]; rfl, HF.out⟩

set_option maxRecDepth 100000 in
set_option maxHeartbeats 1000000 in
theorem noName_any (w : World) (s : Nm) : Calls Try.prog 84 #[.string ⟨s.toArray⟩] w fun e w' => e = .returned (.bool (!nameB s)) ∧ Fr (fun _ => False) w w' := by
  have H := hid (name_any w s)
  generalize nameB s = b at *
  go_enter Try.func84, Try.ntmps84
  go_wp2_with (go_at_call 46; refine H.out.mono ?_; rintro e w1 ⟨rfl, rfl⟩)
  go_ret
  exact ⟨rfl, Fr.refl _ _⟩
set_option maxRecDepth 100000 in
set_option maxHeartbeats 1000000 in
theorem areNames_any (w : World) (l : List Nm) (ad : Option Addr) (cap : Nat) (hL : Strs w ad l) (hl : l.length ≤ lim) : Calls Try.prog 72 #[.slice ad l.length cap] w fun e w' => e = .returned (.bool (l.all nameB)) ∧ Fr (fun _ => False) w w' := by
  have H := hid (ctA_any w l ad cap (fun s => !nameB s) hL hl (fun W _ i _ => noName_any W l[i]))
  have HE : Hid ((!(l.any fun s => !nameB s)) = l.all nameB) := by
    unfold Hid
    rw [← List.all_eq_not_any_not]
  generalize (l.any fun s => !nameB s) = b at *
  rw [← HE.out]
  clear HE hL
  go_enter Try.func72, Try.ntmps72
  go_wp2_with fail
  refine H.out.mono ?_
  rintro e w2 ⟨rfl, hF⟩
  have HF := hid hF
  clear hF
  go_wp2_with fail
  go_ret
  exact ⟨rfl, HF.out⟩
def startC (c : UInt8) : Bool := decide (32 ≤ c.toNat) && decide (c.toNat ≤ 126)
theorem startB_eq (s : Nm) : startB s = (decide (1 ≤ s.length) && decide (s.length ≤ 120) && s.all startC) := rfl
set_option maxRecDepth 100000 in
set_option maxHeartbeats 1000000 in
theorem mayStart_any (w : World) (s : Nm) : Calls Try.prog 71 #[.string ⟨s.toArray⟩] w fun e w' => e = .returned (.bool (startB s)) ∧ w' = w := by
  rw [startB_eq]
  by_cases h1 : s.length < 1
  · have hn : Hid ((decide (1 ≤ s.length) && decide (s.length ≤ 120) && s.all startC) = false) := by unfold Hid; simp; omega
    have h1' : ((s.length : Int) == 0) = true := by simp; exact List.length_eq_zero_iff.1 (by omega)
    go_enter Try.func71, Try.ntmps71
    go_wp2
    go_ret
    exact ⟨by rw [hn.out]; rfl, rfl⟩
  have h1' : ((s.length : Int) == 0) = false := by simp; intro h; simp [h] at h1
  by_cases h2 : 120 < s.length
  · have hn : Hid ((decide (1 ≤ s.length) && decide (s.length ≤ 120) && s.all startC) = false) := by unfold Hid; simp; omega
    have h2' : decide ((120 : Int) < (s.length : Int)) = true := by simp; omega
    go_enter Try.func71, Try.ntmps71
    go_wp2
    go_ret
    exact ⟨by rw [hn.out]; rfl, rfl⟩
  have h2' : decide ((120 : Int) < (s.length : Int)) = false := by simp; omega
  have HN : Hid ((decide (1 ≤ s.length) && decide (s.length ≤ 120) && s.all startC) = s.all startC) := by
    unfold Hid
    rw [decide_eq_true (show 1 ≤ s.length by omega), decide_eq_true (show s.length ≤ 120 by omega)]
    rfl
  generalize (decide (1 ≤ s.length) && decide (s.length ≤ 120) && s.all startC) = r at *
  go_enter Try.func71, Try.ntmps71
  go_wp2_with fail
  go_loopw [3, 14] (fun _ i wr => ∃ k : Nat, k ≤ s.length ∧ i = .int .i64 (k : Int) ∧ (s.take k).all startC = true ∧ wr = w) (fun _ i _ => s.length - (intOf i).toNat)
  case atStart => exact ⟨0, Nat.zero_le _, rfl, rfl, rfl⟩
  case round =>
    obtain ⟨k, hk, rfl, ha, rfl⟩ := hrel
    have HA := hid ha
    clear ha
    by_cases hlt : k < s.length
    · have hkl' : (k : Int) < ((s.length : Nat) : Int) := by omega
      have hk0 : (0 : Int) ≤ (k : Int) := Int.natCast_nonneg _
      have HSt := hid (all_take_succ startC s k hlt)
      have HBad := hid (all_false_of startC s k hlt)
      by_cases hb : startC s[k] = true
      · rw [hb] at HSt
        have q : 32 ≤ s[k].toNat ∧ s[k].toNat ≤ 126 := by unfold startC at hb; simpa using hb
        have q1 : decide (((((ByteArray.mk s.toArray)[k]'(by simpa [ByteArray.size] using hlt)).toNat : Nat) : Int) < 32) = false := by rw [str_at s k hlt]; simp; omega
        have q2 : decide ((126 : Int) < ((((ByteArray.mk s.toArray)[k]'(by simpa [ByteArray.size] using hlt)).toNat : Nat) : Int)) = false := by rw [str_at s k hlt]; simp; omega
        clear HBad hb
        go_wp2_with fail
        exact ⟨⟨k + 1, by omega, by go_num, by rw [HSt.out, HA.out]; rfl, trivial⟩, by simp [intOf]; omega⟩
      · have hb' : startC s[k] = false := by simpa using hb
        have HB := hid (HBad.out hb')
        by_cases q1' : s[k].toNat < 32
        · have q1 : decide (((((ByteArray.mk s.toArray)[k]'(by simpa [ByteArray.size] using hlt)).toNat : Nat) : Int) < 32) = true := by rw [str_at s k hlt]; simp; omega
          clear HBad hb hb' HSt
          go_wp2_with fail
          go_ret
          exact ⟨by rw [HN.out, HB.out]; rfl, rfl⟩
        · have q1 : decide (((((ByteArray.mk s.toArray)[k]'(by simpa [ByteArray.size] using hlt)).toNat : Nat) : Int) < 32) = false := by rw [str_at s k hlt]; simp; omega
          have q2 : decide ((126 : Int) < ((((ByteArray.mk s.toArray)[k]'(by simpa [ByteArray.size] using hlt)).toNat : Nat) : Int)) = true := by
            rw [str_at s k hlt]
            unfold startC at hb'
            simp at hb'
            simp
            have := hb' (by omega)
            omega
          clear HBad hb hb' HSt
          go_wp2_with fail
          go_ret
          exact ⟨by rw [HN.out, HB.out]; rfl, rfl⟩
    · obtain rfl : k = s.length := by omega
      have hkn : ¬ ((s.length : Nat) : Int) < ((s.length : Nat) : Int) := by omega
      rw [List.take_length] at HA
      go_wp2
      go_ret
      exact ⟨by rw [HN.out, HA.out]; rfl, rfl⟩
set_option maxRecDepth 100000 in
set_option maxHeartbeats 1000000 in
theorem eqStrs_any (w : World) (ad bd : Option Addr) (A B : List Nm) (ca cb : Nat) (hA : Strs w ad A) (hB : Strs w bd B) (hla : A.length ≤ lim) :
    Calls Try.prog 85 #[.slice ad A.length ca, .slice bd B.length cb] w fun e w' => e = .returned (.bool (decide (A = B))) ∧ Fr (fun _ => False) w w' := by
  have HA := hid hA
  have HB := hid hB
  have hla' : A.length ≤ 140737488351232 := hla
  clear hA hB hla
  by_cases hl : A.length = B.length
  · have hl' : (((A.length : Nat) : Int) != ((B.length : Nat) : Int)) = false := by rw [hl]; simp
    have HLn := hid hl
    clear hl
    go_enter Try.func85, Try.ntmps85
    go_wp2_with fail
    go_loopw [5, 13] (fun _ iv wr => ∃ i : Nat, i ≤ A.length ∧ iv = .int .i64 (i : Int) ∧ A.take i = B.take i ∧ Fr (fun _ => False) w wr) (fun _ iv _ => A.length - (intOf iv).toNat)
    case atStart => exact ⟨0, Nat.zero_le _, rfl, rfl, Fr.refl _ _⟩
    case round =>
      obtain ⟨i, hi, rfl, ht, hF⟩ := hrel
      have HF := hid hF
      clear hF
      by_cases hlt : i < A.length
      · have hi1 : (i : Int) < ((A.length : Nat) : Int) := by omega
        have hi2 : (i : Int) < ((B.length : Nat) : Int) := by have := HLn.out; omega
        have hi0 : (0 : Int) ≤ (i : Int) := Int.natCast_nonneg _
        have hltb : i < B.length := by have := HLn.out; omega
        obtain ⟨b, o, rfl, c0⟩ := (HA.out.env (Env.of HF.out)).at i hlt
        obtain ⟨b', o', rfl, c1⟩ := (HB.out.env (Env.of HF.out)).at i hltb
        have HT := hid (take_eq_succ ht hlt hltb)
        have HN := hid (ne_of_at hlt hltb (A := A) (B := B))
        clear ht
        generalize A[i] = x at *
        generalize B[i] = y at *
        by_cases hp : x = y
        · subst hp
          have HT' := hid (HT.out rfl)
          have hs1 : (x != x) = false := by simp
          clear HT HN
          go_wp2_with fail
          go_quiet (fail)
          go_wp2_with fail
          exact ⟨⟨i + 1, by omega, by go_num, HT'.out, HF.out.drewN _⟩, by simp [intOf]; omega⟩
        · have HN' : Hid (decide (A = B) = false) := decide_eq_false (HN.out hp)
          have hs1 : (x != y) = true := by simpa using hp
          have hs2 : (x == y) = false := by simpa using hp
          clear HT HN
          go_wp2_with fail
          go_quiet (fail)
          go_wp2_with fail
          go_ret
          exact ⟨by rw [HN'.out]; rfl, HF.out.drewN _⟩
      · obtain rfl : i = A.length := by omega
        have hkn : ¬ ((A.length : Nat) : Int) < ((A.length : Nat) : Int) := by omega
        have HE : Hid (decide (A = B) = true) := by
          unfold Hid
          rw [List.take_length, HLn.out, List.take_length] at ht
          exact decide_eq_true ht
        clear ht
        go_wp2
        go_ret
        exact ⟨by rw [HE.out]; rfl, HF.out⟩
  · have hl' : (((A.length : Nat) : Int) != ((B.length : Nat) : Int)) = true := by simpa using fun h => hl (by omega)
    have HE : Hid (decide (A = B) = false) := decide_eq_false (fun h => hl (by rw [h]))
    go_enter Try.func85, Try.ntmps85
    go_wp2
    go_ret
    exact ⟨by rw [HE.out]; rfl, Fr.refl _ _⟩
end Go.Proofs.Ytangnoicnogddaa.Tr
