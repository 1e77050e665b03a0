import Derived.Test.YtniailfcmlongaaGreatDoorTrd
import Derived.Test.YtniailfcmlongaaGreatDoorTml
import Derived.Test.YtniailfcmlongaaGreatDoorTof
import Derived.Test.YtniailfcmlongaaGreatDoorTun
import Derived.Test.YtniailfcmlongaaGreatDoorTsh
/- The contracts of the document's number, low. -/
namespace Go.Proofs.YtniailfcmlongaaGreatDoor.Tr
open Go.RowKit

/-- What number tells. -/
def numR (s : List UInt8) : Int := if isNumB s = true then (digN s : Int) else 0
theorem dig_take (s : List UInt8) (i : Nat) (h : i < s.length) : digN (s.take (i + 1)) = 10 * digN (s.take i) + (s[i].toNat - 48) := by
  rw [List.take_succ_eq_append_getElem h]
  unfold digN
  rw [List.foldl_append]
  rfl
theorem dig_small (s : List UInt8) (i : Nat) (hi : i ≤ s.length) (h9 : s.length ≤ 9) (h : ∀ j (hj : j < s.length), j < i → noDig s[j] = false) : digN (s.take i) < 1000000000 := by
  have hd : ∀ c ∈ s.take i, noDig c = false := fun c hc => by
    obtain ⟨j, hj, e⟩ := List.getElem_of_mem hc
    rw [List.length_take] at hj
    rw [List.getElem_take] at e
    rw [← e]
    exact h j (by omega) (by omega)
  have hp : (0 + 1) * 10 ^ (s.take i).length ≤ 1000000000 := by
    rw [Nat.zero_add, Nat.one_mul]
    exact Nat.pow_le_pow_right (n := 10) (by decide) (show (s.take i).length ≤ 9 by rw [List.length_take]; omega)
  exact Nat.lt_of_lt_of_le (parse_run (s.take i) 0 hd (Nat.le_trans hp (by decide))).2 hp

set_option maxRecDepth 100000 in
set_option maxHeartbeats 4000000 in
theorem rnumber_any (w : World) (s : List UInt8) (hl : s.length ≤ 64) : Calls Tryz.prog 40 #[.string ⟨s.toArray⟩] w fun e w' => e = .returned (.tuple #[.int .i64 (numR s), .bool (isNumB s)]) ∧ Fr (fun _ => False) w w' := by
  by_cases h0 : s = []
  · subst h0
    have HR : Hid (isNumB [] = false) := rfl
    have HN : Hid (numR [] = 0) := rfl
    go_enter Tryz.func40, Tryz.ntmps40
    go_wp2_with fail
    go_ret2
    exact ⟨by rw [HR.out, HN.out]; rfl, Fr.refl _ _⟩
  have hpos : 0 < s.length := List.length_pos_iff.2 h0
  have h0' : decide (((s.length : Nat) : Int) < 1) = false := by simp; omega
  have h0n : ¬ ((s.length : Nat) : Int) < 1 := by omega
  by_cases h9 : 9 < s.length
  · have h9' : decide ((9 : Int) < ((s.length : Nat) : Int)) = true := by simp; omega
    have HR : Hid (isNumB s = false) := by unfold Hid isNumB; rw [decide_eq_false (show ¬ s.length ≤ 9 by omega)]; simp
    have HN : Hid (numR s = 0) := by unfold Hid numR; rw [HR.out]; rfl
    generalize isNumB s = q at *
    generalize numR s = r at *
    clear h9 h0 hpos
    go_enter Tryz.func40, Tryz.ntmps40
    go_wp2_with fail
    go_ret2
    exact ⟨by rw [HR.out, HN.out]; rfl, Fr.refl _ _⟩
  have h9' : decide ((9 : Int) < ((s.length : Nat) : Int)) = false := by simp; omega
  have eh : s.head? = some s[0] := by cases s with
    | nil => exact absurd rfl h0
    | cons a r => rfl
  have main : (h1 : decide ((1 : Int) < ((s.length : Nat) : Int)) = true → ((((ByteArray.mk s.toArray)[0]'(by simpa [ByteArray.size] using hpos)).toNat : Int) == 48) = false) → Hid (isNumB s = !s.any noDig) → Calls Tryz.prog 40 #[.string ⟨s.toArray⟩] w fun e w' => e = .returned (.tuple #[.int .i64 (numR s), .bool (isNumB s)]) ∧ Fr (fun _ => False) w w' := by
    intro h48 HQ
    have hcs : (decide ((1 : Int) < ((s.length : Nat) : Int)) = true ∧ ((((ByteArray.mk s.toArray)[0]'(by simpa [ByteArray.size] using hpos)).toNat : Int) == 48) = false) ∨ decide ((1 : Int) < ((s.length : Nat) : Int)) = false := by
      cases hc : decide ((1 : Int) < ((s.length : Nat) : Int)) with
      | true => exact .inl ⟨rfl, h48 hc⟩
      | false => exact .inr rfl
    have HNr : Hid (numR s = if isNumB s = true then (digN s : Int) else 0) := rfl
    generalize isNumB s = q at *
    generalize numR s = r at *
    clear h48 h0 eh
    have hs9 : s.length ≤ 9 := by omega
    rcases hcs with ⟨hc1, hc2⟩ | hc1
    all_goals
      go_enter Tryz.func40, Tryz.ntmps40
      go_wp2_with fail
      go_loopw [4, 5] (fun nv iv wr => ∃ i : Nat, i ≤ s.length ∧ iv = .int .i64 (i : Int) ∧ nv = .int .i64 (digN (s.take i) : Int) ∧ (∀ j (hj : j < s.length), j < i → noDig s[j] = false) ∧ w = wr) (fun _ iv _ => s.length - (intOf iv).toNat)
      case atStart => exact ⟨0, Nat.zero_le _, rfl, rfl, fun j _ hj => absurd hj (by omega), rfl⟩
      case round =>
        obtain ⟨i, hi, rfl, rfl, hA, rfl⟩ := hrel
        have HA := hid hA
        have hsm := dig_small s i hi hs9 hA
        clear hA
        by_cases hlt : i < s.length
        · have hlt' : (i : Int) < ((s.length : Nat) : Int) := by omega
          have hi0 : (0 : Int) ≤ (i : Int) := Int.natCast_nonneg _
          have HSt := hid (str_at s i hlt)
          have hc8 := UInt8.toNat_lt ((ByteArray.mk s.toArray)[i]'(by simpa [ByteArray.size] using hlt))
          by_cases hd : noDig s[i] = true
          · have HE : Hid (q = false) := by
              unfold Hid; rw [HQ.out]
              have : s.any noDig = true := List.any_eq_true.2 ⟨s[i], List.getElem_mem hlt, hd⟩
              rw [this]; rfl
            have HE2 : Hid (r = 0) := by unfold Hid; rw [HNr.out, HE.out]; rfl
            have hx : decide ((((ByteArray.mk s.toArray)[i]'(by simpa [ByteArray.size] using hlt)).toNat : Int) < 48) = true ∨ (decide ((((ByteArray.mk s.toArray)[i]'(by simpa [ByteArray.size] using hlt)).toNat : Int) < 48) = false ∧ decide ((57 : Int) < (((ByteArray.mk s.toArray)[i]'(by simpa [ByteArray.size] using hlt)).toNat : Int)) = true) := by
              rw [← HSt.out] at hd
              unfold noDig at hd
              simp only [Bool.or_eq_true, decide_eq_true_eq] at hd
              by_cases h48 : ((ByteArray.mk s.toArray)[i]'(by simpa [ByteArray.size] using hlt)).toNat < 48
              · exact .inl (decide_eq_true (by omega))
              · exact .inr ⟨decide_eq_false (by omega), decide_eq_true (by omega)⟩
            clear hd hsm hc8
            rcases hx with hx | ⟨hx, hy⟩
            · go_wp2_with fail
              go_ret2
              exact ⟨by rw [HE.out, HE2.out]; rfl, Fr.refl _ _⟩
            · go_wp2_with fail
              go_ret2
              exact ⟨by rw [HE.out, HE2.out]; rfl, Fr.refl _ _⟩
          · have hd' : noDig s[i] = false := by simpa using hd
            have HA2 : Hid (∀ j (hj : j < s.length), j < i + 1 → noDig s[j] = false) := fun j hj hj' => by
              by_cases e : j = i
              · subst e; exact hd'
              · exact HA.out j hj (by omega)
            have HDt : Hid ((digN (s.take (i + 1)) : Int) = 10 * (digN (s.take i) : Int) + ((((ByteArray.mk s.toArray)[i]'(by simpa [ByteArray.size] using hlt)).toNat : Int) - 48)) := by
              have h3 := noDig_false.1 hd'
              unfold Hid
              rw [dig_take s i hlt, HSt.out]
              omega
            have hb : 48 ≤ ((ByteArray.mk s.toArray)[i]'(by simpa [ByteArray.size] using hlt)).toNat ∧ ((ByteArray.mk s.toArray)[i]'(by simpa [ByteArray.size] using hlt)).toNat ≤ 57 := by
              rw [HSt.out]; exact noDig_false.1 hd'
            have hx1 : decide ((((ByteArray.mk s.toArray)[i]'(by simpa [ByteArray.size] using hlt)).toNat : Int) < 48) = false := decide_eq_false (by omega)
            have hx2 : decide ((57 : Int) < (((ByteArray.mk s.toArray)[i]'(by simpa [ByteArray.size] using hlt)).toNat : Int)) = false := decide_eq_false (by omega)
            generalize digN (s.take i) = d at *
            clear hd hd'
            go_wp2_with fail
            exact ⟨⟨i + 1, by omega, by first | rfl | (congr 1), by rw [HDt.out], HA2.out, by first | rfl | trivial⟩, by simp [intOf]; omega⟩
        · have hlt' : ¬ (i : Int) < ((s.length : Nat) : Int) := by omega
          have hie : i = s.length := by omega
          have HE : Hid (q = true) := by
            unfold Hid; rw [HQ.out]
            have : s.any noDig = false := List.any_eq_false.2 fun c hc => by
              obtain ⟨j, hj, rfl⟩ := List.getElem_of_mem hc
              rw [HA.out j hj (by omega)]; simp
            rw [this]; rfl
          have HE2 : Hid (r = (digN (s.take i) : Int)) := by unfold Hid; rw [HNr.out, HE.out, if_pos rfl, hie, List.take_length]
          generalize digN (s.take i) = d at *
          clear hie
          go_wp2_with fail
          go_ret2
          exact ⟨by rw [HE.out, HE2.out]; rfl, Fr.refl _ _⟩
  by_cases h1 : 1 < s.length
  · by_cases h48 : s[0] = 48
    · have h1' : decide ((1 : Int) < ((s.length : Nat) : Int)) = true := by simp; omega
      have h48' : ((((ByteArray.mk s.toArray)[0]'(by simpa [ByteArray.size] using hpos)).toNat : Int) == 48) = true := by
        rw [str_at s 0 hpos, h48]; rfl
      have HR : Hid (isNumB s = false) := by unfold Hid isNumB; rw [decide_eq_true h1, eh, h48]; simp
      have HN : Hid (numR s = 0) := by unfold Hid numR; rw [HR.out]; rfl
      generalize isNumB s = q at *
      generalize numR s = r at *
      clear h9 h1 h0 h48 eh main
      go_enter Tryz.func40, Tryz.ntmps40
      go_wp2_with fail
      go_ret2
      exact ⟨by rw [HR.out, HN.out]; rfl, Fr.refl _ _⟩
    · refine main (fun _ => ?_) ?_
      · rw [str_at s 0 hpos, beq_eq_false_iff_ne]
        intro e
        exact h48 (UInt8.toNat_inj.1 (by simpa using (show s[0].toNat = 48 by omega)))
      · unfold Hid isNumB
        rw [decide_eq_true (show s.length ≤ 9 by omega), decide_eq_true h0, eh]
        simp [h48]
  · refine main (fun h => ?_) ?_
    · exfalso
      simp at h
      omega
    · unfold Hid isNumB
      rw [decide_eq_true (show s.length ≤ 9 by omega), decide_eq_false h1, decide_eq_true h0]
      simp

theorem foreign_iff (c : UInt8) : foreignB c = true ↔ ¬ ((97 ≤ c.toNat ∧ c.toNat ≤ 122) ∨ (48 ≤ c.toNat ∧ c.toNat ≤ 57) ∨ c.toNat = 45) := by
  unfold foreignB noDig
  have e : (c ≠ 45) ↔ c.toNat ≠ 45 := ⟨fun h e => h (UInt8.toNat_inj.1 (by simpa using e)), fun h e => h (by rw [e]; rfl)⟩
  simp only [Bool.and_eq_true, Bool.or_eq_true, decide_eq_true_eq, e]
  omega

set_option maxRecDepth 100000 in
set_option maxHeartbeats 4000000 in
theorem rlow_any (w : World) (s : List UInt8) (hl : s.length ≤ 64) : Calls Tryz.prog 41 #[.string ⟨s.toArray⟩] w fun e w' => e = .returned (.bool (!s.any foreignB)) ∧ Fr (fun _ => False) w w' := by
  have HQ : Hid (s.any foreignB = s.any foreignB) := rfl
  generalize hq : s.any foreignB = q at HQ ⊢
  clear HQ
  have HQ := hid hq
  clear hq
  go_enter Tryz.func41, Tryz.ntmps41
  go_wp2_with fail
  go_loopw [3] (fun iv wr => ∃ i : Nat, i ≤ s.length ∧ iv = .int .i64 (i : Int) ∧ (∀ j (hj : j < s.length), j < i → foreignB s[j] = false) ∧ w = wr) (fun iv _ => s.length - (intOf iv).toNat)
  case atStart => exact ⟨0, Nat.zero_le _, rfl, fun j _ hj => absurd hj (by omega), rfl⟩
  case round =>
    obtain ⟨i, hi, rfl, hA, rfl⟩ := hrel
    have HA := hid hA
    clear hA
    by_cases hlt : i < s.length
    · have hlt' : (i : Int) < ((s.length : Nat) : Int) := by omega
      have hi0 : (0 : Int) ≤ (i : Int) := Int.natCast_nonneg _
      have HSt := hid (str_at s i hlt)
      have HF := hid (foreign_iff s[i])
      have HN : Hid (foreignB s[i] = true → q = true) := fun h => by
        rw [← HQ.out]; exact List.any_eq_true.2 ⟨s[i], List.getElem_mem hlt, h⟩
      have HN2 : Hid (foreignB s[i] = false → ∀ j (hj : j < s.length), j < i + 1 → foreignB s[j] = false) := fun h j hj hj' => by
        by_cases e : j = i
        · subst e; exact h
        · exact HA.out j hj (by omega)
      rw [← HSt.out] at HF HN HN2
      have hc8 := UInt8.toNat_lt ((ByteArray.mk s.toArray)[i]'(by simpa [ByteArray.size] using hlt))
      have cls : (((ByteArray.mk s.toArray)[i]'(by simpa [ByteArray.size] using hlt)).toNat < 45) ∨ (((ByteArray.mk s.toArray)[i]'(by simpa [ByteArray.size] using hlt)).toNat = 45) ∨ (45 < ((ByteArray.mk s.toArray)[i]'(by simpa [ByteArray.size] using hlt)).toNat ∧ ((ByteArray.mk s.toArray)[i]'(by simpa [ByteArray.size] using hlt)).toNat < 48) ∨ (48 ≤ ((ByteArray.mk s.toArray)[i]'(by simpa [ByteArray.size] using hlt)).toNat ∧ ((ByteArray.mk s.toArray)[i]'(by simpa [ByteArray.size] using hlt)).toNat ≤ 57) ∨ (57 < ((ByteArray.mk s.toArray)[i]'(by simpa [ByteArray.size] using hlt)).toNat ∧ ((ByteArray.mk s.toArray)[i]'(by simpa [ByteArray.size] using hlt)).toNat < 97) ∨ (97 ≤ ((ByteArray.mk s.toArray)[i]'(by simpa [ByteArray.size] using hlt)).toNat ∧ ((ByteArray.mk s.toArray)[i]'(by simpa [ByteArray.size] using hlt)).toNat ≤ 122) ∨ (122 < ((ByteArray.mk s.toArray)[i]'(by simpa [ByteArray.size] using hlt)).toNat) := by omega
      rcases cls with h | h | ⟨h, h2⟩ | ⟨h, h2⟩ | ⟨h, h2⟩ | ⟨h, h2⟩ | h
      · have c1 : decide ((97 : Int) ≤ (((ByteArray.mk s.toArray)[i]'(by simpa [ByteArray.size] using hlt)).toNat : Int)) = false := decide_eq_false (by omega)
        have c2 : decide ((((ByteArray.mk s.toArray)[i]'(by simpa [ByteArray.size] using hlt)).toNat : Int) ≤ 122) = true := decide_eq_true (by omega)
        have c3 : decide ((48 : Int) ≤ (((ByteArray.mk s.toArray)[i]'(by simpa [ByteArray.size] using hlt)).toNat : Int)) = false := decide_eq_false (by omega)
        have c4 : decide ((((ByteArray.mk s.toArray)[i]'(by simpa [ByteArray.size] using hlt)).toNat : Int) ≤ 57) = true := decide_eq_true (by omega)
        have c5 : ((((ByteArray.mk s.toArray)[i]'(by simpa [ByteArray.size] using hlt)).toNat : Int) == 45) = false := by rw [beq_eq_false_iff_ne]; omega
        have HE := hid (HN.out (HF.out.2 (by omega)))
        clear h HF HN HN2 hc8
        go_wp2_with fail
        go_ret
        exact ⟨by rw [HE.out]; rfl, Fr.refl _ _⟩
      · have c1 : decide ((97 : Int) ≤ (((ByteArray.mk s.toArray)[i]'(by simpa [ByteArray.size] using hlt)).toNat : Int)) = false := decide_eq_false (by omega)
        have c2 : decide ((((ByteArray.mk s.toArray)[i]'(by simpa [ByteArray.size] using hlt)).toNat : Int) ≤ 122) = true := decide_eq_true (by omega)
        have c3 : decide ((48 : Int) ≤ (((ByteArray.mk s.toArray)[i]'(by simpa [ByteArray.size] using hlt)).toNat : Int)) = false := decide_eq_false (by omega)
        have c4 : decide ((((ByteArray.mk s.toArray)[i]'(by simpa [ByteArray.size] using hlt)).toNat : Int) ≤ 57) = true := decide_eq_true (by omega)
        have c5 : ((((ByteArray.mk s.toArray)[i]'(by simpa [ByteArray.size] using hlt)).toNat : Int) == 45) = true := by rw [beq_iff_eq]; omega
        have HE := hid (HN2.out (by
          cases hb : foreignB ((ByteArray.mk s.toArray)[i]'(by simpa [ByteArray.size] using hlt)) with
          | false => rfl
          | true => exact absurd (HF.out.1 hb) (by omega)))
        clear h HF HN HN2 hc8
        go_wp2_with fail
        exact ⟨⟨i + 1, by omega, by first | rfl | (congr 1), HE.out, by first | rfl | trivial⟩, by simp [intOf]; omega⟩
      · have c1 : decide ((97 : Int) ≤ (((ByteArray.mk s.toArray)[i]'(by simpa [ByteArray.size] using hlt)).toNat : Int)) = false := decide_eq_false (by omega)
        have c2 : decide ((((ByteArray.mk s.toArray)[i]'(by simpa [ByteArray.size] using hlt)).toNat : Int) ≤ 122) = true := decide_eq_true (by omega)
        have c3 : decide ((48 : Int) ≤ (((ByteArray.mk s.toArray)[i]'(by simpa [ByteArray.size] using hlt)).toNat : Int)) = false := decide_eq_false (by omega)
        have c4 : decide ((((ByteArray.mk s.toArray)[i]'(by simpa [ByteArray.size] using hlt)).toNat : Int) ≤ 57) = true := decide_eq_true (by omega)
        have c5 : ((((ByteArray.mk s.toArray)[i]'(by simpa [ByteArray.size] using hlt)).toNat : Int) == 45) = false := by rw [beq_eq_false_iff_ne]; omega
        have HE := hid (HN.out (HF.out.2 (by omega)))
        clear h h2 HF HN HN2 hc8
        go_wp2_with fail
        go_ret
        exact ⟨by rw [HE.out]; rfl, Fr.refl _ _⟩
      · have c1 : decide ((97 : Int) ≤ (((ByteArray.mk s.toArray)[i]'(by simpa [ByteArray.size] using hlt)).toNat : Int)) = false := decide_eq_false (by omega)
        have c2 : decide ((((ByteArray.mk s.toArray)[i]'(by simpa [ByteArray.size] using hlt)).toNat : Int) ≤ 122) = true := decide_eq_true (by omega)
        have c3 : decide ((48 : Int) ≤ (((ByteArray.mk s.toArray)[i]'(by simpa [ByteArray.size] using hlt)).toNat : Int)) = true := decide_eq_true (by omega)
        have c4 : decide ((((ByteArray.mk s.toArray)[i]'(by simpa [ByteArray.size] using hlt)).toNat : Int) ≤ 57) = true := decide_eq_true (by omega)
        have c5 : ((((ByteArray.mk s.toArray)[i]'(by simpa [ByteArray.size] using hlt)).toNat : Int) == 45) = false := by rw [beq_eq_false_iff_ne]; omega
        have HE := hid (HN2.out (by
          cases hb : foreignB ((ByteArray.mk s.toArray)[i]'(by simpa [ByteArray.size] using hlt)) with
          | false => rfl
          | true => exact absurd (HF.out.1 hb) (by omega)))
        clear h h2 HF HN HN2 hc8
        go_wp2_with fail
        exact ⟨⟨i + 1, by omega, by first | rfl | (congr 1), HE.out, by first | rfl | trivial⟩, by simp [intOf]; omega⟩
      · have c1 : decide ((97 : Int) ≤ (((ByteArray.mk s.toArray)[i]'(by simpa [ByteArray.size] using hlt)).toNat : Int)) = false := decide_eq_false (by omega)
        have c2 : decide ((((ByteArray.mk s.toArray)[i]'(by simpa [ByteArray.size] using hlt)).toNat : Int) ≤ 122) = true := decide_eq_true (by omega)
        have c3 : decide ((48 : Int) ≤ (((ByteArray.mk s.toArray)[i]'(by simpa [ByteArray.size] using hlt)).toNat : Int)) = true := decide_eq_true (by omega)
        have c4 : decide ((((ByteArray.mk s.toArray)[i]'(by simpa [ByteArray.size] using hlt)).toNat : Int) ≤ 57) = false := decide_eq_false (by omega)
        have c5 : ((((ByteArray.mk s.toArray)[i]'(by simpa [ByteArray.size] using hlt)).toNat : Int) == 45) = false := by rw [beq_eq_false_iff_ne]; omega
        have HE := hid (HN.out (HF.out.2 (by omega)))
        clear h h2 HF HN HN2 hc8
        go_wp2_with fail
        go_ret
        exact ⟨by rw [HE.out]; rfl, Fr.refl _ _⟩
      · have c1 : decide ((97 : Int) ≤ (((ByteArray.mk s.toArray)[i]'(by simpa [ByteArray.size] using hlt)).toNat : Int)) = true := decide_eq_true (by omega)
        have c2 : decide ((((ByteArray.mk s.toArray)[i]'(by simpa [ByteArray.size] using hlt)).toNat : Int) ≤ 122) = true := decide_eq_true (by omega)
        have c3 : decide ((48 : Int) ≤ (((ByteArray.mk s.toArray)[i]'(by simpa [ByteArray.size] using hlt)).toNat : Int)) = true := decide_eq_true (by omega)
        have c4 : decide ((((ByteArray.mk s.toArray)[i]'(by simpa [ByteArray.size] using hlt)).toNat : Int) ≤ 57) = false := decide_eq_false (by omega)
        have c5 : ((((ByteArray.mk s.toArray)[i]'(by simpa [ByteArray.size] using hlt)).toNat : Int) == 45) = false := by rw [beq_eq_false_iff_ne]; omega
        have HE := hid (HN2.out (by
          cases hb : foreignB ((ByteArray.mk s.toArray)[i]'(by simpa [ByteArray.size] using hlt)) with
          | false => rfl
          | true => exact absurd (HF.out.1 hb) (by omega)))
        clear h h2 HF HN HN2 hc8
        go_wp2_with fail
        exact ⟨⟨i + 1, by omega, by first | rfl | (congr 1), HE.out, by first | rfl | trivial⟩, by simp [intOf]; omega⟩
      · have c1 : decide ((97 : Int) ≤ (((ByteArray.mk s.toArray)[i]'(by simpa [ByteArray.size] using hlt)).toNat : Int)) = true := decide_eq_true (by omega)
        have c2 : decide ((((ByteArray.mk s.toArray)[i]'(by simpa [ByteArray.size] using hlt)).toNat : Int) ≤ 122) = false := decide_eq_false (by omega)
        have c3 : decide ((48 : Int) ≤ (((ByteArray.mk s.toArray)[i]'(by simpa [ByteArray.size] using hlt)).toNat : Int)) = true := decide_eq_true (by omega)
        have c4 : decide ((((ByteArray.mk s.toArray)[i]'(by simpa [ByteArray.size] using hlt)).toNat : Int) ≤ 57) = false := decide_eq_false (by omega)
        have c5 : ((((ByteArray.mk s.toArray)[i]'(by simpa [ByteArray.size] using hlt)).toNat : Int) == 45) = false := by rw [beq_eq_false_iff_ne]; omega
        have HE := hid (HN.out (HF.out.2 (by omega)))
        clear h HF HN HN2 hc8
        go_wp2_with fail
        go_ret
        exact ⟨by rw [HE.out]; rfl, Fr.refl _ _⟩
    · have hlt' : ¬ (i : Int) < ((s.length : Nat) : Int) := by omega
      have HE : Hid (q = false) := by
        unfold Hid; rw [← HQ.out]
        exact List.any_eq_false.2 fun c hc => by
          obtain ⟨j, hj, rfl⟩ := List.getElem_of_mem hc
          rw [HA.out j hj (by omega)]; simp
      go_wp2_with fail
      go_ret
      exact ⟨by rw [HE.out]; rfl, Fr.refl _ _⟩
end Go.Proofs.YtniailfcmlongaaGreatDoor.Tr
/- The contract of the document's Words. -/
namespace Go.Proofs.YtniailfcmlongaaGreatDoor.Tr
open Go.RowKit

def sub (s : List UInt8) (a b : Nat) : List UInt8 := (s.take b).drop a
theorem sub_len (s : List UInt8) (a b : Nat) (h : b ≤ s.length) : (sub s a b).length = b - a := by simp [sub]; omega
theorem sub_self (s : List UInt8) (a : Nat) : sub s a a = [] := by
  unfold sub; rw [List.drop_eq_nil_of_le]; simp; omega
theorem sub_snoc (s : List UInt8) (a b : Nat) (h : a ≤ b) (hb : b < s.length) : sub s a (b + 1) = sub s a b ++ [s[b]] := by
  unfold sub
  rw [List.take_succ_eq_append_getElem hb, List.drop_append_of_le_length (by simp; omega)]
theorem sub_all (s : List UInt8) (a : Nat) : sub s a s.length = s.drop a := by simp [sub]
theorem ext_sub (s : List UInt8) (a b : Nat) : (ByteArray.mk s.toArray).extract a b = ⟨(sub s a b).toArray⟩ := by
  apply ByteArray.ext
  simp [sub, ByteArray.data_extract, List.extract_eq_take_drop, List.drop_take]
theorem sub_rest (s : List UInt8) (a b : Nat) (h : a ≤ b) (hb : b < s.length) : s.drop a = sub s a b ++ s[b] :: s.drop (b + 1) := by
  rw [← List.drop_eq_getElem_cons hb]
  unfold sub
  conv => lhs; rw [← List.take_append_drop b s]
  rw [List.drop_append_of_le_length (by simp; omega)]

/-- How far the document's Words has come: at i, the word begins at f, D are the words so far. -/
structure WInv (t : List UInt8) (i f : Nat) (D : List (List UInt8)) : Prop where
  fi : f ≤ i
  il : i ≤ t.length + 1
  full : ∀ s ∈ D, s ≠ []
  few : D.length ≤ f
  now : i ≤ t.length → spl t = D ++ spl (t.drop f) ∧ 32 ∉ sub t f i
  done : i = t.length + 1 → spl t = D
theorem WInv.start (t : List UInt8) : WInv t 0 0 [] := ⟨by omega, by omega, by simp, by simp, fun _ => ⟨by simp, by rw [sub_self]; simp⟩, fun e => by omega⟩
theorem WInv.skip {t : List UInt8} {i f : Nat} {D : List (List UInt8)} (h : WInv t i f D) (hi : i < t.length) (e : t[i] ≠ 32) : WInv t (i + 1) f D :=
  ⟨by have := h.fi; omega, by omega, h.full, h.few, fun _ => ⟨(h.now (by omega)).1, by
    rw [sub_snoc t f i h.fi hi, List.mem_append]
    rintro (g | g)
    · exact (h.now (by omega)).2 g
    · simp only [List.mem_singleton] at g; exact e g.symm⟩, fun e => by omega⟩
theorem wcut {t : List UInt8} {i f : Nat} (hf : f ≤ i) (hi : i ≤ t.length) (e : ∀ h : i < t.length, t[i] = 32) (hn : 32 ∉ sub t f i) : spl (t.drop f) = sub t f i :: (if i < t.length then spl (t.drop (i + 1)) else []) := by
  by_cases hlt : i < t.length
  · rw [if_pos hlt, sub_rest t f i hf hlt, e hlt, spl_cut _ hn]
  · obtain rfl : i = t.length := by omega
    rw [if_neg hlt]
    rw [sub_all] at hn ⊢
    exact spl_none hn
theorem WInv.take {t : List UInt8} {i f : Nat} {D : List (List UInt8)} (h : WInv t i f D) (hi : i ≤ t.length) (e : ∀ h : i < t.length, t[i] = 32) (hn : i ≠ f) : WInv t (i + 1) (i + 1) (D ++ [sub t f i]) := by
  obtain ⟨hc, h32⟩ := h.now hi
  rw [wcut h.fi hi e h32] at hc
  refine ⟨by omega, by omega, fun s hs => ?_, ?_, fun hle => ⟨?_, by rw [sub_self]; simp⟩, fun he => ?_⟩
  · rw [List.mem_append] at hs
    rcases hs with hs | hs
    · exact h.full s hs
    · simp only [List.mem_singleton] at hs
      subst hs
      intro h0
      have := sub_len t f i hi
      rw [h0] at this
      have := h.fi
      simp at *
      omega
  · have := h.few; have := h.fi; simp; omega
  · rw [hc, if_pos (by omega)]; simp
  · rw [hc, if_neg (by omega)]
theorem WInv.bad {t : List UInt8} {f : Nat} {D : List (List UInt8)} (h : WInv t f f D) (hi : f ≤ t.length) (e : ∀ h : f < t.length, t[f] = 32) : [] ∈ spl t := by
  obtain ⟨hc, h32⟩ := h.now hi
  rw [hc, wcut (Nat.le_refl f) hi e h32, sub_self]
  simp

/-- What Words leaves: the words in a row, if none is empty and there are few. -/
def WdPost (w : World) (t : List UInt8) (e : Ending) (w' : World) : Prop :=
  Fr (fun _ => False) w w' ∧ ((e = .returned (.tuple #[.slice none 0 0, .bool false]) ∧ (64 < t.length ∨ [] ∈ spl t)) ∨
    ∃ ad cap, e = .returned (.tuple #[.slice ad (spl t).length cap, .bool (decide ((spl t).length ≤ 8))]) ∧ t.length ≤ 64 ∧ [] ∉ spl t ∧ (spl t).length ≤ cap ∧ Wds w' ad (spl t))

set_option maxRecDepth 100000 in
set_option maxHeartbeats 4000000 in
theorem words_any (w : World) (t : List UInt8) (hl : t.length ≤ 140737488355328) : Calls Tryz.prog 24 #[.string ⟨t.toArray⟩] w fun e w' => WdPost w t e w' := by
  by_cases h64 : 64 < t.length
  · have h64' : decide (((t.length : Nat) : Int) > 64) = true := by simp; omega
    have h64n : (64 : Int) < ((t.length : Nat) : Int) := by omega
    have HP : Hid (64 < t.length) := h64
    clear h64
    go_enter Tryz.func24, Tryz.ntmps24
    go_wp2_with fail
    go_ret2
    exact ⟨Fr.refl _ _, .inl ⟨rfl, .inl HP.out⟩⟩
  have h64' : ¬ (64 : Int) < ((t.length : Nat) : Int) := by omega
  have h64b : decide ((64 : Int) < ((t.length : Nat) : Int)) = false := by simp; omega
  have HL : Hid (t.length ≤ 64) := by unfold Hid; omega
  go_enter Tryz.func24, Tryz.ntmps24
  go_wp2_with fail
  go_loopw [4, 5, 6] (fun ov fv iv wr => ∃ (i f : Nat) (D : List (List UInt8)), WInv t i f D ∧ iv = .int .i64 (i : Int) ∧ fv = .int .i64 (f : Int) ∧ wr.ownsRow w.heap.size 9 1 ov D.length (strC D) ∧ Fr (fun _ => False) w wr) (fun _ _ iv _ => t.length + 1 - (intOf iv).toNat)
  case atStart => exact ⟨0, 0, [], WInv.start t, rfl, rfl, World.ownsRow_nil _ _ _ _, Fr.refl _ _⟩
  case round =>
    obtain ⟨i, f, D, hI, rfl, rfl, hO, hF⟩ := hrel
    have HI' := hid hI
    have hfi := hI.fi
    have hil := hI.il
    have hfew := hI.few
    have HO := hid hO
    have HF := hid hF
    clear hI hO hF
    by_cases hle : i ≤ t.length
    · have hi1 : (i : Int) ≤ ((t.length : Nat) : Int) := by omega
      have hi0 : (0 : Int) ≤ (i : Int) := Int.natCast_nonneg _
      have hf0 : (0 : Int) ≤ (f : Int) := Int.natCast_nonneg _
      have hfi' : (f : Int) ≤ (i : Int) := by omega
      by_cases hsk : ∃ h : i < t.length, t[i] ≠ 32
      · obtain ⟨hlt, hne⟩ := hsk
        have hi2 : (i : Int) < ((t.length : Nat) : Int) := by omega
        have hne' : (((((ByteArray.mk t.toArray)[i]'(by simpa [ByteArray.size] using hlt)).toNat : Int)) != 32) = true := by
          rw [str_at t i hlt]
          exact bne_iff_ne.2 (fun h => hne (UInt8.toNat_inj.1 (by have e : (32 : UInt8).toNat = 32 := rfl; rw [e]; omega)))
        have HI2 := hid (HI'.out.skip hlt hne)
        clear hne
        go_wp2_with fail
        exact ⟨⟨i + 1, f, D, HI2.out, by first | rfl | (congr 1), rfl, HO.out, HF.out⟩, by simp [intOf]; omega⟩
      · have he : ∀ h : i < t.length, t[i] = 32 := fun h => Classical.byContradiction fun hc => hsk ⟨h, hc⟩
        have hgo : ∀ (K : Prop), (¬ (i : Int) < ((t.length : Nat) : Int) → K) → ((i : Int) < ((t.length : Nat) : Int) → (∀ h : i < t.length, ((((((ByteArray.mk t.toArray)[i]'(by simpa [ByteArray.size] using h)).toNat : Int)) != 32) = false)) → K) → K := by
          intro K k1 k2
          by_cases hlt : i < t.length
          · exact k2 (by omega) (fun h => by rw [str_at t i h, he h]; rfl)
          · exact k1 (by omega)
        clear hsk
        by_cases hif : i = f
        · subst hif
          have HBd := hid (HI'.out.bad hle he)
          clear he
          refine hgo _ (fun hnl => ?_) (fun hlt' hq => ?_)
          · clear hgo
            go_wp2_with fail
            go_ret2
            exact ⟨HF.out, .inl ⟨rfl, .inr HBd.out⟩⟩
          · have hlt : i < t.length := by omega
            have hq' := hq hlt
            clear hgo hq
            go_wp2_with fail
            go_ret2
            exact ⟨HF.out, .inl ⟨rfl, .inr HBd.out⟩⟩
        · have hif' : ((i : Int) == (f : Int)) = false := by simp; omega
          have HT := hid (HI'.out.take hle he hif)
          have HX := hid (ext_sub t f i)
          have hD : D.length ≤ 1000 := by omega
          have HOa := hid (own_alloc HO.out (.cells #[.string ⟨(sub t f i).toArray⟩] 9))
          have HFa : Hid (Fr (fun _ => False) w (wr.alloc (.cells #[.string ⟨(sub t f i).toArray⟩] 9))) := HF.out.alloc _
          have HGa : Hid ((wr.alloc (.cells #[.string ⟨(sub t f i).toArray⟩] 9)).cell? ⟨wr.heap.size, 0, none⟩ = some (.string ⟨(sub t f i).toArray⟩)) := (Blk.new wr 9 [.string ⟨(sub t f i).toArray⟩]).cell 0
          have hsz : w.heap.size ≤ (wr.alloc (.cells #[.string ⟨(sub t f i).toArray⟩] 9)).heap.size := by
            have := HF.out.size
            rw [World.size_alloc]; omega
          clear he hif
          refine hgo _ (fun hnl => ?_) (fun hlt' hq => ?_)
          · clear hgo
            go_wp2_with (at_builtin; refine Hid.out ?_)
            simp only [HX.out]
            refine wpList_app_S (by rfl) _ _ (by rfl) w.heap.size _ D (sub t f i) _ _ (by rfl) (by rfl) HOa.out HGa.out hsz hD ?_
            intro g' ic' W' ho hg
            have HO2 := hid ho
            have HF3 : Hid (Fr (fun _ => False) w W') := HFa.out.grown hg (fun k hk => .inr (own_lt HO.out k hk).1)
            clear ho hg
            go_wp2_with fail
            exact ⟨⟨i + 1, i + 1, _, HT.out, by first | rfl | (congr 1), by first | rfl | (congr 1), HO2.out, HF3.out⟩, by simp [intOf]; omega⟩
          · have hlt : i < t.length := by omega
            have hq' := hq hlt
            clear hgo hq
            go_wp2_with (at_builtin; refine Hid.out ?_)
            simp only [HX.out]
            refine wpList_app_S (by rfl) _ _ (by rfl) w.heap.size _ D (sub t f i) _ _ (by rfl) (by rfl) HOa.out HGa.out hsz hD ?_
            intro g' ic' W' ho hg
            have HO2 := hid ho
            have HF3 : Hid (Fr (fun _ => False) w W') := HFa.out.grown hg (fun k hk => .inr (own_lt HO.out k hk).1)
            clear ho hg
            go_wp2_with fail
            exact ⟨⟨i + 1, i + 1, _, HT.out, by first | rfl | (congr 1), by first | rfl | (congr 1), HO2.out, HF3.out⟩, by simp [intOf]; omega⟩
    · obtain rfl : i = t.length + 1 := by omega
      have hn : ¬ ((t.length + 1 : Nat) : Int) ≤ ((t.length : Nat) : Int) := by omega
      have HDn := hid (HI'.out.done rfl)
      have HFu := hid HI'.out.full
      have hnp : 0 < D.length := by rw [← HDn.out]; exact List.length_pos_iff.2 (spl_ne t)
      obtain ⟨g3, c3, cur3, hv3, hb3, hl3, hc3, hf3, ht3⟩ := own_row HO.out hnp
      subst hv3
      have HW : Hid (Wds wr (some ⟨g3, 0, none⟩) D) := ⟨fun _ => ⟨g3, 0, rfl, fun j hj => by
        rw [Nat.zero_add, cell_of_row wr g3 j _ _ (0, 0) hc3]
        have h2 : (strC D)[j]? = some (.string ⟨D[j].toArray⟩) := by unfold strC; rw [List.getElem?_map, List.getElem?_eq_getElem hj]; rfl
        rw [← ht3, List.getElem?_take, if_pos (by omega)] at h2
        simpa using h2⟩, by have := HL.out; omega, fun s hs => by
          rw [← HDn.out] at hs
          exact Nat.le_trans (words_short t s hs) HL.out⟩
      clear hc3 ht3
      by_cases h8 : D.length ≤ 8
      · have h8' : decide (((D.length : Nat) : Int) ≤ 8) = true := by simp; omega
        go_wp2_with fail
        go_ret2
        refine ⟨HF.out, .inr ⟨some ⟨g3, 0, none⟩, c3, ?_, HL.out, ?_, ?_, ?_⟩⟩
        · rw [HDn.out, decide_eq_true h8]; rfl
        · rw [HDn.out]; exact fun h => HFu.out [] h rfl
        · rw [HDn.out]; exact hf3
        · rw [HDn.out]; exact HW.out
      · have h8' : decide (((D.length : Nat) : Int) ≤ 8) = false := by simp; omega
        go_wp2_with fail
        go_ret2
        refine ⟨HF.out, .inr ⟨some ⟨g3, 0, none⟩, c3, ?_, HL.out, ?_, ?_, ?_⟩⟩
        · rw [HDn.out, decide_eq_false h8]; rfl
        · rw [HDn.out]; exact fun h => HFu.out [] h rfl
        · rw [HDn.out]; exact hf3
        · rw [HDn.out]; exact HW.out
end Go.Proofs.YtniailfcmlongaaGreatDoor.Tr
/- The contract of the document's right. -/
namespace Go.Proofs.YtniailfcmlongaaGreatDoor.Tr
open Go.RowKit

/-- What right tells of words, none of which is empty. -/
def RgT (ws : List (List UInt8)) : Prop := ∀ (w : World) (ad : Option Addr) (cap : Nat), Wds w ad ws → [] ∉ ws → ws.length ≤ cap → Calls Tryz.prog 25 #[.slice ad ws.length cap] w fun e w' => e = .returned (.bool (tyOf ws).isSome) ∧ Fr (fun _ => False) w w'

theorem ty_bare {s : List UInt8} (ws : List (List UInt8)) (hb : s = sBool ∨ s = sFloat ∨ s = sString ∨ s = sLines ∨ s = sUnit) : (tyOf (s :: ws)).isSome = (((ws.length : Nat) : Int) + 1 == 1) := by
  rw [tyOf, if_pos hb]
  cases ws with
  | nil => rfl
  | cons a r =>
    rw [if_neg (by simp)]
    show false = _
    symm
    rw [beq_eq_false_iff_ne]
    simp
    omega
theorem ty_int (ws : List (List UInt8)) : tyOf (sInt :: ws) = intTy ws := by
  rw [tyOf, if_neg (by decide), if_pos rfl]
theorem ty_enum (ws : List (List UInt8)) : (tyOf (sEnum :: ws)).isSome = (decide (ws ≠ []) && enumB ws) := by
  rw [tyOf, if_neg (by decide), if_neg (by decide), if_pos rfl]
  by_cases h : ws ≠ [] ∧ enumB ws = true
  · rw [if_pos h, decide_eq_true h.1, h.2]; rfl
  · rw [if_neg h]
    by_cases h0 : ws ≠ []
    · have : enumB ws = false := by
        cases e : enumB ws with
        | false => rfl
        | true => exact absurd ⟨h0, e⟩ h
      rw [this]; simp
    · rw [decide_eq_false h0]; rfl
theorem ty_other {s : List UInt8} (ws : List (List UInt8)) (hb : ¬ (s = sBool ∨ s = sFloat ∨ s = sString ∨ s = sLines ∨ s = sUnit)) (hi : s ≠ sInt) (he : s ≠ sEnum) (hl : s ≠ sList) (ha : s ≠ sAttrs) : tyOf (s :: ws) = none := by
  rw [tyOf, if_neg hb, if_neg hi, if_neg he, if_neg hl, if_neg ha]

set_option maxRecDepth 100000 in
set_option maxHeartbeats 4000000 in
theorem right_bare (s : List UInt8) (ws : List (List UInt8)) (hb : s = sBool ∨ s = sFloat ∨ s = sString ∨ s = sLines ∨ s = sUnit) : RgT (s :: ws) := by
  intro w ad cap h _ hcap
  obtain ⟨rb, ro, rfl, hc⟩ := h.at_ (by simp)
  have c0 : w.cell? ⟨rb, ro, none⟩ = some (.string ⟨s.toArray⟩) := hc 0 (by simp)
  have hfew : ws.length + 1 ≤ 100 := by simpa using h.few
  have HT := hid (ty_bare ws hb)
  generalize (tyOf (s :: ws)).isSome = T at *
  clear h hc hcap
  have hlen : ((s :: ws).length : Nat) = ws.length + 1 := rfl
  rw [hlen]
  clear hlen
  have h0 : ((((ws.length : Nat) : Int) + 1) == 0) = false := by simp; omega
  rcases hb with rfl | rfl | rfl | rfl | rfl
  all_goals
    go_enter Tryz.func25, Tryz.ntmps25
    go_wp2_with fail
    go_ret
    exact ⟨by rw [HT.out]; rfl, Fr.refl _ _⟩

set_option maxRecDepth 100000 in
set_option maxHeartbeats 4000000 in
theorem right_int (ws : List (List UInt8)) : RgT (sInt :: ws) := by
  intro w ad cap h _ hcap
  obtain ⟨rb, ro, rfl, hc⟩ := h.at_ (by simp)
  have c0 : w.cell? ⟨rb, ro, none⟩ = some (.string ⟨(sInt : List UInt8).toArray⟩) := hc 0 (by simp)
  have hfew : ws.length + 1 ≤ 100 := by simpa using h.few
  have hcap' : ws.length + 1 ≤ cap := by simpa using hcap
  rw [ty_int]
  match ws, h, hc, hfew, hcap' with
  | [], h, hc, hfew, hcap' =>
    clear h hc hcap
    go_enter Tryz.func25, Tryz.ntmps25
    go_wp2_with fail
    go_ret
    exact ⟨rfl, Fr.refl _ _⟩
  | [a], h, hc, hfew, hcap' =>
    clear h hc hcap
    go_enter Tryz.func25, Tryz.ntmps25
    go_wp2_with fail
    go_ret
    exact ⟨rfl, Fr.refl _ _⟩
  | [a, b], h, hc, hfew, hcap' =>
    have c1 : w.cell? ⟨rb, ro + 1, none⟩ = some (.string ⟨a.toArray⟩) := hc 1 (by simp)
    have c2 : w.cell? ⟨rb, ro + 2, none⟩ = some (.string ⟨b.toArray⟩) := hc 2 (by simp)
    have HA := hid (fun W => rnumber_any W a (h.short a (by simp)))
    have HB := hid (fun W => rnumber_any W b (h.short b (by simp)))
    have HT : Hid ((intTy [a, b]).isSome = (isNumB a && isNumB b && decide (numR a ≤ numR b))) := by
      show (if (isNumB a && isNumB b) = true then (if digN a ≤ digN b then some (Ty.int (digN a) (digN b)) else none) else none).isSome = _
      unfold numR
      cases ha : isNumB a <;> cases hb : isNumB b <;> simp
      by_cases hle : digN a ≤ digN b
      · rw [if_pos hle]; simp [hle]
      · rw [if_neg hle]; simp; omega
    generalize (intTy [a, b]).isSome = T at *
    generalize isNumB a = qa at *
    generalize isNumB b = qb at *
    generalize numR a = na at *
    generalize numR b = nb at *
    have HC0 := hid c2
    clear h hc hcap
    go_enter Tryz.func25, Tryz.ntmps25
    go_wp2_with fail
    refine (HA.out _).mono ?_
    rintro e w1 ⟨rfl, f1⟩
    have HF1 := hid f1
    have d2 := (Env.of f1).cell HC0.out
    clear f1
    go_wp2_with fail
    refine (HB.out _).mono ?_
    rintro e w2 ⟨rfl, f2⟩
    have HF2 := hid (HF1.out.trans f2 (fun _ h => h.elim))
    clear f2 HF1 d2
    cases qa <;> cases qb
    all_goals first
      | (by_cases hle : na ≤ nb
         · go_wp2_with fail
           go_ret
           exact ⟨by rw [HT.out, decide_eq_true hle]; rfl, HF2.out⟩
         · have hle' : decide (na ≤ nb) = false := decide_eq_false hle
           go_wp2_with fail
           go_ret
           exact ⟨by rw [HT.out, hle']; rfl, HF2.out⟩)
  | a :: b :: c :: r, h, hc, hfew, hcap' =>
    clear h hc hcap
    have hl3 : (a :: b :: c :: r).length = r.length + 3 := rfl
    have h1 : ((((r.length + 3 + 1 : Nat)) : Int) == 1) = false := by rw [beq_eq_false_iff_ne]; omega
    have h3 : ((((r.length + 3 + 1 : Nat)) : Int) == 3) = false := by rw [beq_eq_false_iff_ne]; omega
    have h0 : ((((r.length + 3 + 1 : Nat)) : Int) == 0) = false := by rw [beq_eq_false_iff_ne]; omega
    have hlen : ((sInt :: a :: b :: c :: r).length : Nat) = r.length + 3 + 1 := rfl
    rw [hlen]
    rw [hl3] at hfew hcap'
    have hN0 : (0 : Int) < ((r.length + 3 + 1 : Nat) : Int) := by omega
    clear hlen hl3
    generalize r.length + 3 + 1 = N at *
    go_enter Tryz.func25, Tryz.ntmps25
    go_wp2_with fail
    go_ret
    exact ⟨rfl, Fr.refl _ _⟩

theorem en_split {ws : List (List UInt8)} {i : Nat} (hi : i < ws.length) (hne : [] ∉ ws) : enAt ws i = (!ws[i].any foreignB && !(ws.take i).contains ws[i]) := by
  have eg : ws.getD i [] = ws[i] := by rw [List.getD_eq_getElem?_getD, List.getElem?_eq_getElem hi]; rfl
  have h0 : ws[i] ≠ [] := fun e => hne (e ▸ List.getElem_mem hi)
  unfold enAt
  rw [eg]
  unfold choiceB
  rw [decide_eq_true h0, Bool.true_and]
theorem take_has {ws : List (List UInt8)} {i k : Nat} (hi : i < ws.length) (hk : k < i) (e : ws[k]'(by omega) = ws[i]) : (ws.take i).contains ws[i] = true := by
  rw [List.contains_iff_mem, List.mem_take_iff_getElem]
  exact ⟨k, by omega, e⟩
theorem take_not {ws : List (List UInt8)} {i : Nat} (hi : i < ws.length) (h : ∀ k (hk : k < i), ws[k]'(by omega) ≠ ws[i]) : (ws.take i).contains ws[i] = false := by
  cases e : (ws.take i).contains ws[i] with
  | false => rfl
  | true =>
    rw [List.contains_iff_mem, List.mem_take_iff_getElem] at e
    obtain ⟨k, hk, e⟩ := e
    exact absurd e (h k (by omega))

set_option maxRecDepth 100000 in
set_option maxHeartbeats 4000000 in
theorem right_enum (ws : List (List UInt8)) : RgT (sEnum :: ws) := by
  intro w ad cap h hne hcap
  obtain ⟨rb, ro, rfl, hc⟩ := h.at_ (by simp)
  have hne' : [] ∉ ws := fun e => hne (List.mem_cons.2 (.inr e))
  have c0 : w.cell? ⟨rb, ro, none⟩ = some (.string ⟨(sEnum : List UInt8).toArray⟩) := hc 0 (by simp)
  have hfew : ws.length + 1 ≤ 100 := by simpa using h.few
  have HT : Hid ((tyOf (sEnum :: ws)).isSome = (decide (ws ≠ []) && enumB ws)) := ty_enum ws
  have HC : Hid (∀ i (hi : i < ws.length), w.cell? ⟨rb, ro + (i + 1), none⟩ = some (.string ⟨ws[i].toArray⟩)) := fun i hi => hc (i + 1) (by simpa using hi)
  have HSh : Hid (∀ i (hi : i < ws.length), ws[i].length ≤ 64) := fun i hi => h.short _ (List.mem_cons.2 (.inr (List.getElem_mem hi)))
  have HSp : Hid (∀ i (hi : i < ws.length), enAt ws i = (!ws[i].any foreignB && !(ws.take i).contains ws[i])) := fun i hi => en_split hi hne'
  generalize (tyOf (sEnum :: ws)).isSome = T at *
  clear h hc hcap hne hne'
  have hlen : ((sEnum :: ws).length : Nat) = ws.length + 1 := rfl
  rw [hlen]
  clear hlen
  have h0 : ((((ws.length : Nat) : Int) + 1) == 0) = false := by simp; omega
  go_enter Tryz.func25, Tryz.ntmps25
  go_wp2_with fail
  clear c0
  go_loopw [7, 8, 9] (fun iv _ _ wr => ∃ i : Nat, i ≤ ws.length ∧ iv = .int .i64 ((i : Int) + 1) ∧ (∀ j, j < i → enAt ws j = true) ∧ Fr (fun _ => False) w wr) (fun iv _ _ _ => ws.length + 1 - (intOf iv).toNat)
  case atStart => exact ⟨0, Nat.zero_le _, rfl, fun j hj => absurd hj (by omega), Fr.refl _ _⟩
  case round =>
    obtain ⟨i, hi, rfl, hA, hF⟩ := hrel
    have HA := hid hA
    have HF := hid hF
    clear hA hF
    by_cases hlt : i < ws.length
    · have hlt' : (i : Int) + 1 < ((ws.length : Nat) : Int) + 1 := by omega
      have hi0 : (0 : Int) ≤ (i : Int) + 1 := by omega
      have c1 := (Env.of HF.out).cell (HC.out i hlt)
      have HLo := hid (rlow_any wr ws[i] (HSh.out i hlt))
      have HE := hid (HSp.out i hlt)
      have HN0 : Hid (enAt ws i = false → T = false) := fun h => by
        rw [HT.out, enumB_false hlt h]; simp
      have HN1 : Hid (enAt ws i = true → ∀ j, j < i + 1 → enAt ws j = true) := fun h j hj => by
        by_cases e : j = i
        · subst e; exact h
        · exact HA.out j (by omega)
      generalize enAt ws i = en at HE HN0 HN1
      have HNo : Hid (∀ k a, k < i → ws[k]? = some a → (a == ws[i]) = true → en = (!ws[i].any foreignB && !true)) := fun k a hk h1 h2 => by
        have hk' : k < ws.length := by omega
        rw [List.getElem?_eq_getElem hk', Option.some.injEq] at h1
        rw [HE.out, take_has hlt hk (h1.trans (by simpa using h2))]
      have HYes : Hid ((∀ k a, k < i → ws[k]? = some a → (a == ws[i]) = false) → en = (!ws[i].any foreignB && !false)) := fun h => by
        rw [HE.out, take_not hlt fun k hk => by simpa using h k (ws[k]'(by omega)) hk (List.getElem?_eq_getElem (by omega))]
      have HCx := hid (HC.out i hlt)
      generalize ws[i].any foreignB = fo at *
      generalize ws[i] = x at *
      clear HA
      go_wp2_with fail
      refine HLo.out.mono ?_
      rintro e w2 ⟨rfl, f2⟩
      have HF2 := hid (HF.out.trans f2 (fun _ h => h.elim))
      clear f2 c1 HLo
      cases fo with
      | true =>
        have HE2 := hid (HN0.out (by rw [HE.out]; rfl))
        go_wp2_with fail
        go_ret
        exact ⟨by rw [HE2.out]; rfl, HF2.out⟩
      | false =>
        go_wp2_with fail
        go_loopw [9] (fun kv wi => ∃ k : Nat, k ≤ i ∧ kv = .int .i64 ((k : Int) + 1) ∧ (∀ j a, j < k → ws[j]? = some a → (a == x) = false) ∧ Fr (fun _ => False) w wi) (fun kv _ => i + 1 - (intOf kv).toNat)
        case atStart => exact ⟨0, Nat.zero_le _, rfl, fun j _ hj => absurd hj (by omega), HF2.out⟩
        case round =>
          obtain ⟨k, hk, rfl, hB, hFi⟩ := hrel
          have HB := hid hB
          have HFi := hid hFi
          clear hB hFi
          by_cases hlk : k < i
          · have hlk' : (k : Int) + 1 < (i : Int) + 1 := by omega
            have hk0 : (0 : Int) ≤ (k : Int) + 1 := by omega
            have hkw : k < ws.length := by omega
            have hkw' : (k : Int) + 1 < ((ws.length : Nat) : Int) + 1 := by omega
            have d1 := (Env.of HFi.out).cell (HC.out k hkw)
            have d2 := (Env.of HFi.out).cell HCx.out
            have HG := hid (List.getElem?_eq_getElem hkw)
            generalize ws[k] = a at *
            rename World => wj
            cases hq : (a == x) with
            | true =>
              have HE2 := hid (HN0.out (by rw [HNo.out k a hlk HG.out hq]; rfl))
              go_wp2_with fail
              go_quiet (fail)
              have HE3 : Hid (Fr (fun _ => False) w (wj.drewN nq)) := HFi.out.drewN nq
              go_wp2_with fail
              go_ret
              exact ⟨by rw [HE2.out]; rfl, HE3.out⟩
            | false =>
              have HB2 : Hid (∀ j a, j < k + 1 → ws[j]? = some a → (a == x) = false) := fun j a' hj h1 => by
                by_cases e : j = k
                · subst e
                  rw [HG.out, Option.some.injEq] at h1
                  rw [← h1]; exact hq
                · exact HB.out j a' (by omega) h1
              go_wp2_with fail
              go_quiet (fail)
              have HE3 : Hid (Fr (fun _ => False) w (wj.drewN nq)) := HFi.out.drewN nq
              go_wp2_with fail
              exact ⟨⟨k + 1, by omega, by first | rfl | (congr 1; omega), HB2.out, HE3.out⟩, by simp [intOf]; omega⟩
          · have hlk' : ¬ (k : Int) + 1 < (i : Int) + 1 := by omega
            obtain rfl : k = i := by omega
            have HE2 := hid (HN1.out (by rw [HYes.out HB.out]; rfl))
            go_wp2_with fail
            exact ⟨⟨k + 1, by omega, by first | rfl | (congr 1; omega), HE2.out, HFi.out⟩, by simp [intOf]; omega⟩
    · have hlt' : ¬ (i : Int) + 1 < ((ws.length : Nat) : Int) + 1 := by omega
      have HE : Hid (T = decide (ws ≠ [])) := by
        unfold Hid
        rw [HT.out, enumB_true fun j hj => HA.out j (by omega)]; simp
      by_cases hw : ws = []
      · have HE2 : Hid (T = false) := by unfold Hid; rw [HE.out, decide_eq_false (by simpa using hw)]
        have hl0 : decide ((1 : Int) < ((ws.length : Nat) : Int) + 1) = false := by rw [hw]; rfl
        clear hw
        go_wp2_with fail
        go_ret
        exact ⟨by rw [HE2.out]; rfl, HF.out⟩
      · have HE2 : Hid (T = true) := by unfold Hid; rw [HE.out, decide_eq_true hw]
        have hl0 : decide ((1 : Int) < ((ws.length : Nat) : Int) + 1) = true := decide_eq_true (by have := List.length_pos_iff.2 hw; omega)
        clear hw
        go_wp2_with fail
        go_ret
        exact ⟨by rw [HE2.out]; rfl, HF.out⟩

set_option maxRecDepth 100000 in
set_option maxHeartbeats 4000000 in
theorem right_outer (s : List UInt8) (ws : List (List UInt8)) (hs : s = sList ∨ s = sAttrs) (hR : RgT ws) : RgT (s :: ws) := by
  intro w ad cap h hne hcap
  obtain ⟨rb, ro, rfl, hc⟩ := h.at_ (by simp)
  have hne' : [] ∉ ws := fun e => hne (List.mem_cons.2 (.inr e))
  have c0 : w.cell? ⟨rb, ro, none⟩ = some (.string ⟨s.toArray⟩) := hc 0 (by simp)
  have hfew : ws.length + 1 ≤ 100 := by simpa using h.few
  have hcap' : ws.length + 1 ≤ cap := by simpa using hcap
  have HW : Hid (∀ ad', (ws ≠ [] → ad' = some ⟨rb, ro + 1, none⟩) → Wds w ad' ws) := fun ad' e => ⟨fun hne => ⟨rb, ro + 1, e hne, fun i hi => by
    have := hc (i + 1) (by simpa using hi)
    rw [show ro + 1 + i = ro + (i + 1) by omega]
    simpa using this⟩, by omega, fun t ht => h.short t (by simp [ht])⟩
  have HT : Hid ((tyOf (s :: ws)).isSome = (tyOf ws).isSome) := by
    unfold Hid
    rcases hs with rfl | rfl
    · rw [tyOf, if_neg (by decide), if_neg (by decide), if_neg (by decide), if_pos rfl]; cases tyOf ws <;> rfl
    · rw [tyOf, if_neg (by decide), if_neg (by decide), if_neg (by decide), if_neg (by decide), if_pos rfl]; cases tyOf ws <;> rfl
  have HC' : Hid (∀ ad' cap', (ws ≠ [] → ad' = some ⟨rb, ro + 1, none⟩) → ws.length ≤ cap' → Calls Tryz.prog 25 #[.slice ad' ws.length cap'] w fun e w' => e = .returned (.bool (tyOf ws).isSome) ∧ Fr (fun _ => False) w w') := fun ad' cap' e hl => hR w ad' cap' (HW.out ad' e) hne' hl
  generalize (tyOf (s :: ws)).isSome = T at *
  generalize (tyOf ws).isSome = T' at *
  clear h hc hcap hne hne' hR HW
  have hlen : ((s :: ws).length : Nat) = ws.length + 1 := rfl
  rw [hlen]
  clear hlen
  have h0 : ((((ws.length : Nat) : Int) + 1) == 0) = false := by simp; omega
  rcases hs with rfl | rfl
  all_goals
    go_enter Tryz.func25, Tryz.ntmps25
    go_wp2_with fail
    all_goals
      refine (HC'.out _ _ (by first | exact fun _ => rfl | (intro hne; exfalso; have := List.length_pos_iff.2 hne; omega)) (by omega)).mono ?_
      rintro e w1 ⟨rfl, f1⟩
      have HF := hid f1
      clear f1
      go_wp2_with fail
      go_ret
      exact ⟨by rw [HT.out]; rfl, HF.out⟩

set_option maxRecDepth 100000 in
set_option maxHeartbeats 4000000 in
theorem right_other (s : List UInt8) (ws : List (List UInt8)) (hb : ¬ (s = sBool ∨ s = sFloat ∨ s = sString ∨ s = sLines ∨ s = sUnit)) (hi : s ≠ sInt) (he : s ≠ sEnum) (hl : s ≠ sList) (ha : s ≠ sAttrs) : RgT (s :: ws) := by
  intro w ad cap h _ hcap
  obtain ⟨rb, ro, rfl, hc⟩ := h.at_ (by simp)
  have c0 : w.cell? ⟨rb, ro, none⟩ = some (.string ⟨s.toArray⟩) := hc 0 (by simp)
  have hfew : ws.length + 1 ≤ 100 := by simpa using h.few
  rw [ty_other ws hb hi he hl ha]
  clear h hc hcap
  have hlen : ((s :: ws).length : Nat) = ws.length + 1 := rfl
  rw [hlen]
  clear hlen
  have h0 : ((((ws.length : Nat) : Int) + 1) == 0) = false := by simp; omega
  have q1 : (s == sBool) = false := by simp; exact fun h => hb (.inl h)
  have q2 : (s == sFloat) = false := by simp; exact fun h => hb (.inr (.inl h))
  have q3 : (s == sString) = false := by simp; exact fun h => hb (.inr (.inr (.inl h)))
  have q4 : (s == sLines) = false := by simp; exact fun h => hb (.inr (.inr (.inr (.inl h))))
  have q5 : (s == sUnit) = false := by simp; exact fun h => hb (.inr (.inr (.inr (.inr h))))
  have q6 : (s == sInt) = false := by simpa using hi
  have q7 : (s == sEnum) = false := by simpa using he
  have q8 : (s == sList) = false := by simpa using hl
  have q9 : (s == sAttrs) = false := by simpa using ha
  clear hb hi he hl ha
  go_enter Tryz.func25, Tryz.ntmps25
  go_wp2_with fail
  go_ret
  exact ⟨rfl, Fr.refl _ _⟩
set_option maxRecDepth 100000 in
set_option maxHeartbeats 4000000 in
theorem right_nil : RgT [] := by
  intro w ad cap h _ _
  go_enter Tryz.func25, Tryz.ntmps25
  go_wp2_with fail
  go_ret
  exact ⟨rfl, Fr.refl _ _⟩
theorem dright_any : ∀ ws, RgT ws
  | [] => right_nil
  | s :: ws => by
    by_cases hb : s = sBool ∨ s = sFloat ∨ s = sString ∨ s = sLines ∨ s = sUnit
    · exact right_bare s ws hb
    by_cases hi : s = sInt
    · subst hi; exact right_int ws
    by_cases he : s = sEnum
    · subst he; exact right_enum ws
    by_cases hl : s = sList
    · exact right_outer s ws (.inl hl) (dright_any ws)
    by_cases ha : s = sAttrs
    · exact right_outer s ws (.inr ha) (dright_any ws)
    exact right_other s ws hb hi he hl ha
end Go.Proofs.YtniailfcmlongaaGreatDoor.Tr
/- The contract of the document's of, unit. -/
namespace Go.Proofs.YtniailfcmlongaaGreatDoor.Tr
open Go.RowKit

theorem takes_env' {w : World} {b j : Nat} {v : Value} (x : Vv) (h : w.cell? ⟨b, j, none⟩ = some v) : (vBox w x).cell? ⟨b, j, none⟩ = some v := (Env.alloc w _).cell h
/-- What of tells of words that are a type, and of any value. -/
def OfT (ws : List (List UInt8)) (k : Ty) : Prop := ∀ (v : Vt) (x : Vv) (w : World) (ad : Option Addr) (cap : Nat), evenV v → VIn w v x → Wds w ad ws → ws.length ≤ cap → Calls Tryz.prog 28 #[.slice ad ws.length cap, x.v] w fun e w' => e = .returned (.bool (tkB k v)) ∧ Fr (fun _ => False) w w'

set_option maxRecDepth 100000 in
set_option maxHeartbeats 4000000 in
theorem of_bare (s : List UInt8) (hs : s = sBool ∨ s = sFloat ∨ s = sString ∨ s = sLines) : OfT [s] (.bare s) := by
  intro v x w ad cap _ hx h hcap
  obtain ⟨rb, ro, rfl, hc⟩ := h.at_ (by simp)
  have c0 : (vBox w x).cell? ⟨rb, ro, none⟩ = some (.string ⟨s.toArray⟩) := takes_env' x (hc 0 (by simp))
  have HT : Hid (tkB (.bare s) v = bareT s x.k) := by
    unfold Hid
    rw [tkB, if_neg (by rcases hs with rfl | rfl | rfl | rfl <;> decide), hx.parts.1.1]
  generalize tkB (.bare s) v = T at *
  have HF := hid (vFr w x)
  obtain ⟨z0, z1, z2, z3, z4, z5⟩ := (vBlk w x).six
  clear h hc hcap hx
  obtain ⟨k, n, f, t, na, nl, nc, ia, il, ic⟩ := x
  simp only [Vv.v, vBox] at *
  rcases hs with rfl | rfl | rfl | rfl
  · have HR : Hid (T = (k == 1)) := by unfold Hid; rw [HT.out]; unfold bareT; rw [if_pos rfl]; rfl
    go_enter Tryz.func28, Tryz.ntmps28
    go_wp2_with fail
    go_ret
    exact ⟨by rw [HR.out]; rfl, HF.out⟩
  · have HR : Hid (T = ((k == 3) || (k == 2))) := by unfold Hid; rw [HT.out]; unfold bareT; rw [if_neg (by decide), if_pos rfl]; rfl
    by_cases h3 : k = 3
    · have h3' : (k == 3) = true := by simpa using h3
      clear h3
      go_enter Tryz.func28, Tryz.ntmps28
      go_wp2_with fail
      go_ret
      exact ⟨by rw [HR.out, h3']; rfl, HF.out⟩
    · have h3' : (k == 3) = false := by simpa using h3
      clear h3
      go_enter Tryz.func28, Tryz.ntmps28
      go_wp2_with fail
      go_ret
      exact ⟨by rw [HR.out, h3']; rfl, HF.out⟩
  · have HR : Hid (T = (k == 4)) := by unfold Hid; rw [HT.out]; unfold bareT; rw [if_neg (by decide), if_neg (by decide)]; rfl
    go_enter Tryz.func28, Tryz.ntmps28
    go_wp2_with fail
    go_ret
    exact ⟨by rw [HR.out]; rfl, HF.out⟩
  · have HR : Hid (T = (k == 4)) := by unfold Hid; rw [HT.out]; unfold bareT; rw [if_neg (by decide), if_neg (by decide)]; rfl
    go_enter Tryz.func28, Tryz.ntmps28
    go_wp2_with fail
    go_ret
    exact ⟨by rw [HR.out]; rfl, HF.out⟩

set_option maxRecDepth 100000 in
set_option maxHeartbeats 4000000 in
theorem of_int0 : OfT [sInt] (.int (-9223372036854775808) 9223372036854775807) := by
  intro v x w ad cap _ hx h hcap
  obtain ⟨rb, ro, rfl, hc⟩ := h.at_ (by simp)
  have c0 : (vBox w x).cell? ⟨rb, ro, none⟩ = some (.string ⟨(sInt : List UInt8).toArray⟩) := takes_env' x (hc 0 (by simp))
  have HT : Hid (tkB (.int (-9223372036854775808) 9223372036854775807) v = (x.k == 2)) := by
    have hn := hx.parts.2.1.2.1
    unfold Hid
    rw [tkB, decide_eq_true hn.1, decide_eq_true hn.2, hx.parts.1.1]
    simp
    rfl
  generalize tkB (.int (-9223372036854775808) 9223372036854775807) v = T at *
  have HF := hid (vFr w x)
  obtain ⟨z0, z1, z2, z3, z4, z5⟩ := (vBlk w x).six
  clear h hc hcap hx
  obtain ⟨k, n, f, t, na, nl, nc, ia, il, ic⟩ := x
  simp only [Vv.v, vBox] at *
  by_cases h2 : k = 2
  · have h2' : (k == 2) = true := by simpa using h2
    have h2b : (k != 2) = false := by simpa using h2
    clear h2
    go_enter Tryz.func28, Tryz.ntmps28
    go_wp2_with fail
    go_ret
    exact ⟨by rw [HT.out, h2']; rfl, HF.out⟩
  · have h2' : (k == 2) = false := by simpa using h2
    have h2b : (k != 2) = true := by simpa using h2
    clear h2
    go_enter Tryz.func28, Tryz.ntmps28
    go_wp2_with fail
    go_ret
    exact ⟨by rw [HT.out, h2']; rfl, HF.out⟩

set_option maxRecDepth 100000 in
set_option maxHeartbeats 4000000 in
theorem of_int2 (a b : List UInt8) (ha : isNumB a = true) (hb : isNumB b = true) : OfT [sInt, a, b] (.int (digN a) (digN b)) := by
  intro v x w ad cap _ hx h hcap
  obtain ⟨rb, ro, rfl, hc⟩ := h.at_ (by simp)
  have c0 : (vBox w x).cell? ⟨rb, ro, none⟩ = some (.string ⟨(sInt : List UInt8).toArray⟩) := takes_env' x (hc 0 (by simp))
  have c1 : (vBox w x).cell? ⟨rb, ro + 1, none⟩ = some (.string ⟨a.toArray⟩) := takes_env' x (hc 1 (by simp))
  have HC2 : Hid ((vBox w x).cell? ⟨rb, ro + 2, none⟩ = some (.string ⟨b.toArray⟩)) := takes_env' x (hc 2 (by simp))
  have HA := hid (fun W => rnumber_any W a (h.short a (by simp)))
  have HBn := hid (fun W => rnumber_any W b (h.short b (by simp)))
  have ea : numR a = (digN a : Int) := by unfold numR; rw [if_pos ha]
  have eb : numR b = (digN b : Int) := by unfold numR; rw [if_pos hb]
  have HT : Hid (tkB (.int (digN a) (digN b)) v = (decide (x.k = 2) && (decide ((digN a : Int) ≤ x.n) && decide (x.n ≤ (digN b : Int))))) := by
    unfold Hid
    rw [tkB, hx.parts.1.1, hx.parts.1.2.1]
  rw [ea] at HA
  rw [eb] at HBn
  generalize tkB (.int (digN a) (digN b)) v = T at *
  generalize (digN a : Int) = lo at *
  generalize (digN b : Int) = hi at *
  generalize isNumB a = qa at *
  generalize isNumB b = qb at *
  have HF := hid (vFr w x)
  have HB := hid (vBlk w x)
  clear h hc hcap hx ea eb ha hb
  obtain ⟨k, n, f, t, na, nl, nc, ia, il, ic⟩ := x
  simp only [Vv.v, vBox] at *
  obtain ⟨z0, z1, z2, z3, z4, z5⟩ := HB.out.six
  by_cases h2 : k = 2
  · have h2b : (k != 2) = false := by simpa using h2
    have HT2 : Hid (T = (decide (lo ≤ n) && decide (n ≤ hi))) := by unfold Hid; rw [HT.out, decide_eq_true h2, Bool.true_and]
    clear h2 HT
    go_enter Tryz.func28, Tryz.ntmps28
    go_wp2_with fail
    refine (HA.out _).mono ?_
    rintro e w1 ⟨rfl, f1⟩
    have HF1 := hid (HF.out.trans f1 (fun _ h => h.elim))
    have HB1 := hid (f1.blk HB.out (fun h => h))
    have d2 := (Env.of f1).cell HC2.out
    clear f1 z0 z1 z2 z3 z4 z5 c0 c1
    go_wp2_with fail
    refine (HBn.out _).mono ?_
    rintro e w2 ⟨rfl, f2⟩
    have HF2 := hid (HF1.out.trans f2 (fun _ h => h.elim))
    have HB2 := hid (f2.blk HB1.out (fun h => h))
    clear f2 d2
    obtain ⟨z0, z1, z2, z3, z4, z5⟩ := HB2.out.six
    by_cases hl : lo ≤ n
    · have hl' : decide (lo ≤ n) = true := decide_eq_true hl
      have HT3 : Hid (T = decide (n ≤ hi)) := by unfold Hid; rw [HT2.out, hl', Bool.true_and]
      go_wp2_with fail
      go_ret
      exact ⟨by rw [HT3.out]; rfl, HF2.out⟩
    · have hl' : decide (lo ≤ n) = false := decide_eq_false hl
      have HT3 : Hid (T = false) := by unfold Hid; rw [HT2.out, hl', Bool.false_and]
      go_wp2_with fail
      go_ret
      exact ⟨by rw [HT3.out]; rfl, HF2.out⟩
  · have h2' : (k == 2) = false := by simpa using h2
    have h2b : (k != 2) = true := by simpa using h2
    have HT2 : Hid (T = false) := by unfold Hid; rw [HT.out, decide_eq_false h2, Bool.false_and]
    clear h2 HT
    go_enter Tryz.func28, Tryz.ntmps28
    go_wp2_with fail
    go_ret
    exact ⟨by rw [HT2.out, ← h2']; rfl, HF.out⟩
end Go.Proofs.YtniailfcmlongaaGreatDoor.Tr
