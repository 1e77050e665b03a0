/- The contracts of Find, sameList, Same, SameAll, names, large. -/
import Derived.Test.YtcpeebkfnnkjnaaDoorUpo
import Derived.BigQuiet
import Derived.Deep.QuietTactic
namespace Go.Proofs.YtcpeebkfnnkjnaaDoor.Tr
open Go.RowKit

set_option maxRecDepth 100000 in
set_option maxHeartbeats 1000000 in
theorem find_any (w0 w : World) (l : List Ut) (ad : Option Addr) (cap : Nat) (x : Nm) (hU : Us w0 w l ad) (hl : l.length ≤ lim) :
    Calls Tryd.prog 17 #[.slice ad l.length cap, .string ⟨x.toArray⟩] w fun e w' => e = .returned (.int .i64 (fiI l x)) ∧ w = w' := by
  have HU := hid hU
  have hl' : l.length ≤ 140737488351232 := hl
  clear hU hl
  go_enter Tryd.func17, Tryd.ntmps17
  go_wp2_with fail
  go_loopw [5] (fun iv wr => ∃ i : Nat, i ≤ l.length ∧ iv = .int .i64 (i : Int) ∧ (∀ j (h : j < l.length), j < i → l[j].n ≠ x) ∧ w = wr) (fun iv _ => l.length - (intOf iv).toNat)
  case atStart => exact ⟨0, Nat.zero_le _, rfl, fun j _ h => by omega, rfl⟩
  case round =>
    obtain ⟨i, hi, rfl, hno, hw⟩ := hrel
    have HNo := hid hno
    have HW := hid hw
    rw [hw] at HU
    clear hno hw
    by_cases hlt : i < l.length
    · have hi1 : (i : Int) < ((l.length : Nat) : Int) := by omega
      obtain ⟨bb, bo, rfl⟩ := HU.out.some hlt
      obtain ⟨y, y1, y2⟩ := HU.out.get i hlt
      obtain ⟨k0, _, _, _⟩ := y1.all
      rw [y2.n] at k0
      clear y1 y2
      by_cases hp : l[i].n = x
      · have HR := hid (fiI_some (fi_some.2 ⟨hlt, hp, fun j hj => HNo.out j (by omega) hj⟩))
        have hs1 : (l[i].n == x) = true := by simpa using hp
        clear hp
        generalize l[i].n = y at *
        go_wp2
        go_ret
        exact ⟨by rw [HR.out]; rfl, HW.out⟩
      · have HN2 : Hid (∀ j (h : j < l.length), j < i + 1 → l[j].n ≠ x) := fun j h hj => by
          rcases Nat.lt_or_eq_of_le (Nat.le_of_lt_succ hj) with h1 | h1
          · exact HNo.out j h h1
          · subst h1; exact hp
        have hs1 : (l[i].n == x) = false := by simpa using hp
        clear hp
        generalize l[i].n = y at *
        go_wp2
        exact ⟨⟨i + 1, by omega, by go_num, HN2.out, HW.out⟩, by simp [intOf]; omega⟩
    · have hi1 : ¬ ((i : Int) < ((l.length : Nat) : Int)) := by omega
      have HR := hid (fiI_none (fi_none.2 (fun j h => HNo.out j h (by omega))))
      go_wp2
      go_ret
      exact ⟨by rw [HR.out]; rfl, HW.out⟩

set_option maxRecDepth 100000 in
set_option maxHeartbeats 1000000 in
theorem sameList_any (w : World) (ad bd : Option Addr) (A B : List Nm) (ca cb : Nat) (hA : Strs w ad A) (hB : Strs w bd B) (hla : A.length ≤ lim) :
    Calls Tryd.prog 31 #[.slice ad A.length ca, .slice bd B.length cb] w fun e w' => e = .returned (.bool (decide (A = B))) ∧ Fr (fun _ => False) w w' := by
  have HA := hid hA
  have HB := hid hB
  have hla' : A.length ≤ 140737488351232 := hla
  clear hA hB hla
  by_cases hl : A.length = B.length
  · have hl' : (((A.length : Nat) : Int) != ((B.length : Nat) : Int)) = false := by rw [hl]; simp
    have HLn := hid hl
    clear hl
    go_enter Tryd.func31, Tryd.ntmps31
    go_wp2_with fail
    go_loopw [5] (fun iv wr => ∃ i : Nat, i ≤ A.length ∧ iv = .int .i64 (i : Int) ∧ A.take i = B.take i ∧ Fr (fun _ => False) w wr) (fun iv _ => A.length - (intOf iv).toNat)
    case atStart => exact ⟨0, Nat.zero_le _, rfl, rfl, Fr.refl _ _⟩
    case round =>
      obtain ⟨i, hi, rfl, ht, hF⟩ := hrel
      have HF := hid hF
      clear hF
      by_cases hlt : i < A.length
      · have hi1 : (i : Int) < ((A.length : Nat) : Int) := by omega
        have hi2 : (i : Int) < ((B.length : Nat) : Int) := by have := HLn.out; omega
        have hi0 : (0 : Int) ≤ (i : Int) := Int.natCast_nonneg _
        have hltb : i < B.length := by have := HLn.out; omega
        obtain ⟨bb, bo, rfl, c0⟩ := (HA.out.env (Env.of HF.out)).at i hlt
        obtain ⟨bb', bo', rfl, c0'⟩ := (HB.out.env (Env.of HF.out)).at i hltb
        have HT := hid (take_eq_succ ht hlt hltb)
        have HN := hid (ne_of_at hlt hltb (A := A) (B := B))
        clear ht HA HB
        generalize A[i] = x at *
        generalize B[i] = y at *
        by_cases hp : x = y
        · subst hp
          have HT' := hid (HT.out rfl)
          have hs1 : (x != x) = false := by simp
          go_wp2_with fail
          go_quiet (fail)
          have HWn := hid (HF.out.drewN nq)
          go_wp2
          exact ⟨⟨i + 1, by omega, by go_num, HT'.out, HWn.out⟩, by simp [intOf]; omega⟩
        · have HN' : Hid (decide (A = B) = false) := decide_eq_false (HN.out hp)
          have hs1 : (!(x == y)) = true := by simpa using hp
          clear HN HT
          go_wp2_with fail
          go_quiet (fail)
          have HWn := hid (HF.out.drewN nq)
          go_wp2
          go_ret
          exact ⟨by rw [HN'.out]; rfl, HWn.out⟩
      · obtain rfl : i = A.length := by omega
        have hkn : ¬ ((A.length : Nat) : Int) < ((A.length : Nat) : Int) := by omega
        have HE : Hid (decide (A = B) = true) := by
          unfold Hid
          rw [List.take_length, HLn.out, List.take_length] at ht
          exact decide_eq_true ht
        clear ht
        go_wp2
        go_ret
        exact ⟨by rw [HE.out]; rfl, HF.out⟩
  · have hl' : (((A.length : Nat) : Int) != ((B.length : Nat) : Int)) = true := by simpa using fun h => hl (by omega)
    have HE : Hid (decide (A = B) = false) := decide_eq_false (fun h => hl (by rw [h]))
    go_enter Tryd.func31, Tryd.ntmps31
    go_wp2
    go_ret
    exact ⟨by rw [HE.out]; rfl, Fr.refl _ _⟩

set_option maxRecDepth 100000 in
set_option maxHeartbeats 1000000 in
theorem names_any (w : World) (ad bd : Option Addr) (A B : List Nm) (ca cb : Nat) (hA : Strs w ad A) (hB : Strs w bd B) (hla : A.length ≤ lim) :
    Calls Tryd.prog 16 #[.slice ad A.length ca, .slice bd B.length cb] w fun e w' => e = .returned (.bool (decide (A = B))) ∧ Fr (fun _ => False) w w' := by
  have HA := hid hA
  have HB := hid hB
  have hla' : A.length ≤ 140737488351232 := hla
  clear hA hB hla
  by_cases hl : A.length = B.length
  · have hl' : (((A.length : Nat) : Int) != ((B.length : Nat) : Int)) = false := by rw [hl]; simp
    have HLn := hid hl
    clear hl
    go_enter Tryd.func16, Tryd.ntmps16
    go_wp2_with fail
    go_loopw [5] (fun iv wr => ∃ i : Nat, i ≤ A.length ∧ iv = .int .i64 (i : Int) ∧ A.take i = B.take i ∧ Fr (fun _ => False) w wr) (fun iv _ => A.length - (intOf iv).toNat)
    case atStart => exact ⟨0, Nat.zero_le _, rfl, rfl, Fr.refl _ _⟩
    case round =>
      obtain ⟨i, hi, rfl, ht, hF⟩ := hrel
      have HF := hid hF
      clear hF
      by_cases hlt : i < A.length
      · have hi1 : (i : Int) < ((A.length : Nat) : Int) := by omega
        have hi2 : (i : Int) < ((B.length : Nat) : Int) := by have := HLn.out; omega
        have hi0 : (0 : Int) ≤ (i : Int) := Int.natCast_nonneg _
        have hltb : i < B.length := by have := HLn.out; omega
        obtain ⟨bb, bo, rfl, c0⟩ := (HA.out.env (Env.of HF.out)).at i hlt
        obtain ⟨bb', bo', rfl, c0'⟩ := (HB.out.env (Env.of HF.out)).at i hltb
        have HT := hid (take_eq_succ ht hlt hltb)
        have HN := hid (ne_of_at hlt hltb (A := A) (B := B))
        clear ht HA HB
        generalize A[i] = x at *
        generalize B[i] = y at *
        by_cases hp : x = y
        · subst hp
          have HT' := hid (HT.out rfl)
          have hs1 : (x != x) = false := by simp
          go_wp2_with fail
          go_quiet (fail)
          have HWn := hid (HF.out.drewN nq)
          go_wp2
          exact ⟨⟨i + 1, by omega, by go_num, HT'.out, HWn.out⟩, by simp [intOf]; omega⟩
        · have HN' : Hid (decide (A = B) = false) := decide_eq_false (HN.out hp)
          have hs1 : (!(x == y)) = true := by simpa using hp
          clear HN HT
          go_wp2_with fail
          go_quiet (fail)
          have HWn := hid (HF.out.drewN nq)
          go_wp2
          go_ret
          exact ⟨by rw [HN'.out]; rfl, HWn.out⟩
      · obtain rfl : i = A.length := by omega
        have hkn : ¬ ((A.length : Nat) : Int) < ((A.length : Nat) : Int) := by omega
        have HE : Hid (decide (A = B) = true) := by
          unfold Hid
          rw [List.take_length, HLn.out, List.take_length] at ht
          exact decide_eq_true ht
        clear ht
        go_wp2
        go_ret
        exact ⟨by rw [HE.out]; rfl, HF.out⟩
  · have hl' : (((A.length : Nat) : Int) != ((B.length : Nat) : Int)) = true := by simpa using fun h => hl (by omega)
    have HE : Hid (decide (A = B) = false) := decide_eq_false (fun h => hl (by rw [h]))
    go_enter Tryd.func16, Tryd.ntmps16
    go_wp2
    go_ret
    exact ⟨by rw [HE.out]; rfl, Fr.refl _ _⟩
end Go.Proofs.YtcpeebkfnnkjnaaDoor.Tr
