/- The contracts of digit and Parse, the program's and the document's. -/
import Derived.Test.YtipppagkajcheaaGreatDoorSTx
import Derived.Test.YtipppagkajcheaaGreatDoorNam
namespace Go.Proofs.YtipppagkajcheaaGreatDoor.Tr
open Go.RowKit

/-- What a byte is as a digit. -/
def dig (c : UInt8) : Option Nat := if 48 ≤ c.toNat ∧ c.toNat ≤ 57 then some (c.toNat - 48) else if 97 ≤ c.toNat ∧ c.toNat ≤ 102 then some (c.toNat - 87) else none
theorem dig_lt {c : UInt8} {d : Nat} (h : dig c = some d) : d < 16 := by
  unfold dig at h
  split at h
  · simp only [Option.some.injEq] at h; omega
  · split at h
    · simp only [Option.some.injEq] at h; omega
    · cases h

def tup (o : Option Nat) : Value := match o with
  | some d => .tuple #[.int .u64 (d : Int), .bool true]
  | none => .tuple #[.int .u64 0, .bool false]

set_option maxRecDepth 100000 in
set_option maxHeartbeats 400000 in
theorem digit_any (w : World) (c : UInt8) : Calls Tryz.prog 54 #[.int .u8 (c.toNat : Int)] w fun e w' => e = .returned (tup (dig c)) ∧ w' = w := by
  have hc := UInt8.toNat_lt c
  unfold dig
  generalize c.toNat = n at *
  by_cases h1 : 48 ≤ n ∧ n ≤ 57
  · rw [if_pos h1]
    unfold tup
    obtain ⟨a1, a2⟩ := h1
    have b1 : (48 : Int) ≤ (n : Int) := by omega
    have b2 : (n : Int) ≤ 57 := by omega
    have e : ((n - 48 : Nat) : Int) = (n : Int) - 48 := by omega
    simp only [e]
    clear e a1 a2
    go_enter Tryz.func54, Tryz.ntmps54
    go_wp2
    go_ret2
    exact ⟨by simp, rfl⟩
  · rw [if_neg h1]
    by_cases h2 : 97 ≤ n ∧ n ≤ 102
    · rw [if_pos h2]
      unfold tup
      obtain ⟨a1, a2⟩ := h2
      have b1 : (48 : Int) ≤ (n : Int) := by omega
      have b2 : ¬ (n : Int) ≤ 57 := by omega
      have b3 : (97 : Int) ≤ (n : Int) := by omega
      have b4 : (n : Int) ≤ 102 := by omega
      have e : ((n - 87 : Nat) : Int) = (n : Int) - 97 + 10 := by omega
      simp only [e]
      clear e a1 a2 h1
      go_enter Tryz.func54, Tryz.ntmps54
      go_wp2
      go_ret2
      exact ⟨by simp, rfl⟩
    · rw [if_neg h2]
      unfold tup
      rcases (show n < 48 ∨ (57 < n ∧ n < 97) ∨ 102 < n by omega) with h | ⟨h, h'⟩ | h
      · have b1 : ¬ (48 : Int) ≤ (n : Int) := by omega
        have b2 : ¬ (97 : Int) ≤ (n : Int) := by omega
        clear h1 h2
        go_enter Tryz.func54, Tryz.ntmps54
        go_wp2
        go_ret2
        exact ⟨rfl, rfl⟩
      · have b1 : (48 : Int) ≤ (n : Int) := by omega
        have b2 : ¬ (n : Int) ≤ 57 := by omega
        have b3 : ¬ (97 : Int) ≤ (n : Int) := by omega
        clear h1 h2
        go_enter Tryz.func54, Tryz.ntmps54
        go_wp2
        go_ret2
        exact ⟨rfl, rfl⟩
      · have b1 : (48 : Int) ≤ (n : Int) := by omega
        have b2 : ¬ (n : Int) ≤ 57 := by omega
        have b3 : (97 : Int) ≤ (n : Int) := by omega
        have b4 : ¬ (n : Int) ≤ 102 := by omega
        clear h1 h2
        go_enter Tryz.func54, Tryz.ntmps54
        go_wp2
        go_ret2
        exact ⟨rfl, rfl⟩

def pf (o : Option Nat) (c : UInt8) : Option Nat := match o with
  | some s => match dig c with
    | some d => some ((s * 16 + d) % 18446744073709551616)
    | none => none
  | none => none
/-- The sum of a text. -/
def parsed (l : List UInt8) : Option Nat := if l.length = 16 then l.foldl pf (some 0) else none
theorem pf_none : ∀ (l : List UInt8), l.foldl pf none = none
  | [] => rfl
  | _ :: r => pf_none r
theorem pf_bad (l : List UInt8) (k : Nat) (h : k < l.length) (hd : dig l[k] = none) : l.foldl pf (some 0) = none := by
  have e : l = l.take k ++ l[k] :: l.drop (k + 1) := by simp
  rw [e, List.foldl_append, List.foldl_cons]
  have : ∀ o, pf o l[k] = none := by
    intro o
    cases o with
    | none => rfl
    | some s => unfold pf; simp only [hd]
  rw [this, pf_none]
theorem pf_good {s d : Nat} {c : UInt8} (h : dig c = some d) : pf (some s) c = some ((s * 16 + d) % 18446744073709551616) := by
  unfold pf; simp only [h]
theorem shl_or (S d : Nat) (hd : d < 16) : bits .or .u64 (IntKind.u64.wrap ((S : Int) * 16)) (d : Int) = (((S * 16 + d) % 18446744073709551616 : Nat) : Int) := by
  have e : IntKind.u64.wrap ((S : Int) * 16) = (((S * 16) % 18446744073709551616 : Nat) : Int) := by simp [IntKind.wrap, IntKind.bits, IntKind.signed]
  rw [e, u64_or_nat _ _ (Nat.mod_lt _ (by decide)) (by omega)]
  have e2 : (S * 16) % 18446744073709551616 = (S % 1152921504606846976) <<< 4 := by rw [Nat.shiftLeft_eq]; omega
  rw [e2, ← Nat.shiftLeft_add_eq_or_of_lt (by omega), Nat.shiftLeft_eq]
  congr 1
  omega

set_option maxRecDepth 100000 in
set_option maxHeartbeats 400000 in
theorem parse_any (w : World) (l : List UInt8) : Calls Tryz.prog 36 #[.string ⟨l.toArray⟩] w fun e w' => e = .returned (tup (parsed l)) ∧ w' = w := by
  by_cases h16 : l.length = 16
  · have e : parsed l = l.foldl pf (some 0) := by unfold parsed; rw [if_pos h16]
    rw [e]
    have hi : ((l.length : Nat) : Int) = 16 := by omega
    go_enter Tryz.func36, Tryz.ntmps36
    go_wp2_with fail
    go_loopw [4, 11] (fun v i wr => ∃ k S : Nat, k ≤ 16 ∧ i = .int .i64 (k : Int) ∧ v = .int .u64 (S : Int) ∧ S < 18446744073709551616 ∧ (l.take k).foldl pf (some 0) = some S ∧ wr = w) (fun _ i _ => 16 - (intOf i).toNat)
    case atStart => exact ⟨0, 0, Nat.zero_le _, rfl, rfl, by decide, rfl, rfl⟩
    case round =>
      obtain ⟨k, S, hk, rfl, rfl, hS, hfo, rfl⟩ := hrel
      have HFo := hid hfo
      clear hfo
      by_cases hlt : k < 16
      · have hkl : k < l.length := by omega
        have hk16 : (k : Int) < 16 := by omega
        have hk0 : (0 : Int) ≤ (k : Int) := Int.natCast_nonneg _
        have hkl' : (k : Int) < ((l.length : Nat) : Int) := by omega
        have HSt := hid (foldl_take_succ pf (some 0) l k hkl)
        have HBad := hid (pf_bad l k hkl)
        have hda := digit_any wr ((ByteArray.mk l.toArray)[k]'(by simpa [ByteArray.size] using hkl))
        rw [str_at l k hkl] at hda
        cases hdg : dig l[k] with
        | none =>
          rw [hdg] at hda
          have HDa := hid hda
          have HBf := hid (HBad.out hdg)
          clear hda hdg
          go_wp2_with fail
          refine HDa.out.mono ?_
          rintro e w1 ⟨rfl, rfl⟩
          unfold tup
          go_wp2
          go_ret2
          exact ⟨by rw [HBf.out]; rfl, rfl⟩
        | some d =>
          rw [hdg] at hda
          have HDa := hid hda
          have hd16 := dig_lt hdg
          have HG := hid (pf_good (s := S) hdg)
          have HSh := hid (shl_or S d hd16)
          clear hda hdg
          go_wp2_with fail
          refine HDa.out.mono ?_
          rintro e w1 ⟨rfl, rfl⟩
          unfold tup
          go_wp2_with fail
          refine ⟨⟨k + 1, (S * 16 + d) % 18446744073709551616, by omega, by simp, by rw [HSh.out], Nat.mod_lt _ (by decide), by rw [HSt.out, HFo.out, HG.out], trivial⟩, ?_⟩
          simp [intOf]; omega
      · have hk16 : k = 16 := by omega
        subst hk16
        have hf : l.foldl pf (some 0) = some S := by
          have := HFo.out
          rwa [List.take_of_length_le (by omega)] at this
        have HFf := hid hf
        clear hf
        go_wp2
        go_ret2
        exact ⟨by rw [HFf.out]; rfl, rfl⟩
  · have e : parsed l = none := by unfold parsed; rw [if_neg h16]
    rw [e]
    unfold tup
    have hi : ¬ ((l.length : Nat) : Int) = 16 := by omega
    go_enter Tryz.func36, Tryz.ntmps36
    go_wp2
    go_ret2
    exact ⟨rfl, rfl⟩

end Go.Proofs.YtipppagkajcheaaGreatDoor.Tr
