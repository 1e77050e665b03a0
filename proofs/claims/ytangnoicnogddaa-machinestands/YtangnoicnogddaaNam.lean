/- The contracts of Name, the program's and the document's. -/
import Derived.Test.YtangnoicnogddaaBase
import Derived.Laws.BitsAllLaws
import Derived.Laws.IdiomStrings
import Derived.Laws.Concat
import Derived.Laws.Strings2
import Derived.Laws.DeepStrings4
import Derived.BigQuiet
namespace Go.Proofs.Ytangnoicnogddaa.Tr
open Go.RowKit

theorem str_at (l : List UInt8) (k : Nat) (h : k < l.length) : (ByteArray.mk l.toArray)[k]'(by simpa [ByteArray.size] using h) = l[k] := rfl

theorem byte_eq (a b : UInt8) : ((a.toNat : Int) == (b.toNat : Int)) = (a == b) := by
  rw [Bool.eq_iff_iff]
  simp only [beq_iff_eq]
  exact ⟨fun h => UInt8.toNat_inj.1 (by omega), fun h => by rw [h]⟩

set_option maxRecDepth 100000 in
set_option maxHeartbeats 1000000 in
theorem rname_any (w : World) (l : List UInt8) : Calls Try.prog 35 #[.string ⟨l.toArray⟩] w fun e w' => e = .returned (.bool (nameB l)) ∧ Fr (fun _ => False) w w' := by
  by_cases h1 : l.length < 1
  · have hn : Hid (nameB l = false) := by unfold Hid nameB; simp; omega
    have h1' : (l.length : Int) < 1 := by omega
    go_enter Try.func35, Try.ntmps35
    go_wp2
    go_ret
    exact ⟨by rw [hn.out]; rfl, Fr.refl _ _⟩
  by_cases h2 : 36 < l.length
  · have hn : Hid (nameB l = false) := by unfold Hid nameB; simp; omega
    have h1' : ¬ (l.length : Int) < 1 := by omega
    have h2' : (36 : Int) < (l.length : Int) := by omega
    go_enter Try.func35, Try.ntmps35
    go_wp2
    go_ret
    exact ⟨by rw [hn.out]; rfl, Fr.refl _ _⟩
  have h1' : ¬ (l.length : Int) < 1 := by omega
  have h2' : ¬ (36 : Int) < (l.length : Int) := by omega
  by_cases h3 : l = [46]
  · subst h3
    have hn : Hid (nameB [46] = false) := by unfold Hid; decide
    go_enter Try.func35, Try.ntmps35
    go_wp2
    go_ret
    exact ⟨by rw [hn.out]; rfl, Fr.refl _ _⟩
  by_cases h4 : l = [46, 46]
  · subst h4
    have hn : Hid (nameB [46, 46] = false) := by unfold Hid; decide
    go_enter Try.func35, Try.ntmps35
    go_wp2
    go_ret
    exact ⟨by rw [hn.out]; rfl, Fr.refl _ _⟩
  have h3' : (l == [46]) = false := by simpa using h3
  have h4' : (l == [46, 46]) = false := by simpa using h4
  have HN : Hid (nameB l = l.all mayB) := by
    unfold Hid nameB
    simp [h3, h4]
    intro _
    omega
  clear h3 h4
  go_enter Try.func35, Try.ntmps35
  go_wp2_with fail
  go_loopw [3] (fun i wr => ∃ k : Nat, k ≤ l.length ∧ i = .int .i64 (k : Int) ∧ (l.take k).all mayB = true ∧ Fr (fun _ => False) w wr) (fun i _ => l.length - (intOf i).toNat)
  case atStart => exact ⟨0, Nat.zero_le _, rfl, rfl, Fr.refl _ _⟩
  case round =>
    obtain ⟨k, hk, rfl, ha, hF⟩ := hrel
    have HA := hid ha
    have HF := hid hF
    clear ha hF
    by_cases hlt : k < l.length
    · have hkl' : (k : Int) < ((l.length : Nat) : Int) := by omega
      have hk0 : (0 : Int) ≤ (k : Int) := Int.natCast_nonneg _
      have HAt := hid (str_at l k hlt)
      have HSt := hid (all_take_succ mayB l k hlt)
      have HBad := hid (all_false_of mayB l k hlt)
      obtain ⟨wo, hwo⟩ : ∃ wo, wo = wr := ⟨_, rfl⟩
      subst hwo
      go_wp2_with fail
      go_loopw [4, 5] (fun ov jv wi => ∃ j : Nat, j ≤ 66 ∧ jv = .int .i64 (j : Int) ∧ ov = .bool ((lets.take j).any (· == l[k])) ∧ Fr (fun _ => False) wo wi) (fun _ jv _ => 66 - (intOf jv).toNat)
      case atStart => exact ⟨0, by omega, rfl, rfl, Fr.refl _ _⟩
      case round =>
        obtain ⟨j, hj, rfl, rfl, hF2⟩ := hrel
        have HF2 := hid hF2
        clear hF2
        by_cases hj66 : j < 66
        · have hj1 : (j : Int) < 66 := by omega
          have hj0 : (0 : Int) ≤ (j : Int) := Int.natCast_nonneg _
          have HS2 := hid (any_take_succ (· == l[k]) lets j hj66)
          cases hb : (lets.take j).any (· == l[k]) with
          | true =>
            rw [hb] at HS2
            go_wp2_with fail
            go_quiet (fail)
            go_wp2
            exact ⟨⟨j + 1, by omega, by go_num, by rw [HS2.out]; rfl, HF2.out.drewN _⟩, by simp [intOf]; omega⟩
          | false =>
            rw [hb] at HS2
            go_wp2_with fail
            go_quiet (fail)
            go_wp2
            exact ⟨⟨j + 1, by omega, by go_num, by rw [HS2.out]; exact congrArg Value.bool (byte_eq lets[j] l[k]), HF2.out.drewN _⟩, by simp [intOf]; omega⟩
        · obtain rfl : j = 66 := by omega
          have HFw : Hid (Fr (fun _ => False) w wr) := HF.out.trans HF2.out (fun _ h => h.elim)
          have e : ((lets.take 66).any (· == l[k])) = mayB l[k] := rfl
          rw [e]
          cases hb : mayB l[k] with
          | true =>
            rw [hb] at HSt
            go_wp2
            exact ⟨⟨k + 1, by omega, by go_num, by rw [HSt.out, HA.out]; rfl, HFw.out⟩, by simp [intOf]; omega⟩
          | false =>
            have HB := hid (HBad.out hb)
            go_wp2
            go_ret
            exact ⟨by rw [HN.out, HB.out]; rfl, HFw.out⟩
    · obtain rfl : k = l.length := by omega
      have hkn : ¬ ((l.length : Nat) : Int) < ((l.length : Nat) : Int) := by omega
      rw [List.take_length] at HA
      go_wp2
      go_ret
      exact ⟨by rw [HN.out, HA.out]; rfl, HF.out⟩

end Go.Proofs.Ytangnoicnogddaa.Tr
