/- The contract of the document's Parse. -/
import Derived.Test.YtipppagkajcheaaDoorSPa
import Derived.BigQuiet
namespace Go.Proofs.YtipppagkajcheaaDoor.Tr
open Go.RowKit

/-- What the search for a digit holds behind j looks. -/
def fnd (o : Option Nat) (j : Nat) : Int := match o with
  | some x => if x < j then (x : Int) else -1
  | none => -1
theorem hexd_iff (c : UInt8) (k : Nat) (h : k < 16) : hexd k = c ↔ dig c = some k := by
  have hc := UInt8.toNat_lt c
  have e : hexd k = c ↔ (if k < 10 then 48 + k else 87 + k) = c.toNat := by
    unfold hexd
    rw [← UInt8.toNat_inj, UInt8.toNat_ofNat']
    have : (if k < 10 then 48 + k else 87 + k) % 2 ^ 8 = if k < 10 then 48 + k else 87 + k := Nat.mod_eq_of_lt (by split <;> omega)
    rw [this]
  rw [e]
  unfold dig
  split <;> split <;> (try split) <;> simp <;> omega
theorem fnd_zero (o : Option Nat) : fnd o 0 = -1 := by cases o <;> simp [fnd]
theorem fnd_hit (c : UInt8) (k : Nat) (h : k < 16) (e : hexd k = c) : fnd (dig c) (k + 1) = (k : Int) := by
  rw [(hexd_iff c k h).1 e]; simp [fnd]
theorem fnd_miss (c : UInt8) (k : Nat) (h : k < 16) (e : hexd k ≠ c) : fnd (dig c) (k + 1) = fnd (dig c) k := by
  have hn : dig c ≠ some k := fun h' => e ((hexd_iff c k h).2 h')
  cases hd : dig c with
  | none => rfl
  | some x =>
    rw [hd] at hn
    have : x ≠ k := fun h' => hn (by rw [h'])
    simp only [fnd]
    split <;> split <;> omega
theorem mul_add (S d : Nat) : IntKind.u64.wrap (IntKind.u64.wrap ((S : Int) * 16) + (d : Int)) = (((S * 16 + d) % 18446744073709551616 : Nat) : Int) := by
  simp [IntKind.wrap, IntKind.bits, IntKind.signed]

set_option maxRecDepth 100000 in
set_option maxHeartbeats 1000000 in
theorem rparse_any (w : World) (l : List UInt8) (hl : l.length ≤ 140737488355328) : Calls Tryd.prog 36 #[.string ⟨l.toArray⟩] w fun e w' => e = .returned (tup (parsed l)) ∧ Fr (fun _ => False) w w' := by
  go_enter Tryd.func36, Tryd.ntmps36
  go_wp2_with fail
  go_loopw [4, 5] (fun v i wr => ∃ k S : Nat, k ≤ 17 ∧ k ≤ l.length ∧ i = .int .i64 (k : Int) ∧ v = .int .u64 (S : Int) ∧ S < 18446744073709551616 ∧ (l.take k).foldl pf (some 0) = some S ∧ Fr (fun _ => False) w wr) (fun _ i _ => 17 - (intOf i).toNat)
  case atStart => exact ⟨0, 0, Nat.zero_le _, Nat.zero_le _, rfl, rfl, by decide, rfl, Fr.refl _ _⟩
  case round =>
    obtain ⟨k, S, hk, hkl, rfl, rfl, hS, hfo, hF⟩ := hrel
    have HFo := hid hfo
    have HF := hid hF
    clear hfo hF
    by_cases hg : k < l.length ∧ k < 17
    · obtain ⟨hlt, h17⟩ := hg
      have hk17 : (k : Int) < 17 := by omega
      have hk0 : (0 : Int) ≤ (k : Int) := Int.natCast_nonneg _
      have hkl' : (k : Int) < ((l.length : Nat) : Int) := by omega
      have HSt := hid (foldl_take_succ pf (some 0) l k hlt)
      have HBad := hid (pf_bad l k hlt)
      have HAt := hid (str_at l k hlt)
      obtain ⟨wo, hwo⟩ : ∃ wo, wo = wr := ⟨_, rfl⟩
      subst hwo
      go_wp2_with fail
      go_loopw [6, 7] (fun dv jv wi => ∃ j : Nat, j ≤ 16 ∧ jv = .int .i64 (j : Int) ∧ dv = .int .i64 (fnd (dig l[k]) j) ∧ Fr (fun _ => False) wo wi) (fun _ jv _ => 16 - (intOf jv).toNat)
      case atStart => exact ⟨0, by omega, rfl, by rw [fnd_zero], Fr.refl _ _⟩
      case round =>
        obtain ⟨j, hj, rfl, rfl, hF2⟩ := hrel
        have HF2 := hid hF2
        clear hF2
        by_cases hj16 : j < 16
        · have hj1 : (j : Int) < 16 := by omega
          have hj0 : (0 : Int) ≤ (j : Int) := Int.natCast_nonneg _
          have HDj := hid (dig_at j hj16)
          have HHit := hid (fnd_hit l[k] j hj16)
          have HMiss := hid (fnd_miss l[k] j hj16)
          by_cases hh : hexd j = l[k]
          · have hb : ((((ByteArray.mk #[48, 49, 50, 51, 52, 53, 54, 55, 56, 57, 97, 98, 99, 100, 101, 102])[j]'(by simpa [ByteArray.size] using hj16)).toNat : Int) == (((ByteArray.mk l.toArray)[k]'(by simpa [ByteArray.size] using hlt)).toNat : Int)) = true := by
              rw [HDj.out, HAt.out, hh]; exact beq_self_eq_true _
            have HH := hid (HHit.out hh)
            clear hh
            go_wp2_with fail
            go_quiet (fail)
            go_wp2
            refine ⟨⟨j + 1, by omega, by go_num, by rw [HH.out], HF2.out.drewN _⟩, by simp [intOf]; omega⟩
          · have hb : ((((ByteArray.mk #[48, 49, 50, 51, 52, 53, 54, 55, 56, 57, 97, 98, 99, 100, 101, 102])[j]'(by simpa [ByteArray.size] using hj16)).toNat : Int) == (((ByteArray.mk l.toArray)[k]'(by simpa [ByteArray.size] using hlt)).toNat : Int)) = false := by
              rw [HDj.out, HAt.out]
              exact beq_eq_false_iff_ne.2 (fun e => hh (UInt8.toNat_inj.1 (by omega)))
            have HH := hid (HMiss.out hh)
            clear hh
            go_wp2_with fail
            go_quiet (fail)
            go_wp2
            refine ⟨⟨j + 1, by omega, by go_num, by rw [HH.out], HF2.out.drewN _⟩, by simp [intOf]; omega⟩
        · obtain rfl : j = 16 := by omega
          have HFw : Hid (Fr (fun _ => False) w wr) := HF.out.trans HF2.out (fun _ h => h.elim)
          cases hdg : dig l[k] with
          | none =>
            have e : fnd none 16 = -1 := rfl
            have HP : Hid (parsed l = none) := by
              unfold Hid parsed
              split
              · exact HBad.out hdg
              · rfl
            rw [e]
            clear e hdg
            go_wp2
            go_ret2
            exact ⟨by rw [HP.out]; rfl, HFw.out⟩
          | some d =>
            have hd := dig_lt hdg
            have e : fnd (some d) 16 = (d : Int) := by simp [fnd, hd]
            have HG := hid (pf_good (s := S) hdg)
            have hd0 : ¬ (d : Int) < 0 := by omega
            have HM := hid (mul_add S d)
            rw [e]
            clear e hdg
            go_wp2
            refine ⟨⟨k + 1, (S * 16 + d) % 18446744073709551616, by omega, by omega, by simp, by rw [HM.out], Nat.mod_lt _ (by decide), by rw [HSt.out, HFo.out, HG.out], HFw.out⟩, ?_⟩
            simp [intOf]; omega
    · have HP : Hid (parsed l = if l.length = 16 then some S else none) := by
        unfold Hid parsed
        split
        · have hk' : k = l.length := by omega
          have := HFo.out
          rwa [hk', List.take_length] at this
        · rfl
      by_cases h16 : l.length = 16
      · rw [if_pos h16] at HP
        have hk1 : k = 16 := by omega
        subst hk1
        have hi : ((l.length : Nat) : Int) = 16 := by omega
        go_wp2
        go_ret2
        exact ⟨by rw [HP.out]; rfl, HF.out⟩
      · rw [if_neg h16] at HP
        have hi : ¬ ((l.length : Nat) : Int) = 16 := by omega
        rcases (show ¬ (k : Int) < ((l.length : Nat) : Int) ∨ ((k : Int) < ((l.length : Nat) : Int) ∧ ¬ (k : Int) < 17) by omega) with h | ⟨h, h'⟩
        · go_wp2
          go_ret2
          exact ⟨by rw [HP.out]; rfl, HF.out⟩
        · go_wp2
          go_ret2
          exact ⟨by rw [HP.out]; rfl, HF.out⟩

end Go.Proofs.YtipppagkajcheaaDoor.Tr
