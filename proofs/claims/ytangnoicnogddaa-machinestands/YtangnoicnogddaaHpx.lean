/- Does a text begin with another one? -/
import Derived.Test.YtangnoicnogddaaEnt
namespace Go.Proofs.Ytangnoicnogddaa.Tr
open Go.RowKit

set_option maxRecDepth 100000 in
set_option maxHeartbeats 1000000 in
theorem hpx0_any (s p : ByteArray) (w : World) : Calls Try.prog 91 #[.string s, .string p] w fun e w' => e = .returned (.bool (Lib.hasPrefix s.data.toList p.data.toList)) ∧ w' = w := by
  obtain ⟨⟨s⟩⟩ := s
  obtain ⟨⟨p⟩⟩ := p
  have hsz : ∀ l : List UInt8, (ByteArray.mk l.toArray).size = l.length := fun l => rfl
  by_cases h : p.length ≤ s.length
  · have h1 : ((s.length : Nat) : Int) ≥ ((p.length : Nat) : Int) := by omega
    have hE : Hid (((ByteArray.mk s.toArray).extract 0 p.length).toList = s.take p.length) := by
      unfold Hid
      rw [ext_sub s 0 p.length, ByteArray.toList_eq]
      simp [sub]
    have HR : Hid (Lib.hasPrefix s p = (s.take p.length == p)) := by
      unfold Hid
      rw [Bool.eq_iff_iff]
      simp only [Lib.hasPrefix, List.isPrefixOf_iff_prefix, beq_iff_eq]
      constructor
      · rintro ⟨t, rfl⟩; simp
      · intro e; exact ⟨s.drop p.length, by conv => lhs; lhs; rw [← e]
                                            exact List.take_append_drop _ _⟩
    simp only
    rw [HR.out]
    go_enter Try.func91, Try.ntmps91
    go_wp2
    go_ret
    exact ⟨congrArg (fun z : List UInt8 => Ending.returned (.bool (z == p))) hE.out, rfl⟩
  · have h1 : ¬ ((s.length : Nat) : Int) ≥ ((p.length : Nat) : Int) := by omega
    have HR : Hid (Lib.hasPrefix s p = false) := by
      unfold Hid
      rw [Bool.eq_false_iff]
      simp only [Lib.hasPrefix, ne_eq, List.isPrefixOf_iff_prefix]
      intro e
      exact h e.length_le
    simp only
    rw [HR.out]
    go_enter Try.func91, Try.ntmps91
    go_wp2
    go_ret
    exact ⟨rfl, rfl⟩

set_option maxRecDepth 100000 in
set_option maxHeartbeats 1000000 in
theorem hpx_any (s p : ByteArray) (w : World) : Calls Try.prog 81 #[.string s, .string p] w fun e w' => e = .returned (.bool (Lib.hasPrefix s.data.toList p.data.toList)) ∧ w' = w := by
  have H := hid (hpx0_any s p w)
  generalize Lib.hasPrefix s.data.toList p.data.toList = b at *
  go_enter Try.func81, Try.ntmps81
  go_wp2_with (go_at_call 91; refine H.out.mono ?_; rintro e w1 ⟨rfl, rfl⟩)
  go_ret
  exact ⟨rfl, rfl⟩
end Go.Proofs.Ytangnoicnogddaa.Tr
