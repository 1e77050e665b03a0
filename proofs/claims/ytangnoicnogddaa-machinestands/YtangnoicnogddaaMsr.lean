/- Searching rows that rise. -/
import Derived.Test.YtangnoicnogddaaMin
import Derived.Lib.Bytealg
import Derived.Sort.Walk0
namespace Go.Proofs.Ytangnoicnogddaa.Tr
open Go.RowKit

theorem cmpb_spec : ∀ a b : Nm, (a < b ∧ Lib.compareBytes a b = -1) ∨ (a = b ∧ Lib.compareBytes a b = 0) ∨ (¬ a < b ∧ a ≠ b ∧ Lib.compareBytes a b = 1)
  | [], [] => .inr (.inl ⟨rfl, rfl⟩)
  | [], y :: b => .inl ⟨by simp, rfl⟩
  | x :: a, [] => .inr (.inr ⟨by simp, by simp, rfl⟩)
  | x :: a, y :: b => by
    unfold Lib.compareBytes
    simp only [List.cons_lt_cons_iff, List.cons.injEq, ne_eq]
    by_cases h1 : x < y
    · exact .inl ⟨.inl h1, by rw [if_pos h1]⟩
    · by_cases h2 : y < x
      · have hne : x ≠ y := fun e => by subst e; exact h1 h2
        refine .inr (.inr ⟨?_, fun h => hne h.1, by rw [if_neg h1, if_pos h2]⟩)
        rintro (h | ⟨h, _⟩)
        · exact h1 h
        · exact hne h
      · have e : x = y := UInt8.le_antisymm (UInt8.not_lt.1 h2) (UInt8.not_lt.1 h1)
        subst e
        rw [if_neg h1, if_neg h1]
        rcases cmpb_spec a b with ⟨h, k⟩ | ⟨h, k⟩ | ⟨h, h', k⟩
        · exact .inl ⟨.inr ⟨rfl, h⟩, k⟩
        · exact .inr (.inl ⟨⟨rfl, h⟩, k⟩)
        · refine .inr (.inr ⟨?_, fun q => h' q.2, k⟩)
          rintro (q | ⟨_, q⟩)
          · exact h1 q
          · exact h q
set_option maxRecDepth 100000 in
set_option maxHeartbeats 1000000 in
theorem cmp0_any (a b : Nm) (w : World) : Calls Try.prog 77 #[.string ⟨a.toArray⟩, .string ⟨b.toArray⟩] w fun e w' => e = .returned (.int .i64 (Lib.compareBytes a b)) ∧ w' = w := by
  have hx : (callFunc 88 #[.string ⟨a.toArray⟩, .string ⟨b.toArray⟩]).run Try.prog w = .ok (.value (.int .i64 (Lib.compareBytes a b))) w := by
    rw [run_callFunc_extern Try.func88 (by kernel_rfl) (by kernel_rfl) (by kernel_rfl) (e := Extern.BytealgCompare.compare) (by kernel_rfl), Lib.run_compareString]
    rfl
  generalize Lib.compareBytes a b = r at *
  go_enter Try.func77, Try.ntmps77
  go_wp2_with (simp only [hx])
  go_ret
  exact ⟨rfl, rfl⟩
set_option maxRecDepth 100000 in
set_option maxHeartbeats 1000000 in
theorem cmp_any (a b : Nm) (w : World) : Calls Try.prog 60 #[.string ⟨a.toArray⟩, .string ⟨b.toArray⟩] w fun e w' => e = .returned (.int .i64 (Lib.compareBytes a b)) ∧ w' = w := by
  have H := hid (cmp0_any a b w)
  generalize Lib.compareBytes a b = r at *
  go_enter Try.func60, Try.ntmps60
  go_wp2_with (go_at_call 77; refine H.out.mono ?_; rintro e w1 ⟨rfl, rfl⟩)
  go_ret
  exact ⟨rfl, rfl⟩
/-- An entry in a block of its own. -/
abbrev xBox (w : World) (x : Xv) : World := w.alloc (.cells x.cs.toArray 39)
theorem xBlk (w : World) (x : Xv) : Blk (xBox w x) w.heap.size 39 x.cs := Blk.new w 39 x.cs
set_option maxRecDepth 100000 in
set_option maxHeartbeats 1000000 in
theorem place1_any (x : Xv) (t : Nm) (w : World) : Calls Try.prog 59 #[x.v, .string ⟨t.toArray⟩] w fun e w' => e = .returned (.int .i64 (Lib.compareBytes x.p t)) ∧ Fr (fun _ => False) w w' := by
  have HF : Hid (Fr (fun _ => False) w (xBox w x)) := (Fr.refl _ w).alloc _
  have c0 := (xBlk w x).cell 0
  have H := hid (cmp_any x.p t (xBox w x))
  obtain ⟨p, k, da, dl, dc⟩ := x
  simp only [Xv.v, Xv.cs, xBox, List.getElem?_cons_zero] at *
  generalize Lib.compareBytes p t = r at *
  go_enter Try.func59, Try.ntmps59
  go_wp2_with (go_at_call 60; refine H.out.mono ?_; rintro e w1 ⟨rfl, rfl⟩)
  go_ret
  exact ⟨rfl, HF.out⟩
set_option maxRecDepth 100000 in
set_option maxHeartbeats 1000000 in
theorem cmpNaN_any (x : ByteArray) (w : World) : Calls Try.prog 78 #[.string x] w fun e w' => e = .returned (.bool false) ∧ w' = w := by
  go_enter Try.func78, Try.ntmps78
  go_wp2
  go_ret
  exact ⟨by simp, rfl⟩
set_option maxRecDepth 100000 in
set_option maxHeartbeats 1000000 in
theorem slNaN_any (x : ByteArray) (w : World) : Calls Try.prog 62 #[.string x] w fun e w' => e = .returned (.bool false) ∧ w' = w := by
  go_enter Try.func62, Try.ntmps62
  go_wp2
  go_ret
  exact ⟨by simp, rfl⟩
set_option maxRecDepth 100000 in
set_option maxHeartbeats 1000000 in
theorem less_any (a b : Nm) (w : World) : Calls Try.prog 61 #[.string ⟨a.toArray⟩, .string ⟨b.toArray⟩] w fun e w' => e = .returned (.bool (decide (a < b))) ∧ w' = w := by
  have hb : Hid (Op.bytesLess a b = decide (a < b)) := bytesLess_eq a b
  go_enter Try.func61, Try.ntmps61
  go_wp2_with (go_at_call 78; refine (cmpNaN_any _ _).mono ?_; rintro e w' ⟨rfl, rfl⟩)
  go_ret
  refine ⟨?_, rfl⟩
  rw [← hb.out]
  simp
end Go.Proofs.Ytangnoicnogddaa.Tr
