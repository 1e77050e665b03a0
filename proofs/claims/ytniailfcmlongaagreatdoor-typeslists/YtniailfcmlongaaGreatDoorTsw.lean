/- The contract of shown. -/
import Derived.Test.YtniailfcmlongaaGreatDoorTsh
namespace Go.Proofs.YtniailfcmlongaaGreatDoor.Tr
open Go.RowKit

theorem size_box (w : World) (x : Vv) : (vBox w x).heap.size = w.heap.size + 1 := by simp

set_option maxRecDepth 100000 in
set_option maxHeartbeats 4000000 in
theorem shown_any (w : World) (hm : Mx w) : Calls Tryz.prog 10 #[] w fun e w' => e = .returned (.bool true) ∧ Fr (fun _ => False) w w' := by
  have hst := fun (W : World) (a : Addr) (m : Mode) (f : Nat) => run_store Tryz.prog W a (.float .f64 f) m rfl
  have HA := hid (fun W => text_any W [97])
  have HB := hid (fun W => text_any W [98])
  have HM1 : Hid (∀ W cap, Env w W → Calls Tryz.prog 17 #[.string ⟨#[108, 105, 110, 101, 115]⟩, .slice (some ⟨W.heap.size, 0, none⟩) 2 cap] (W.alloc (.cells #[.int .i64 4, .int .i64 0, .float .f64 0, .string ⟨#[97]⟩, .slice none 0 0, .slice none 0 0, .int .i64 0, .int .i64 2, .int .i64 4, .int .i64 0, .float .f64 0, .string ⟨#[98]⟩, .slice none 0 0, .slice none 0 0, .int .i64 0, .int .i64 1] 30)) fun e w' => MPost (W.alloc (.cells #[.int .i64 4, .int .i64 0, .float .f64 0, .string ⟨#[97]⟩, .slice none 0 0, .slice none 0 0, .int .i64 0, .int .i64 2, .int .i64 4, .int .i64 0, .float .f64 0, .string ⟨#[98]⟩, .slice none 0 0, .slice none 0 0, .int .i64 0, .int .i64 1] 30)) (.inl (.mk 4 0 0 [98, 10, 97] [] [])) e w') := fun W cap e => merge_a _ ((hm.env e).env (Env.alloc W _)) cap W.heap.size (Blk.new W _ (Dv.cs ⟨vS [97], 0, 2⟩ ++ Dv.cs ⟨vS [98], 0, 1⟩))
  have HM2 : Hid (∀ W g cap, g = W.heap.size → Env w W → Calls Tryz.prog 17 #[.string ⟨#[105, 110, 116]⟩, .slice (some ⟨g, 0, none⟩) 2 cap] (W.alloc (.cells #[.int .i64 2, .int .i64 1, .float .f64 0, .string ⟨#[]⟩, .slice none 0 0, .slice none 0 0, .int .i64 0, .int .i64 0, .int .i64 2, .int .i64 2, .float .f64 0, .string ⟨#[]⟩, .slice none 0 0, .slice none 0 0, .int .i64 0, .int .i64 0] 30)) fun e w' => MPost (W.alloc (.cells #[.int .i64 2, .int .i64 1, .float .f64 0, .string ⟨#[]⟩, .slice none 0 0, .slice none 0 0, .int .i64 0, .int .i64 0, .int .i64 2, .int .i64 2, .float .f64 0, .string ⟨#[]⟩, .slice none 0 0, .slice none 0 0, .int .i64 0, .int .i64 0] 30)) (.inr 27) e w') := fun W g cap hg e => hg ▸ merge_b _ ((hm.env e).env (Env.alloc W _)) cap W.heap.size (Blk.new W _ (Dv.cs ⟨vI 1, 0, 0⟩ ++ Dv.cs ⟨vI 2, 0, 0⟩))
  have HR1 : Hid (∀ W, Env w W → Calls Tryz.prog 12 #[.string ⟨#[97, 116, 116, 114, 115, 32, 108, 105, 115, 116, 32, 105, 110, 116, 32, 49, 32, 57]⟩] W fun e w' => e = .returned (.bool true) ∧ Fr (fun _ => False) W w') := fun W e => by
    have := tRight_any W [97, 116, 116, 114, 115, 32, 108, 105, 115, 116, 32, 105, 110, 116, 32, 49, 32, 57] (by decide) (hm.env e)
    rw [shown_r1] at this; exact this
  have HR2 : Hid (∀ W, Env w W → Calls Tryz.prog 12 #[.string ⟨#[108, 105, 115, 116]⟩] W fun e w' => e = .returned (.bool false) ∧ Fr (fun _ => False) W w') := fun W e => by
    have := tRight_any W [108, 105, 115, 116] (by decide) (hm.env e)
    rw [shown_r2] at this; exact this
  clear hm
  go_enter Tryz.func10, Tryz.ntmps10
  go_wp2_with fail
  refine (HA.out _).mono ?_
  rintro e w1 ⟨rfl, f1⟩
  have HF1 := hid f1
  clear f1
  go_wp2_with fail
  refine (HB.out _).mono ?_
  rintro e w2 ⟨rfl, f2⟩
  have HF2 := hid (HF1.out.trans f2 (fun _ h => h.elim))
  clear f2 HF1
  go_wp2_with fail
  refine (HM1.out w2 _ (Env.of HF2.out)).mono ?_
  rintro e w3 ⟨f3, ⟨er, h1, _⟩ | ⟨v1, x, h1, rfl, hv1⟩⟩
  · cases h1
  cases h1
  have hxt : x.t = [98, 10, 97] := hv1.parts.1.2.2.2
  have HF3 : Hid (Fr (fun _ => False) w w3) := (HF2.out.alloc _).trans f3 (fun _ h => h.elim)
  clear f3 HF2 hv1
  have HF4 := hid (HF3.out.trans (vFr w3 x) (fun _ h => h.elim))
  have HB4 := hid (vBlk w3 x)
  obtain ⟨k, n, f, t, na, nl, nc, ia, il, ic⟩ := x
  simp only at hxt
  subst hxt
  go_wp2_with fail
  refine (HM2.out (vBox w3 ⟨k, n, f, [98, 10, 97], na, nl, nc, ia, il, ic⟩) _ _ (size_box _ _).symm (Env.of HF4.out)).mono ?_
  rintro e w5 ⟨f5, ⟨er, h1, rfl⟩ | ⟨v1, x, h1, _⟩⟩
  case inr => cases h1
  cases h1
  have HF5 : Hid (Fr (fun _ => False) w w5) := (HF4.out.alloc _).trans f5 (fun _ h => h.elim)
  have HB5 := hid (f5.blk (HB4.out.alloc _) (fun h => h))
  clear f5 HF4 HB4
  have HF6 := hid (HF5.out.trans (vFr w5 vZ) (fun _ h => h.elim))
  obtain ⟨c0, c1, c2, c3, c4, c5⟩ := (HB5.out.alloc (.cells #[.int .i64 0, .int .i64 0, .float .f64 0, .string ⟨#[]⟩, .slice none 0 0, .slice none 0 0] 26)).six
  go_wp2_with fail
  refine (HR1.out _ (Env.of HF6.out)).mono ?_
  rintro e w7 ⟨rfl, f7⟩
  have HF7 := hid (HF6.out.trans f7 (fun _ h => h.elim))
  clear f7 c0 c1 c2 c3 c4 c5
  go_wp2_with fail
  refine (HR2.out _ (Env.of HF7.out)).mono ?_
  rintro e w8 ⟨rfl, f8⟩
  have HF8 := hid (HF7.out.trans f8 (fun _ h => h.elim))
  clear f8
  go_wp2_with fail
  go_ret
  exact ⟨rfl, HF8.out⟩
end Go.Proofs.YtniailfcmlongaaGreatDoor.Tr
