/- The walk of TypesTells. -/
import Derived.Test.YtniailfcmlongaaGreatDoorTsw
import Derived.Test.YtniailfcmlongaaGreatDoorTsm
import Derived.Test.YtniailfcmlongaaGreatDoorTin
import Derived.Test.YtniailfcmlongaaGreatDoorRoiM
import Derived.Deep.RegionHeld3
namespace Go.Proofs.YtniailfcmlongaaGreatDoor.Tr
open Go.RowKit

set_option maxRecDepth 100000 in
set_option maxHeartbeats 8000000 in
theorem typesTells_walk (w : World) (t : List UInt8) (ht : t.length ≤ 140737488351232) (v : Vt) (x : Vv) (hx : VIn w v x) (hm : Mx w) : Calls Tryz.prog 3 #[.string ⟨t.toArray⟩, x.v] w fun e w' => e = .returned (.bool true) ∧ Fr (fun _ => False) w w' := by
  have hst := fun (W : World) (a : Addr) (m : Mode) (f : Nat) => run_store Tryz.prog W a (.float .f64 f) m rfl
  have HS := hid (fun W (e : Env w W) => shown_any W (hm.env e))
  have HFx := hid (vFr w x)
  have HBx := hid (vBlk w x)
  have HR0 : Hid (∀ W, Env w W → Calls Tryz.prog 12 #[.string ⟨t.toArray⟩] W fun e w' => e = .returned (.bool (readT t).isSome) ∧ Fr (fun _ => False) W w') := fun W e => tRight_any W t (by omega) (hm.env e)
  have HR1 : Hid (∀ W, Env w W → Calls Tryz.prog 13 #[.string ⟨t.toArray⟩] W fun e w' => e = .returned (.bool (readT t).isSome) ∧ Fr (fun _ => False) W w') := fun W e => dRight_any W t (by omega)
  have HO0 : Hid (∀ W, Env w W → Calls Tryz.prog 14 #[.string ⟨t.toArray⟩, x.v] W fun e w' => e = .returned (.bool (ofB t v)) ∧ Fr (fun _ => False) W w') := fun W e => tOf_any W t (by omega) (hm.env e) v x (VIn.env e _ _ hx)
  have HO1 : Hid (∀ W, Env w W → Calls Tryz.prog 15 #[.string ⟨t.toArray⟩, x.v] W fun e w' => e = .returned (.bool (ofB t v)) ∧ Fr (fun _ => False) W w') := fun W e => dOf_any W t (by omega) v x (VIn.env e _ _ hx)
  have HSm : Hid (∀ W cap, Env w W → Calls Tryz.prog 11 #[.slice (some ⟨W.heap.size, 0, none⟩) 1 cap] (dBox W ⟨x, 0, 0⟩) fun e w' => e = .returned (.bool (smB [⟨v, 0, 0⟩])) ∧ Fr (fun _ => False) (dBox W ⟨x, 0, 0⟩) w') := fun W cap e => small_any (dBox W ⟨x, 0, 0⟩) [⟨v, 0, 0⟩] _ cap (ds_one (dBlk W _) ⟨VIn.env (e.trans (Env.alloc W _)) _ _ hx, rfl, rfl, i64_zero, i64_zero⟩) (by simp)
  generalize smB [⟨v, 0, 0⟩] = q at HSm
  generalize (readT t).isSome = qr at *
  generalize ofB t v = qo at *
  clear hm hx ht
  obtain ⟨k, n, f, tx, na, nl, nc, ia, il, ic⟩ := x
  simp only [Vv.v] at *
  go_enter Tryz.func3, Tryz.ntmps3
  go_wp2_with fail
  refine (HS.out _ (Env.of HFx.out)).mono ?_
  rintro e w1 ⟨rfl, f1⟩
  have HF1 := hid (HFx.out.trans f1 (fun _ h => h.elim))
  have HB1 := hid (f1.blk HBx.out (fun h => h))
  clear f1 HFx HBx HS
  obtain ⟨c0, c1, c2, c3, c4, c5⟩ := HB1.out.six
  go_wp2_with fail
  refine (HSm.out _ _ (Env.of HF1.out)).mono ?_
  rintro e w2 ⟨rfl, f2⟩
  have HF2 : Hid (Fr (fun _ => False) w w2) := (HF1.out.alloc _).trans f2 (fun _ h => h.elim)
  have HB2 := hid (f2.blk (HB1.out.alloc _) (fun h => h))
  clear f2 HF1 HB1 HSm c0 c1 c2 c3 c4 c5
  have HK : Hid (∀ W', Fr (fun _ => False) w2 W' → six W' w.heap.size ⟨k, n, f, tx, na, nl, nc, ia, il, ic⟩) := fun W' hf => (hf.blk HB2.out (fun h => h)).six
  have HEn : Hid (∀ W', Fr (fun _ => False) w2 W' → Env w W') := fun W' hf => Env.of (HF2.out.trans hf (fun _ h => h.elim))
  cases q with
  | false =>
    go_wp2_with fail
    go_quiet (fail)
    have HF3 := hid (HF2.out.drewN nq)
    go_wp2_with fail
    go_ret
    exact ⟨rfl, HF3.out⟩
  | true =>
    go_wp2_with fail
    go_region_held3 (fun W' => six W' w.heap.size ⟨k, n, f, tx, na, nl, nc, ia, il, ic⟩)
      (first | exact HK.out _ F6.out | exact HK.out _ F5.out | exact HK.out _ F4.out | exact HK.out _ F3.out | exact HK.out _ (Fr.refl _ _).drew)
      (first
        | (go_at_call 12; refine (HR0.out _ (HEn.out _ (Fr.refl _ _).drew)).mono ?_; rintro e w3 ⟨rfl, f3⟩; have F3 : Hid (Fr (fun _ => False) w2 w3) := (Fr.refl _ w2).drew.trans f3 (fun _ h => h.elim))
        | (go_at_call 13; refine (HR1.out _ (HEn.out _ F3.out)).mono ?_; rintro e w4 ⟨rfl, f4⟩; have F4 : Hid (Fr (fun _ => False) w2 w4) := F3.out.trans f4 (fun _ h => h.elim))
        | (go_at_call 14; refine (HO0.out _ (HEn.out _ F4.out)).mono ?_; rintro e w5 ⟨rfl, f5⟩; have F5 : Hid (Fr (fun _ => False) w2 w5) := F4.out.trans f5 (fun _ h => h.elim))
        | (go_at_call 15; refine (HO1.out _ (HEn.out _ F5.out)).mono ?_; rintro e w6 ⟨rfl, f6⟩; have F6 : Hid (Fr (fun _ => False) w2 w6) := F5.out.trans f6 (fun _ h => h.elim)))
    have HF6 := hid (HF2.out.trans F6.out (fun _ h => h.elim))
    go_wp2_with fail
    go_ret
    exact ⟨by simp, HF6.out⟩
end Go.Proofs.YtniailfcmlongaaGreatDoor.Tr
