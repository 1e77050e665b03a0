/- shortFloat at one float: 100. -/
import Derived.Test.YtlepjghfcpgbcaaGreatDoorFla
namespace Go.Proofs.YtlepjghfcpgbcaaGreatDoor.Tr
open Go.RowKit

set_option maxRecDepth 100000 in
theorem l10_46 (w : World) : Calls Tryz.prog 129 #[.int .i64 (-46)] w fun e w' => e = .returned (.int .i64 (-14)) ∧ w' = w := by
  go_enter Tryz.func129, Tryz.ntmps129
  go_wp2
  go_ret
  exact ⟨rfl, rfl⟩
set_option maxRecDepth 100000 in
theorem nudge_0 (w : World) (u : Int) (h : U64 u) : Calls Tryz.prog 173 #[.int .u64 u, .int .i64 0] w fun e w' => e = .returned (.int .u64 u) ∧ w' = w := by
  have h0 := h.1
  have h1 := h.2
  have hw : IntKind.u64.wrap u = u := by rw [IntKind.wrap_u64]; omega
  go_enter Tryz.func173, Tryz.ntmps173
  go_wp2
  go_ret
  exact ⟨rfl, rfl⟩
set_option maxRecDepth 100000 in
theorem ceil_100 (w : World) : Calls Tryz.prog 174 #[.int .u64 39999999999999997] w fun e w' => e = .returned (.int .u64 10000000000000000) ∧ w' = w := by
  go_enter Tryz.func174, Tryz.ntmps174
  go_wp2
  go_ret
  exact ⟨rfl, rfl⟩
set_option maxRecDepth 100000 in
theorem floor_100 (w : World) : Calls Tryz.prog 175 #[.int .u64 40000000000000003] w fun e w' => e = .returned (.int .u64 10000000000000000) ∧ w' = w := by
  go_enter Tryz.func175, Tryz.ntmps175
  go_wp2
  go_ret
  exact ⟨rfl, rfl⟩

set_option maxRecDepth 100000 in
set_option maxHeartbeats 4000000 in
theorem short_100 {w : World} {T : Nat → Nat × Nat} (hT : Pw w T) (hv : T 362 = (13107200000000000000, 0)) : Calls Tryz.prog 146 #[.int .u64 14411518807585587200, .int .i64 (-57)] w fun r w' => r = .returned (.tuple #[.int .u64 1000000000000000, .int .i64 (-13)]) ∧ Fr (fun _ => False) w w' := by
  have HLg := hid (fun W => log2_any W 14 (by decide) (by decide))
  have HNew := hid (Blk.new w 189 [.int .u64 0, .int .u64 0, .int .i64 0])
  have HFr := hid ((Fr.refl (fun _ => False) w).alloc (.cells #[.int .u64 0, .int .u64 0, .int .i64 0] 189))
  have HPw := hid (hT.env ((Env.refl w).fr HFr.out (fun _ h => h.elim)))
  clear hT
  have HPs := hid (prescale_any HPw.out w.heap.size 362 _ _ _ HNew.out (-57) 14 46 (by decide) (by decide) (by decide) (by decide))
  rw [hv] at HPs
  have e1 : (14 * 108853 / 32768 : Int) = 46 := by decide
  rw [e1] at HLg
  have a1 : bits BinOp.and .i64 7036874417766400 1 = 0 := by decide +kernel
  have HU1 : Hid (usF 14411518807585586176 13107200000000000000 0 8 = 39999999999999997) := by unfold Hid; decide +kernel
  have HU2 : Hid (usF 14411518807585588224 13107200000000000000 0 8 = 40000000000000003) := by unfold Hid; decide +kernel
  generalize hn : w.heap.size = n at *
  go_enter Tryz.func146, Tryz.ntmps146
  go_wp2_with fail
  refine (l10_46 _).mono ?_
  rintro e w2 ⟨rfl, hw⟩
  rw [hw]
  clear hw w2
  go_wp2_with fail
  refine (HLg.out _).mono ?_
  rintro e w2 ⟨rfl, rfl⟩
  go_wp2_with fail
  refine HPs.out.mono ?_
  rintro e w3 ⟨rfl, b3, f3⟩
  have HF3 := hid (HFr.out.trans f3 (fun i hi => .inr (by omega)))
  have HUs := hid (fun k x hx => uscale_any (w3.drewN k) n x 13107200000000000000 0 8 (show Blk (w3.drewN k) n _ _ from b3) hx (by decide) (by decide) (by decide))
  clear b3 f3 HPs HFr HNew HPw HLg
  go_wp2_with fail
  refine (HUs.out 0 14411518807585586176 (by decide)).mono ?_
  rintro e w4 ⟨rfl, m4, rfl⟩
  rw [HU1.out]
  go_wp2_with fail
  refine (nudge_0 _ _ ⟨by decide, by decide⟩).mono ?_
  rintro e w5 ⟨rfl, rfl⟩
  go_wp2_with fail
  refine (ceil_100 _).mono ?_
  rintro e w5 ⟨rfl, rfl⟩
  go_wp2_with fail
  refine (HUs.out _ 14411518807585588224 (by decide)).mono ?_
  rintro e w6 ⟨rfl, m6, rfl⟩
  rw [HU2.out]
  have HF6 := hid (HF3.out.drewN (m4 + m6))
  go_wp2_with fail
  refine (nudge_0 _ _ ⟨by decide, by decide⟩).mono ?_
  rintro e w5 ⟨rfl, rfl⟩
  go_wp2_with fail
  refine (floor_100 _).mono ?_
  rintro e w5 ⟨rfl, rfl⟩
  go_wp2_with fail
  go_ret2
  exact ⟨rfl, HF6.out⟩
end Go.Proofs.YtlepjghfcpgbcaaGreatDoor.Tr
