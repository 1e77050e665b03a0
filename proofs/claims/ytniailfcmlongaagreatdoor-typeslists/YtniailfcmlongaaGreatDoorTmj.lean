/- The contract of Merge of no definitions. -/
import Derived.Test.YtniailfcmlongaaGreatDoorTmi
namespace Go.Proofs.YtniailfcmlongaaGreatDoor.Tr
open Go.RowKit

set_option maxRecDepth 100000 in
set_option maxHeartbeats 4000000 in
theorem Merge_unset (w : World) (t : List UInt8) (ad : Option Addr) (cap : Nat) (hl : t.length ≤ 140737488355328) (hm : Mx w) (k : Ty) (hk : readT t = some k) :
    Calls Tryz.prog 17 #[.string ⟨t.toArray⟩, .slice ad 0 cap] w fun e w' => e = .returned (.tuple #[vZ.v, .int .i64 26]) ∧ Fr (fun _ => False) w w' := by
  have HC := hid (read_any (vBox w vZ) t hl (hm.env (Env.alloc w _)))
  have HF0 := hid (vFr w vZ)
  have HB0 := hid (vBlk w vZ)
  have HAR : Hid (∀ W, Calls Tryz.prog 31 #[.slice ad 0 cap] W fun e w' => e = .returned (.bool true) ∧ Fr (fun _ => False) W w') := fun W => allRight_any W [] ad cap (fun h => absurd rfl h) (by simp)
  rw [hk] at HC
  clear hm hk
  go_enter Tryz.func17, Tryz.ntmps17
  go_wp2_with fail
  refine HC.out.mono ?_
  rintro e w1 ⟨f1, ⟨h1, _⟩ | ⟨k1, b1, h1, rfl, hK1⟩⟩
  · cases h1
  have HF1 := hid (HF0.out.trans f1 (fun _ h => h.elim))
  have HB1 := hid (f1.blk HB0.out (fun h => h))
  clear f1 hK1 h1 HF0 HB0 HC
  go_wp2_with fail
  refine (HAR.out _).mono ?_
  rintro e w2 ⟨rfl, f2⟩
  have HF2 := hid (HF1.out.trans f2 (fun _ h => h.elim))
  have HB2 := hid (f2.blk HB1.out (fun h => h))
  clear f2 HF1 HB1 HAR
  go_wp2_with (refine wpList_storeV vZ (by rfl) _ _ (by rfl) HB2.out (by rfl) (by rfl) ?_; intro w5 b5 f5)
  have HF5 : Hid (Fr (fun _ => False) w w5) := HF2.out.trans f5 (fun j hj => .inr (by omega))
  have HB5 := hid b5
  clear b5 f5
  go_wp2_with fail
  exact bodyPost_ret (resVE rfl rfl HB5.out) rfl ⟨rfl, HF5.out⟩
/-- A row of definitions of one's own. -/
theorem ds_own {w : World} {B cap : Nat} {ad : Option Addr} {F : List Dz} (h : w.ownsRow B 30 8 (.slice ad F.length cap) F.length (flatD F)) (hD : ∀ z ∈ F, DIn w z.1 z.2) : DsIn w (F.map (·.1)) ad := fun hne => by
  have hpos : 0 < F.length := by
    rcases Nat.eq_zero_or_pos F.length with h0 | h0
    · exfalso; apply hne; rw [List.eq_nil_of_length_eq_zero h0]; rfl
    · exact h0
  obtain ⟨g, c, cur, e, _, _, hc, _, ht⟩ := own_row h hpos
  simp only [Value.slice.injEq] at e
  refine ⟨g, 0, e.1, fun i hi => ?_⟩
  have hi' : i < F.length := by simpa using hi
  refine ⟨F[i].2, ?_, ?_⟩
  · have := holds_eight (own_holds F hc ht) i (by simpa using hi')
    simpa using this
  · simp only [List.getElem_map]
    exact hD F[i] (List.getElem_mem hi')
end Go.Proofs.YtniailfcmlongaaGreatDoor.Tr
