/- The document's examples, as the laws show them. -/
import Derived.Test.YtlgpojdkcbjkkaaPure
import Derived.Lib.SlBytesConst
namespace Go.Proofs.Ytlgpojdkcbjkkaa.Sm
open Go.RowKit

theorem Src.nil (w : World) (ad : Option Addr) : Src w ad [] := fun h => absurd rfl h
theorem Src.fr {w w' : World} {ad : Option Addr} {b : List UInt8} (h : Src w ad b) (f : Fr (fun _ => False) w w') : Src w' ad b := by
  intro hb
  obtain ⟨bb, bo, e, hr⟩ := h hb
  refine ⟨bb, bo, e, fun j v hv => ?_⟩
  have hc := hr j v hv
  have hlt := World.block_lt_of_cell? w ⟨bb, bo + j, none⟩ hc
  rw [World.cell?_of_block (w := w) (f.block bb hlt (fun h => h))]
  exact hc

set_option maxRecDepth 100000 in
set_option maxHeartbeats 1000000 in
theorem shown_any (w : World) : Calls Try.prog 7 #[] w fun e w' => e = .returned (.bool true) ∧ Fr (fun _ => False) w w' := by
  have p1 := parse_any w [48, 48, 48, 48, 48, 48, 48, 48, 48, 48, 48, 48, 48, 48, 102, 102]
  rw [parsed_ff] at p1
  have p2 := parse_any w [102, 102]
  rw [parsed_2] at p2
  have s1 := sum_any w none [] 0 (by decide) (Src.nil _ _)
  have t1 := text_any w (upd beg []) (upd_lt _ _ beg_lt)
  rw [low_beg] at t1
  have P1 := hid p1
  have P2 := hid p2
  have S1 := hid s1
  have T1 := hid t1
  clear p1 p2 s1 t1
  go_enter Try.func7, Try.ntmps7
  go_wp2_with fail
  refine P1.out.mono ?_
  rintro e w1 ⟨rfl, rfl⟩
  unfold tup
  go_wp2_with fail
  refine P2.out.mono ?_
  rintro e w1 ⟨rfl, rfl⟩
  unfold tup
  go_wp2_with fail
  refine S1.out.mono ?_
  rintro e w1 ⟨rfl, rfl⟩
  go_wp2_with fail
  refine T1.out.mono ?_
  rintro e w1 ⟨rfl, f1⟩
  have F1 := hid f1
  have hcv := Lib.run_convert_bytes_const (P := Try.prog) w1 23 5 #[.int .u8 97] 1 1 Try.underlying23 Try.underlying5
  have s2 := sum_any (w1.alloc (.cells #[.int .u8 97] 5 (1, 2))) (some ⟨w1.heap.size, 0, none⟩) [97] 1 (by decide) (fun _ => ⟨_, _, rfl, fun j v hv => by rw [World.cell?_alloc_mark, Nat.zero_add]; simpa [bs, bv] using hv⟩)
  have t2 := text_any (w1.alloc (.cells #[.int .u8 97] 5 (1, 2))) (upd beg [97]) (upd_lt _ _ beg_lt)
  rw [low_a] at t2
  have S2 := hid s2
  have T2 := hid t2
  clear f1 s2 t2
  go_wp2_with fail
  refine S2.out.mono ?_
  rintro e w2 ⟨rfl, rfl⟩
  go_wp2_with fail
  refine T2.out.mono ?_
  rintro e w2 ⟨rfl, f2⟩
  have F2 := hid ((F1.out.alloc _).trans f2 (fun _ h => h.elim))
  clear f2 hcv
  go_wp2
  go_ret
  exact ⟨rfl, F2.out⟩

end Go.Proofs.Ytlgpojdkcbjkkaa.Sm
