/- The walk of SumTells. -/
import Derived.Test.YtlgpojdkcbjkkaaAppend
import Derived.Test.YtlgpojdkcbjkkaaTextsWalk
namespace Go.Proofs.Ytlgpojdkcbjkkaa.Sm
open Go.RowKit

theorem Src.part {w : World} {g : Nat} {b c : List UInt8} (h : w.rangeAt g 0 (bs (b ++ c))) : Src w (some ⟨g, 0, none⟩) b := fun _ =>
  ⟨g, 0, rfl, fun j v hv => h j v (by
    have hj := (List.getElem?_eq_some_iff.1 hv).1
    rw [← hv]
    simp only [bs, List.map_append]
    rw [List.getElem?_append_left (by simpa [bs] using hj)])⟩

set_option maxRecDepth 100000 in
set_option maxHeartbeats 1000000 in
theorem tells_walk (w : World) (s : Nat) (hs : s < 18446744073709551616) (ad : Option Addr) (b : List UInt8) (cap : Nat) (hl : b.length ≤ 140737488351232) (hsrc : Src w ad b) :
    Calls Try.prog 3 #[.int .u64 (s : Int), .slice ad b.length cap] w fun e w' => e = .returned (.bool true) ∧ Fr (fun _ => False) w w' := by
  have HS := hid hsrc
  clear hsrc
  go_enter Try.func3, Try.ntmps3
  go_wp2_with fail
  refine (shown_any w).mono ?_
  rintro e w1 ⟨rfl, f1⟩
  have F1 := hid f1
  have HS1 := hid (HS.out.fr f1)
  have hO : Hid ((w1.alloc (.cells #[] 5)).ownsRow w1.heap.size 5 1 (.slice (some ⟨w1.heap.size, 0, none⟩) 0 0) 0 []) := by
    have := World.ownsRow_made (base := w1.heap.size) (e := 5) (size := 1) w1 #[] 0 (Nat.le_refl _) (by unfold maxLen; omega) (by simp)
    unfold Hid; simpa using this
  clear f1
  go_wp2_with (first
    | (at_builtin; refine wpList_append_bytes (by rfl) _ _ (by rfl) w1.heap.size 0 (.slice (some ⟨w1.heap.size, 0, none⟩) 0 0) [] b ad cap (by rfl) (by rfl) (by exact hO.out) (by simp) (by omega) (fun hb => by obtain ⟨bb, bo, e1, e2⟩ := HS1.out hb; exact ⟨bb, bo, e1, World.rangeAt_alloc e2 _⟩) ?_
       intro v2 w2 hown hgrow
       have HO2 : Hid (w2.ownsRow w1.heap.size 5 1 v2 b.length (bs b)) := by have := hown; unfold Hid; simpa using this
       have HF2 : Hid (Fr (fun _ => False) w1 w2) := ((Fr.refl _ w1).alloc _).grown hgrow (fun k hk => .inr (Nat.le_of_eq (Option.some.inj hk)))
       clear hown hgrow)
    | (at_builtin; refine wpList_append_bytes (by rfl) _ _ (by rfl) w1.heap.size b.length v2 (bs b) [7] (some ⟨w2.heap.size, 0, none⟩) 1 (by rfl) (by rfl) (by exact HO2.out.alloc _) (by have := HF2.out.size; simp; omega) (by simp; omega) (fun _ => ⟨w2.heap.size, 0, rfl, by exact (Blk.new w2 5 [.int .u8 7]).range 0 _ rfl⟩) ?_
       intro v3 w3 hown hgrow
       have HO3 : Hid (w3.ownsRow w1.heap.size 5 1 v3 (b.length + 1) (bs (b ++ [7]))) := by have := hown; unfold Hid; simpa [bs] using this
       have HF3 : Hid (Fr (fun _ => False) w1 w3) := (HF2.out.alloc _).grown hgrow (fun k hk => .inr (HO2.out.lt k hk).1)
       clear hown hgrow
       obtain ⟨g3, cap3, cur3, e3, hg3, hle3, hm3, hc3, hs3, hr3⟩ := owned_src HO3.out (by simp)
       have hln : (b ++ [7]).length = b.length + 1 := by simp
       rw [hln] at e3 hle3
       subst e3
       have HR3 := hid hr3
       have hi3 : (b.length : Int) ≤ (cap3 : Int) := by omega
       clear hc3 hs3 hr3 hg3 HO2 hO))
  have HS3 := hid (Src.part HR3.out)
  have HL : Hid (b.length ≤ 140737488355328) := by unfold Hid; omega
  refine (sum_any w3 _ b _ HL.out HS3.out).mono ?_
  rintro e w4 ⟨rfl, rfl⟩
  go_wp2_with fail
  refine (update_any w4 s hs _ b _ HL.out HS3.out).mono ?_
  rintro e w5 ⟨rfl, rfl⟩
  have HS5 := hid (HS1.out.fr HF3.out)
  go_wp2_with fail
  refine (rsum_any w5 _ b _ HL.out HS5.out).mono ?_
  rintro e w6 ⟨rfl, rfl⟩
  go_wp2_with fail
  refine (rupdate_any w6 s hs _ b _ HL.out HS5.out).mono ?_
  rintro e w7 ⟨rfl, rfl⟩
  have hcv1 : (convert 23 9 (.slice (some ⟨g3, 0, none⟩) (b.length + 1) cap3)).run Try.prog w7 = .ok (.string ⟨(b ++ [7]).toArray⟩) w7 := by
    have := conv_bytes (w := w7) (ad := some ⟨g3, 0, none⟩) (b := b ++ [7]) (fun _ => ⟨g3, 0, rfl, HR3.out⟩) cap3
    have e : (b ++ [(7 : UInt8)]).length = b.length + 1 := by simp
    rwa [e] at this
  have hcv2 := conv_bytes HS5.out cap
  have HE : Hid ((b ++ [7] == ((ByteArray.mk b.toArray) ++ (ByteArray.mk #[7])).toList) = true) := by
    have e : (ByteArray.mk b.toArray) ++ (ByteArray.mk #[7]) = ByteArray.mk (b ++ [7]).toArray := ByteArray.mk_append_mk b [7]
    unfold Hid
    rw [e, ByteArray.toList_mk]
    exact beq_self_eq_true _
  go_wp2
  go_ret
  exact ⟨congrArg (fun x => Ending.returned (.bool x)) HE.out, F1.out.tr HF3.out⟩

end Go.Proofs.Ytlgpojdkcbjkkaa.Sm
