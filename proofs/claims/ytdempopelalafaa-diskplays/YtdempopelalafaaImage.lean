/- The contract of 'image': all bytes of a disk that has power. -/
import Derived.Test.YtdempopelalafaaHead
namespace Go.Proofs.Ytdempopelalafaa.Dk
open Go.RowKit

theorem Own.fr0 {G : Nat → Prop} {w w' : World} {p : Nat} {D : Dsk} (h : Own G w p D) (f : Fr (fun _ => False) w w') : Own G w' p D := by
  obtain ⟨bl, bn, lv, r, g⟩ := h
  exact ⟨bl, bn, lv, r.frame f (fun _ _ h => h), fun k hk => ⟨Nat.lt_of_lt_of_le (g k hk).1 f.size, (g k hk).2⟩⟩
theorem Kp.fr0 {G : Nat → Prop} {w w' : World} (f : Fr (fun _ => False) w w') : Kp G w w' := f.mono (fun _ h => h.elim)

theorem take_sec (N : List UInt8) (k : Nat) : bs (N.take (k * 128)) ++ bs (sec N k) = bs (N.take (k * 128 + 128)) := by
  simp only [bs, sec, ← List.map_append]
  rw [List.take_add]

theorem conv_owned {w : World} {B g cap n : Nat} (l : List UInt8) (h : w.ownsRow B 5 1 (.slice (some ⟨g, 0, none⟩) n cap) n (bs l)) :
    (convert 28 9 (.slice (some ⟨g, 0, none⟩) n cap)).run Try.prog w = .ok (.string (strB l)) w := by
  have hl : l.length = n := by have := h.1; rw [bs_length] at this; omega
  subst hl
  refine run_convert_bytes_back (P := Try.prog) w 28 9 5 ⟨g, 0, none⟩ cap l Try.underlying28 Try.underlying5 Try.underlying9 (fun j hj => ?_)
  exact h.cells rfl j _ (by simp [bs, bv, hj])

set_option maxRecDepth 100000 in
set_option maxHeartbeats 400000 in
theorem image_any {G : Nat → Prop} {w : World} {p : Nat} {D : Dsk} (h : Own G w p D) (hu : D.up = true) :
    Calls Try.prog 25 #[pv p] w fun e w' => e = .returned (.string (strB D.N)) ∧ Fr (fun _ => False) w w' := by
  obtain ⟨i0, hi0, hz0, hz1, hz2⟩ := info_parts info5
  have hn2 := h.ok.n2
  have hn1 := h.ok.n1
  have hlN := hid h.ok.lN
  have H := hid h
  have HU := hid hu
  clear h hu
  go_enter Try.func25, Try.ntmps25
  go_wp2_with fail
  go_loopw [3, 4] (fun av i wr => ∃ k : Nat, k ≤ D.n ∧ i = .int .i64 (k : Int) ∧ wr.ownsRow w.heap.size 5 1 av (k * 128) (bs (D.N.take (k * 128))) ∧ Fr (fun _ => False) w wr) (fun _ i _ => D.n - (intOf i).toNat)
  case atStart => exact ⟨0, Nat.zero_le _, rfl, by simpa [bs] using World.ownsRow_nil w w.heap.size 5 1, Fr.refl _ _⟩
  case round =>
    obtain ⟨k, hkn, rfl, hO, hF⟩ := hrel
    have HO := hid hO
    have HF := hid hF
    clear hO hF
    have HL := hid (own_size (H.out.fr0 HF.out))
    by_cases hlt : k < D.n
    · have HR := hid (own_read (H.out.fr0 HF.out) k HU.out hlt)
      have hk1 : (k : Int) < (D.n : Int) := by omega
      go_wp2_with fail
      refine HL.out.mono ?_
      rintro e w1 ⟨rfl, hw⟩
      obtain rfl : wr = w1 := hw.symm
      clear hw
      go_wp2_with fail
      refine HR.out.mono ?_
      rintro e w1 ⟨rfl, rfl⟩
      have HO2 := hid (HO.out.alloc (.cells (bs (sec D.N k)).toArray 59))
      have hsl : Hid ((bs (sec D.N k)).length = 128 * 1) := by unfold Hid; rw [bs_length, sec_length _ _ _ hlN.out hlt]
      have hsz := hid HF.out.size
      go_wp2_with (at_builtin; refine wpList_append_lies _ (by rfl) _ _ _ (by rfl) w.heap.size 5 i0 _ 1 1 Try.underlying28 hi0 hz0 hz1 hz2 rfl (by omega) _ (k * 128) (bs (D.N.take (k * 128))) (by rfl) (by exact HO2.out) ⟨wr.heap.size, 0, none⟩ 128 128 (bs (sec D.N k)) (by rfl) hsl.out (by exact World.news_of_block (cs := (bs (sec D.N k)).toArray) (t := 59) (fr := (0, 0)) (heap_alloc_new wr _)) (bs_one _) (by omega) (by unfold maxLen; omega) (by omega) (by have := hsz.out; simp; omega) (wr.heap.size + 1) (by simp) ?_; intro g cap2 w2 hown hgrow hat hlt2)
      have HF2 : Hid (Fr (fun _ => False) w w2) := (HF.out.alloc _).grown hgrow (fun b hb => .inr (HO.out.lt b hb).1)
      have HO3 : Hid (w2.ownsRow w.heap.size 5 1 (.slice (some ⟨g, 0, none⟩) (k * 128 + 128) cap2) ((k + 1) * 128) (bs (D.N.take ((k + 1) * 128)))) := by
        unfold Hid
        rw [show (k + 1) * 128 = k * 128 + 128 by omega, ← take_sec]
        exact hown
      clear hown hgrow hat hlt2
      exact ⟨⟨k + 1, by omega, by go_num, HO3.out, HF2.out⟩, by simp [intOf]; omega⟩
    · obtain rfl : k = D.n := by omega
      obtain ⟨g, cap2, rfl, _, _⟩ := HO.out.form (by omega)
      have hto : D.N.take (D.n * 128) = D.N := List.take_of_length_le (by rw [hlN.out]; omega)
      have hcv := conv_owned _ HO.out
      rw [hto] at hcv
      clear hto
      go_wp2_with fail
      refine HL.out.mono ?_
      rintro e w1 ⟨rfl, hw⟩
      obtain rfl : wr = w1 := hw.symm
      clear hw
      go_wp2
      go_ret
      exact ⟨rfl, HF.out⟩

end Go.Proofs.Ytdempopelalafaa.Dk
