/- image: all bytes of a disk. -/
import Derived.Test.YtagcpjekeogkbaaClone
namespace Go.Proofs.Ytagcpjekeogkbaa.Wl
open Go.RowKit Dk

theorem take_sec (N : Sec) (k : Nat) : bs (N.take (k * 128)) ++ bs (sec N k) = bs (N.take (k * 128 + 128)) := by
  simp only [bs, sec, ← List.map_append]
  rw [List.take_add]

set_option maxRecDepth 100000 in
set_option maxHeartbeats 1000000 in
theorem image_any {G : Nat → Prop} {w : World} {p : Nat} {D : Dsk} (h : Dk.Own G w p D) (hQ : D.Q.length < 1073741824) :
    Calls Try.prog 23 #[pv p] w fun e w' => e = .returned (.string (strB D.N)) ∧ Dk.Own G w' p D ∧ Kp G w w' := by
  obtain ⟨i0, hi0, hz0, hz1, hz2⟩ := info_parts Dk.info5
  have hn2 := h.ok.n2
  have hn1 := h.ok.n1
  have hlN := hid h.ok.lN
  have HC := hid (clone_any h hQ)
  clear h
  go_enter Try.func23, Try.ntmps23
  go_wp2_with fail
  refine HC.out.mono ?_
  rintro e w1 ⟨p2, cl, cn, zl, zn, rfl, ho, hk⟩
  obtain ⟨F, o1, hb⟩ := ho.swap.first
  have HSt := hid (own_start o1)
  have HB := hid hb
  have HK1 := hid hk
  clear HC ho o1 hb hk
  generalize (if ({ D with cl := cl, cn := cn, zl := zl, zn := zn } : Dsk).up = true then (42 : Int) else 0) = se at *
  go_wp2_with fail
  refine HSt.out.mono ?_
  rintro e w2 ⟨rfl, o2, k2⟩
  have HO2 := hid o2
  have HBk := hid (fun w' (f : Nw w2 w') => HB.out w' _ (own_nw o2 f) (Kp.trans k2 f.kp))
  clear HSt o2 k2 HB
  have HDN : Hid (({ D with cl := cl, cn := cn, zl := zl, zn := zn } : Dsk).start.N = D.N ∧ ({ D with cl := cl, cn := cn, zl := zl, zn := zn } : Dsk).start.n = D.n ∧ ({ D with cl := cl, cn := cn, zl := zl, zn := zn } : Dsk).start.up = true) := ⟨rfl, rfl, rfl⟩
  generalize hD2 : ({ D with cl := cl, cn := cn, zl := zl, zn := zn } : Dsk).start = D2 at *
  clear hD2
  go_wp2_with fail
  go_loopw [4, 5] (fun av i wr => ∃ k : Nat, k ≤ D.n ∧ i = .int .i64 (k : Int) ∧ wr.ownsRow w2.heap.size 5 1 av (k * 128) (bs (D.N.take (k * 128))) ∧ Nw w2 wr) (fun _ i _ => D.n - (intOf i).toNat)
  case atStart => exact ⟨0, Nat.zero_le _, rfl, by simpa [bs] using World.ownsRow_nil w2 w2.heap.size 5 1, Fr.refl _ _⟩
  case round =>
    obtain ⟨k, hkn, rfl, hO, hF⟩ := hrel
    have HO := hid hO
    have HF := hid hF
    clear hO hF
    have HL := hid (own_size (own_nw HO2.out HF.out))
    rw [HDN.out.2.1] at HL
    by_cases hlt : k < D.n
    · have HR := hid (own_read (own_nw HO2.out HF.out) k HDN.out.2.2 (by rw [HDN.out.2.1]; exact hlt))
      rw [HDN.out.1] at HR
      have hk1 : (k : Int) < (D.n : Int) := by omega
      go_wp2_with fail
      refine HL.out.mono ?_
      rintro e w3 ⟨rfl, hw⟩
      obtain rfl : wr = w3 := hw.symm
      clear hw
      go_wp2_with fail
      refine HR.out.mono ?_
      rintro e w4 ⟨rfl, rfl⟩
      have HO3 := hid (HO.out.alloc (.cells (bs (sec D.N k)).toArray 79))
      have hsl : Hid ((bs (sec D.N k)).length = 128 * 1) := by unfold Hid; rw [bs_length, sec_length _ _ _ hlN.out hlt]
      have hsz := hid HF.out.size
      go_wp2_with (at_builtin; refine wpList_append_lies _ (by rfl) _ _ _ (by rfl) w2.heap.size 5 i0 _ 1 1 Try.underlying38 hi0 hz0 hz1 hz2 rfl (by omega) _ (k * 128) (bs (D.N.take (k * 128))) (by rfl) (by exact HO3.out) ⟨wr.heap.size, 0, none⟩ 128 128 (bs (sec D.N k)) (by rfl) hsl.out (by exact World.news_of_block (cs := (bs (sec D.N k)).toArray) (t := 79) (fr := (0, 0)) (heap_alloc_new wr _)) (bs_one _) (by omega) (by unfold maxLen; omega) (by omega) (by have := hsz.out; simp; omega) (wr.heap.size + 1) (by simp) ?_; intro g cap2 w5 hown hgrow hat hlt2)
      have HF2 : Hid (Nw w2 w5) := (HF.out.alloc _).grown hgrow (fun b hb => .inr (HO.out.lt b hb).1)
      have HO4 : Hid (w5.ownsRow w2.heap.size 5 1 (.slice (some ⟨g, 0, none⟩) (k * 128 + 128) cap2) ((k + 1) * 128) (bs (D.N.take ((k + 1) * 128)))) := by
        unfold Hid
        rw [show (k + 1) * 128 = k * 128 + 128 by omega, ← take_sec]
        exact hown
      clear hown hgrow hat hlt2
      exact ⟨⟨k + 1, by omega, by go_num, HO4.out, HF2.out⟩, by simp [intOf]; omega⟩
    · obtain rfl : k = D.n := by omega
      obtain ⟨g, cap2, rfl, _, _⟩ := HO.out.form (by omega)
      have hto : D.N.take (D.n * 128) = D.N := List.take_of_length_le (by rw [hlN.out]; omega)
      have hcv := conv_owned _ HO.out
      rw [hto] at hcv
      have HE := hid (HBk.out wr HF.out)
      clear hto HO HBk
      go_wp2_with fail
      refine HL.out.mono ?_
      rintro e w3 ⟨rfl, hw⟩
      obtain rfl : wr = w3 := hw.symm
      clear hw
      go_wp2
      go_ret
      exact ⟨rfl, HE.out.1.swap.one, Kp.trans HK1.out HE.out.2⟩

/-- What lies behind the first n sectors. -/
theorem drop_cat (N : Sec) (n : Nat) : ∀ k, cat (sec N) n k = (N.drop (n * 128)).take (k * 128)
  | 0 => by simp [cat]
  | k + 1 => by
    rw [cat_succ, drop_cat N n k, show (k + 1) * 128 = k * 128 + 128 by omega, List.take_add, List.drop_drop]
    unfold sec
    rw [show n * 128 + k * 128 = (n + k) * 128 by omega]

end Go.Proofs.Ytagcpjekeogkbaa.Wl
