/- The contracts of mayStand, run and storePath. -/
import Derived.Test.YtipppagkajcheaaGreatDoorRby
import Derived.Test.YtipppagkajcheaaGreatDoorRefs
namespace Go.Proofs.YtipppagkajcheaaGreatDoor.Tr
open Go.RowKit

set_option maxRecDepth 100000 in
set_option maxHeartbeats 1000000 in
theorem stand_any (w : World) (c : UInt8) : Calls Tryz.prog 55 #[.int .u8 (c.toNat : Int)] w fun e w' => e = .returned (.bool (mayB c)) ∧ w' = w := by
  have HM := hid (may_iff c)
  have hc := UInt8.toNat_lt c
  generalize c.toNat = n at *
  generalize mayB c = b at *
  go_enter Tryz.func55, Tryz.ntmps55
  go_wp2
  all_goals
    go_ret
    refine ⟨congrArg (fun x => Ending.returned (.bool x)) ((Bool.eq_iff_iff).2 (Iff.trans ?_ HM.out.symm)), rfl⟩
    clear HM
    first | omega | (simp; omega) | simp

theorem run_stop (b : List UInt8) (n : Nat) (h : (b.take n).all mayB = true) (h1 : n ≤ b.length) (h2 : n ≤ 19) (h3 : n = b.length ∨ n = 19 ∨ ∃ hn : n < b.length, mayB b[n] = false) : min 19 (b.takeWhile mayB).length = n := by
  have ha := (all_take_iff mayB b n h1).1 h
  have hle : (b.takeWhile mayB).length ≤ b.length := List.IsPrefix.length_le (List.takeWhile_prefix mayB)
  rcases h3 with h3 | h3 | ⟨hn, h3⟩
  · omega
  · omega
  · have : ¬ n + 1 ≤ (b.takeWhile mayB).length := fun hc => by
      have := (all_take_iff mayB b (n + 1) (by omega)).2 hc
      rw [all_take_succ mayB b n hn, h3] at this
      simp at this
    omega
theorem Src.at {w : World} {ad : Option Addr} {b : List UInt8} (h : Src w ad b) (i : Nat) (hi : i < b.length) : ∃ bb bo, ad = some ⟨bb, bo, none⟩ ∧ w.cell? ⟨bb, bo + i, none⟩ = some (.int .u8 (b[i].toNat : Int)) := by
  obtain ⟨bb, bo, e, hr⟩ := h (fun e => by simp [e] at hi)
  exact ⟨bb, bo, e, hr i _ (bs_at b i hi)⟩

set_option maxRecDepth 100000 in
set_option maxHeartbeats 1000000 in
theorem run_any (w : World) (ad : Option Addr) (b : List UInt8) (cap : Nat) (hs : Src w ad b) : Calls Tryz.prog 37 #[.slice ad b.length cap] w fun e w' => e = .returned (.int .i64 (min 19 (b.takeWhile mayB).length : Nat)) ∧ w' = w := by
  have HS := hid hs
  clear hs
  go_enter Tryz.func37, Tryz.ntmps37
  go_wp2_with fail
  go_loopw [3] (fun nv wr => ∃ n : Nat, n ≤ b.length ∧ n ≤ 19 ∧ nv = .int .i64 (n : Int) ∧ (b.take n).all mayB = true ∧ wr = w) (fun nv _ => 19 - (intOf nv).toNat)
  case atStart => exact ⟨0, Nat.zero_le _, Nat.zero_le _, rfl, rfl, rfl⟩
  case round =>
    obtain ⟨n, hn, h19, rfl, ha, rfl⟩ := hrel
    have HE := hid (run_stop b n ha hn h19)
    by_cases hlt : n < b.length
    · have hn1 : (n : Int) < ((b.length : Nat) : Int) := by omega
      have hn0 : (0 : Int) ≤ (n : Int) := Int.natCast_nonneg _
      by_cases h : n < 19
      · have h' : (n : Int) < 19 := by omega
        obtain ⟨bb, bo, rfl, c0⟩ := HS.out.at n hlt
        have HSt := hid (all_take_succ mayB b n hlt)
        have HX : Hid (mayB b[n] = false → min 19 (b.takeWhile mayB).length = n) := fun e => HE.out (.inr (.inr ⟨hlt, e⟩))
        rw [ha] at HSt
        have HC := hid (stand_any wr b[n])
        clear HS HE ha
        generalize b[n] = c at *
        cases hm : mayB c with
        | true =>
          rw [hm] at HSt HC
          clear HX
          go_wp2_with (go_at_call 55; refine HC.out.mono ?_; rintro e w1 ⟨rfl, rfl⟩)
          exact ⟨⟨n + 1, by omega, by omega, by go_num, HSt.out, trivial⟩, by simp [intOf]; omega⟩
        | false =>
          rw [hm] at HC
          have HX' := hid (HX.out hm)
          clear HX
          go_wp2_with (go_at_call 55; refine HC.out.mono ?_; rintro e w1 ⟨rfl, rfl⟩)
          go_ret
          exact ⟨by rw [HX'.out]; rfl, rfl⟩
      · have h' : ¬ (n : Int) < 19 := by omega
        have HX := hid (HE.out (.inr (.inl (by omega))))
        clear HE ha
        go_wp2
        go_ret
        exact ⟨by rw [HX.out]; rfl, rfl⟩
    · have hn1 : ¬ (n : Int) < ((b.length : Nat) : Int) := by omega
      have HX := hid (HE.out (.inl (by omega)))
      clear HE ha
      go_wp2
      go_ret
      exact ⟨by rw [HX.out]; rfl, rfl⟩

/-- The numbers of bytes. -/
def ints (l : List UInt8) : List Int := l.map (fun c => (c.toNat : Int))
theorem ints_len (l : List UInt8) : (ints l).length = l.length := by simp [ints]
theorem ints_at (l : List UInt8) (i : Nat) (h : i < l.length) : (ints l).getD i 0 = (l[i].toNat : Int) := by
  rw [List.getD_eq_getElem?_getD, List.getElem?_eq_getElem (by rw [ints_len]; exact h)]
  simp [ints]
theorem bytesOf_ints (l : List UInt8) : Lib.bytesOf (ints l) = l := by
  unfold Lib.bytesOf ints
  rw [List.map_map]
  exact List.map_id'' (fun c => by simp) l
theorem Src.bytesIn {w : World} {ad : Option Addr} {b : List UInt8} (h : Src w ad b) : Lib.BytesIn w ad b.length (ints b) := fun hn => by
  obtain ⟨bb, bo, e, hr⟩ := h (fun e => by simp [e] at hn)
  exact ⟨bb, bo, e, fun i hi => by rw [ints_at b i hi]; exact hr i _ (bs_at b i hi)⟩
theorem Src.const {w W : World} (l : List UInt8) (f : W = w.alloc (.cells (bs l).toArray 5 ((bs l).toArray.size, (bs l).toArray.size + 1))) : Src W (some ⟨w.heap.size, 0, none⟩) l := fun _ => by
  subst f
  exact ⟨w.heap.size, 0, rfl, fun j u hu => by
    rw [Nat.zero_add, cell_of_row _ w.heap.size j _ 5 _ (heap_alloc_new w _)]
    simpa using hu⟩
theorem Src.drop' {w : World} {bb bo : Nat} {b : List UInt8} (h : Src w (some ⟨bb, bo, none⟩) b) (n : Nat) : Src w (some ⟨bb, bo + n, none⟩) (b.drop n) := fun hne => by
  obtain ⟨bb', bo', e, hr⟩ := h (fun e => hne (by simp [e]))
  cases e
  refine ⟨bb, bo + n, rfl, fun j v hv => ?_⟩
  have := hr (n + j) v (by rw [← hv]; simp [bs, List.getElem?_drop])
  rw [← Nat.add_assoc] at this
  exact this
theorem Src.take' {w : World} {ad : Option Addr} {b : List UInt8} (h : Src w ad b) (n : Nat) : Src w ad (b.take n) := fun hne => by
  obtain ⟨bb, bo, e, hr⟩ := h (fun e => hne (by simp [e]))
  refine ⟨bb, bo, e, fun j v hv => hr j v ?_⟩
  rw [← hv]
  simp only [bs, List.getElem?_map, List.getElem?_take]
  split
  · rfl
  · rename_i hj
    simp only [bs, List.getElem?_map, List.getElem?_take, if_neg hj] at hv
    cases hv

theorem src_from {w : World} {bb bo : Nat} {d : List UInt8} {cap : Nat} (hs : Src w (some ⟨bb, bo, none⟩) d) (hc : d.length ≤ cap) (k : Nat) : Src w (if cap = k then some ⟨bb, bo, none⟩ else some ⟨bb, bo + k, none⟩) (d.drop k) := by
  split
  · subst k
    rw [List.drop_eq_nil_of_le hc]; exact Src.nil _ _
  · exact hs.drop' k
theorem cutpre_yes (w : World) (ad : Option Addr) (d : List UInt8) (cap : Nat) (hs : Src w ad d) (hc : d.length ≤ cap) (p2 : Option Addr) (y : UInt8) (ys : List UInt8) (c2 : Nat) (hp : Src w p2 (y :: ys)) (h : Lib.hasPrefix d (y :: ys) = true) :
    Calls Tryz.prog 35 #[.slice ad d.length cap, .slice p2 (y :: ys).length c2] w fun e w' => (∃ ad', e = .returned (.tuple #[.slice ad' (d.drop (y :: ys).length).length (cap - (y :: ys).length), .bool true]) ∧ Src w ad' (d.drop (y :: ys).length)) ∧ w' = w :=
  (Tryz.bytes_CutPrefix_all ad p2 d.length cap (y :: ys).length c2 (ints d) (ints (y :: ys)) w (ints_len d) (ints_len _) hc hs.bytesIn hp.bytesIn).mono (fun e w' hh => by
    obtain ⟨h1, h2⟩ := hh
    rw [bytesOf_ints, bytesOf_ints, h] at h1
    refine ⟨?_, h2⟩
    have hne : d ≠ [] := fun e => by rw [e] at h; simp [Lib.hasPrefix] at h
    obtain ⟨bb, bo, rfl, _⟩ := hs hne
    rw [h1]
    simp only [Lib.trimPrefixV, ints, List.map_cons, Lib.bytesTrimPrefix, Lib.sliceFrom]
    have e1 : Lib.bytesOf (d.map fun c => (c.toNat : Int)) = d := bytesOf_ints d
    have e2 : Lib.bytesOf ((y.toNat : Int) :: ys.map fun c => (c.toNat : Int)) = y :: ys := bytesOf_ints (y :: ys)
    rw [e1, e2, h]
    refine ⟨_, ?_, src_from hs hc (y :: ys).length⟩
    simp)
theorem cutpre_no (w : World) (ad : Option Addr) (d : List UInt8) (cap : Nat) (hs : Src w ad d) (hc : d.length ≤ cap) (p2 : Option Addr) (ys : List UInt8) (c2 : Nat) (hp : Src w p2 ys) (h : Lib.hasPrefix d ys = false) :
    Calls Tryz.prog 35 #[.slice ad d.length cap, .slice p2 ys.length c2] w fun e w' => (∃ a n c, e = .returned (.tuple #[.slice a n c, .bool false])) ∧ w' = w :=
  (Tryz.bytes_CutPrefix_all ad p2 d.length cap ys.length c2 (ints d) (ints ys) w (ints_len d) (ints_len _) hc hs.bytesIn hp.bytesIn).mono (fun e w' hh => by
    obtain ⟨h1, h2⟩ := hh
    rw [bytesOf_ints, bytesOf_ints, h] at h1
    refine ⟨?_, h2⟩
    have : ∃ a n c, Lib.trimPrefixV ad d.length cap (ints d) (ints ys) = .slice a n c := by
      unfold Lib.trimPrefixV
      split
      · unfold Lib.bytesTrimPrefix
        split <;> exact ⟨_, _, _, rfl⟩
      · exact ⟨_, _, _, rfl⟩
    obtain ⟨a, n, c, e'⟩ := this
    exact ⟨a, n, c, by rw [h1, e']⟩)

end Go.Proofs.YtipppagkajcheaaGreatDoor.Tr
