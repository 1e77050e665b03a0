/- The walk of SumParts. -/
import Derived.Test.YtlgpojdkcbjkkaaTellsWalk
import Derived.Test.YtlgpojdkcbjkkaaArgs
namespace Go.Proofs.Ytlgpojdkcbjkkaa.Sm
open Go.RowKit

theorem i64_and63 (n : Int) : bits .and .i64 n 63 = n % 64 := by
  have h63 : (BitVec.ofInt 64 63).toNat = 2 ^ 6 - 1 := by decide
  have key : (BitVec.ofInt 64 n &&& BitVec.ofInt 64 63).toNat = (n % ((2 ^ 64 : Nat) : Int)).toNat % 2 ^ 6 := by
    rw [BitVec.toNat_and, BitVec.toNat_ofInt, h63, Nat.and_two_pow_sub_one_eq_mod]
  show IntKind.i64.wrap ((BitVec.ofInt 64 n &&& BitVec.ofInt 64 63).toNat : Nat) = n % 64
  rw [key, IntKind.wrap_i64]
  omega
theorem Src.take {w : World} {bb bo : Nat} {b : List UInt8} (h : w.rangeAt bb bo (bs b)) (n : Nat) : Src w (some ⟨bb, bo, none⟩) (b.take n) := fun _ =>
  ⟨bb, bo, rfl, fun j v hv => h j v (by
    simp only [bs, List.map_take, List.getElem?_take] at hv
    split at hv
    · exact hv
    · cases hv)⟩
theorem Src.drop {w : World} {bb bo : Nat} {b : List UInt8} (h : w.rangeAt bb bo (bs b)) (n : Nat) : Src w (some ⟨bb, bo + n, none⟩) (b.drop n) := fun _ =>
  ⟨bb, bo + n, rfl, fun j v hv => by
    simp only [bs, List.map_drop, List.getElem?_drop] at hv
    rw [Nat.add_assoc]
    exact h (n + j) v hv⟩

set_option maxRecDepth 100000 in
set_option maxHeartbeats 1000000 in
theorem parts_walk (w : World) (ad : Option Addr) (b : List UInt8) (cap : Nat) (hl : b.length ≤ 140737488351232) (hsrc : Src w ad b) (hcap : b.length ≤ cap) (ad2 : Option Addr) (len2 cap2 : Nat) (h2 : ArgInts w ad2 len2) (h2l : len2 ≤ 9223372036854775807) :
    Calls Try.prog 5 #[.slice ad b.length cap, .slice ad2 len2 cap2] w fun e w' => e = .returned (.bool true) ∧ Fr (fun _ => False) w w' := by
  have HS := hid hsrc
  have H2 := hid h2
  have HL : Hid (b.length ≤ 140737488355328) := by unfold Hid; omega
  clear hsrc h2
  go_enter Try.func5, Try.ntmps5
  go_wp2_with fail
  refine (shown_any w).mono ?_
  rintro e w1 ⟨rfl, f1⟩
  have F1 := hid f1
  have HS1 := hid (HS.out.fr f1)
  clear f1
  go_wp2_with fail
  refine (sum_any w1 none [] 0 (by simp) (Src.nil _ _)).mono ?_
  rintro e w2 ⟨rfl, rfl⟩
  go_wp2_with fail
  go_loopw [6, 7, 8] (fun sv rv iv wr => ∃ (k o : Nat) (ad' : Option Addr) (cap' : Nat), k ≤ len2 ∧ o ≤ b.length ∧ iv = .int .i64 (k : Int) ∧ sv = .int .u64 (upd beg (b.take o) : Nat) ∧ rv = .slice ad' (b.length - o) cap' ∧ b.length - o ≤ cap' ∧ Src w2 ad' (b.drop o) ∧ wr = w2) (fun _ _ iv _ => len2 - (intOf iv).toNat)
  case atStart => exact ⟨0, 0, ad, cap, Nat.zero_le _, Nat.zero_le _, rfl, by simp, by simp, by omega, by simpa using HS1.out, rfl⟩
  case round =>
    obtain ⟨k, o, ad', cap', hk, ho, rfl, rfl, rfl, hc', hs', rfl⟩ := hrel
    have HS' := hid hs'
    clear hs'
    have hu := upd_lt beg (b.take o) beg_lt
    by_cases hg : k < len2 ∧ 0 < b.length - o
    · obtain ⟨hg1, hg2⟩ := hg
      obtain ⟨bb, bo, n0, rfl, hcell, hn0, hn1⟩ := H2.out k hg1
      have hcell' : wr.cell? ⟨bb, bo + k, none⟩ = some (.int .i64 n0) := by
        have hlt := World.block_lt_of_cell? w ⟨bb, bo + k, none⟩ hcell
        rw [World.cell?_of_block (w := w) (F1.out.block bb hlt (fun h => h))]
        exact hcell
      have hi1 : (k : Int) < (len2 : Int) := by omega
      have hi0 : (0 : Int) ≤ (k : Int) := Int.natCast_nonneg _
      obtain ⟨b', o', rfl, hr'⟩ := HS'.out (by intro h; have := congrArg List.length h; simp at this; omega)
      have HR' := hid hr'
      have hdl : (b.drop o).length = b.length - o := List.length_drop
      have HT : Hid (∀ n, n ≤ b.length - o → upd (upd beg (b.take o)) ((b.drop o).take n) = upd beg (b.take (o + n))) := fun n hn => by
        rw [← upd_append, List.take_add]
      have hand := i64_and63 n0
      obtain ⟨m, hm⟩ : ∃ m : Nat, n0 % 64 = (m : Int) := Int.eq_ofNat_of_zero_le (by omega)
      have hm64 : m < 64 := by omega
      rw [hm] at hand
      clear hcell hm hr' HS'
      generalize hr : b.length - o = r at *
      have HRr := hid hr
      have hr0 : (0 : Int) < (r : Int) := by omega
      clear hr
      rcases Nat.lt_or_ge m r with hmr | hmr
      · have hmi : (m : Int) < (r : Int) := by omega
        have hmc : (m : Int) ≤ (cap' : Int) := by omega
        have hml : ((b.drop o).take m).length = m := by rw [List.length_take, hdl]; omega
        have HU := hid (update_any wr (upd beg (b.take o)) hu (some ⟨b', o', none⟩) ((b.drop o).take m) cap' (by rw [hml]; omega) (Src.take HR'.out m))
        rw [hml, HT.out m (by omega)] at HU
        have HD := hid (Src.drop HR'.out m)
        generalize upd beg (b.take o) = S at *
        generalize hS2 : upd beg (b.take (o + m)) = S2 at *
        have HS2 := hid hS2
        clear hml hdl hS2
        go_wp2_with fail
        refine HU.out.mono ?_
        rintro e w3 ⟨rfl, rfl⟩
        go_wp2_with fail
        refine ⟨⟨k + 1, o + m, some ⟨b', o' + m, none⟩, cap' - m, by omega, by have := HRr.out; omega, by simp, by rw [HS2.out], ?_, ?_, ?_, trivial⟩, by simp [intOf]; omega⟩
        · have := HRr.out
          rw [show b.length - (o + m) = r - m by omega]
        · have := HRr.out
          omega
        · have := HD.out
          rwa [List.drop_drop] at this
      · have hmi : ¬ (m : Int) < (r : Int) := by omega
        have hmc : (r : Int) ≤ (cap' : Int) := by omega
        have hml : ((b.drop o).take r).length = r := by rw [List.length_take, hdl]; omega
        have HU := hid (update_any wr (upd beg (b.take o)) hu (some ⟨b', o', none⟩) ((b.drop o).take r) cap' (by rw [hml]; omega) (Src.take HR'.out r))
        rw [hml, HT.out r (by omega)] at HU
        have HD := hid (Src.drop HR'.out r)
        generalize upd beg (b.take o) = S at *
        generalize hS2 : upd beg (b.take (o + r)) = S2 at *
        have HS2 := hid hS2
        clear hml hdl hS2
        rcases (show (m : Int) = (r : Int) ∨ (r : Int) < (m : Int) by omega) with hmr2 | hmr2
        all_goals
          go_wp2_with fail
          refine HU.out.mono ?_
          rintro e w3 ⟨rfl, rfl⟩
          go_wp2_with fail
          have hz : b.length - (o + r) = 0 := by have := HRr.out; omega
          have hd : b.drop (o + r) = [] := List.drop_eq_nil_of_le (by omega)
          refine ⟨⟨k + 1, o + r, _, cap' - r, by omega, by have := HRr.out; omega, by simp, by rw [HS2.out], by rw [hz], by omega, by rw [hd]; exact Src.nil _ _, trivial⟩, by simp [intOf]; omega⟩
    · have hT : upd (upd beg (b.take o)) (b.drop o) = upd beg b := by rw [← upd_append, List.take_append_drop]
      have HU := hid (update_any wr (upd beg (b.take o)) hu ad' (b.drop o) cap' (by rw [List.length_drop]; omega) HS'.out)
      have HSm := hid (sum_any wr ad b cap HL.out HS1.out)
      rw [hT, List.length_drop] at HU
      clear hT
      generalize upd beg (b.take o) = S at *
      generalize upd beg b = S2 at *
      generalize hr : b.length - o = r at *
      clear hr
      rcases (show ¬ (k : Int) < (len2 : Int) ∨ ((k : Int) < (len2 : Int) ∧ ¬ (0 : Int) < (r : Int)) by omega) with h | ⟨h, h'⟩
      all_goals
        go_wp2_with fail
        refine HU.out.mono ?_
        rintro e w3 ⟨rfl, rfl⟩
        go_wp2_with fail
        refine HSm.out.mono ?_
        rintro e w4 ⟨rfl, rfl⟩
        go_wp2
        go_ret
        exact ⟨by simp, F1.out⟩

end Go.Proofs.Ytlgpojdkcbjkkaa.Sm
