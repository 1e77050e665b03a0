
/- homesOf: the homes of a list, read back. -/
import Derived.Test.YtehoiahgkbnjdaaGreatLst
import Derived.Laws.OwnMore
import Derived.BigQuiet
namespace Go.Proofs.YtehoiahgkbnjdaaGreat.Wl
open Go.RowKit Dk

theorem make88 (w : World) (m : Nat) (hm : m ≤ 60) : (Instr.makeSlice 47 (.int .i64 (m : Int)) (.int .i64 (m : Int))).run Tryz.prog w = .ok (.slice (some ⟨w.heap.size, 0, none⟩) m m) (w.alloc (.cells (List.replicate m (Value.int .i64 0)).toArray 3)) := by
  obtain ⟨i, hi⟩ := Option.isSome_iff_exists.1 (by kernel_rfl : (Tryz.prog.info? 3).isSome = true)
  have hz : (Tryz.prog.info? 3).bind (·.zero) = some (.int .i64 0) := by kernel_rfl
  have hs : (Tryz.prog.info? 3).map (·.size) = some 1 := by kernel_rfl
  have hb : (Tryz.prog.info? 3).map (·.bytes) = some 8 := by kernel_rfl
  rw [hi] at hz hs hb
  simp only [Option.bind_some, Option.map_some, Option.some.injEq] at hz hs hb
  have h := run_make (P := Tryz.prog) w 47 3 i (.int .i64 0) Tryz.underlying47 hi hz .i64 .i64 m m (by omega) (Int.le_refl _) (by rw [hb]; omega) (by omega)
  rw [h, hs]
  simp only [Int.toNat_natCast, Nat.mul_one]
  have e : madeCells (Value.int .i64 0).cells m = (List.replicate m (Value.int .i64 0)).toArray := by
    apply Array.toList_inj.1
    exact toList_madeCells_one (.int .i64 0) m
  rw [e]

def HofPost (s : Sec) (w : World) (e : Ending) (w' : World) : Prop :=
  Nw w w' ∧ if isLst s = true then ∃ g, w.heap.size ≤ g ∧ e = .returned (.tuple #[.slice (some ⟨g, 0, none⟩) (homesIn s).length (homesIn s).length, .bool true]) ∧ Blk w' g 3 (intC (homesIn s)) else e = .returned (.tuple #[.slice none 0 0, .bool false])

def rowC (s : Sec) (k : Nat) : List Value := intC ((homesIn s).take k) ++ List.replicate ((homesIn s).length - k) (Value.int .i64 0)
theorem rowC_set (s : Sec) (k : Nat) (h : k < (homesIn s).length) : (rowC s k).set k (.int .i64 ((fld s (2 + 2 * k) 2 : Nat) : Int)) = rowC s (k + 1) := by
  have e : (intC ((homesIn s).take k)).length = k := by simp [intC]; omega
  unfold rowC
  obtain ⟨q, hq⟩ : ∃ q, (homesIn s).length - k = q + 1 := ⟨(homesIn s).length - k - 1, by omega⟩
  have hq2 : (homesIn s).length - (k + 1) = q := by omega
  rw [hq, hq2, homesIn_take s k h, List.set_append_right _ _ (by omega), e, Nat.sub_self, List.replicate_succ, List.set_cons_zero]
  simp [intC]
structure HofMid (s : Sec) (w wr : World) (k : Nat) : Prop where
  b1 : Blk wr w.heap.size 81 (bs s)
  b2 : Blk wr (w.heap.size + 1) 3 (rowC s k)
  fr : Nw w wr
theorem HofMid.next {s : Sec} {w wr : World} {k : Nat} (h : HofMid s w wr k) (hk : k < (homesIn s).length) : HofMid s w (wr.setCell ⟨w.heap.size + 1, k, none⟩ (.int .i64 ((fld s (2 + 2 * k) 2 : Nat) : Int))) (k + 1) where
  b1 := h.b1.setCell_ne (by simp) _
  b2 := by rw [← rowC_set s k hk]; exact h.b2.setCell k _
  fr := h.fr.setCell (.inr (by simp)) _
theorem HofMid.drewN {s : Sec} {w wr : World} {k : Nat} (h : HofMid s w wr k) (n : Nat) : HofMid s w (wr.drewN n) k := ⟨h.b1, h.b2, h.fr.drewN n⟩
theorem rowC_get (s : Sec) (k j : Nat) (hj : j < k) (hk : k ≤ (homesIn s).length) : (rowC s k)[j]? = some (.int .i64 ((fld s (2 + 2 * j) 2 : Nat) : Int)) := by
  have e : (intC ((homesIn s).take k)).length = k := by simp [intC]; omega
  rw [rowC, List.getElem?_append_left (by omega)]
  have hj' : j < (homesIn s).length := by omega
  simp [intC, hj, hj', homesIn_get]
theorem rowC_all (s : Sec) : rowC s (homesIn s).length = intC (homesIn s) := by simp [rowC]
theorem risen_more (s : Sec) (k : Nat) (h : k < (homesIn s).length) : risen ((homesIn s).take (k + 1)) = (risen ((homesIn s).take k) && (decide (k = 0) || decide (fld s (2 + 2 * (k - 1)) 2 < fld s (2 + 2 * k) 2))) := by
  rw [homesIn_take s k h]
  cases k with
  | zero => simp [risen]
  | succ j =>
    rw [homesIn_take s j (by omega), List.append_assoc]
    have := risen_snoc ((homesIn s).take j) (fld s (2 + 2 * j) 2) (fld s (2 + 2 * (j + 1)) 2)
    simpa using this

theorem isLst_iff (s : Sec) (h1 : 1 ≤ (homesIn s).length) (h2 : (homesIn s).length ≤ 60) (h3 : risen (homesIn s) = true) : isLst s = (lst (homesIn s) == s) := by
  rw [homesIn_length] at h1 h2
  simp [isLst, h1, h2, h3]

set_option maxRecDepth 100000 in
set_option maxHeartbeats 4000000 in
theorem homesOf_any (w : World) (s : Sec) (hs : s.length = 128) : Calls Tryz.prog 89 #[arrV s] w (HofPost s w) := by
  have HSl := hid hs
  have hm : fld s 0 2 < 65536 := fld_lt s 0 2
  have hwm : IntKind.i64.wrap ((fld s 0 2 : Nat) : Int) = ((fld s 0 2 : Nat) : Int) := by simp [IntKind.wrap, IntKind.bits, IntKind.signed]; omega
  have B0 : Blk (w.alloc (.cells (bs s).toArray 81)) w.heap.size 81 (bs s) := Blk.new w 81 _
  have F0 : Nw w (w.alloc (.cells (bs s).toArray 81)) := (Fr.refl _ w).alloc _
  have HC := hid (num_at 0 2 128 B0 hs (by omega) (by omega))
  have hll := homesIn_length s
  have HLL := hid hll
  have HB0 := hid B0
  have HF0 := hid F0
  unfold arrV
  clear hs B0 F0
  by_cases hlo : 1 ≤ fld s 0 2 ∧ fld s 0 2 ≤ 60
  · have HLo := hid hlo
    obtain ⟨m, hmm⟩ : ∃ m, fld s 0 2 = m := ⟨_, rfl⟩
    rw [hmm] at HC hwm HLo HLL hlo
    have h1 : ¬ (m : Int) < 1 := by omega
    have h2 : ¬ (m : Int) > 60 := by omega
    have hmk := make88 (w.alloc (.cells (bs s).toArray 81)) m hlo.2
    clear hmm hlo hll
    go_enter Tryz.func89, Tryz.ntmps89
    go_wp2_with (go_at_call 67; refine HC.out.mono ?_; rintro x w1 ⟨rfl, rfl⟩)
    go_loopw [6, 20] (fun _ i wr => ∃ k, k ≤ m ∧ i = .int .i64 (k : Int) ∧ HofMid s w wr k ∧ risen ((homesIn s).take k) = true) (fun _ i _ => m - (intOf i).toNat)
    case atStart =>
      refine ⟨0, Nat.zero_le _, rfl, ⟨HB0.out.alloc _, ?_, HF0.out.alloc _⟩, rfl⟩
      have := Blk.new (w.alloc (.cells (bs s).toArray 81)) 3 (List.replicate m (Value.int .i64 0))
      rw [← HLL.out] at this ⊢
      simpa [rowC, intC] using this
    case round =>
      obtain ⟨k, hk, rfl, hM, hR⟩ := hrel
      have HM := hid hM
      have HR := hid hR
      clear hM hR HB0 HF0 HC hmk hwm
      by_cases hlt : k < m
      · have hk1 : (k : Int) < (m : Int) := by omega
        have hk0 : (0 : Int) ≤ (k : Int) := Int.natCast_nonneg _
        have hkl : k < (homesIn s).length := by rw [HLL.out]; exact hlt
        have HC1 := hid (homeBytes_any wr w.heap.size k (by have := HLo.out.2; omega))
        have HC2 := hid (num_at (2 + 2 * k) 2 (128 - (2 + 2 * k)) HM.out.b1 HSl.out (by have := HLo.out.2; omega) (by omega))
        have hf : fld s (2 + 2 * k) 2 < 65536 := fld_lt s _ 2
        have hwf : IntKind.i64.wrap ((fld s (2 + 2 * k) 2 : Nat) : Int) = ((fld s (2 + 2 * k) 2 : Nat) : Int) := by simp [IntKind.wrap, IntKind.bits, IntKind.signed]; omega
        have HN := hid (HM.out.next hkl)
        have HRm := hid (risen_more s k hkl)
        have HG := hid (rowC_get s (k + 1) k (by omega) hkl)
        have HGp : Hid (0 < k → (rowC s (k + 1))[k - 1]? = some (.int .i64 ((fld s (2 + 2 * (k - 1)) 2 : Nat) : Int))) := fun h => rowC_get s (k + 1) (k - 1) (by omega) hkl
        have hz : wr.frozen? ⟨w.heap.size + 1, k, none⟩ = false := HM.out.b2.frozen k
        have hcl : ∃ v, wr.cell? ⟨w.heap.size + 1, k, none⟩ = some v := by
          have h1 := HM.out.b2.cell k
          have h2 : k < (rowC s k).length := by simp [rowC, intC]; omega
          exact ⟨_, h1.trans (List.getElem?_eq_getElem h2)⟩
        obtain ⟨v0, hcl⟩ := hcl
        rw [HR.out, Bool.true_and] at HRm
        clear HM HR hf
        generalize fld s (2 + 2 * k) 2 = y at *
        generalize fld s (2 + 2 * (k - 1)) 2 = y0 at *
        by_cases hk00 : k = 0
        · subst hk00
          go_wp2_with (first
            | (go_at_call 96; refine HC1.out.mono ?_; rintro x w4 ⟨rfl, rfl⟩)
            | (go_at_call 67; refine HC2.out.mono ?_; rintro x w5 ⟨rfl, rfl⟩))
          go_quiet (fail)
          go_wp2
          exact ⟨⟨0 + 1, by omega, by simp, HN.out.drewN _, by simpa using HRm.out⟩, by simp [intOf]; omega⟩
        · have hgt : (0 : Int) < (k : Int) := by omega
          obtain ⟨j, rfl⟩ : ∃ j, k = j + 1 := ⟨k - 1, by omega⟩
          have hwj : IntKind.i64.wrap (((j + 1 : Nat) : Int) - 1) = ((j : Nat) : Int) := by simp [IntKind.wrap, IntKind.bits, IntKind.signed]; omega
          have hd1 := (HN.out.b2.cell (j + 1)).trans HG.out
          have hd0 := (HN.out.b2.cell j).trans (HGp.out (by omega))
          have hj0 : (0 : Int) ≤ (j : Int) := Int.natCast_nonneg _
          have hj1 : (j : Int) < (m : Int) := by omega
          by_cases hyy : (y : Int) ≤ (y0 : Int)
          · have HFls : Hid (isLst s = false) := by
              have h1 : risen ((homesIn s).take (j + 1 + 1)) = false := by rw [HRm.out]; simp; omega
              have := risen_take_false _ _ h1
              simp [Hid, isLst, this]
            go_wp2_with (first
              | (go_at_call 96; refine HC1.out.mono ?_; rintro x w4 ⟨rfl, rfl⟩)
              | (go_at_call 67; refine HC2.out.mono ?_; rintro x w5 ⟨rfl, rfl⟩))
            go_quiet (fail)
            go_wp2
            go_ret2
            exact ⟨HN.out.fr.drewN _, by rw [HFls.out]; rfl⟩
          · go_wp2_with (first
              | (go_at_call 96; refine HC1.out.mono ?_; rintro x w4 ⟨rfl, rfl⟩)
              | (go_at_call 67; refine HC2.out.mono ?_; rintro x w5 ⟨rfl, rfl⟩))
            go_quiet (fail)
            go_wp2
            exact ⟨⟨j + 1 + 1, by omega, by simp, HN.out.drewN _, by rw [HRm.out]; simp; omega⟩, by simp [intOf]; omega⟩
      · obtain rfl : k = m := by omega
        have hk1 : ¬ (k : Int) < (k : Int) := by omega
        have hb2 := HM.out.b2
        have hR := HR.out
        rw [← HLL.out, List.take_length] at hR
        rw [← HLL.out, rowC_all] at hb2
        have HI := hid (isLst_iff s (by rw [HLL.out]; exact HLo.out.1) (by rw [HLL.out]; exact HLo.out.2) hR)
        have HB1 := hid HM.out.b1
        have HB2 := hid hb2
        have HF := hid HM.out.fr
        have HC := hid (listOf_any wr.drew (some ⟨w.heap.size + 1, 0, none⟩) k (homesIn s) (by rw [HLL.out]; exact HLo.out.2) (homesIn_lt s) (fun _ => ⟨_, _, rfl, hb2.range 0 _ (by simp), hb2.lt⟩))
        have HLc := hid (lst_length (homesIn s) (by rw [HLL.out]; exact HLo.out.2))
        have HP : Hid (∀ w' g, w.heap.size ≤ g → (lst (homesIn s) == s) = true → Nw w w' → Blk w' g 3 (intC (homesIn s)) → HofPost s w (.returned (.tuple #[.slice (some ⟨g, 0, none⟩) k k, .bool true])) w') := fun w' g hg he hn hb => ⟨hn, by rw [HI.out, if_pos he]; exact ⟨g, hg, by rw [HLL.out], hb⟩⟩
        have HPf : Hid (∀ w', (lst (homesIn s) == s) = false → Nw w w' → HofPost s w (.returned (.tuple #[.slice none 0 0, .bool false])) w') := fun w' he hn => ⟨hn, by rw [HI.out, he]; rfl⟩
        rw [HLL.out] at HC
        clear HM HR hb2 hR HI
        generalize lst (homesIn s) = c at *
        have hneq : ∀ W, (binOp .neq 81 (.agg (bs c).toArray) (.agg (bs s).toArray)).run Tryz.prog W = .ok (.bool (!(c == s))) W := fun W => neq66 W c s HLc.out HSl.out
        unfold arrV at HC
        have hu66 := Tryz.underlying81
        have hl66 : (bs s).length = 128 := by rw [bs_length]; exact HSl.out
        have hi66 : (Tryz.prog.info? 81).map (·.size) = some (bs s).length := by rw [size66, hl66]
        go_wp2_with fail
        go_region_held3 (fun w' => w'.rangeAt w.heap.size 0 (bs s))
          (first
            | exact HB1.out.drew.range 0 _ (by simp)
            | exact (Fr.blk f2 HB1.out.drew id).range 0 _ (by simp))
          ((go_at_call 94; refine HC.out.mono ?_; rintro x w2 ⟨rfl, f2⟩))
        have HB3 := hid (Fr.blk f2 HB2.out.drew id)
        have HF2 := hid (Fr.trans HF.out.drew f2 (fun _ h => h.elim))
        clear f2 HC hneq
        by_cases hcs : (c == s) = true
        · have HX := hid hcs
          rw [hcs]
          clear hcs
          go_wp2
          go_ret2
          exact HP.out _ _ (by omega) HX.out HF2.out HB3.out
        · have hcf : (c == s) = false := by simpa using hcs
          have HX := hid hcf
          rw [hcf]
          clear hcs hcf
          go_wp2
          go_ret2
          exact HPf.out _ HX.out HF2.out
  · have HE : Hid (isLst s = false) := by
      unfold Hid
      rcases Nat.lt_or_ge (fld s 0 2) 1 with h | h
      · simp [isLst, Nat.not_le.2 h]
      · simp [isLst, show ¬ fld s 0 2 ≤ 60 by omega]
    generalize fld s 0 2 = m at *
    go_enter Tryz.func89, Tryz.ntmps89
    by_cases h1 : (m : Int) < 1
    · go_wp2_with (go_at_call 67; refine HC.out.mono ?_; rintro x w1 ⟨rfl, rfl⟩)
      go_ret2
      exact ⟨HF0.out, by rw [HE.out]; rfl⟩
    · have h2 : (m : Int) > 60 := by omega
      go_wp2_with (go_at_call 67; refine HC.out.mono ?_; rintro x w1 ⟨rfl, rfl⟩)
      go_ret2
      exact ⟨HF0.out, by rw [HE.out]; rfl⟩

end Go.Proofs.YtehoiahgkbnjdaaGreat.Wl
