/- The contract of the document's Parse. -/
import Derived.Test.YtipppagkajcheaaGreatDoorWrd
import Derived.Test.YtipppagkajcheaaGreatDoorCox
import Derived.Test.YtipppagkajcheaaGreatDoorHnd
import Derived.Lib.MinMax
namespace Go.Proofs.YtipppagkajcheaaGreatDoor.Tr
open Go.RowKit

theorem prs_go (b : List UInt8) (f a : Nat) (out : List Ent) (h1 : a < b.length) (h2 : b.drop a ≠ [101, 110, 100, 10]) (i1 a2 i2 a3 i3 n : Nat) (e1 : i1 = wEnd b a 32) (e2 : a2 = min (i1 + 1) b.length) (e3 : i2 = wEnd b a2 32) (e4 : a3 = min (i2 + 1) b.length) (e5 : i3 = wEnd b a3 10) (e6 : n = numL ((sub b a3 i3).take 5)) :
    prs b (f + 1) a out = if 4 < (sub b a3 i3).length ∨ b.length < i3 + 1 ∨ b.length - (i3 + 1) < n then none else prs b f (i3 + 1 + n + 1) (out ++ [⟨sub b a2 i2, if sub b a i1 = [108] then 3 else 1, sub b (i3 + 1) (i3 + 1 + n)⟩]) := by
  subst e1 e2 e3 e4 e5 e6
  rw [prs, if_pos h1, if_neg h2]
theorem prs_off (b : List UInt8) (f a : Nat) (out : List Ent) (h : ¬ a < b.length) : prs b f a out = some out := by
  cases f with
  | zero => rfl
  | succ f => rw [prs, if_neg h]
theorem prs_last (b : List UInt8) (f a : Nat) (out : List Ent) (h1 : a < b.length) (h : b.drop a = [101, 110, 100, 10]) : prs b f a out = some out := by
  cases f with
  | zero => rfl
  | succ f => rw [prs, if_pos h1, if_pos h]
theorem num_snoc5 (l : List UInt8) (j : Nat) (h : j < l.length) : numL (l.take (j + 1)) = 10 * numL (l.take j) + l[j].toNat % 16 := by
  unfold numL
  rw [List.take_succ_eq_append_getElem h, List.foldl_append]
  rfl
theorem num_le : ∀ (l : List UInt8) (j : Nat), numL (l.take j) + 2 ≤ 2 * 10 ^ j
  | l, 0 => by simp [numL]
  | l, j + 1 => by
    have ih := num_le l j
    have e : (10 : Nat) ^ (j + 1) = 10 * 10 ^ j := by rw [Nat.pow_succ, Nat.mul_comm]
    rw [e]
    by_cases h : j < l.length
    · rw [num_snoc5 l j h]
      have : l[j].toNat % 16 < 16 := Nat.mod_lt _ (by decide)
      omega
    · have e1 : l.take (j + 1) = l.take j := by rw [List.take_of_length_le (by omega), List.take_of_length_le (by omega)]
      rw [e1]; omega
theorem num_le5 (l : List UInt8) (j : Nat) (h : j ≤ 5) : numL (l.take j) ≤ 200000 := by
  have := num_le l j
  have : (10 : Nat) ^ j ≤ 10 ^ 5 := Nat.pow_le_pow_right (by decide) h
  omega

theorem num_step (q c : Nat) (hq : q ≤ 200000) (hc : c < 256) : wrap64 (10 * (q : Int) + (wrap64 (c : Int)).tmod 16) = ((10 * q + c % 16 : Nat) : Int) := by
  rw [IntWalk.wrap64_in (c : Int) (by omega)]
  have e : ((c : Int)).tmod 16 = ((c % 16 : Nat) : Int) := Int.ofNat_tmod c 16
  rw [e, IntWalk.wrap64_in _ (by omega)]
  omega

/-- What is told: the tree, in memory that nobody changes, or none. -/
def RpPost (w : World) (b : List UInt8) (e : Ending) (w' : World) : Prop := Fr (fun _ => False) w w' ∧ ((∃ t, parseB b = some t ∧ ∃ wa wc, e = .returned (.tuple #[.slice wa t.length wc, .bool true]) ∧ t.length ≤ wc ∧ Ents w' wa t) ∨ (parseB b = none ∧ e = .returned (.tuple #[.slice none 0 0, .bool false])))
theorem rp_none {w w' : World} {b : List UInt8} (h : prs b 25 (wEnd b 0 10 + 1) [] = none) (f : Fr (fun _ => False) w w') : RpPost w b (.returned (.tuple #[.slice none 0 0, .bool false])) w' :=
  ⟨f, .inr ⟨by unfold parseB; rw [h], rfl⟩⟩
theorem rp_not {w w' : World} {b : List UInt8} {A : List Ent} (h : prs b 25 (wEnd b 0 10 + 1) [] = some A) (hq : bytesL A ≠ b) (f : Fr (fun _ => False) w w') : RpPost w b (.returned (.tuple #[.slice none 0 0, .bool false])) w' :=
  ⟨f, .inr ⟨by unfold parseB; rw [h]; exact if_neg hq, rfl⟩⟩
theorem rp_yes {w w' : World} {b : List UInt8} {A : List Ent} {wa : Option Addr} {wc : Nat} (h : prs b 25 (wEnd b 0 10 + 1) [] = some A) (hq : bytesL A = b) (f : Fr (fun _ => False) w w') (hc : A.length ≤ wc) (hE : Ents w' wa A) : RpPost w b (.returned (.tuple #[.slice wa A.length wc, .bool true])) w' :=
  ⟨f, .inl ⟨A, by unfold parseB; rw [h]; exact if_pos hq, wa, wc, rfl, hc, hE⟩⟩
def RpB (N : Nat) (x : Ent) : Prop := x.path.length ≤ N ∧ x.data.length ≤ N ∧ (x.kind = 1 ∨ x.kind = 3)

set_option maxRecDepth 100000 in
set_option maxHeartbeats 8000000 in
theorem rparse_any (w : World) (ad : Option Addr) (b : List UInt8) (cap : Nat) (hs : Src w ad b) (hz : ad = none → cap = 0) (hc : b.length ≤ cap) (hl : b.length ≤ 140737488351232) :
    Calls Tryz.prog 6 #[.slice ad b.length cap] w (RpPost w b) := by
  obtain ⟨iE, hiE, hzE0, hzE1, hzE2⟩ := info_parts infoE
  have HE := hid (And.intro hiE (And.intro hzE0 (And.intro hzE1 hzE2)))
  clear hiE hzE0 hzE1 hzE2
  have HS := hid hs
  have HNone := hid (fun (w' : World) (h : prs b 25 (wEnd b 0 10 + 1) [] = none) (f : Fr (fun _ => False) w w') => rp_none h f)
  have HNot := hid (fun (A : List Ent) (w' : World) (h : prs b 25 (wEnd b 0 10 + 1) [] = some A) (hq : bytesL A ≠ b) (f : Fr (fun _ => False) w w') => rp_not h hq f)
  have HYes := hid (fun (A : List Ent) (wa : Option Addr) (wc : Nat) (w' : World) (h : prs b 25 (wEnd b 0 10 + 1) [] = some A) (hq : bytesL A = b) (f : Fr (fun _ => False) w w') (hcc : A.length ≤ wc) (hE : Ents w' wa A) => rp_yes h hq f hcc hE)
  obtain ⟨a0, ha0⟩ : ∃ a0, a0 = wEnd b 0 10 + 1 := ⟨_, rfl⟩
  have hle0 : a0 ≤ b.length + 1 := by have := wEnd_le b 0 10 (Nat.zero_le _); omega
  obtain ⟨s0, hs0⟩ : ∃ s0, s0 = sub b 0 (wEnd b 0 10) := ⟨_, rfl⟩
  have HW0 : Hid (Calls Tryz.prog 13 #[.slice ad b.length cap, .int .i64 0, .int .u8 10] w fun e w' => e = .returned (.tuple #[.string ⟨s0.toArray⟩, .int .i64 (a0 : Int)]) ∧ w = w') := by
    have := word_any w ad b cap 0 10 hs hz hc (by omega) (Nat.zero_le _)
    rw [← hs0, ← ha0] at this
    exact this.mono (fun e w' h => ⟨h.1, h.2.symm⟩)
  rw [← ha0] at HNone HNot HYes
  have HWd := hid (fun (W : World) (f : Fr (fun _ => False) w W) (a : Nat) (c : UInt8) (ha : a ≤ b.length) => word_any W ad b cap a c (hs.fr f) hz hc (by omega) ha)
  have HBd : Hid (∀ (A : List Ent), (∀ x ∈ A, RpB b.length x) → ∀ x ∈ A, x.path.length ≤ 140737488351232 ∧ x.data.length ≤ 140737488351232 ∧ -9223372036854775808 ≤ x.kind ∧ x.kind ≤ 9223372036854775807) := fun A h x hx => by
    obtain ⟨h1, h2, h3⟩ := h x hx
    refine ⟨by omega, by omega, ?_, ?_⟩ <;> rcases h3 with h3 | h3 <;> omega
  clear hs hs0 ha0 hz
  go_enter Tryz.func6, Tryz.ntmps6
  go_wp2_with (go_at_call 13; refine HW0.out.mono ?_; rintro e w1 ⟨rfl, rfl⟩)
  clear HW0
  go_loopw [4, 6] (fun ov iv wr => ∃ (f a : Nat) (A : List Ent), A.length + f = 25 ∧ a ≤ b.length + 1 ∧ iv = .int .i64 (a : Int) ∧ Cop w wr A A.length ov ∧ (∀ x ∈ A, RpB b.length x) ∧ prs b 25 a0 [] = prs b f a A) (fun ov _ _ => 25 - lenV ov)
  case atStart => exact ⟨25, a0, [], rfl, hle0, rfl, Cop.none (Fr.refl _ _), (by intro x hx; cases hx), rfl⟩
  case round =>
    obtain ⟨f, a, A, hAf, ha, rfl, hC, hbd, hprs⟩ := hrel
    obtain ⟨va, vc, rfl, hvc, hEn⟩ := hC.ents (HBd.out A hbd)
    have HC := hid hC
    have HB := hid hbd
    have HP := hid hprs
    have HEn := hid hEn
    have HF := hid hC.f
    clear hC hbd hprs hEn hle0
    have hi0 : (0 : Int) ≤ (a : Int) := Int.natCast_nonneg _
    by_cases h1 : a < b.length
    · have h1' : (a : Int) < ((b.length : Nat) : Int) := by omega
      have hbne : b ≠ [] := fun e => by rw [e] at h1; simp at h1
      obtain ⟨bb, bo, rfl, _⟩ := HS.out hbne
      clear hbne
      cases f with
      | zero =>
        have h25 : ¬ ((A.length : Nat) : Int) < 25 := by omega
        have HPa : Hid (prs b 25 a0 [] = some A) := by unfold Hid; rw [HP.out]; rfl
        clear HP HWd
        have HBy := hid (fun (W : World) (f : Fr (fun _ => False) wr W) => rbytes_any W va A vc (HEn.out.fr f))
        have HConv : Hid (∀ W, Fr (fun _ => False) wr W → ∀ c, (convert 22 9 (.slice (some ⟨bb, bo, none⟩) b.length c)).run Tryz.prog W = .ok (.string ⟨b.toArray⟩) W) := fun W f c => conv_bytes ((HS.out.fr HF.out).fr f) c
        have HD : Hid (Fr (fun _ => False) wr wr.drew) := (Fr.refl _ wr).drew
        clear HC HB HS HBd
        by_cases hq : bytesL A = b
        · have hq' : (bytesL A == b) = true := by rw [hq]; exact beq_self_eq_true b
          have HFin := hid (fun (w' : World) (f : Fr (fun _ => False) w w') (hE : Ents w' va A) => HYes.out A va vc w' HPa.out hq f hvc hE)
          clear hq HYes HNot HNone HPa
          generalize hbl : bytesL A = bl at *
          clear hbl
          go_wp2_with fail
          refine wp_region_noPanic ?_
          refine wp_region_held_drew (S := (fun w' => Fr (fun _ => False) wr w')) (by kernel_rfl) HD.out (fun _ => ?_)
          refine takeH (i := 0) (d := some 113) (.slice va A.length vc) rfl (by kernel_rfl) (by kernel_rfl) (by kernel_rfl) (fun _ _ _ _ h => h) HD.out (fun o ho => by cases ho; exact .inl ⟨by rfl, fun w hSw => by (go_simp)⟩) ?_
          simp only [Act.put, List.setIfInBounds_toArray, List.set_cons_zero, List.set_cons_succ]
          refine takeH (i := 3) (d := some 116) (.slice (some ⟨bb, bo, none⟩) b.length cap) rfl (by kernel_rfl) (by kernel_rfl) (by kernel_rfl) (fun _ _ _ _ h => h) HD.out (fun o ho => by cases ho; exact .inl ⟨by rfl, fun w hSw => by (go_simp)⟩) ?_
          simp only [Act.put, List.setIfInBounds_toArray, List.set_cons_zero, List.set_cons_succ]
          refine takeH (i := 4) (d := some 117) (.string ⟨b.toArray⟩) rfl (by kernel_rfl) (by kernel_rfl) (by kernel_rfl) (fun _ _ _ _ h => h) HD.out (fun o ho => by cases ho; exact .inl ⟨by rfl, fun w hSw => by (have hcc := HConv.out _ hSw cap; go_simp)⟩) ?_
          simp only [Act.put, List.setIfInBounds_toArray, List.set_cons_zero, List.set_cons_succ]
          refine oneH (i := 1) (by kernel_rfl) (fun o ho K' hK => ?_) (by decide)
          cases ho
          rw [if_pos (by rfl)]
          go_simp
          refine (HBy.out _ HD.out).mono ?_
          rintro e w2 ⟨v2, rfl, ho2, f2⟩
          obtain ⟨xa, xc, rfl⟩ := own_len ho2
          have F2 : Hid (Fr (fun _ => False) wr w2) := HD.out.trans f2 (fun _ h => h.elim)
          have hcv2 := conv_bytes (src_own ho2) xc
          clear f2 ho2
          refine hK.out _ _ F2.out ?_
          clear hK K'
          try simp only [Act.put, List.setIfInBounds_toArray, List.set_cons_zero, List.set_cons_succ]
          refine oneH (i := 2) (by kernel_rfl) (fun o ho K' hK => ?_) (by decide)
          cases ho
          rw [if_pos (by rfl)]
          go_simp
          refine hK.out _ _ F2.out ?_
          clear hK K'
          try simp only [Act.put, List.setIfInBounds_toArray, List.set_cons_zero, List.set_cons_succ]
          refine oneH (i := 5) (by kernel_rfl) (fun o ho K' hK => ?_) (by decide)
          cases ho
          rw [if_pos (by rfl)]
          go_simp
          refine hK.out _ _ F2.out ?_
          clear hK K'
          try simp only [Act.put, List.setIfInBounds_toArray, List.set_cons_zero, List.set_cons_succ]
          refine wpAnyH_done (by kernel_rfl) (NoPanic.normal ?_) _
          have HFw : Hid (Fr (fun _ => False) w w2) := HF.out.trans F2.out (fun _ h => h.elim)
          have HEw := hid (HEn.out.fr F2.out)
          go_wp2
          go_ret2
          exact HFin.out _ HFw.out HEw.out
        · have hq' : (bytesL A == b) = false := beq_eq_false_iff_ne.2 hq
          have HFin := hid (fun (w' : World) (f : Fr (fun _ => False) w w') => HNot.out A w' HPa.out hq f)
          clear hq HYes HNot HNone HPa
          generalize hbl : bytesL A = bl at *
          clear hbl
          go_wp2_with fail
          refine wp_region_noPanic ?_
          refine wp_region_held_drew (S := (fun w' => Fr (fun _ => False) wr w')) (by kernel_rfl) HD.out (fun _ => ?_)
          refine takeH (i := 0) (d := some 113) (.slice va A.length vc) rfl (by kernel_rfl) (by kernel_rfl) (by kernel_rfl) (fun _ _ _ _ h => h) HD.out (fun o ho => by cases ho; exact .inl ⟨by rfl, fun w hSw => by (go_simp)⟩) ?_
          simp only [Act.put, List.setIfInBounds_toArray, List.set_cons_zero, List.set_cons_succ]
          refine takeH (i := 3) (d := some 116) (.slice (some ⟨bb, bo, none⟩) b.length cap) rfl (by kernel_rfl) (by kernel_rfl) (by kernel_rfl) (fun _ _ _ _ h => h) HD.out (fun o ho => by cases ho; exact .inl ⟨by rfl, fun w hSw => by (go_simp)⟩) ?_
          simp only [Act.put, List.setIfInBounds_toArray, List.set_cons_zero, List.set_cons_succ]
          refine takeH (i := 4) (d := some 117) (.string ⟨b.toArray⟩) rfl (by kernel_rfl) (by kernel_rfl) (by kernel_rfl) (fun _ _ _ _ h => h) HD.out (fun o ho => by cases ho; exact .inl ⟨by rfl, fun w hSw => by (have hcc := HConv.out _ hSw cap; go_simp)⟩) ?_
          simp only [Act.put, List.setIfInBounds_toArray, List.set_cons_zero, List.set_cons_succ]
          refine oneH (i := 1) (by kernel_rfl) (fun o ho K' hK => ?_) (by decide)
          cases ho
          rw [if_pos (by rfl)]
          go_simp
          refine (HBy.out _ HD.out).mono ?_
          rintro e w2 ⟨v2, rfl, ho2, f2⟩
          obtain ⟨xa, xc, rfl⟩ := own_len ho2
          have F2 : Hid (Fr (fun _ => False) wr w2) := HD.out.trans f2 (fun _ h => h.elim)
          have hcv2 := conv_bytes (src_own ho2) xc
          clear f2 ho2
          refine hK.out _ _ F2.out ?_
          clear hK K'
          try simp only [Act.put, List.setIfInBounds_toArray, List.set_cons_zero, List.set_cons_succ]
          refine oneH (i := 2) (by kernel_rfl) (fun o ho K' hK => ?_) (by decide)
          cases ho
          rw [if_pos (by rfl)]
          go_simp
          refine hK.out _ _ F2.out ?_
          clear hK K'
          try simp only [Act.put, List.setIfInBounds_toArray, List.set_cons_zero, List.set_cons_succ]
          refine oneH (i := 5) (by kernel_rfl) (fun o ho K' hK => ?_) (by decide)
          cases ho
          rw [if_pos (by rfl)]
          go_simp
          refine hK.out _ _ F2.out ?_
          clear hK K'
          try simp only [Act.put, List.setIfInBounds_toArray, List.set_cons_zero, List.set_cons_succ]
          refine wpAnyH_done (by kernel_rfl) (NoPanic.normal ?_) _
          have HFw : Hid (Fr (fun _ => False) w w2) := HF.out.trans F2.out (fun _ h => h.elim)
          go_wp2
          go_ret2
          exact HFin.out _ HFw.out
      | succ f =>
        have h25 : ((A.length : Nat) : Int) < 25 := by omega
        have hnc : ¬ cap = a := by omega
        have hac : (a : Int) ≤ ((cap : Nat) : Int) := by omega
        have hcvd := conv_bytes ((HS.out.fr HF.out).drop' a) (cap - a)
        rw [List.length_drop] at hcvd
        by_cases h2 : b.drop a = [101, 110, 100, 10]
        · have h2' : (b.drop a == [101, 110, 100, 10]) = true := by rw [h2]; rfl
          have HPa : Hid (prs b 25 a0 [] = some A) := by unfold Hid; rw [HP.out]; exact prs_last b _ a A h1 h2
          clear HP HWd
          generalize b.drop a = dr at *
          have HBy := hid (fun (W : World) (f : Fr (fun _ => False) wr W) => rbytes_any W va A vc (HEn.out.fr f))
          have HConv : Hid (∀ W, Fr (fun _ => False) wr W → ∀ c, (convert 22 9 (.slice (some ⟨bb, bo, none⟩) b.length c)).run Tryz.prog W = .ok (.string ⟨b.toArray⟩) W) := fun W f c => conv_bytes ((HS.out.fr HF.out).fr f) c
          have HD : Hid (Fr (fun _ => False) wr wr.drew) := (Fr.refl _ wr).drew
          clear HC HB HS HBd
          by_cases hq : bytesL A = b
          · have hq' : (bytesL A == b) = true := by rw [hq]; exact beq_self_eq_true b
            have HFin := hid (fun (w' : World) (f : Fr (fun _ => False) w w') (hE : Ents w' va A) => HYes.out A va vc w' HPa.out hq f hvc hE)
            clear hq HYes HNot HNone HPa
            generalize hbl : bytesL A = bl at *
            clear hbl
            go_wp2_with fail
            refine wp_region_noPanic ?_
            refine wp_region_held_drew (S := (fun w' => Fr (fun _ => False) wr w')) (by kernel_rfl) HD.out (fun _ => ?_)
            refine takeH (i := 0) (d := some 113) (.slice va A.length vc) rfl (by kernel_rfl) (by kernel_rfl) (by kernel_rfl) (fun _ _ _ _ h => h) HD.out (fun o ho => by cases ho; exact .inl ⟨by rfl, fun w hSw => by (go_simp)⟩) ?_
            simp only [Act.put, List.setIfInBounds_toArray, List.set_cons_zero, List.set_cons_succ]
            refine takeH (i := 3) (d := some 116) (.slice (some ⟨bb, bo, none⟩) b.length cap) rfl (by kernel_rfl) (by kernel_rfl) (by kernel_rfl) (fun _ _ _ _ h => h) HD.out (fun o ho => by cases ho; exact .inl ⟨by rfl, fun w hSw => by (go_simp)⟩) ?_
            simp only [Act.put, List.setIfInBounds_toArray, List.set_cons_zero, List.set_cons_succ]
            refine takeH (i := 4) (d := some 117) (.string ⟨b.toArray⟩) rfl (by kernel_rfl) (by kernel_rfl) (by kernel_rfl) (fun _ _ _ _ h => h) HD.out (fun o ho => by cases ho; exact .inl ⟨by rfl, fun w hSw => by (have hcc := HConv.out _ hSw cap; go_simp)⟩) ?_
            simp only [Act.put, List.setIfInBounds_toArray, List.set_cons_zero, List.set_cons_succ]
            refine oneH (i := 1) (by kernel_rfl) (fun o ho K' hK => ?_) (by decide)
            cases ho
            rw [if_pos (by rfl)]
            go_simp
            refine (HBy.out _ HD.out).mono ?_
            rintro e w2 ⟨v2, rfl, ho2, f2⟩
            obtain ⟨xa, xc, rfl⟩ := own_len ho2
            have F2 : Hid (Fr (fun _ => False) wr w2) := HD.out.trans f2 (fun _ h => h.elim)
            have hcv2 := conv_bytes (src_own ho2) xc
            clear f2 ho2
            refine hK.out _ _ F2.out ?_
            clear hK K'
            try simp only [Act.put, List.setIfInBounds_toArray, List.set_cons_zero, List.set_cons_succ]
            refine oneH (i := 2) (by kernel_rfl) (fun o ho K' hK => ?_) (by decide)
            cases ho
            rw [if_pos (by rfl)]
            go_simp
            refine hK.out _ _ F2.out ?_
            clear hK K'
            try simp only [Act.put, List.setIfInBounds_toArray, List.set_cons_zero, List.set_cons_succ]
            refine oneH (i := 5) (by kernel_rfl) (fun o ho K' hK => ?_) (by decide)
            cases ho
            rw [if_pos (by rfl)]
            go_simp
            refine hK.out _ _ F2.out ?_
            clear hK K'
            try simp only [Act.put, List.setIfInBounds_toArray, List.set_cons_zero, List.set_cons_succ]
            refine wpAnyH_done (by kernel_rfl) (NoPanic.normal ?_) _
            have HFw : Hid (Fr (fun _ => False) w w2) := HF.out.trans F2.out (fun _ h => h.elim)
            have HEw := hid (HEn.out.fr F2.out)
            go_wp2
            go_ret2
            exact HFin.out _ HFw.out HEw.out
          · have hq' : (bytesL A == b) = false := beq_eq_false_iff_ne.2 hq
            have HFin := hid (fun (w' : World) (f : Fr (fun _ => False) w w') => HNot.out A w' HPa.out hq f)
            clear hq HYes HNot HNone HPa
            generalize hbl : bytesL A = bl at *
            clear hbl
            go_wp2_with fail
            refine wp_region_noPanic ?_
            refine wp_region_held_drew (S := (fun w' => Fr (fun _ => False) wr w')) (by kernel_rfl) HD.out (fun _ => ?_)
            refine takeH (i := 0) (d := some 113) (.slice va A.length vc) rfl (by kernel_rfl) (by kernel_rfl) (by kernel_rfl) (fun _ _ _ _ h => h) HD.out (fun o ho => by cases ho; exact .inl ⟨by rfl, fun w hSw => by (go_simp)⟩) ?_
            simp only [Act.put, List.setIfInBounds_toArray, List.set_cons_zero, List.set_cons_succ]
            refine takeH (i := 3) (d := some 116) (.slice (some ⟨bb, bo, none⟩) b.length cap) rfl (by kernel_rfl) (by kernel_rfl) (by kernel_rfl) (fun _ _ _ _ h => h) HD.out (fun o ho => by cases ho; exact .inl ⟨by rfl, fun w hSw => by (go_simp)⟩) ?_
            simp only [Act.put, List.setIfInBounds_toArray, List.set_cons_zero, List.set_cons_succ]
            refine takeH (i := 4) (d := some 117) (.string ⟨b.toArray⟩) rfl (by kernel_rfl) (by kernel_rfl) (by kernel_rfl) (fun _ _ _ _ h => h) HD.out (fun o ho => by cases ho; exact .inl ⟨by rfl, fun w hSw => by (have hcc := HConv.out _ hSw cap; go_simp)⟩) ?_
            simp only [Act.put, List.setIfInBounds_toArray, List.set_cons_zero, List.set_cons_succ]
            refine oneH (i := 1) (by kernel_rfl) (fun o ho K' hK => ?_) (by decide)
            cases ho
            rw [if_pos (by rfl)]
            go_simp
            refine (HBy.out _ HD.out).mono ?_
            rintro e w2 ⟨v2, rfl, ho2, f2⟩
            obtain ⟨xa, xc, rfl⟩ := own_len ho2
            have F2 : Hid (Fr (fun _ => False) wr w2) := HD.out.trans f2 (fun _ h => h.elim)
            have hcv2 := conv_bytes (src_own ho2) xc
            clear f2 ho2
            refine hK.out _ _ F2.out ?_
            clear hK K'
            try simp only [Act.put, List.setIfInBounds_toArray, List.set_cons_zero, List.set_cons_succ]
            refine oneH (i := 2) (by kernel_rfl) (fun o ho K' hK => ?_) (by decide)
            cases ho
            rw [if_pos (by rfl)]
            go_simp
            refine hK.out _ _ F2.out ?_
            clear hK K'
            try simp only [Act.put, List.setIfInBounds_toArray, List.set_cons_zero, List.set_cons_succ]
            refine oneH (i := 5) (by kernel_rfl) (fun o ho K' hK => ?_) (by decide)
            cases ho
            rw [if_pos (by rfl)]
            go_simp
            refine hK.out _ _ F2.out ?_
            clear hK K'
            try simp only [Act.put, List.setIfInBounds_toArray, List.set_cons_zero, List.set_cons_succ]
            refine wpAnyH_done (by kernel_rfl) (NoPanic.normal ?_) _
            have HFw : Hid (Fr (fun _ => False) w w2) := HF.out.trans F2.out (fun _ h => h.elim)
            go_wp2
            go_ret2
            exact HFin.out _ HFw.out
        · have h2' : (b.drop a == [101, 110, 100, 10]) = false := beq_eq_false_iff_ne.2 h2
          obtain ⟨i1, hi1⟩ : ∃ i, i = wEnd b a 32 := ⟨_, rfl⟩
          obtain ⟨a2, ha2⟩ : ∃ i, i = min (i1 + 1) b.length := ⟨_, rfl⟩
          obtain ⟨i2, hi2⟩ : ∃ i, i = wEnd b a2 32 := ⟨_, rfl⟩
          obtain ⟨a3, ha3⟩ : ∃ i, i = min (i2 + 1) b.length := ⟨_, rfl⟩
          obtain ⟨i3, hi3⟩ : ∃ i, i = wEnd b a3 10 := ⟨_, rfl⟩
          obtain ⟨n, hn⟩ : ∃ n, n = numL ((sub b a3 i3).take 5) := ⟨_, rfl⟩
          have HG := hid (prs_go b f a A h1 h2 i1 a2 i2 a3 i3 n hi1 ha2 hi2 ha3 hi3 hn)
          have l1 := wEnd_le b a 32 (by omega)
          have g1 := wEnd_ge b a 32
          rw [← hi1] at l1 g1
          have l2 := wEnd_le b a2 32 (by omega)
          have g2 := wEnd_ge b a2 32
          rw [← hi2] at l2 g2
          have l3 := wEnd_le b a3 10 (by omega)
          have g3 := wEnd_ge b a3 10
          rw [← hi3] at l3 g3
          obtain ⟨p1, hp1⟩ : ∃ p, p = i1 + 1 := ⟨_, rfl⟩
          obtain ⟨p2, hp2⟩ : ∃ p, p = i2 + 1 := ⟨_, rfl⟩
          obtain ⟨p3, hp3⟩ : ∃ p, p = i3 + 1 := ⟨_, rfl⟩
          have W1 := HWd.out wr HF.out a 32 (by omega)
          have W2 := HWd.out wr HF.out a2 32 (by omega)
          have W3 := HWd.out wr HF.out a3 10 (by omega)
          rw [← hi1, ← hp1] at W1
          rw [← hi2, ← hp2] at W2
          rw [← hi3, ← hp3] at W3
          rw [← hp3] at HG
          have hm2 : (min (p1 : Int) ((b.length : Nat) : Int)) = (a2 : Int) := by omega
          have hm3 : (min (p2 : Int) ((b.length : Nat) : Int)) = (a3 : Int) := by omega
          obtain ⟨sK, hsK⟩ : ∃ s, s = sub b a i1 := ⟨_, rfl⟩
          obtain ⟨sP, hsP⟩ : ∃ s, s = sub b a2 i2 := ⟨_, rfl⟩
          obtain ⟨sZ, hsZ⟩ : ∃ s, s = sub b a3 i3 := ⟨_, rfl⟩
          have hpl : sP.length ≤ b.length := by rw [hsP, sub_length b _ _ l2]; omega
          have hzl : sZ.length ≤ b.length := by rw [hsZ, sub_length b _ _ l3]; omega
          rw [← hsK] at W1 HG
          rw [← hsP] at W2 HG
          rw [← hsZ] at W3 HG hn
          have hp3l : p3 ≤ b.length + 1 := by omega
          have HW1 : Hid (Calls Tryz.prog 13 #[.slice (some ⟨bb, bo, none⟩) b.length cap, .int .i64 (a : Int), .int .u8 32] wr fun e w' => e = .returned (.tuple #[.string ⟨sK.toArray⟩, .int .i64 (p1 : Int)]) ∧ wr = w') := W1.mono (fun e w' h => ⟨h.1, h.2.symm⟩)
          have HW2 : Hid (Calls Tryz.prog 13 #[.slice (some ⟨bb, bo, none⟩) b.length cap, .int .i64 (a2 : Int), .int .u8 32] wr fun e w' => e = .returned (.tuple #[.string ⟨sP.toArray⟩, .int .i64 (p2 : Int)]) ∧ wr = w') := W2.mono (fun e w' h => ⟨h.1, h.2.symm⟩)
          have HW3 : Hid (Calls Tryz.prog 13 #[.slice (some ⟨bb, bo, none⟩) b.length cap, .int .i64 (a3 : Int), .int .u8 10] wr fun e w' => e = .returned (.tuple #[.string ⟨sZ.toArray⟩, .int .i64 (p3 : Int)]) ∧ wr = w') := W3.mono (fun e w' h => ⟨h.1, h.2.symm⟩)
          have HM2 := hid hm2
          have HM3 := hid hm3
          have HN := hid hn
          have HPl := hid hpl
          have HZl := hid hzl
          have HP3 := hid hp3l
          clear hp1 hp2 hp3 hi1 ha2 hi2 ha3 hi3 hsK hsP hsZ l1 g1 l2 g2 l3 g3 W1 W2 W3 hm2 hm3 hn hpl hzl hp3l HWd h2 HNot HYes
          generalize b.drop a = dr at *
          go_wp2_with (go_at_call 13; refine HW1.out.mono ?_; rintro e w2 ⟨rfl, rfl⟩; refine Hid.out ?_)
          refine hid ?_
          clear HW1 hcvd h2'
          go_wp2_with (go_at_call 13; rw [HM2.out]; refine HW2.out.mono ?_; rintro e w2 ⟨rfl, rfl⟩; refine Hid.out ?_)
          refine hid ?_
          clear HW2 HM2
          go_wp2_with (go_at_call 13; rw [HM3.out]; refine HW3.out.mono ?_; rintro e w2 ⟨rfl, rfl⟩; refine Hid.out ?_)
          refine hid ?_
          clear HW3 HM3
          generalize hwo : wr = wo at *
          clear hwo
          have hzl := HZl.out
          have hp3 := HP3.out
          go_wp2_with fail
          go_loopw [11, 12] (fun nv jv wr => ∃ j : Nat, j ≤ sZ.length ∧ j ≤ 5 ∧ jv = .int .i64 (j : Int) ∧ nv = .int .i64 ((numL (sZ.take j) : Nat) : Int) ∧ wo = wr) (fun _ jv _ => 5 - (intOf jv).toNat)
          case atStart => exact ⟨0, Nat.zero_le _, by decide, rfl, rfl, rfl⟩
          case round =>
            obtain ⟨j, hj, hj5, rfl, rfl, rfl⟩ := hrel
            have hj0 : (0 : Int) ≤ (j : Int) := Int.natCast_nonneg _
            by_cases hjz : j < sZ.length
            · have hjz' : (j : Int) < ((sZ.length : Nat) : Int) := by omega
              by_cases hj5' : j < 5
              · have hj5i : (j : Int) < 5 := by omega
                have hst := num_snoc5 sZ j hjz
                have hbn := num_le5 sZ j (by omega)
                have hat := str_at sZ j hjz
                have HSt := hid hst
                clear hst
                generalize numL (sZ.take j) = q at *
                go_wp2
                refine ⟨⟨j + 1, by omega, by omega, by go_num, ?_, trivial⟩, by simp [intOf]; omega⟩
                rw [HSt.out, num_step q _ hbn (UInt8.toNat_lt _)]
              · have hj5i : ¬ (j : Int) < 5 := by omega
                obtain rfl : j = 5 := by omega
                have h4 : (4 : Int) < ((sZ.length : Nat) : Int) := by omega
                have HPn : Hid (prs b 25 a0 [] = none) := by unfold Hid; rw [HP.out, HG.out, if_pos (.inl (by omega))]
                generalize numL (sZ.take 5) = q at *
                go_wp2
                go_ret2
                exact HNone.out _ HPn.out HF.out
            · have hjz' : ¬ (j : Int) < ((sZ.length : Nat) : Int) := by omega
              obtain rfl : j = sZ.length := by omega
              have hqn : numL (sZ.take sZ.length) = n := by rw [HN.out, List.take_of_length_le (Nat.le_refl _), List.take_of_length_le hj5]
              rw [hqn]
              have hbn : n ≤ 200000 := by rw [← hqn]; exact num_le5 sZ _ hj5
              clear hqn HN
              by_cases h4 : 4 < sZ.length
              · have h4i : (4 : Int) < ((sZ.length : Nat) : Int) := by omega
                have HPn : Hid (prs b 25 a0 [] = none) := by unfold Hid; rw [HP.out, HG.out, if_pos (.inl h4)]
                go_wp2
                go_ret2
                exact HNone.out _ HPn.out HF.out
              have h4i : ¬ (4 : Int) < ((sZ.length : Nat) : Int) := by omega
              by_cases h5 : b.length < p3
              · have h5i : ((b.length : Nat) : Int) < (p3 : Int) := by omega
                have HPn : Hid (prs b 25 a0 [] = none) := by unfold Hid; rw [HP.out, HG.out, if_pos (.inr (.inl h5))]
                go_wp2
                go_ret2
                exact HNone.out _ HPn.out HF.out
              have h5i : ¬ ((b.length : Nat) : Int) < (p3 : Int) := by omega
              by_cases h6 : b.length - p3 < n
              · have h6i : ((b.length : Nat) : Int) - (p3 : Int) < (n : Int) := by omega
                have HPn : Hid (prs b 25 a0 [] = none) := by unfold Hid; rw [HP.out, HG.out, if_pos (.inr (.inr h6))]
                go_wp2
                go_ret2
                exact HNone.out _ HPn.out HF.out
              have h6i : ¬ ((b.length : Nat) : Int) - (p3 : Int) < (n : Int) := by omega
              have HGo : Hid (prs b 25 a0 [] = prs b f (p3 + n + 1) (A ++ [⟨sP, if sK = [108] then 3 else 1, sub b p3 (p3 + n)⟩])) := by unfold Hid; rw [HP.out, HG.out, if_neg (by omega)]
              clear HP HG HNone
              have hpn : (p3 : Int) ≤ (p3 : Int) + (n : Int) := by omega
              have hpn2 : (p3 : Int) + (n : Int) ≤ ((cap : Nat) : Int) := by omega
              have hpn3 : (p3 : Int) + (n : Int) ≤ ((b.length : Nat) : Int) := by omega
              have hp0 : (0 : Int) ≤ (p3 : Int) := Int.natCast_nonneg _
              have hsub : (sub b p3 (p3 + n)).length = n := by rw [sub_length b _ _ (by omega)]; omega
              have HSb := hid ((HS.out.fr HF.out).sub p3 (p3 + n))
              have HSub := hid hsub
              generalize sub b p3 (p3 + n) = data at *
              have hsz0 := HF.out.size
              have HF1 : Hid (Fr (fun _ => False) wo (wo.alloc (.cells #[] 5))) := (Fr.refl _ wo).alloc _
              have HEm : Hid ((wo.alloc (.cells #[] 5)).ownsRow wo.heap.size 5 1 (.slice (some ⟨wo.heap.size, 0, none⟩) 0 0) 0 []) := ⟨rfl, .inr ⟨wo.heap.size, 0, #[], rfl, Nat.le_refl _, heap_alloc_new wo _, Nat.le_refl _, by unfold maxLen; omega, rfl, rfl⟩⟩
              have HSrc := hid (srcBytes (HSb.out.fr HF1.out) (cap - p3))
              rw [hsub] at HSrc
              clear hsub HSb
              by_cases hcp : cap = p3
              · have hn0 : n = 0 := by omega
                have hdn : data = [] := List.eq_nil_of_length_eq_zero (by rw [HSub.out]; exact hn0)
                have HSrc2 : Hid (Go.Src Tryz.prog 1 22 (.slice (some ⟨bb, bo, none⟩) 0 0) n (bs data) (wo.alloc (.cells #[] 5))) := by
                  unfold Hid
                  rw [hdn, hn0]
                  exact srcBytes (Src.nil _ _) _
                clear HSrc hdn hn0
                subst hcp
                go_wp2_with (at_builtin; refine Hid.out ?_)
                refine hid ?_
                refine wpList_append_src (by rfl) _ _ 22 (by rfl) wo.heap.size 0 n _ _ [] (bs data) (by rfl) (by rfl) HEm.out HSrc2.out (by omega) (by simp) ?_
                intro v2 W2 hap
                have hO2 := hap.own
                rw [Nat.zero_add, List.nil_append] at hO2
                obtain ⟨va2, vc2, rfl⟩ := own_len hO2
                have hF2 : Fr (fun _ => False) wo W2 := HF1.out.grown hap.grown (fun k hk => .inr (by have hk2 : wo.heap.size = k := (by simpa [Value.ownBlock] using hk); omega))
                have HF2 := hid hF2
                have HO2 := hid hO2
                have hsz2 := hF2.size
                clear hO2 hF2 hap HEm HSrc2 HF1
                obtain ⟨kk, hkk⟩ : ∃ kk : Int, kk = if sK = [108] then 3 else 1 := ⟨_, rfl⟩
                rw [← hkk] at HGo
                have HF3 : Hid (Fr (fun _ => False) wo (W2.alloc (.cells #[.string ⟨sP.toArray⟩, .int .i64 kk, .slice va2 n vc2] 36))) := HF2.out.alloc _
                have HF4 : Hid (Fr (fun _ => False) wo ((W2.alloc (.cells #[.string ⟨sP.toArray⟩, .int .i64 kk, .slice va2 n vc2] 36)).alloc (.cells #[.string ⟨sP.toArray⟩, .int .i64 kk, .slice va2 n vc2] 36))) := HF3.out.alloc _
                have HD4 : Hid (DOwn w.heap.size ((W2.alloc (.cells #[.string ⟨sP.toArray⟩, .int .i64 kk, .slice va2 n vc2] 36)).alloc (.cells #[.string ⟨sP.toArray⟩, .int .i64 kk, .slice va2 n vc2] 36)) ⟨sP, kk, data⟩ (va2, vc2)) := by
                  show World.ownsRow _ _ _ _ (.slice va2 data.length vc2) data.length (bs data)
                  rw [HSub.out]
                  exact owns_base ((HO2.out.alloc _).alloc _) (by omega)
                obtain ⟨Z, ho4, hend⟩ := cop_snoc HC.out HF4.out HD4.out
                have HO4 := hid ho4
                have HEnd := hid hend
                have HN4 : Hid (∀ j u, (entC ⟨sP, kk, data⟩ (va2, vc2))[j]? = some u → ((W2.alloc (.cells #[.string ⟨sP.toArray⟩, .int .i64 kk, .slice va2 n vc2] 36)).alloc (.cells #[.string ⟨sP.toArray⟩, .int .i64 kk, .slice va2 n vc2] 36)).cell? ((⟨W2.heap.size + 1, 0, none⟩ : Addr).add j) = some u) := by
                  intro j u hu
                  have h2 := (Blk.new (W2.alloc (.cells #[.string ⟨sP.toArray⟩, .int .i64 kk, .slice va2 n vc2] 36)) 36 [.string ⟨sP.toArray⟩, .int .i64 kk, .slice va2 n vc2]).cell j
                  rw [World.size_alloc] at h2
                  rw [Addr.add_mid, Nat.zero_add]
                  have e : entC ⟨sP, kk, data⟩ (va2, vc2) = [.string ⟨sP.toArray⟩, .int .i64 kk, .slice va2 n vc2] := by show [_, _, Value.slice va2 data.length vc2] = _; rw [HSub.out]
                  rw [e] at hu
                  exact h2.trans hu
                have HB4 : Hid (w.heap.size ≤ ((W2.alloc (.cells #[.string ⟨sP.toArray⟩, .int .i64 kk, .slice va2 n vc2] 36)).alloc (.cells #[.string ⟨sP.toArray⟩, .int .i64 kk, .slice va2 n vc2] 36)).heap.size) := by
                  unfold Hid; simp; omega
                have HLx : Hid (∀ y ∈ A ++ [⟨sP, kk, data⟩], RpB b.length y) := fun y hy => by
                  rcases List.mem_append.1 hy with h | h
                  · exact HB.out y h
                  · have : y = ⟨sP, kk, data⟩ := by simpa using h
                    rw [this]
                    refine ⟨HPl.out, ?_, ?_⟩
                    · show data.length ≤ b.length
                      rw [HSub.out]; omega
                    · show kk = 1 ∨ kk = 3
                      rw [hkk]; split <;> simp
                have HLl : Hid ((A ++ [(⟨sP, kk, data⟩ : Ent)]).length = A.length + 1) := by unfold Hid; simp
                clear ho4 hend HF2 HF3 HF4 HD4 HO2 HC HB HEn hsz2
                cases hkl : (sK == [108]) with
                | true =>
                  have hk3 : kk = 3 := by rw [hkk, if_pos (by simpa using hkl)]
                  subst hk3
                  clear hkk
                  go_wp2_with (at_builtin; refine wpList_append_lies _ (by rfl) _ _ 24 (by rfl) w.heap.size 36 iE _ 3 48 Tryz.underlying24 HE.out.1 HE.out.2.1 HE.out.2.2.1 HE.out.2.2.2 rfl (by omega) (.slice va A.length vc) A.length Z (by rfl) HO4.out ⟨W2.heap.size + 1, 0, none⟩ 1 1 (entC ⟨sP, 3, data⟩ (va2, vc2)) (by rfl) (by rfl) HN4.out (by intro u hu; simp [entC] at hu; rcases hu with rfl | rfl | rfl <;> rfl) (by omega) (by unfold maxLen; omega) (by omega) HB4.out _ rfl ?_
                               intro g cap5 W5 hown5 hgrow _ _
                               have HC5 := hid (HEnd.out W5 _ hown5 hgrow)
                               clear hown5 hgrow)
                  exact ⟨⟨f, cap + n + 1, A ++ [⟨sP, 3, data⟩], by rw [HLl.out]; omega, by omega, by go_num, by rw [HLl.out]; exact HC5.out, HLx.out, HGo.out⟩, by simp [lenV]; omega⟩
                | false =>
                  have hk1 : kk = 1 := by rw [hkk, if_neg (by simpa using hkl)]
                  subst hk1
                  clear hkk
                  go_wp2_with (at_builtin; refine wpList_append_lies _ (by rfl) _ _ 24 (by rfl) w.heap.size 36 iE _ 3 48 Tryz.underlying24 HE.out.1 HE.out.2.1 HE.out.2.2.1 HE.out.2.2.2 rfl (by omega) (.slice va A.length vc) A.length Z (by rfl) HO4.out ⟨W2.heap.size + 1, 0, none⟩ 1 1 (entC ⟨sP, 1, data⟩ (va2, vc2)) (by rfl) (by rfl) HN4.out (by intro u hu; simp [entC] at hu; rcases hu with rfl | rfl | rfl <;> rfl) (by omega) (by unfold maxLen; omega) (by omega) HB4.out _ rfl ?_
                               intro g cap5 W5 hown5 hgrow _ _
                               have HC5 := hid (HEnd.out W5 _ hown5 hgrow)
                               clear hown5 hgrow)
                  exact ⟨⟨f, cap + n + 1, A ++ [⟨sP, 1, data⟩], by rw [HLl.out]; omega, by omega, by go_num, by rw [HLl.out]; exact HC5.out, HLx.out, HGo.out⟩, by simp [lenV]; omega⟩
              go_wp2_with (at_builtin; refine Hid.out ?_)
              refine hid ?_
              refine wpList_append_src (by rfl) _ _ 22 (by rfl) wo.heap.size 0 n _ _ [] (bs data) (by rfl) (by rfl) HEm.out HSrc.out (by omega) (by simp) ?_
              intro v2 W2 hap
              have hO2 := hap.own
              rw [Nat.zero_add, List.nil_append] at hO2
              obtain ⟨va2, vc2, rfl⟩ := own_len hO2
              have hF2 : Fr (fun _ => False) wo W2 := HF1.out.grown hap.grown (fun k hk => .inr (by have hk2 : wo.heap.size = k := (by simpa [Value.ownBlock] using hk); omega))
              have HF2 := hid hF2
              have HO2 := hid hO2
              have hsz2 := hF2.size
              clear hO2 hF2 hap HEm HSrc HF1
              obtain ⟨kk, hkk⟩ : ∃ kk : Int, kk = if sK = [108] then 3 else 1 := ⟨_, rfl⟩
              rw [← hkk] at HGo
              have HF3 : Hid (Fr (fun _ => False) wo (W2.alloc (.cells #[.string ⟨sP.toArray⟩, .int .i64 kk, .slice va2 n vc2] 36))) := HF2.out.alloc _
              have HF4 : Hid (Fr (fun _ => False) wo ((W2.alloc (.cells #[.string ⟨sP.toArray⟩, .int .i64 kk, .slice va2 n vc2] 36)).alloc (.cells #[.string ⟨sP.toArray⟩, .int .i64 kk, .slice va2 n vc2] 36))) := HF3.out.alloc _
              have HD4 : Hid (DOwn w.heap.size ((W2.alloc (.cells #[.string ⟨sP.toArray⟩, .int .i64 kk, .slice va2 n vc2] 36)).alloc (.cells #[.string ⟨sP.toArray⟩, .int .i64 kk, .slice va2 n vc2] 36)) ⟨sP, kk, data⟩ (va2, vc2)) := by
                show World.ownsRow _ _ _ _ (.slice va2 data.length vc2) data.length (bs data)
                rw [HSub.out]
                exact owns_base ((HO2.out.alloc _).alloc _) (by omega)
              obtain ⟨Z, ho4, hend⟩ := cop_snoc HC.out HF4.out HD4.out
              have HO4 := hid ho4
              have HEnd := hid hend
              have HN4 : Hid (∀ j u, (entC ⟨sP, kk, data⟩ (va2, vc2))[j]? = some u → ((W2.alloc (.cells #[.string ⟨sP.toArray⟩, .int .i64 kk, .slice va2 n vc2] 36)).alloc (.cells #[.string ⟨sP.toArray⟩, .int .i64 kk, .slice va2 n vc2] 36)).cell? ((⟨W2.heap.size + 1, 0, none⟩ : Addr).add j) = some u) := by
                intro j u hu
                have h2 := (Blk.new (W2.alloc (.cells #[.string ⟨sP.toArray⟩, .int .i64 kk, .slice va2 n vc2] 36)) 36 [.string ⟨sP.toArray⟩, .int .i64 kk, .slice va2 n vc2]).cell j
                rw [World.size_alloc] at h2
                rw [Addr.add_mid, Nat.zero_add]
                have e : entC ⟨sP, kk, data⟩ (va2, vc2) = [.string ⟨sP.toArray⟩, .int .i64 kk, .slice va2 n vc2] := by show [_, _, Value.slice va2 data.length vc2] = _; rw [HSub.out]
                rw [e] at hu
                exact h2.trans hu
              have HB4 : Hid (w.heap.size ≤ ((W2.alloc (.cells #[.string ⟨sP.toArray⟩, .int .i64 kk, .slice va2 n vc2] 36)).alloc (.cells #[.string ⟨sP.toArray⟩, .int .i64 kk, .slice va2 n vc2] 36)).heap.size) := by
                unfold Hid; simp; omega
              have HLx : Hid (∀ y ∈ A ++ [⟨sP, kk, data⟩], RpB b.length y) := fun y hy => by
                rcases List.mem_append.1 hy with h | h
                · exact HB.out y h
                · have : y = ⟨sP, kk, data⟩ := by simpa using h
                  rw [this]
                  refine ⟨HPl.out, ?_, ?_⟩
                  · show data.length ≤ b.length
                    rw [HSub.out]; omega
                  · show kk = 1 ∨ kk = 3
                    rw [hkk]; split <;> simp
              have HLl : Hid ((A ++ [(⟨sP, kk, data⟩ : Ent)]).length = A.length + 1) := by unfold Hid; simp
              clear ho4 hend HF2 HF3 HF4 HD4 HO2 HC HB HEn hsz2
              cases hkl : (sK == [108]) with
              | true =>
                have hk3 : kk = 3 := by rw [hkk, if_pos (by simpa using hkl)]
                subst hk3
                clear hkk
                go_wp2_with (at_builtin; refine wpList_append_lies _ (by rfl) _ _ 24 (by rfl) w.heap.size 36 iE _ 3 48 Tryz.underlying24 HE.out.1 HE.out.2.1 HE.out.2.2.1 HE.out.2.2.2 rfl (by omega) (.slice va A.length vc) A.length Z (by rfl) HO4.out ⟨W2.heap.size + 1, 0, none⟩ 1 1 (entC ⟨sP, 3, data⟩ (va2, vc2)) (by rfl) (by rfl) HN4.out (by intro u hu; simp [entC] at hu; rcases hu with rfl | rfl | rfl <;> rfl) (by omega) (by unfold maxLen; omega) (by omega) HB4.out _ rfl ?_
                             intro g cap5 W5 hown5 hgrow _ _
                             have HC5 := hid (HEnd.out W5 _ hown5 hgrow)
                             clear hown5 hgrow)
                exact ⟨⟨f, p3 + n + 1, A ++ [⟨sP, 3, data⟩], by rw [HLl.out]; omega, by omega, by go_num, by rw [HLl.out]; exact HC5.out, HLx.out, HGo.out⟩, by simp [lenV]; omega⟩
              | false =>
                have hk1 : kk = 1 := by rw [hkk, if_neg (by simpa using hkl)]
                subst hk1
                clear hkk
                go_wp2_with (at_builtin; refine wpList_append_lies _ (by rfl) _ _ 24 (by rfl) w.heap.size 36 iE _ 3 48 Tryz.underlying24 HE.out.1 HE.out.2.1 HE.out.2.2.1 HE.out.2.2.2 rfl (by omega) (.slice va A.length vc) A.length Z (by rfl) HO4.out ⟨W2.heap.size + 1, 0, none⟩ 1 1 (entC ⟨sP, 1, data⟩ (va2, vc2)) (by rfl) (by rfl) HN4.out (by intro u hu; simp [entC] at hu; rcases hu with rfl | rfl | rfl <;> rfl) (by omega) (by unfold maxLen; omega) (by omega) HB4.out _ rfl ?_
                             intro g cap5 W5 hown5 hgrow _ _
                             have HC5 := hid (HEnd.out W5 _ hown5 hgrow)
                             clear hown5 hgrow)
                exact ⟨⟨f, p3 + n + 1, A ++ [⟨sP, 1, data⟩], by rw [HLl.out]; omega, by omega, by go_num, by rw [HLl.out]; exact HC5.out, HLx.out, HGo.out⟩, by simp [lenV]; omega⟩
    · have h1' : ¬ (a : Int) < ((b.length : Nat) : Int) := by omega
      have HPa : Hid (prs b 25 a0 [] = some A) := by unfold Hid; rw [HP.out]; exact prs_off b f a A h1
      clear HP HWd
      have HBy := hid (fun (W : World) (f : Fr (fun _ => False) wr W) => rbytes_any W va A vc (HEn.out.fr f))
      have HConv : Hid (∀ W, Fr (fun _ => False) wr W → ∀ c, (convert 22 9 (.slice ad b.length c)).run Tryz.prog W = .ok (.string ⟨b.toArray⟩) W) := fun W f c => conv_bytes ((HS.out.fr HF.out).fr f) c
      have HD : Hid (Fr (fun _ => False) wr wr.drew) := (Fr.refl _ wr).drew
      clear HC HB HS HBd
      by_cases hq : bytesL A = b
      · have hq' : (bytesL A == b) = true := by rw [hq]; exact beq_self_eq_true b
        have HFin := hid (fun (w' : World) (f : Fr (fun _ => False) w w') (hE : Ents w' va A) => HYes.out A va vc w' HPa.out hq f hvc hE)
        clear hq HYes HNot HNone HPa
        generalize hbl : bytesL A = bl at *
        clear hbl
        go_wp2_with fail
        refine wp_region_noPanic ?_
        refine wp_region_held_drew (S := (fun w' => Fr (fun _ => False) wr w')) (by kernel_rfl) HD.out (fun _ => ?_)
        refine takeH (i := 0) (d := some 113) (.slice va A.length vc) rfl (by kernel_rfl) (by kernel_rfl) (by kernel_rfl) (fun _ _ _ _ h => h) HD.out (fun o ho => by cases ho; exact .inl ⟨by rfl, fun w hSw => by (go_simp)⟩) ?_
        simp only [Act.put, List.setIfInBounds_toArray, List.set_cons_zero, List.set_cons_succ]
        refine takeH (i := 3) (d := some 116) (.slice ad b.length cap) rfl (by kernel_rfl) (by kernel_rfl) (by kernel_rfl) (fun _ _ _ _ h => h) HD.out (fun o ho => by cases ho; exact .inl ⟨by rfl, fun w hSw => by (go_simp)⟩) ?_
        simp only [Act.put, List.setIfInBounds_toArray, List.set_cons_zero, List.set_cons_succ]
        refine takeH (i := 4) (d := some 117) (.string ⟨b.toArray⟩) rfl (by kernel_rfl) (by kernel_rfl) (by kernel_rfl) (fun _ _ _ _ h => h) HD.out (fun o ho => by cases ho; exact .inl ⟨by rfl, fun w hSw => by (have hcc := HConv.out _ hSw cap; go_simp)⟩) ?_
        simp only [Act.put, List.setIfInBounds_toArray, List.set_cons_zero, List.set_cons_succ]
        refine oneH (i := 1) (by kernel_rfl) (fun o ho K' hK => ?_) (by decide)
        cases ho
        rw [if_pos (by rfl)]
        go_simp
        refine (HBy.out _ HD.out).mono ?_
        rintro e w2 ⟨v2, rfl, ho2, f2⟩
        obtain ⟨xa, xc, rfl⟩ := own_len ho2
        have F2 : Hid (Fr (fun _ => False) wr w2) := HD.out.trans f2 (fun _ h => h.elim)
        have hcv2 := conv_bytes (src_own ho2) xc
        clear f2 ho2
        refine hK.out _ _ F2.out ?_
        clear hK K'
        try simp only [Act.put, List.setIfInBounds_toArray, List.set_cons_zero, List.set_cons_succ]
        refine oneH (i := 2) (by kernel_rfl) (fun o ho K' hK => ?_) (by decide)
        cases ho
        rw [if_pos (by rfl)]
        go_simp
        refine hK.out _ _ F2.out ?_
        clear hK K'
        try simp only [Act.put, List.setIfInBounds_toArray, List.set_cons_zero, List.set_cons_succ]
        refine oneH (i := 5) (by kernel_rfl) (fun o ho K' hK => ?_) (by decide)
        cases ho
        rw [if_pos (by rfl)]
        go_simp
        refine hK.out _ _ F2.out ?_
        clear hK K'
        try simp only [Act.put, List.setIfInBounds_toArray, List.set_cons_zero, List.set_cons_succ]
        refine wpAnyH_done (by kernel_rfl) (NoPanic.normal ?_) _
        have HFw : Hid (Fr (fun _ => False) w w2) := HF.out.trans F2.out (fun _ h => h.elim)
        have HEw := hid (HEn.out.fr F2.out)
        go_wp2
        go_ret2
        exact HFin.out _ HFw.out HEw.out
      · have hq' : (bytesL A == b) = false := beq_eq_false_iff_ne.2 hq
        have HFin := hid (fun (w' : World) (f : Fr (fun _ => False) w w') => HNot.out A w' HPa.out hq f)
        clear hq HYes HNot HNone HPa
        generalize hbl : bytesL A = bl at *
        clear hbl
        go_wp2_with fail
        refine wp_region_noPanic ?_
        refine wp_region_held_drew (S := (fun w' => Fr (fun _ => False) wr w')) (by kernel_rfl) HD.out (fun _ => ?_)
        refine takeH (i := 0) (d := some 113) (.slice va A.length vc) rfl (by kernel_rfl) (by kernel_rfl) (by kernel_rfl) (fun _ _ _ _ h => h) HD.out (fun o ho => by cases ho; exact .inl ⟨by rfl, fun w hSw => by (go_simp)⟩) ?_
        simp only [Act.put, List.setIfInBounds_toArray, List.set_cons_zero, List.set_cons_succ]
        refine takeH (i := 3) (d := some 116) (.slice ad b.length cap) rfl (by kernel_rfl) (by kernel_rfl) (by kernel_rfl) (fun _ _ _ _ h => h) HD.out (fun o ho => by cases ho; exact .inl ⟨by rfl, fun w hSw => by (go_simp)⟩) ?_
        simp only [Act.put, List.setIfInBounds_toArray, List.set_cons_zero, List.set_cons_succ]
        refine takeH (i := 4) (d := some 117) (.string ⟨b.toArray⟩) rfl (by kernel_rfl) (by kernel_rfl) (by kernel_rfl) (fun _ _ _ _ h => h) HD.out (fun o ho => by cases ho; exact .inl ⟨by rfl, fun w hSw => by (have hcc := HConv.out _ hSw cap; go_simp)⟩) ?_
        simp only [Act.put, List.setIfInBounds_toArray, List.set_cons_zero, List.set_cons_succ]
        refine oneH (i := 1) (by kernel_rfl) (fun o ho K' hK => ?_) (by decide)
        cases ho
        rw [if_pos (by rfl)]
        go_simp
        refine (HBy.out _ HD.out).mono ?_
        rintro e w2 ⟨v2, rfl, ho2, f2⟩
        obtain ⟨xa, xc, rfl⟩ := own_len ho2
        have F2 : Hid (Fr (fun _ => False) wr w2) := HD.out.trans f2 (fun _ h => h.elim)
        have hcv2 := conv_bytes (src_own ho2) xc
        clear f2 ho2
        refine hK.out _ _ F2.out ?_
        clear hK K'
        try simp only [Act.put, List.setIfInBounds_toArray, List.set_cons_zero, List.set_cons_succ]
        refine oneH (i := 2) (by kernel_rfl) (fun o ho K' hK => ?_) (by decide)
        cases ho
        rw [if_pos (by rfl)]
        go_simp
        refine hK.out _ _ F2.out ?_
        clear hK K'
        try simp only [Act.put, List.setIfInBounds_toArray, List.set_cons_zero, List.set_cons_succ]
        refine oneH (i := 5) (by kernel_rfl) (fun o ho K' hK => ?_) (by decide)
        cases ho
        rw [if_pos (by rfl)]
        go_simp
        refine hK.out _ _ F2.out ?_
        clear hK K'
        try simp only [Act.put, List.setIfInBounds_toArray, List.set_cons_zero, List.set_cons_succ]
        refine wpAnyH_done (by kernel_rfl) (NoPanic.normal ?_) _
        have HFw : Hid (Fr (fun _ => False) w w2) := HF.out.trans F2.out (fun _ h => h.elim)
        go_wp2
        go_ret2
        exact HFin.out _ HFw.out

end Go.Proofs.YtipppagkajcheaaGreatDoor.Tr
