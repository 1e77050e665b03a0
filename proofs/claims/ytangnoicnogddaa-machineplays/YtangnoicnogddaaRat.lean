/- The contracts of the document's at and try. -/
import Derived.Test.YtangnoicnogddaaRfm
namespace Go.Proofs.Ytangnoicnogddaa.Tr
open Go.RowKit

section
variable {E : Nat → Prop} {w : World} {rb : Nat} {s : St} {o : Ov} {pa : Option Addr} {pc : Nat} {XF : List Xv} {XR : List Uv}
set_option maxRecDepth 100000 in
set_option maxHeartbeats 2000000 in
theorem rat_any (h : RI E w rb s o pa pc XF XR) (hl : s.r.length ≤ lim) (n : Nm) :
    Calls Try.prog 52 #[.pointer (some ⟨rb, 0, none⟩), .string ⟨n.toArray⟩] w fun e w' => e = .returned (.int .i64 (fiI s.r n)) ∧ w = w' := by
  have c2 := h.cells.2.2.1
  have HU := hid h.us
  have hl' : s.r.length ≤ 140737488351232 := hl
  clear h hl
  obtain ⟨fa, fl, fc, ua, ul, uc, ra, rl, rc⟩ := o
  simp only at c2 HU
  generalize s.r = R at *
  go_enter Try.func52, Try.ntmps52
  go_wp2_with fail
  go_loopw [5] (fun iv wr => ∃ i : Nat, i ≤ R.length ∧ iv = .int .i64 (i : Int) ∧ (∀ j (h : j < R.length), j < i → R[j].n ≠ n) ∧ w = wr) (fun iv _ => R.length - (intOf iv).toNat)
  case atStart => exact ⟨0, Nat.zero_le _, rfl, fun j _ h => by omega, rfl⟩
  case round =>
    obtain ⟨i, hi, rfl, hno, rfl⟩ := hrel
    have HNo := hid hno
    clear hno
    by_cases hlt : i < R.length
    · have hi1 : (i : Int) < ((R.length : Nat) : Int) := by omega
      have hi0 : (0 : Int) ≤ (i : Int) := Int.natCast_nonneg _
      obtain ⟨bb, bo, hra⟩ := HU.out.some hlt
      subst hra
      obtain ⟨y, y1, y2⟩ := HU.out.get i hlt
      obtain ⟨k0, _, _, _⟩ := y1.all
      rw [y2.n] at k0
      clear y1 y2
      by_cases hp : R[i].n = n
      · have HR := hid (fiI_some (fi_some.2 ⟨hlt, hp, fun j hj => HNo.out j (by omega) hj⟩))
        have hs1 : (R[i].n == n) = true := by simpa using hp
        clear hp
        generalize R[i].n = y at *
        go_wp2
        go_ret
        exact ⟨by rw [HR.out]; rfl, rfl⟩
      · have HN2 : Hid (∀ j (h : j < R.length), j < i + 1 → R[j].n ≠ n) := fun j h hj => by
          rcases Nat.lt_or_eq_of_le (Nat.le_of_lt_succ hj) with h1 | h1
          · exact HNo.out j h h1
          · subst h1; exact hp
        have hs1 : (R[i].n == n) = false := by simpa using hp
        clear hp
        generalize R[i].n = y at *
        go_wp2
        exact ⟨⟨i + 1, by omega, by go_num, HN2.out, trivial⟩, by simp [intOf]; omega⟩
    · have hi1 : ¬ ((i : Int) < ((R.length : Nat) : Int)) := by omega
      have HR := hid (fiI_none (fi_none.2 (fun j h => HNo.out j h (by omega))))
      go_wp2
      go_ret
      exact ⟨by rw [HR.out]; rfl, rfl⟩
/-- What a try leaves. -/
def RTry (E : Nat → Prop) (w : World) (rb : Nat) (s : St) (e : Ending) (w' : World) : Prop := e = .returned (.bool (s.p.headD false)) ∧ Fr (fun k => k = rb) w w' ∧ RX (fun k => E k ∨ Bt w.heap.size w'.heap.size k) w' rb { s with p := s.p.tail }
theorem bt_self (E : Nat → Prop) (a k : Nat) (h : E k ∨ Bt a a k) : E k := h.elim id (fun h => by have := h.1; have := h.2; omega)
set_option maxRecDepth 100000 in
set_option maxHeartbeats 4000000 in
theorem rtry_any (h : RI E w rb s o pa pc XF XR) (hl : s.p.length ≤ 140737488351232) :
    Calls Try.prog 53 #[.pointer (some ⟨rb, 0, none⟩)] w fun e w' => RTry E w rb s e w' := by
  obtain ⟨i0, hi0, hz0, hz1, hz2⟩ := info_parts info4
  have c3 := h.cells.2.2.2
  have HRI := hid h
  have hcp := h.cp
  obtain ⟨fs, us, rs, p⟩ := s
  cases p with
  | nil =>
    clear h
    go_enter Try.func53, Try.ntmps53
    go_wp2_with fail
    go_ret
    exact ⟨rfl, Fr.refl _ _, o, pa, pc, XF, XR, HRI.out.more (fun _ => .inl) (fun hb => HRI.out.ne (bt_self _ _ _ hb)) (fun k hk => HRI.out.es k (bt_self _ _ _ hk))⟩
  | cons b p =>
    obtain ⟨bb, bo, rfl, hE, hc⟩ := h.p (by simp [boolC])
    have k0 := hc 0 (.bool b) rfl
    simp only [Nat.add_zero] at k0
    simp only [List.length_cons] at hcp c3 hl
    have hz : (((p.length : Nat) : Int) + 1 == 0) = false := by simp; omega
    have hp1 : (1 : Int) ≤ (p.length : Int) + 1 := by omega
    have hp2 : (0 : Int) < (p.length : Int) + 1 := by omega
    have hcap : 1 ≤ pc := by omega
    have hcm : pc ≤ 9223372036854775807 := by have := hcp.2; unfold maxLen at this; omega
    have hf3 := h.blk.frozen 3
    have F0 : Fr (fun _ => False) w (w.alloc (.cells #[] 4)) := (Fr.refl _ w).alloc _
    have HO := hid (own_empty w 4 1)
    obtain ⟨A, hA, HSrc⟩ : ∃ A : Option Addr, (if pc = 1 then (some (⟨bb, bo, none⟩ : Addr)) else some ⟨bb, bo + 1, none⟩) = A ∧ Hid (p ≠ [] → A = some ⟨bb, bo + 1, none⟩) := by
      refine ⟨_, rfl, fun hne => ?_⟩
      have : 0 < p.length := List.length_pos_iff.2 hne
      rw [if_neg (by omega)]
    have HCell : Hid (∀ j u, (boolC p)[j]? = some u → (w.alloc (.cells #[] 4)).cell? ((⟨bb, bo + 1, none⟩ : Addr).add j) = some u) := fun j u hu => by
      rw [Addr.add_mid]
      refine cell_fr F0 ?_
      have := hc (j + 1) u (by simpa [boolC] using hu)
      rw [show bo + 1 + j = bo + (j + 1) by omega]; exact this
    have HEnd : Hid (∀ (W : World) (v : Value) (a : Option Addr) (n c : Nat), v = .slice a n c → W.ownsRow w.heap.size 4 1 v p.length (boolC p) → Fr (fun _ => False) w W → W.cell? ⟨rb, 3, none⟩ = some (.slice (some ⟨bb, bo, none⟩) (p.length + 1) pc) ∧ W.frozen? ⟨rb, 3, none⟩ = false ∧ RTry E w rb ⟨fs, us, rs, b :: p⟩ (.returned (.bool b)) (W.setCell ⟨rb, 3, none⟩ (.slice a n c))) := fun W v a n c hv ho f => by
      subst hv
      have m := (HRI.out.keep0 f).more (E' := fun k => E k ∨ Bt w.heap.size W.heap.size k) (fun _ => .inl) (fun hb => hb.elim HRI.out.ne (fun hb => by have := HRI.out.blk.lt; have := hb.1; omega)) (fun k hk => hk.elim (fun hk => Nat.lt_of_lt_of_le (HRI.out.es k hk) f.size) (fun hk => hk.2))
      have oc := own_cap ho
      have x := m.setP (p' := p) oc.1 ((lies_own ho (Nat.le_refl _)).mono (fun k hk => .inr hk)) oc.2
      refine ⟨(HRI.out.keep0 f).cells.2.2.2, (HRI.out.keep0 f).blk.frozen 3, rfl, (f.upO : Fr (fun k => k = rb) w W).setCell (p := ⟨rb, 3, none⟩) (.inl rfl) _, ?_⟩
      rw [sz_set]; exact x
    clear h hc
    by_cases h0 : p = []
    · subst h0
      have hl : ∀ (W : World) (x : Addr), (loadCells x 0).run Try.prog W = .ok #[] W := fun W x => by simpa using run_loadCells_list (P := Try.prog) W x [] (by simp)
      have hrun : ∀ ty c, (Builtin.append_ #[22, 22] ty #[.slice (some ⟨w.heap.size, 0, none⟩) 0 0, .slice A 0 c]).run Try.prog (w.alloc (.cells #[] 4)) = .ok (.slice (some ⟨w.heap.size, 0, none⟩) 0 0) (w.alloc (.cells #[] 4)) := fun ty c => by
        cases A <;> simp [Builtin.append_, run_underlying Try.underlying22, sizeOf, typeInfo, hi0, Builtin.lenOf, Builtin.firstCells, storeCells, hl]
      obtain ⟨c3', z3, he⟩ := HEnd.out _ _ _ _ _ rfl HO.out F0
      have HE := hid he
      clear he HEnd HCell
      simp only [List.length_nil] at *
      have c3a : ∀ ob, (w.alloc ob).cell? ⟨rb, 3, none⟩ = some (.slice (some ⟨bb, bo, none⟩) 1 pc) := fun ob => cell_fr ((Fr.refl (fun _ => False) w).alloc ob) (by simpa using c3)
      go_enter Try.func53, Try.ntmps53
      go_wp2_with (at_builtin; refine Lib.wpList_append_run _ rfl _ _ _ _ rfl _ _ rfl rfl _ _ (hrun _ _) ?_)
      go_ret
      exact HE.out
    · have hpos : 0 < p.length := List.length_pos_iff.2 h0
      have hA2 := HSrc.out h0
      have c3a : ∀ ob, (w.alloc ob).cell? ⟨rb, 3, none⟩ = some (.slice (some ⟨bb, bo, none⟩) (p.length + 1) pc) := fun ob => cell_fr ((Fr.refl (fun _ => False) w).alloc ob) c3
      subst hA2
      go_enter Try.func53, Try.ntmps53
      go_wp2_with (at_builtin; refine wpList_append_lies _ rfl _ _ 22 rfl w.heap.size 4 i0 _ 1 1 Try.underlying22 hi0 hz0 hz1 hz2 rfl (by omega) _ 0 [] rfl HO.out ⟨bb, bo + 1, none⟩ p.length _ (boolC p) rfl (by rw [boolC_len]; omega) HCell.out (boolC_one p) hpos (by unfold maxLen; omega) (by omega) (by simp) _ rfl ?_; intro g1 cap1 w1 h1 h2 h3 h4; simp only [Nat.zero_add, List.nil_append] at h1; obtain ⟨c3', z3, he⟩ := HEnd.out w1 _ _ _ _ rfl h1 (F0.grown h2 (fun k hk => .inr (by have := obk hk; omega))); have HE := hid he; clear he h1 h2 h3 h4)
      go_ret
      exact HE.out
end
end Go.Proofs.Ytangnoicnogddaa.Tr
