/- The contract of the document's Do, kind 3: a user is dropped. -/
import Derived.Test.YtangnoicnogddaaRus
import Derived.Deep.CutBlock
import Derived.Deep.DeepCutAuto
import Derived.BigQuiet
import Derived.Deep.QuietTactic
namespace Go.Proofs.Ytangnoicnogddaa.Tr
open Go.RowKit

theorem filter_cut {α : Type} (g : α → Nm) (l : List α) (hl : (l.map g).Pairwise (· < ·)) (n : Nm) : l.filter (fun x => decide (g x ≠ n)) = if isAt (l.map g) n then l.eraseIdx (pos (l.map g) n) else l := by
  cases h : isAt (l.map g) n with
  | false =>
    rw [if_neg (by simp)]
    refine List.filter_eq_self.2 (fun x hx => ?_)
    rw [decide_eq_true_iff]
    intro e
    have := (isAt_iff hl n).2 (List.mem_map.2 ⟨x, hx, e⟩)
    rw [h] at this; cases this
  | true =>
    rw [if_pos rfl]
    obtain ⟨hk, e⟩ := isAt_get h
    have hk' : pos (l.map g) n < l.length := by rwa [List.length_map] at hk
    have hlt : ∀ i (hi : i < l.length), i < pos (l.map g) n → g l[i] < n := fun i hi h1 => by
      have := pos_lt (l := l.map g) (t := n) (i := i) (by rw [List.length_map]; exact hi) h1
      rwa [List.getElem_map] at this
    have hgt : ∀ i (hi : i < l.length), pos (l.map g) n < i → n < g l[i] := fun i hi h1 => by
      have := rise_at hl h1 (by rw [List.length_map]; exact hi)
      rw [e, List.getElem_map] at this; exact this
    have e' : g l[pos (l.map g) n] = n := by rw [List.getElem_map] at e; exact e
    generalize pos (l.map g) n = k at *
    have h1 : l = l.take k ++ (l[k] :: l.drop (k + 1)) := by rw [← List.drop_eq_getElem_cons hk', List.take_append_drop]
    rw [erase_td]
    conv => lhs; rw [h1]
    rw [List.filter_append, List.filter_cons, if_neg (by simpa using e')]
    congr 1
    · refine List.filter_eq_self.2 (fun x hx => ?_)
      obtain ⟨i, hi, rfl⟩ := List.getElem_of_mem hx
      rw [decide_eq_true_iff, List.getElem_take]
      intro e2
      have := hlt i (by rw [List.length_take] at hi; omega) (by rw [List.length_take] at hi; omega)
      rw [e2] at this; exact nm_lt_irrefl _ this
    · refine List.filter_eq_self.2 (fun x hx => ?_)
      obtain ⟨i, hi, rfl⟩ := List.getElem_of_mem hx
      rw [decide_eq_true_iff, List.getElem_drop]
      intro e2
      have := hgt (k + 1 + i) (by rw [List.length_drop] at hi; omega) (by omega)
      rw [e2] at this; exact nm_lt_irrefl _ this
theorem filter_drop {s : St} (hs : s.ok) (n : Nm) : dropF s n = { s with u := s.u.filter (fun x => decide (x ≠ n)) } := by
  have h := filter_cut (fun x : Nm => x) s.u (by rw [List.map_id']; exact hs.u) n
  rw [List.map_id'] at h
  rw [h]; unfold dropF
  split <;> rfl
theorem filter_remove {s : St} (hs : s.ok) (n : Nm) : removeF s n = { s with f := s.f.filter (fun x => decide (x.path ≠ n)) } := by
  have h := filter_cut (fun x : Ent => x.path) s.f hs.f n
  rw [h]; unfold removeF paths
  split <;> rfl
theorem filter_step {α : Type} (p : α → Bool) (l : List α) {i : Nat} (hi : i < l.length) : (l.take (i + 1)).filter p = if p l[i] then (l.take i).filter p ++ [l[i]] else (l.take i).filter p := by
  rw [List.take_succ_eq_append_getElem hi, List.filter_append, List.filter_cons]
  split <;> simp
section
variable {E : Nat → Prop} {w : World} {rb : Nat} {s : St} {o : Ov} {pa : Option Addr} {pc : Nat} {XF : List Xv} {XR : List Uv}
set_option maxRecDepth 100000 in
set_option maxHeartbeats 8000000 in
theorem rdo3_any (h : RI E w rb s o pa pc XF XR) (hs : s.ok) (z : Zv) (h3 : z.k = 3) :
    Calls Try.prog 14 #[.pointer (some ⟨rb, 0, none⟩), z.v] w fun e w' => RPost E w rb (dropF s z.n, 0) e w' := by
  rw [filter_drop hs]
  have hul := hs.ul
  have HEnd := hid (fun (W : World) (f : Fr (fun _ => False) w W) (a : Option Addr) (m c B : Nat) (hB : w.heap.size ≤ B) (u' : List Nm) (ow : W.ownsRow B 9 1 (.slice a m c) u'.length (strC u')) => h.endU f ow hB)
  have HU := hid h.u.strs
  have c1 := h.cells.2.1
  have HF0 : Hid (Fr (fun _ => False) w (zBox w z)) := (Fr.refl _ w).alloc _
  have hBz := Blk.new w 43 z.cs
  have HCL : Hid (∀ W, Fr (fun _ => False) (zBox w z) W → W.cell? ⟨w.heap.size, 1, none⟩ = some (.string ⟨z.n.toArray⟩) ∧ W.cell? ⟨rb, 1, none⟩ = some (.slice o.ua s.u.length o.uc)) := fun W f => ⟨(f.blk hBz (fun h => h)).cell 1, cell_fr (HF0.out.trans f (fun _ h => h.elim)) c1⟩
  have b0 := hBz.cell 0
  have HEx : Hid (∀ r, r = { s with u := s.u.filter (fun x => decide (x ≠ z.n)) } → ∀ e w', RPost E w rb ({ s with u := s.u.filter (fun x => decide (x ≠ z.n)) }, 0) e w' → RPost E w rb (r, 0) e w') := fun r hr e w' hp => by rw [hr]; exact hp
  obtain ⟨r, hr⟩ : ∃ r, r = { s with u := s.u.filter (fun x => decide (x ≠ z.n)) } := ⟨_, rfl⟩
  rw [← hr]
  have HR := hid hr
  clear hr h hs c1 hBz
  obtain ⟨k', n, ⟨xp, xk, xa, xl, xc⟩, ⟨yn, ys, yra, yrl, yrc, yaa, yal, yac⟩⟩ := z
  obtain ⟨fs, us, rs, p⟩ := s
  obtain ⟨fa, fl, fc, oua, oul, ouc, ra, rl, rc⟩ := o
  simp only at h3
  subst h3
  simp only [Zv.v, Zv.cs, List.getElem?_cons_zero] at *
  have e1 : ((3 : Int) == 1) = false := by decide
  have e2 : ((3 : Int) == 2) = false := by decide
  obtain ⟨d1, d2⟩ := HCL.out _ (Fr.refl _ _)
  obtain ⟨W0, hW0⟩ : ∃ W0, W0 = zBox w ⟨3, n, ⟨xp, xk, xa, xl, xc⟩, ⟨yn, ys, yra, yrl, yrc, yaa, yal, yac⟩⟩ := ⟨_, rfl⟩
  have HW := hid hW0
  go_enter Try.func14, Try.ntmps14
  go_upto_block 3 with fail
  have hW' : w.alloc (.cells (Zv.cs ⟨3, n, ⟨xp, xk, xa, xl, xc⟩, ⟨yn, ys, yra, yrl, yrc, yaa, yal, yac⟩⟩).toArray 43) = W0 := hW0.symm
  simp only [Zv.cs] at hW'
  rw [hW']
  clear hW' b0
  have HCL : Hid (∀ W, Fr (fun _ => False) W0 W → W.cell? ⟨w.heap.size, 1, none⟩ = some (.string ⟨n.toArray⟩) ∧ W.cell? ⟨rb, 1, none⟩ = some (.slice oua us.length ouc)) := by rw [hW0]; exact HCL.out
  have HF0 : Hid (Fr (fun _ => False) w W0) := by rw [hW0]; exact HF0.out
  have hs0 : W0.heap.size = w.heap.size + 1 := by rw [hW0, World.size_alloc]
  have HS0 := hid hs0
  clear hW0 hs0 d1 d2 HW
  go_wp2_with fail
  go_loopw [7, 8] (fun lv iv wr => ∃ (i : Nat) (L : List Nm) (la : Option Addr) (lc : Nat), i ≤ us.length ∧ iv = .int .i64 (i : Int) ∧ Hid (L = (us.take i).filter (fun x => decide (x ≠ n))) ∧ lv = .slice la L.length lc ∧ Hid (wr.ownsRow W0.heap.size 9 1 (.slice la L.length lc) L.length (strC L)) ∧ Hid (Fr (fun _ => False) W0 wr)) (fun _ iv _ => us.length - (intOf iv).toNat)
  case atStart => exact ⟨0, [], none, 0, Nat.zero_le _, rfl, rfl, rfl, World.ownsRow_nil _ _ _ _, Fr.refl _ _⟩
  case round =>
    obtain ⟨i, L, la, lc, hi, rfl, HL, rfl, HO, HF⟩ := hrel
    obtain ⟨d1, d2⟩ := HCL.out _ HF.out
    by_cases hlt : i < us.length
    · have hi1 : (i : Int) < ((us.length : Nat) : Int) := by omega
      have hi0 : (0 : Int) ≤ (i : Int) := Int.natCast_nonneg _
      obtain ⟨bb, bo, rfl, y1⟩ := (HU.out.env (Env.of (HF0.out.trans HF.out (fun _ h => h.elim)))).at i hlt
      have HSt := hid (filter_step (fun x => decide (x ≠ n)) us hlt)
      by_cases hp : us[i] = n
      · have hs1 : (!(us[i] == n)) = false := by simpa using hp
        have HN : Hid (L = (us.take (i + 1)).filter (fun x => decide (x ≠ n))) := by unfold Hid; rw [HSt.out, if_neg (by simpa using hp)]; exact HL.out
        clear hp HSt HL
        generalize us[i] = y at *
        generalize hm : L.length = m at *
        go_wp2_with fail
        go_quiet (fail)
        have HFn : Hid (Fr (fun _ => False) W0 (wr.drewN nq)) := HF.out.drewN nq
        have HOn : Hid ((wr.drewN nq).ownsRow W0.heap.size 9 1 (.slice la m lc) m (strC L)) := own_fr0 HO.out ((Fr.refl _ _).drewN nq)
        go_wp2
        subst hm
        exact ⟨⟨i + 1, L, la, lc, by omega, by go_num, HN, rfl, HOn, HFn⟩, by simp [intOf]; omega⟩
      · have hs1 : (!(us[i] == n)) = true := by simpa using hp
        have HN : Hid (L ++ [us[i]] = (us.take (i + 1)).filter (fun x => decide (x ≠ n))) := by unfold Hid; rw [HSt.out, if_pos (by simpa using hp), HL.out]
        have HLL : Hid (L.length ≤ us.length) := by
          unfold Hid; rw [HL.out]
          exact Nat.le_trans (List.length_filter_le _ _) (by rw [List.length_take]; omega)
        clear hp HSt HL
        generalize us[i] = y at *
        obtain ⟨m, hm⟩ : ∃ m, m = L.length := ⟨_, rfl⟩
        rw [← hm] at HO ⊢
        go_wp2_with fail
        go_quiet (fail)
        have HFn : Hid (Fr (fun _ => False) W0 (wr.drewN nq)) := HF.out.drewN nq
        have HOn : Hid (((wr.drewN nq).alloc (.cells #[.string ⟨y.toArray⟩] 9)).ownsRow W0.heap.size 9 1 (.slice la m lc) L.length (strC L)) := by
          have := own_fr0 HO.out (((Fr.refl _ _).drewN nq).alloc (.cells #[.string ⟨y.toArray⟩] 9)); rw [hm] at this ⊢; exact this
        obtain ⟨d1', d2'⟩ := HCL.out _ HFn.out
        have y1' := cell_fr ((Fr.refl (fun _ => False) wr).drewN nq) y1
        have HS1 := hid (strs_blk (Blk.new (wr.drewN nq) 9 [.string ⟨y.toArray⟩]))
        have HF1 : Hid (Fr (fun _ => False) W0 ((wr.drewN nq).alloc (.cells #[.string ⟨y.toArray⟩] 9))) := HFn.out.alloc _
        have HLm : Hid (L.length + 1 ≤ lim16) := by unfold Hid lim16; have := HLL.out; omega
        have HM := hid hm
        have hml : m ≤ us.length := by have := HLL.out; omega
        clear hm HLL
        go_wp2_with (at_builtin; refine Hid.out ?_)
        refine wpList_app_S (by rfl) _ _ (by rfl) W0.heap.size (.slice la m lc) L [y] (some ⟨(wr.drewN nq).heap.size, 0, none⟩) 1 (by rfl) (by rfl) HOn.out HS1.out HF1.out.size (by have := HLm.out; simpa using this) ?_
        intro v5 W5 o5 g5 _
        obtain ⟨a5, c5, hv5⟩ := own_len o5
        obtain ⟨n5, hn5⟩ : ∃ n5, n5 = (L ++ [y]).length := ⟨_, rfl⟩
        rw [← hn5] at hv5
        subst hv5
        have O5 := hid o5
        have HN5 := hid hn5
        have HF5 := hid (HF1.out.grown g5 (fun k hk => .inr (own_lt HOn.out k hk).1))
        obtain ⟨d1, d2⟩ := HCL.out _ HF5.out
        clear o5 g5 hn5
        go_wp2
        have hn5 := HN5.out
        subst hn5
        exact ⟨⟨i + 1, L ++ [y], a5, c5, by omega, by go_num, HN, rfl, O5, HF5⟩, by simp [intOf]; omega⟩
    · obtain rfl : i = us.length := by omega
      have hi1 : ¬ (((us.length : Nat) : Int) < ((us.length : Nat) : Int)) := by omega
      have HLe : Hid (L = us.filter (fun x => decide (x ≠ n))) := by unfold Hid; rw [HL.out, List.take_length]
      obtain ⟨cc, zz, ff, xx⟩ := HEnd.out _ (HF0.out.trans HF.out (fun _ h => h.elim)) _ _ _ _ (by have := HS0.out; omega) _ HO.out
      have FF := hid ff
      have XX := hid xx
      clear ff xx
      generalize hm : L.length = m at *
      go_wp2_with fail
      go_ret
      rw [HR.out, ← HLe.out]
      exact ⟨rfl, FF.out, XX.out⟩
end
end Go.Proofs.Ytangnoicnogddaa.Tr
