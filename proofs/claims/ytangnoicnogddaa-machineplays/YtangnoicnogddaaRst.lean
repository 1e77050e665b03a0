/- The contract of the document's stop. -/
import Derived.Test.YtangnoicnogddaaRap
namespace Go.Proofs.Ytangnoicnogddaa.Tr
open Go.RowKit

theorem RX.join {E : Nat → Prop} {w w2 w5 : World} {rb : Nat} {s : St} (f1 : w.heap.size ≤ w2.heap.size) (f2 : w2.heap.size ≤ w5.heap.size) (x : RX (fun k => (E k ∨ Bt w.heap.size w2.heap.size k) ∨ Bt w2.heap.size w5.heap.size k) w5 rb s) (hne : ¬ E rb) (hb : rb < w.heap.size) (hes : ∀ k, E k → k < w.heap.size) : RX (fun k => E k ∨ Bt w.heap.size w5.heap.size k) w5 rb s := by
  obtain ⟨o, pa, pc, XF, XR, m⟩ := x
  refine ⟨o, pa, pc, XF, XR, m.more (fun k hk => ?_) (fun h => h.elim hne (fun h => by have := h.1; omega)) (fun k hk => hk.elim (fun h => by have := hes k h; omega) (fun h => h.2))⟩
  rcases hk with (h | h) | h
  · exact .inl h
  · exact .inr ⟨h.1, by have := h.2; omega⟩
  · exact .inr ⟨by have := h.1; omega, h.2⟩
section
variable {E : Nat → Prop} {w : World} {rb : Nat} {s : St} {o : Ov} {pa : Option Addr} {pc : Nat} {XF : List Xv} {XR : List Uv}
theorem RI.grow (h : RI E w rb s o pa pc XF XR) {W : World} (f : Fr (fun _ => False) w W) : RI (fun k => E k ∨ Bt w.heap.size W.heap.size k) W rb s o pa pc XF XR :=
  (h.keep0 f).more (fun _ => .inl) (fun hb => hb.elim h.ne (fun hb => by have := h.blk.lt; have := hb.1; omega)) (fun k hk => hk.elim (fun hk => Nat.lt_of_lt_of_le (h.es k hk) f.size) (fun hk => hk.2))
theorem RI.endR (h : RI E w rb s o pa pc XF XR) {W : World} (f : Fr (fun _ => False) w W) {B n c : Nat} {a : Option Addr} {r' : List Ut} {X' : List Uv} (ow : W.ownsRow B 41 4 (.slice a n c) X'.length (flatU X')) (hB : w.heap.size ≤ B) (hX : X'.length = r'.length) (he : ∀ i (h1 : i < r'.length) (h2 : i < X'.length), UK (fun k => E k ∨ Bt w.heap.size W.heap.size k) W r'[i] X'[i]) :
    W.cell? ⟨rb, 2, none⟩ = some (.slice o.ra s.r.length o.rc) ∧ W.frozen? ⟨rb, 2, none⟩ = false ∧ Fr (fun k => k = rb) w (W.setCell ⟨rb, 2, none⟩ (.slice a n c)) ∧ RX (fun k => E k ∨ Bt w.heap.size (W.setCell ⟨rb, 2, none⟩ (.slice a n c)).heap.size k) (W.setCell ⟨rb, 2, none⟩ (.slice a n c)) rb { s with r := r' } := by
  have oc := own_cap ow
  refine ⟨(h.keep0 f).cells.2.2.1, (h.keep0 f).blk.frozen 2, (f.upO : Fr (fun k => k = rb) w W).setCell (p := ⟨rb, 2, none⟩) (.inl rfl) _, ?_⟩
  rw [sz_set]
  exact (h.grow f).setR (oc.1.trans hX) ((lies_own ow hB).mono (fun k hk => .inr hk)) hX he (by rw [← hX]; exact oc.2)
set_option maxRecDepth 100000 in
set_option maxHeartbeats 8000000 in
theorem rstop_any (h : RI E w rb s o pa pc XF XR) (hs : s.ok) (hpl : s.p.length ≤ 140737488351232) (n : Nm) :
    Calls Try.prog 28 #[.pointer (some ⟨rb, 0, none⟩), .string ⟨n.toArray⟩] w fun e w' => RPost E w rb (stopF s n) e w' := by
  have HRI := hid h
  have HAt := hid (rat_any h (by have := hs.rl; unfold lim; omega) n)
  have HT := hid (rtry_any h hpl)
  have hrl := hs.rl
  clear h
  cases hf : fi s.r n with
  | none =>
    have HR : Hid (stopF s n = (s, 0)) := by unfold Hid stopF; rw [hf]
    rw [HR.out]
    rw [fiI_none hf] at HAt
    clear HR hf
    go_enter Try.func28, Try.ntmps28
    go_wp2_with (go_at_call 52; refine HAt.out.mono ?_; rintro e w1 ⟨rfl, rfl⟩)
    go_ret
    exact ⟨rfl, Fr.refl _ _, o, pa, pc, XF, XR, HRI.out.grow (Fr.refl _ _)⟩
  | some k =>
    have hk := fi_lt hf
    rw [fiI_some hf] at HAt
    have hk0 : ¬ (k : Int) < 0 := by omega
    cases hb : s.p.headD false with
    | true =>
      have HR : Hid (stopF s n = ({ s with p := s.p.tail }, 71)) := by unfold Hid stopF; rw [hf]; simp only [hb, if_true]
      rw [HR.out]
      simp only [RTry, hb] at HT
      clear HR hf hb
      go_enter Try.func28, Try.ntmps28
      go_wp2_with (first
        | (go_at_call 52; refine HAt.out.mono ?_; rintro e w1 ⟨rfl, rfl⟩)
        | (go_at_call 53; refine HT.out.mono ?_; rintro e w2 ⟨rfl, f2, x2⟩; have F2 := hid f2; have X2 := hid x2; clear f2 x2))
      go_ret
      exact ⟨rfl, F2.out, X2.out⟩
    | false =>
      have HR : Hid (stopF s n = ({ s with r := s.r.eraseIdx k, p := s.p.tail }, 0)) := by unfold Hid stopF; rw [hf]; simp only [hb, Bool.false_eq_true, if_false]
      rw [HR.out]
      simp only [RTry, hb] at HT
      clear HR hf hb
      go_enter Try.func28, Try.ntmps28
      go_wp2_with (first
        | (go_at_call 52; refine HAt.out.mono ?_; rintro e w1 ⟨rfl, rfl⟩)
        | (go_at_call 53; refine HT.out.mono ?_; rintro e w2 ⟨rfl, f2, x2⟩; have F2 := hid f2; have X2 := hid x2; clear f2 x2))
      obtain ⟨o2, pa2, pc2, XF2, XR2, m⟩ := X2.out
      have M := hid m
      obtain ⟨bb, bo, hra, hE, hc⟩ := m.r (fun e => by have := flatU_len XR2; rw [e] at this; simp at this; have := m.rl; simp only at this; omega)
      have c2 := m.cells.2.2.1
      have hcr := m.cr
      have hrl2 := m.rl
      simp only at c2 hcr hrl2
      rw [hra] at c2
      have HC := hid hc
      clear hc m X2
      obtain ⟨fa, fl, fc, ua, ul, uc, ra, rl, rc⟩ := o2
      simp only at c2 hcr hra
      subst hra
      have hcm : rc ≤ 9223372036854775807 := by have := hcr.2; unfold maxLen at this; omega
      have hk1 : (k : Int) ≤ ((s.r.length : Nat) : Int) := by omega
      have hk2 : (0 : Int) ≤ (k : Int) := Int.natCast_nonneg _
      have hk3 : (k : Int) ≤ (rc : Int) := by omega
      have hk4 : (k : Int) + 1 ≤ ((s.r.length : Nat) : Int) := by omega
      have hk5 : (0 : Int) ≤ (k : Int) + 1 := by omega
      have hk6 : ((k : Int) + 1).toNat = k + 1 := by omega
      have hk7 : ((s.r.length : Nat) : Int) ≤ (rc : Int) := by omega
      have hk8 : (k : Int) + 1 ≤ (rc : Int) := by omega
      have hk9 : IntKind.i64.wrap ((k : Int) + 1) = (k : Int) + 1 := by rw [IntKind.wrap_i64]; omega
      have hcr1 := hcr.1
      have hkn1 : k + 1 ≤ s.r.length := hk
      have hkn2 : k + 1 ≤ rc := by omega
      obtain ⟨A, hA, HSrc⟩ : ∃ A : Option Addr, (if rc = k + 1 then (some (⟨bb, bo, none⟩ : Addr)) else some ⟨bb, bo + (k + 1) * 4, none⟩) = A ∧ Hid (XR2.drop (k + 1) ≠ [] → A = some ⟨bb, bo + (k + 1) * 4, none⟩) := by
        refine ⟨_, rfl, fun hne => ?_⟩
        have : k + 1 < XR2.length := by
          rcases Nat.lt_or_ge (k + 1) XR2.length with h | h
          · exact h
          · exact absurd (List.drop_eq_nil_of_le h) hne
        rw [if_neg (by omega)]
      have hl1 : (XR2.take k).length = k := by rw [List.length_take]; omega
      have hl2 : (XR2.drop (k + 1)).length = s.r.length - (k + 1) := by rw [List.length_drop, hrl2]
      have he1 : XR2.take k ++ XR2.drop (k + 1) = XR2.eraseIdx k := (erase_td _ _).symm
      have FA : Hid (Fr (fun _ => False) w2 ((w2.alloc (.cells #[] 41)).drew)) := ((Fr.refl _ w2).alloc _).drew
      have HO0 : Hid ((w2.alloc (.cells #[] 41)).drew.ownsRow w2.heap.size 41 4 (.slice (some ⟨w2.heap.size, 0, none⟩) 0 0) ([] : List Uv).length (flatU [])) := own_empty w2 _ _
      have HY1 : Hid (∀ W, Fr (fun _ => False) w2 W → ∀ q u, (flatU (XR2.take k))[q]? = some u → W.cell? ⟨bb, bo + q, none⟩ = some u) := fun W f q u hq => by
        rw [← flatU_take, List.getElem?_take] at hq
        split at hq
        · exact cell_fr f (HC.out q u hq)
        · cases hq
      have HY2 : Hid (∀ W, Fr (fun _ => False) w2 W → ∀ q u, (flatU (XR2.drop (k + 1)))[q]? = some u → W.cell? ⟨bb, bo + (k + 1) * 4 + q, none⟩ = some u) := fun W f q u hq => by
        rw [← flatU_drop, List.getElem?_drop] at hq
        have := cell_fr f (HC.out _ u hq)
        rw [Nat.add_assoc]; exact this
      have HCL : Hid (∀ W, Fr (fun _ => False) w2 W → W.cell? ⟨rb, 2, none⟩ = some (.slice (some ⟨bb, bo, none⟩) s.r.length rc)) := fun W f => cell_fr f c2
      have HEnd := hid (fun (W : World) (f : Fr (fun _ => False) w2 W) (a : Option Addr) (n c : Nat) (ow : W.ownsRow w2.heap.size 41 4 (.slice a n c) (XR2.eraseIdx k).length (flatU (XR2.eraseIdx k))) =>
        M.out.endR f (r' := s.r.eraseIdx k) ow (Nat.le_refl _) (by rw [List.length_eraseIdx, List.length_eraseIdx, hrl2]) (pair_erase _ _ _ _ (fun i h1 h2 => ((M.out.re i h1 h2).on (M.out.on f)).mono (fun _ => .inl))))
      simp only at HEnd
      have hsz := HRI.out.blk.lt
      have HES := hid HRI.out.es
      have HNE := hid HRI.out.ne
      clear hrl2
      have c2d := HCL.out _ ((Fr.refl (fun _ => False) w2).drew)
      have c2a : ∀ ob, (w2.alloc ob).cell? ⟨rb, 2, none⟩ = some (.slice (some ⟨bb, bo, none⟩) s.r.length rc) := fun ob => HCL.out _ ((Fr.refl (fun _ => False) w2).alloc ob)
      have c2b : ∀ ob, ((w2.alloc ob).drew).cell? ⟨rb, 2, none⟩ = some (.slice (some ⟨bb, bo, none⟩) s.r.length rc) := fun ob => HCL.out _ ((Fr.refl (fun _ => False) w2).alloc ob).drew
      go_region_law
        ((first
          | (refine step_app_U (by rfl) (.tmp 16) (.tmp 23) (by rfl) w2.heap.size (.slice (some ⟨w2.heap.size, 0, none⟩) 0 0) [] (XR2.take k) (some ⟨bb, bo, none⟩) rc (by rfl) (by rw [hl1]; rfl) HO0.out (fun _ => ⟨bb, bo, rfl, HY1.out _ FA.out⟩) FA.out.size (by rw [hl1]; simp; omega) ?_; intro v1 W1 o1 g1 b1; rw [List.nil_append] at o1; obtain ⟨a1, q1, hv1⟩ := own_len o1; obtain ⟨n1, hn1⟩ : ∃ n1, n1 = (XR2.take k).length := ⟨_, rfl⟩; rw [← hn1] at hv1; subst hv1; have O1 := hid o1; have G1 := hid (FA.out.grown g1 (fun k hk => .inr (by have := obk hk; omega))); have c2b := HCL.out _ G1.out; clear o1 g1 b1 hn1)
          | (refine step_app_U (by rfl) (.tmp 24) (.tmp 32) (by rfl) w2.heap.size (.slice a1 n1 q1) (XR2.take k) (XR2.drop (k + 1)) A (rc - (k + 1)) (by rfl) (by rw [hl2]; rfl) O1.out (fun hne => ⟨bb, bo + (k + 1) * 4, HSrc.out hne, HY2.out _ G1.out⟩) G1.out.size (by rw [hl1, hl2]; omega) ?_; intro v3 W3 o3 g3 b3; rw [he1] at o3; obtain ⟨a3, q3, hv3⟩ := own_len o3; obtain ⟨n3, hn3⟩ : ∃ n3, n3 = (XR2.eraseIdx k).length := ⟨_, rfl⟩; rw [← hn3] at hv3; subst hv3; have G2 := hid (G1.out.grown g3 (fun k hk => .inr (own_lt O1.out k hk).1)); obtain ⟨cc, zz, ff, xx⟩ := HEnd.out _ G2.out _ _ _ o3; have FF := hid ff; have XX := hid xx; clear o3 g3 b3 ff xx hn3)))
      all_goals
        go_wp2_with fail
        go_ret
        exact ⟨rfl, F2.out.trans FF.out (fun _ h => .inl h), RX.join F2.out.size FF.out.size XX.out HNE.out hsz HES.out⟩
end
end Go.Proofs.Ytangnoicnogddaa.Tr
