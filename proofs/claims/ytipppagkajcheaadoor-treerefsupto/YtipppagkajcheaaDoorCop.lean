/- The contract of copied. -/
import Derived.Test.YtipppagkajcheaaDoorShw
import Derived.OwnWalk
namespace Go.Proofs.YtipppagkajcheaaDoor.Tr
open Go.RowKit

theorem infoE : (Tryd.prog.info? 31).map (fun i => (i.zero, i.size, i.bytes)) = some (some (.agg #[.string ⟨#[]⟩, .int .i64 0, .slice none 0 0]), 3, 48) := by kernel_rfl
abbrev Mv := Option Addr × Nat
def entC (x : Ent) (m : Mv) : List Value := [.string ⟨x.path.toArray⟩, .int .i64 x.kind, .slice m.1 x.data.length m.2]
def entsC : List Ent → List Mv → List Value
  | x :: r, m :: s => entC x m ++ entsC r s
  | _, _ => []
theorem entsC_snoc : ∀ (A : List Ent) (M : List Mv) (x : Ent) (m : Mv), M.length = A.length → entsC (A ++ [x]) (M ++ [m]) = entsC A M ++ entC x m
  | [], [], x, m, _ => by simp [entsC]
  | [], _ :: _, _, _, h => absurd h (by simp)
  | _ :: _, [], _, _, h => absurd h (by simp)
  | a :: A, b :: M, x, m, h => by
    simp only [List.cons_append, entsC]
    rw [entsC_snoc A M x m (by simpa using h), List.append_assoc]
theorem entsC_len : ∀ (A : List Ent) (M : List Mv), M.length = A.length → (entsC A M).length = A.length * 3
  | [], [], _ => rfl
  | [], _ :: _, h => absurd h (by simp)
  | _ :: _, [], h => absurd h (by simp)
  | a :: A, b :: M, h => by
    rw [entsC, List.length_append, entsC_len A M (by simpa using h)]
    simp [entC]; omega
theorem entsC_at : ∀ (A : List Ent) (M : List Mv) (hl : M.length = A.length) (i : Nat) (h : i < A.length), (entsC A M)[i * 3]? = some (.string ⟨A[i].path.toArray⟩) ∧ (entsC A M)[i * 3 + 1]? = some (.int .i64 A[i].kind) ∧ (entsC A M)[i * 3 + 2]? = some (.slice (M[i]'(by omega)).1 A[i].data.length (M[i]'(by omega)).2)
  | [], _, _, i, h => absurd h (by simp)
  | _ :: _, [], h, _, _ => absurd h (by simp)
  | a :: A, b :: M, hl, 0, _ => by simp [entsC, entC]
  | a :: A, b :: M, hl, i + 1, h => by
    have ih := entsC_at A M (by simpa using hl) i (by simpa using h)
    have e : ∀ j, (entsC (a :: A) (b :: M))[3 + j]? = (entsC A M)[j]? := fun j => by
      rw [entsC, List.getElem?_append_right (by simp [entC])]
      congr 1
      simp [entC]
    have e0 : (i + 1) * 3 = 3 + i * 3 := by omega
    rw [e0, Nat.add_assoc, Nat.add_assoc, e, e, e]
    simpa using ih

/-- An entry's bytes in a row of their own. -/
def DOwn (B : Nat) (W : World) (x : Ent) (m : Mv) : Prop := W.ownsRow B 5 1 (.slice m.1 x.data.length m.2) x.data.length (bs x.data)
theorem DOwn.cap {B : Nat} {W : World} {x : Ent} {m : Mv} (h : DOwn B W x m) : x.data.length ≤ m.2 := by
  obtain ⟨p, q⟩ := m
  rcases h.2 with ⟨h0, h1⟩ | ⟨g, cap, cur, h0, _, _, hn, _⟩
  · omega
  · cases h0; exact hn
theorem DOwn.fr {B : Nat} {W W' : World} {x : Ent} {m : Mv} (h : DOwn B W x m) (f : Fr (fun _ => False) W W') : DOwn B W' x m :=
  owns_of_eq h (fun k hk => f.block k (h.lt k hk).2 (fun h => h))
/-- A change of a block that holds no bytes leaves it. -/
theorem DOwn.tag {B : Nat} {W W' : World} {x : Ent} {m : Mv} (h : DOwn B W x m) {r : Option Nat} (g : W.grownBy W' r) (ht : ∀ k, r = some k → ∃ cs, W.heap[k]? = some (.cells cs 31 (0, 0))) : DOwn B W' x m := by
  refine owns_of_eq h (fun k hk => g.block k (h.lt k hk).2 (fun e => ?_))
  obtain ⟨cs, hc⟩ := ht k e.symm
  rcases h.2 with ⟨h0, _⟩ | ⟨g', cap, cur, h0, _, hg, _⟩
  · rw [h0] at hk; cases hk
  · rw [h0] at hk; cases hk
    rw [hg] at hc
    cases hc
/-- What is copied so far. -/
structure Cop (w W : World) (L : List Ent) (i : Nat) (v : Value) : Prop where
  f : Fr (fun _ => False) w W
  own : ∃ M : List Mv, M.length = i ∧ W.ownsRow w.heap.size 31 3 v i (entsC (L.take i) M) ∧ ∀ j (hj : j < M.length) (hl : j < L.length), DOwn w.heap.size W L[j] M[j]
theorem Cop.tag {w W : World} {i : Nat} {v : Value} {xs : List Value} (h : W.ownsRow w.heap.size 31 3 v i xs) : ∀ k, v.ownBlock = some k → ∃ cs, W.heap[k]? = some (.cells cs 31 (0, 0)) := by
  intro k hk
  rcases h.2 with ⟨rfl, _⟩ | ⟨g, cap, cur, rfl, _, hg, _⟩
  · cases hk
  · cases hk; exact ⟨cur, hg⟩
/-- At the end: the entries, in memory of their own. -/
theorem Cop.ents {w W : World} {L : List Ent} {v : Value} (h : Cop w W L L.length v) (hb : ∀ x ∈ L, x.path.length ≤ 140737488351232 ∧ x.data.length ≤ 140737488351232 ∧ -9223372036854775808 ≤ x.kind ∧ x.kind ≤ 9223372036854775807) : ∃ ad cap, v = .slice ad L.length cap ∧ L.length ≤ cap ∧ Ents W ad L := by
  obtain ⟨M, hM, ho, hd⟩ := h.own
  rw [List.take_length] at ho
  rcases ho.2 with ⟨rfl, h0⟩ | ⟨g, cap, cur, rfl, hg1, hg, hn, hm, hs, ht⟩
  · exact ⟨none, 0, by rw [h0], by omega, fun hne => absurd (List.eq_nil_of_length_eq_zero h0) hne⟩
  · refine ⟨_, cap, rfl, hn, fun _ => ⟨g, 0, rfl, fun i hi => ?_⟩⟩
    have hc : ∀ j u, (entsC L M)[j]? = some u → W.cell? ⟨g, j, none⟩ = some u := fun j u hu => by
      rw [cell_of_row W g j cur 31 (0, 0) hg]
      rw [← ht, List.getElem?_take] at hu
      split at hu
      · simpa using hu
      · cases hu
    obtain ⟨e1, e2, e3⟩ := entsC_at L M hM i hi
    have hD := hd i (by omega) hi
    obtain ⟨b1, b2, b3, b4⟩ := hb L[i] (List.getElem_mem _)
    refine ⟨_, _, ?_, ?_, ?_, ⟨src_own hD, hD.cap, b2, b1, b3, b4⟩⟩
    · rw [Nat.zero_add]; exact hc _ _ e1
    · rw [Nat.zero_add]; exact hc _ _ e2
    · rw [Nat.zero_add]; exact hc _ _ e3

set_option maxRecDepth 100000 in
set_option maxHeartbeats 4000000 in
theorem copied_any (w : World) (ad : Option Addr) (L : List Ent) (cap : Nat) (hL : Ents w ad L) (hn : L.length * 48 ≤ 140737488351232) :
    Calls Tryd.prog 7 #[.slice ad L.length cap] w fun e w' => ∃ v, e = .returned v ∧ Cop w w' L L.length v := by
  obtain ⟨iE, hiE, hzE0, hzE1, hzE2⟩ := info_parts infoE
  have HE := hid (And.intro hiE (And.intro hzE0 (And.intro hzE1 hzE2)))
  have HL := hid hL
  clear hL hiE hzE0 hzE1 hzE2
  go_enter Tryd.func7, Tryd.ntmps7
  go_wp2_with (at_make; refine wpList_make_own _ (by rfl) _ _ 22 (by rfl) w.heap.size 31 iE _ 3 Tryd.underlying22 HE.out.1 HE.out.2.1 HE.out.2.2.1 _ _ _ (L.length + 1) (by rfl) (by rfl) (by omega) (by rw [HE.out.2.2.2]; omega) (by unfold maxLen; omega) (Nat.le_refl _) ?_; intro w1 ho1 hg1; have HC0 : Hid (Cop w w1 L 0 (.slice (some ⟨w.heap.size, 0, none⟩) 0 (L.length + 1))) := ⟨(Fr.refl _ w).grown hg1 (fun _ h => by cases h), [], rfl, ho1, fun j hj => absurd hj (by simp)⟩; clear ho1 hg1)
  go_loopw [3, 4] (fun ov iv wr => ∃ i : Nat, i ≤ L.length ∧ iv = .int .i64 (i : Int) ∧ Cop w wr L i ov) (fun _ iv _ => L.length - (intOf iv).toNat)
  case atStart => exact ⟨0, Nat.zero_le _, rfl, HC0.out⟩
  case round =>
    obtain ⟨i, hi, rfl, hC⟩ := hrel
    have HC := hid hC
    clear HC0 hC
    by_cases hlt : i < L.length
    · have hi1 : (i : Int) < ((L.length : Nat) : Int) := by omega
      have hi0 : (0 : Int) ≤ (i : Int) := Int.natCast_nonneg _
      obtain ⟨bb, bo, da, dc, rfl, c0', c1', c2', hv⟩ := HL.out.at i hlt
      have c0 := cell_fr HC.out.f c0'
      have c1 := cell_fr HC.out.f c1'
      have c2 := cell_fr HC.out.f c2'
      have HV := hid hv
      have hdl := hv.len
      obtain ⟨M, hM, ho, hdM⟩ := HC.out.own
      have HO := hid ho
      have HEnd : Hid (∀ (W4 W5 : World) (v' : Value) (m : Mv), Fr (fun _ => False) wr W4 → DOwn w.heap.size W4 L[i] m → W5.ownsRow w.heap.size 31 3 v' (i + 1) (entsC (L.take i) M ++ entC L[i] m) → W4.grownBy W5 u3.ownBlock → Cop w W5 L (i + 1) v') := by
        intro W4 W5 v' m f4 hd ho5 g5
        have ho4 : W4.ownsRow w.heap.size 31 3 u3 i (entsC (L.take i) M) := owns_of_eq ho (fun k hk => f4.block k (ho.lt k hk).2 (fun h => h))
        refine ⟨(HC.out.f.trans f4 (fun _ h => h.elim)).grown g5 (fun k hk => .inr (ho4.lt k hk).1), M ++ [m], by simp [hM], ?_, fun j hj hl => ?_⟩
        · rw [← entsC_snoc (L.take i) M L[i] m (by rw [hM, List.length_take]; omega), ← List.take_succ_eq_append_getElem hlt] at ho5
          exact ho5
        · by_cases hji : j < i
          · have e : (M ++ [m])[j] = M[j]'(by omega) := List.getElem_append_left (by omega)
            rw [e]
            exact ((hdM j (by omega) hl).fr f4).tag g5 (Cop.tag ho4)
          · have hj' : j = i := by simp [hM] at hj; omega
            subst hj'
            have e : (M ++ [m])[j] = m := by
              rw [List.getElem_append_right (by omega)]; simp [hM]
            rw [e]
            exact hd.tag g5 (Cop.tag ho4)
      have HFw := hid HC.out.f
      have hsz := HC.out.f.size
      clear c0' c1' c2' hv ho hdM hM HC
      generalize L[i] = x at *
      generalize entsC (L.take i) M = Z at *
      obtain ⟨va, vc, rfl⟩ := own_len HO.out
      have HBox : Hid (Blk ((wr.alloc (.cells #[.string ⟨x.path.toArray⟩, .int .i64 x.kind, .slice da x.data.length dc] 31)).alloc (.cells #[] 5)) wr.heap.size 31 [.string ⟨x.path.toArray⟩, .int .i64 x.kind, .slice da x.data.length dc]) := (Blk.new wr _ _).alloc _
      have HF1 : Hid (Fr (fun _ => False) wr ((wr.alloc (.cells #[.string ⟨x.path.toArray⟩, .int .i64 x.kind, .slice da x.data.length dc] 31)).alloc (.cells #[] 5))) := ((Fr.refl _ wr).alloc _).alloc _
      have HEm : Hid (((wr.alloc (.cells #[.string ⟨x.path.toArray⟩, .int .i64 x.kind, .slice da x.data.length dc] 31)).alloc (.cells #[] 5)).ownsRow (wr.heap.size + 1) 5 1 (.slice (some ⟨wr.heap.size + 1, 0, none⟩) 0 0) 0 []) := by
        have h2 := heap_alloc_new (wr.alloc (.cells #[.string ⟨x.path.toArray⟩, .int .i64 x.kind, .slice da x.data.length dc] 31)) (.cells #[] 5)
        rw [World.size_alloc] at h2
        exact ⟨rfl, .inr ⟨wr.heap.size + 1, 0, #[], rfl, Nat.le_refl _, h2, Nat.le_refl _, by unfold maxLen; omega, rfl, rfl⟩⟩
      have hs1 : ((wr.alloc (.cells #[.string ⟨x.path.toArray⟩, .int .i64 x.kind, .slice da x.data.length dc] 31)).alloc (.cells #[] 5)).heap.size = wr.heap.size + 2 := by simp
      have HSrc := hid (srcBytes (HV.out.src.fr (HFw.out.trans HF1.out (fun _ h => h.elim))) dc)
      go_wp2_with (at_builtin; refine wpList_append_src (by rfl) _ _ 26 (by rfl) (wr.heap.size + 1) 0 x.data.length _ _ [] (bs x.data) (by rfl) (by rfl) HEm.out HSrc.out (by omega) (by omega) ?_; intro v2 W2 ha; refine Hid.out ?_)
      refine hid ?_
      generalize (wr.alloc (.cells #[.string ⟨x.path.toArray⟩, .int .i64 x.kind, .slice da x.data.length dc] 31)).alloc (.cells #[] 5) = W1 at *
      have hO2 := ha.own
      rw [Nat.zero_add, List.nil_append] at hO2
      obtain ⟨va2, vc2, rfl⟩ := own_len hO2
      have hB2 := HBox.out.of_eq (ha.grown.block wr.heap.size HBox.out.lt (fun e => by simp [Value.ownBlock] at e))
      have hF2 : Fr (fun _ => False) wr W2 := HF1.out.grown ha.grown (fun k hk => .inr (by have hk2 : wr.heap.size + 1 = k := (by simpa [Value.ownBlock] using hk); omega))
      have b0 := hB2.cell 0
      have b1 := hB2.cell 1
      have b2 := hB2.cell 2
      have bf2 := hB2.frozen 2
      simp only [List.getElem?_cons_zero, List.getElem?_cons_succ] at b0 b1 b2
      have HB3 := hid (hB2.setCell 2 (.slice va2 x.data.length vc2))
      have HF3 : Hid (Fr (fun _ => False) wr (W2.setCell ⟨wr.heap.size, 2, none⟩ (.slice va2 x.data.length vc2))) := hF2.setCell (.inr (Nat.le_refl _)) _
      have HD3 : Hid (DOwn w.heap.size (W2.setCell ⟨wr.heap.size, 2, none⟩ (.slice va2 x.data.length vc2)) x (va2, vc2)) :=
        owns_of_eq (owns_base hO2 (by omega)) (fun k hk => Below.heap_setCell W2 _ _ k (fun e => by have := (hO2.lt k hk).1; simp at e; omega))
      clear hO2 hB2 hF2 ha HEm HSrc HF1 HBox hs1 c0 c1 c2
      have hs2 : (W2.setCell ⟨wr.heap.size, 2, none⟩ (.slice va2 x.data.length vc2)).heap.size = W2.heap.size := by simp [World.setCell]
      have HN4 : Hid (∀ j u, (entC x (va2, vc2))[j]? = some u → ((W2.setCell ⟨wr.heap.size, 2, none⟩ (.slice va2 x.data.length vc2)).alloc (.cells #[.string ⟨x.path.toArray⟩, .int .i64 x.kind, .slice va2 x.data.length vc2] 31)).cell? ((⟨W2.heap.size, 0, none⟩ : Addr).add j) = some u) := by
        intro j u hu
        have h2 := (Blk.new (W2.setCell ⟨wr.heap.size, 2, none⟩ (.slice va2 x.data.length vc2)) 31 (entC x (va2, vc2))).cell j
        rw [hs2] at h2
        rw [Addr.add_mid, Nat.zero_add]
        exact h2.trans hu
      have HO4 : Hid (((W2.setCell ⟨wr.heap.size, 2, none⟩ (.slice va2 x.data.length vc2)).alloc (.cells #[.string ⟨x.path.toArray⟩, .int .i64 x.kind, .slice va2 x.data.length vc2] 31)).ownsRow w.heap.size 31 3 (.slice va i vc) i Z) :=
        owns_of_eq HO.out (fun k hk => (HF3.out.alloc _).block k (HO.out.lt k hk).2 (fun h => h))
      have HB4 : Hid (w.heap.size ≤ ((W2.setCell ⟨wr.heap.size, 2, none⟩ (.slice va2 x.data.length vc2)).alloc (.cells #[.string ⟨x.path.toArray⟩, .int .i64 x.kind, .slice va2 x.data.length vc2] 31)).heap.size) := by
        have := (HF3.out.alloc (.cells #[.string ⟨x.path.toArray⟩, .int .i64 x.kind, .slice va2 x.data.length vc2] 31)).size
        unfold Hid; omega
      clear HB3 HL
      go_wp2_with (at_builtin; refine wpList_append_lies _ (by rfl) _ _ 22 (by rfl) w.heap.size 31 iE _ 3 48 Tryd.underlying22 HE.out.1 HE.out.2.1 HE.out.2.2.1 HE.out.2.2.2 rfl (by omega) (.slice va i vc) i Z (by rfl) HO4.out ⟨W2.heap.size, 0, none⟩ 1 1 (entC x (va2, vc2)) (by rfl) (by rfl) HN4.out (by intro u hu; simp [entC] at hu; rcases hu with rfl | rfl | rfl <;> rfl) (by omega) (by unfold maxLen; omega) (by omega) HB4.out _ rfl ?_
                   intro g cap5 W5 hown5 hgrow _ _
                   have HC5 : Hid (Cop w W5 L (i + 1) (.slice (some ⟨g, 0, none⟩) (i + 1) cap5)) := HEnd.out _ W5 _ (va2, vc2) (HF3.out.alloc _) (HD3.out.fr ((Fr.refl _ _).alloc _)) hown5 hgrow
                   clear hown5 hgrow)
      exact ⟨⟨i + 1, by omega, by go_num, HC5.out⟩, by simp [intOf]; omega⟩
    · obtain rfl : i = L.length := by omega
      have hkn : ¬ ((L.length : Nat) : Int) < ((L.length : Nat) : Int) := by omega
      go_wp2
      go_ret
      exact ⟨_, rfl, HC.out⟩

end Go.Proofs.YtipppagkajcheaaDoor.Tr
