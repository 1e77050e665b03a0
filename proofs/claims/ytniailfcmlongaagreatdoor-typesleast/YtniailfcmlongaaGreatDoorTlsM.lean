import Derived.Test.YtniailfcmlongaaGreatDoorTdfM
import Derived.Test.YtniailfcmlongaaGreatDoorTtkM
import Derived.Test.YtniailfcmlongaaGreatDoorTmqM
import Derived.Test.YtniailfcmlongaaGreatDoorRsm
import Derived.Test.YtniailfcmlongaaGreatDoorDruM
/- The contract of small. -/
namespace Go.Proofs.YtniailfcmlongaaGreatDoor.Tr
open Go.RowKit

/-- How many parts may follow definitions. -/
def lfD : List Dt → Int → Int
  | [], n => n
  | d :: r, n => if n ≤ 0 then n else lfD r (lfF d.v n)
theorem lfD_zero (l : List Dt) : lfD l 0 = 0 := by cases l <;> rw [lfD]; rfl
theorem lfD_cons (d : Dt) (r : List Dt) (n : Int) (h : 0 < n) : lfD (d :: r) n = lfD r (lfF d.v n) := by
  rw [lfD, if_neg (by omega)]
/-- What 'small' tells. -/
def smB (L : List Dt) : Bool := decide (0 < lfD L 5000) && decide (L.length ≤ 100)

set_option maxRecDepth 100000 in
set_option maxHeartbeats 4000000 in
theorem small_any (w : World) (L : List Dt) (ad : Option Addr) (cap : Nat) (hI : DsIn w L ad) (hlim : L.length ≤ 140737488351232) :
    Calls Tryz.prog 11 #[.slice ad L.length cap] w fun e w' => e = .returned (.bool (smB L)) ∧ Fr (fun _ => False) w w' := by
  have hst := fun (W : World) (a : Addr) (m : Mode) (f : Nat) => run_store Tryz.prog W a (.float .f64 f) m rfl
  have HI := hid hI
  clear hI
  have HQ : Hid (smB L = (decide (0 < lfD L 5000) && decide (L.length ≤ 100))) := rfl
  generalize smB L = T at *
  go_enter Tryz.func11, Tryz.ntmps11
  go_wp2_with fail
  go_loopw [3, 4] (fun lv iv wr => ∃ (i : Nat) (l : Int), i ≤ L.length ∧ iv = .int .i64 (i : Int) ∧ lv = .int .i64 l ∧ 0 ≤ l ∧ l ≤ 100000 ∧ lfD (L.drop i) l = lfD L 5000 ∧ Fr (fun _ => False) w wr) (fun _ iv _ => L.length - (intOf iv).toNat)
  case atStart => exact ⟨0, 5000, Nat.zero_le _, rfl, rfl, by omega, by omega, by simp, Fr.refl _ _⟩
  case round =>
    obtain ⟨i, l, hi, rfl, rfl, hl0, hl1, hS, hF⟩ := hrel
    have HS := hid hS
    have HF := hid hF
    clear hS hF
    by_cases hlt : i < L.length
    · have hlt' : (i : Int) < ((L.length : Nat) : Int) := by omega
      by_cases hp : 0 < l
      · have HN : Hid (lfD (L.drop (i + 1)) (lfF L[i].v l) = lfD L 5000) := by
          have h := HS.out
          rw [List.drop_eq_getElem_cons hlt, lfD_cons _ _ _ hp] at h
          exact h
        have hle := lfF_le L[i].v l hp
        obtain ⟨bb, bo, y, rfl, y1, y2⟩ := HI.out.at i hlt
        obtain ⟨k0, k1, k2, k3, k4, k5, k6, k7⟩ := eight_env y1 (Env.of HF.out)
        have HC := hid (left_any _ L[i].v (Nat.le_refl _) y.x wr l (VIn.env (Env.of HF.out) _ _ y2.1) hp hl1)
        generalize lfF L[i].v l = l2 at *
        clear y1 y2 HS
        obtain ⟨⟨k, n, f, t, na, nl, nc, ia, il, ic⟩, p, o⟩ := y
        simp only [Vv.v] at *
        go_wp2_with fail
        refine HC.out.mono ?_
        rintro e w2 ⟨rfl, f2⟩
        have HF2 := hid (HF.out.trans f2 (fun _ h => h.elim))
        clear f2
        go_wp2_with fail
        exact ⟨⟨i + 1, l2, by omega, by first | rfl | (congr 1), rfl, hle.1, by omega, HN.out, HF2.out⟩, by simp [intOf]; omega⟩
      · obtain rfl : l = 0 := by omega
        have HE : Hid (T = false) := by unfold Hid; rw [HQ.out, ← HS.out, lfD_zero]; rfl
        go_wp2_with fail
        go_ret
        exact ⟨by rw [HE.out]; rfl, HF.out⟩
    · have hlt' : ¬ (i : Int) < ((L.length : Nat) : Int) := by omega
      have HE : Hid (T = (decide (0 < l) && decide (L.length ≤ 100))) := by
        unfold Hid
        have h := HS.out
        rw [List.drop_eq_nil_of_le (by omega), lfD] at h
        rw [HQ.out, ← h]
      clear HS HQ
      by_cases hp : 0 < l
      · by_cases h100 : L.length ≤ 100
        · have h100' : ((L.length : Nat) : Int) ≤ 100 := by omega
          have HE2 : Hid (T = true) := by unfold Hid; rw [HE.out, decide_eq_true hp, decide_eq_true h100]; rfl
          go_wp2_with fail
          go_ret
          exact ⟨by rw [HE2.out]; rfl, HF.out⟩
        · have h100' : ¬ ((L.length : Nat) : Int) ≤ 100 := by omega
          have HE2 : Hid (T = false) := by unfold Hid; rw [HE.out, decide_eq_false h100, Bool.and_false]
          go_wp2_with fail
          go_ret
          exact ⟨by rw [HE2.out]; rfl, HF.out⟩
      · obtain rfl : l = 0 := by omega
        have HE2 : Hid (T = false) := by unfold Hid; rw [HE.out]; rfl
        go_wp2_with fail
        go_ret
        exact ⟨by rw [HE2.out]; rfl, HF.out⟩
end Go.Proofs.YtniailfcmlongaaGreatDoor.Tr
/- TypesLeast in plain words; 'append(l, more...)' of definitions. -/
namespace Go.Proofs.YtniailfcmlongaaGreatDoor.Tr
open Go.RowKit Go.Sort

/-- What is kept of definitions while others are put between them: those of the least priority, and whether all are right. -/
def Kpt (L : List Dt) (lp : Int) (F : List Dz) : Prop :=
  (F.map (·.1)).filter (fun d => decide (d.p = lp)) = cntF L ∧ (∀ z ∈ F, lp ≤ z.1.p) ∧ ((F.map (·.1)).all fun d => rtB d.v 32) = (L.all fun d => rtB d.v 32)
theorem kpt_start {L : List Dt} {F : List Dz} (hne : L ≠ []) (h : F.map (·.1) = L) : Kpt L (leastP L) F := by
  subst h
  exact ⟨rfl, fun z hz => (least_mem _ hne).2 _ (List.mem_map_of_mem hz), rfl⟩
theorem kpt_ins {L : List Dt} {lp : Int} {F : List Dz} (h : Kpt L lp F) (k : Nat) (z : Dz) (hp : lp < z.1.p) (hr : rtB z.1.v 32 = true) : Kpt L lp (F.take k ++ [z] ++ F.drop k) := by
  obtain ⟨h1, h2, h3⟩ := h
  refine ⟨?_, fun y hy => ?_, ?_⟩
  · rw [← h1, ← List.take_append_drop k (F.map (·.1))]
    rw [List.map_append, List.map_append, List.filter_append, List.filter_append, List.filter_append, List.map_take, List.map_drop]
    have : ([z].map (·.1)).filter (fun d => decide (d.p = lp)) = [] := by
      rw [List.map_cons, List.map_nil, List.filter_cons_of_neg (by simp; omega)]
      rfl
    rw [this, List.append_nil]
  · rcases List.mem_append.1 hy with hy | hy
    · rcases List.mem_append.1 hy with hy | hy
      · exact h2 y (List.mem_of_mem_take hy)
      · rw [List.mem_singleton.1 hy]; omega
    · exact h2 y (List.mem_of_mem_drop hy)
  · rw [← h3]
    conv => rhs; rw [← List.take_append_drop k (F.map (·.1))]
    rw [List.map_append, List.map_append, List.all_append, List.all_append, List.all_append, List.map_take, List.map_drop]
    have : (([z].map (·.1)).all fun d => rtB d.v 32) = true := by simp [hr]
    rw [this, Bool.and_true]
theorem kpt_same {L : List Dt} {F : List Dz} (hne : L ≠ []) (h : Kpt L (leastP L) F) (t : List UInt8) : mge t (F.map (·.1)) = mge t L := by
  obtain ⟨h1, h2, h3⟩ := h
  have hF : F.map (·.1) ≠ [] := fun e => by
    rw [e] at h1
    have := cntF_pos hne
    rw [← h1] at this
    simp at this
  have hl : leastP (F.map (·.1)) = leastP L := by
    obtain ⟨⟨d, hd, e⟩, g⟩ := least_mem _ hF
    obtain ⟨z, hz, rfl⟩ := List.mem_map.1 hd
    have a1 := h2 z hz
    have hc := cntF_pos hne
    rw [← h1] at hc
    obtain ⟨d', hd'⟩ := List.exists_mem_of_length_pos hc
    have hm := List.mem_filter.1 hd'
    have a2 := g d' hm.1
    have a3 : d'.p = leastP L := by simpa using hm.2
    omega
  have hcf : cntF (F.map (·.1)) = cntF L := by
    rw [← h1]
    show List.filter (fun d : Dt => decide (d.p = leastP (F.map (·.1)))) _ = _
    rw [hl]
  have hcv : cntV (F.map (·.1)) = cntV L := by unfold cntV; rw [hcf]
  unfold mge
  rw [h3, hcv]
  cases readT t with
  | none => rfl
  | some k => simp only [if_neg hF, if_neg hne]
theorem least_take (d : Dt) (r : List Dt) : (d :: r).foldl lessP d.p = leastP (d :: r) := by
  show r.foldl lessP (lessP d.p d) = r.foldl lessP d.p
  congr 1
  unfold lessP
  split <;> omega

theorem flatD_inv (Y : List Dz) (q : Nat) (u : Value) (h : (flatD Y)[q]? = some u) : ∃ i j, ∃ hi : i < Y.length, j < 8 ∧ q = i * 8 + j ∧ (encZ Y[i])[j]? = some u := by
  have hq : q < (flatD Y).length := (List.getElem?_eq_some_iff.1 h).1
  rw [flatD_len] at hq
  have hi : q / 8 < Y.length := by omega
  refine ⟨q / 8, q % 8, hi, by omega, by omega, ?_⟩
  rw [← flatD_at Y (q / 8) (q % 8) hi (by omega), ← h]
  congr 1
  omega
/-- Where a part of a row's cells lies. -/
theorem flatD_src {W : World} {bb bo : Nat} {Y : List Dz} (h : ∀ i (hi : i < Y.length), eight W bb (bo + i * 8) (Y[i]).2) : ∀ q u, (flatD Y)[q]? = some u → W.cell? ⟨bb, bo + q, none⟩ = some u := fun q u hu => by
  obtain ⟨i, j, hi, hj, rfl, e⟩ := flatD_inv Y q u hu
  obtain ⟨c0, c1, c2, c3, c4, c5, c6, c7⟩ := h i hi
  rw [show bo + (i * 8 + j) = bo + i * 8 + j by omega]
  match j, hj, e with
  | 0, _, e => cases e; exact c0
  | 1, _, e => cases e; exact c1
  | 2, _, e => cases e; exact c2
  | 3, _, e => cases e; exact c3
  | 4, _, e => cases e; exact c4
  | 5, _, e => cases e; exact c5
  | 6, _, e => cases e; exact c6
  | 7, _, e => cases e; exact c7
/-- 'append(l, more...)'. -/
theorem wpList_app_Ds {ops : Array Oper} {rest : List Oper} {o : Oper} {a : Act} {W : World} {Q : Exit → Act → World → Prop} (hgd : o.guard = none) (d s : Operand) (ho : o.op = .call { callee := .builtin .append, args := #[d, s], argTypes := #[31, 31] })
    (base : Nat) (v : Value) (X Y : List Dz) (ad : Option Addr) (cap : Nat) (hd : a.eval d = v) (hs : a.eval s = .slice ad Y.length cap) (hown : W.ownsRow base 30 8 v X.length (flatD X)) (hsrc : Y ≠ [] → ∃ bb bo, ad = some ⟨bb, bo, none⟩ ∧ ∀ q u, (flatD Y)[q]? = some u → W.cell? ⟨bb, bo + q, none⟩ = some u) (hb : base ≤ W.heap.size) (hl : X.length + Y.length ≤ 1000000)
    (h : ∀ v' W', W'.ownsRow base 30 8 v' (X ++ Y).length (flatD (X ++ Y)) → W.grownBy W' v.ownBlock → wpList Tryz.prog ops Q rest (a.put o.dst v') W') : wpList Tryz.prog ops Q (o :: rest) a W := by
  obtain ⟨i0, hi0, hz0, hz1, hz2⟩ := info_parts infoD
  by_cases hy : Y = []
  · subst hy
    have hl : ∀ (x : Addr), (loadCells x 0).run Tryz.prog W = .ok #[] W := fun x => by simpa using run_loadCells_list (P := Tryz.prog) W x [] (by simp)
    have hrun : (Builtin.append_ #[31, 31] o.type #[v, .slice ad 0 cap]).run Tryz.prog W = .ok v W := by
      rcases hown.2 with ⟨rfl, h00⟩ | ⟨g, cap', cur, rfl, _, _, hnc, _⟩
      · cases ad <;> simp [Builtin.append_, run_underlying Tryz.underlying31, sizeOf, typeInfo, hi0, Builtin.lenOf, Builtin.firstCells, hl]
      · cases ad <;> simp [Builtin.append_, run_underlying Tryz.underlying31, sizeOf, typeInfo, hi0, Builtin.lenOf, Builtin.firstCells, hnc, storeCells, hl]
    refine wpList_plain hgd fun K hK => ?_
    unfold Oper.wp
    simp only [List.length_nil] at hs
    simp [execOp, ho, resolve, invoke, builtin, hd, hs, hrun, Result.andThen]
    exact hK _ _ (h v W (by simpa using hown) ⟨rfl, rfl, rfl, Nat.le_refl _, fun _ _ _ => rfl⟩)
  · obtain ⟨bb, bo, rfl, hr⟩ := hsrc hy
    have hpos : 0 < Y.length := List.length_pos_iff.2 hy
    refine wpList_append_lies W hgd d s 31 ho base 30 i0 _ 8 104 Tryz.underlying31 hi0 hz0 hz1 hz2 rfl (by omega) v X.length (flatD X) hd hown ⟨bb, bo, none⟩ Y.length cap (flatD Y) hs (by rw [flatD_len]) (fun j u hu => by rw [Addr.add_mid]; exact hr j u hu) (fun u hu => by
      obtain ⟨q, hq, e⟩ := List.getElem_of_mem hu
      obtain ⟨i, j, hi, hj, _, e2⟩ := flatD_inv Y q u (by rw [List.getElem?_eq_getElem hq, e])
      exact encZ_one _ _ (List.mem_of_getElem? e2)) hpos (by unfold maxLen; omega) (by omega) hb _ rfl ?_
    intro g cap' W' h1 h2 _ _
    refine h _ _ ?_ h2
    rw [List.length_append, flatD_app]
    exact h1

end Go.Proofs.YtniailfcmlongaaGreatDoor.Tr
/- 'append(l, more...)' of definitions, at an operation and at a step of a region that draws its order. -/
namespace Go.Proofs.YtniailfcmlongaaGreatDoor.Tr
open Go.RowKit

theorem wp_app_Ds {o : Oper} {a : Act} {W : World} {K : Act → World → Prop} {Q : Exit → Act → World → Prop} (d s : Operand) (ho : o.op = .call { callee := .builtin .append, args := #[d, s], argTypes := #[31, 31] })
    (base : Nat) (v : Value) (X Y : List Dz) (ad : Option Addr) (cap : Nat) (hd : a.eval d = v) (hs : a.eval s = .slice ad Y.length cap) (hown : W.ownsRow base 30 8 v X.length (flatD X)) (hsrc : Y ≠ [] → ∃ bb bo, ad = some ⟨bb, bo, none⟩ ∧ ∀ q u, (flatD Y)[q]? = some u → W.cell? ⟨bb, bo + q, none⟩ = some u) (hb : base ≤ W.heap.size) (hl : X.length + Y.length ≤ 1000000)
    (h : ∀ v' W', W'.ownsRow base 30 8 v' (X ++ Y).length (flatD (X ++ Y)) → W.grownBy W' v.ownBlock → (v'.ownBlock = v.ownBlock ∨ v'.ownBlock = some W.heap.size) → K (a.put o.dst v') W') : o.wp Tryz.prog a W K Q := by
  obtain ⟨i0, hi0, hz0, hz1, hz2⟩ := info_parts infoD
  by_cases hy : Y = []
  · subst hy
    have hl : ∀ (x : Addr), (loadCells x 0).run Tryz.prog W = .ok #[] W := fun x => by simpa using run_loadCells_list (P := Tryz.prog) W x [] (by simp)
    have hrun : (Builtin.append_ #[31, 31] o.type #[v, .slice ad 0 cap]).run Tryz.prog W = .ok v W := by
      rcases hown.2 with ⟨rfl, h00⟩ | ⟨g, cap', cur, rfl, _, _, hnc, _⟩
      · cases ad <;> simp [Builtin.append_, run_underlying Tryz.underlying31, sizeOf, typeInfo, hi0, Builtin.lenOf, Builtin.firstCells, hl]
      · cases ad <;> simp [Builtin.append_, run_underlying Tryz.underlying31, sizeOf, typeInfo, hi0, Builtin.lenOf, Builtin.firstCells, hnc, storeCells, hl]
    unfold Oper.wp
    simp only [List.length_nil] at hs
    simp [execOp, ho, resolve, invoke, builtin, hd, hs, hrun, Result.andThen]
    exact h v W (by simpa using hown) ⟨rfl, rfl, rfl, Nat.le_refl _, fun _ _ _ => rfl⟩ (.inl rfl)
  · obtain ⟨bb, bo, rfl, hr⟩ := hsrc hy
    have hpos : 0 < Y.length := List.length_pos_iff.2 hy
    refine wp_append_lies W d s 31 ho base 30 i0 _ 8 104 Tryz.underlying31 hi0 hz0 hz1 hz2 rfl (by omega) v X.length (flatD X) hd hown ⟨bb, bo, none⟩ Y.length cap (flatD Y) hs (by rw [flatD_len]) (fun j u hu => by rw [Addr.add_mid]; exact hr j u hu) (fun u hu => by
      obtain ⟨q, hq, e⟩ := List.getElem_of_mem hu
      obtain ⟨i, j, hi, hj, _, e2⟩ := flatD_inv Y q u (by rw [List.getElem?_eq_getElem hq, e])
      exact encZ_one _ _ (List.mem_of_getElem? e2)) hpos (by unfold maxLen; omega) (by omega) hb _ rfl ?_
    intro g cap' W' h1 h2 h3 _
    refine h _ _ ?_ h2 (h3.elim (fun e => .inl (by rw [e]; rfl)) (fun e => .inr (by rw [e]; rfl)))
    rw [List.length_append, flatD_app]
    exact h1
/-- The same at a step of a region that draws its order. -/
theorem step_app_Ds {ops : Array Oper} {o : Oper} {a : Act} {W : World} {K : Act → World → Prop} {Q : Exit → Act → World → Prop} {E : Prop} (hgd : o.guard = none) (d s : Operand) (ho : o.op = .call { callee := .builtin .append, args := #[d, s], argTypes := #[31, 31] })
    (base : Nat) (v : Value) (X Y : List Dz) (ad : Option Addr) (cap : Nat) (hd : a.eval d = v) (hs : a.eval s = .slice ad Y.length cap) (hown : W.ownsRow base 30 8 v X.length (flatD X)) (hsrc : Y ≠ [] → ∃ bb bo, ad = some ⟨bb, bo, none⟩ ∧ ∀ q u, (flatD Y)[q]? = some u → W.cell? ⟨bb, bo + q, none⟩ = some u) (hb : base ≤ W.heap.size) (hl : X.length + Y.length ≤ 1000000)
    (h : ∀ v' W', W'.ownsRow base 30 8 v' (X ++ Y).length (flatD (X ++ Y)) → W.grownBy W' v.ownBlock → (v'.ownBlock = v.ownBlock ∨ v'.ownBlock = some W.heap.size) → K (a.put o.dst v') W') :
    if Region.wanted o (yielded ops a.tmps) = true then Oper.wp Tryz.prog o a W K Q else E := by
  have hw : Region.wanted o (yielded ops a.tmps) = true := by simp [Region.wanted, hgd]
  rw [if_pos hw]
  exact wp_app_Ds d s ho base v X Y ad cap hd hs hown hsrc hb hl h
end Go.Proofs.YtniailfcmlongaaGreatDoor.Tr
