/- A change in memory: its sets and its groups; the contract of goes. -/
import Derived.Test.YtcpeebkfnnkjnaaDoorUpc
import Derived.Test.YtcpeebkfnnkjnaaDoorUdp
import Derived.Maps.OwnRows
namespace Go.Proofs.YtcpeebkfnnkjnaaDoor.Tr
open Go.RowKit Go.Maps

theorem zeroE (w : World) : (zeroValue 75).run Tryd.prog w = .ok (.agg #[]) w := by kernel_rfl
theorem zeroR (w : World) : (zeroValue 72).run Tryd.prog w = .ok (.slice none 0 0) w := by kernel_rfl
/-- The set at m has just these names. -/
def Gs (W : World) (m : Nat) (G : List Nm) : Prop := ∃ (n : Nat) (D : DataW Unit), n ≤ G.length ∧ W.ownsMap Tryd.prog 9 (unitElem (H := Unit)) m n D ∧ ∀ x, Maps.has D (.string x) = decide (x ∈ G)
theorem Gs.lt {W : World} {m : Nat} {G : List Nm} (h : Gs W m G) : m < W.heap.size := by
  obtain ⟨n, D, _, h, _⟩ := h
  exact h.lt
theorem Gs.fr {W W' : World} {m : Nat} {G : List Nm} {F : Nat → Prop} (h : Gs W m G) (f : Fr F W W') (hF : ¬ F m) : Gs W' m G := by
  obtain ⟨n, D, hn, hM, hT⟩ := h
  have hlt := hM.lt
  obtain ⟨es, clock, g1, g2⟩ := hM
  exact ⟨n, D, hn, ⟨es, clock, (f.block m hlt hF).trans g1, g2⟩, hT⟩
theorem Gs.made (W : World) : Gs (W.alloc (.map #[] 0)) W.heap.size [] := ⟨0, .map [], Nat.le_refl _, World.ownsMap_made _ _ _ _, fun x => by simp [Maps.has]⟩
theorem gs_add {W W' : World} {m n : Nat} {G : List Nm} {x : Nm} {D : DataW Unit} (hn : n ≤ G.length) (hM : W.ownsMap Tryd.prog 9 (unitElem (H := Unit)) m n D) (hT : ∀ x, Maps.has D (.string x) = decide (x ∈ G)) (h : W'.ownsMap Tryd.prog 9 (unitElem (H := Unit)) m (n + 1) (D.put (.string x) (.agg []))) : Gs W' m (G ++ [x]) := by
  refine ⟨n + 1, _, by rw [List.length_append]; simp; omega, h, fun y => ?_⟩
  by_cases e : y = x
  · subst e
    rw [has_put_same hM.isMap (keyLit _)]
    simp
  · rw [has_put_other (by intro e2; injection e2 with e2; exact e e2), hT y]
    simp [e]
abbrev ints (ns : List Nat) : List Int := ns.map (fun i : Nat => (i : Int))
/-- What a list of places reads as in a map. -/
def grD (zs : List Nat) : DataW Unit := if zs = [] then .nil else .slice (ChangeShapes.lits .i64 (ints zs)) []
def ofN (P : List (Nat × Nm)) (x : Nm) : List Nat := (P.filter (fun p => decide (p.2 = x))).map (·.1)
/-- The map at m tells of each name the places that were put under it. -/
def Gr (W : World) (m n : Nat) (P : List (Nat × Nm)) : Prop := ∃ D : DataW Unit, W.ownsGroups Tryd.prog 9 (m + 1) 3 .i64 m n D ∧ ∀ x, D.atKey (.string x) .nil = grD (ofN P x)
theorem groups_fr {W W' : World} {m n : Nat} {D : DataW Unit} {F : Nat → Prop} (h : W.ownsGroups Tryd.prog 9 (m + 1) 3 .i64 m n D) (f : Fr F W W') (hm : ¬ F m) (hF : ∀ k cur, F k → W.heap[k]? ≠ some (.cells cur 3 (0, 0))) : W'.ownsGroups Tryd.prog 9 (m + 1) 3 .i64 m n D := by
  obtain ⟨es, clock, hb, F0, hs, rfl, hbb, hlen, hap⟩ := h
  have hblt : m < W.heap.size := by
    rcases Nat.lt_or_ge m W.heap.size with hl | hl
    · exact hl
    · rw [Array.getElem?_eq_none hl] at hb; cases hb
  have hok : ∀ {v : Value} {zs : List Int}, W.ownsInts (m + 1) 3 .i64 v zs → W'.ownsInts (m + 1) 3 .i64 v zs := fun {v zs} ho => by
    refine ⟨own_fr ho.1 f (fun k hk hk2 => ?_), ho.2⟩
    rcases ho.1.2 with ⟨rfl, _⟩ | ⟨g, cap, cur, rfl, _, hg, _⟩
    · cases hk
    · cases hk
      exact hF _ _ hk2 hg
  have hst : ∀ x ∈ es.toList, ∀ z, rowElem (H := Unit) W (m + 1) 3 .i64 x.val = some z → rowElem W' (m + 1) 3 .i64 x.val = some z := fun x hx z hz => by
    obtain ⟨zs, ho, rfl⟩ := rowElem_inv hz
    exact rowElem_mk (hok ho)
  obtain ⟨F1, hmap, _⟩ := F0.stay hst
  refine ⟨es, clock, (f.block m hblt hm).trans hb, F1, hs, by rw [hmap], hbb, fun x hx zs ho => ?_, hap⟩
  obtain ⟨y, hy⟩ := F0.reads x hx
  obtain ⟨z, hz, _⟩ := WideElems.rd_val hy
  obtain ⟨zs0, ho0, _⟩ := rowElem_inv hz
  rw [ho.unique (hok ho0)]
  exact hlen x hx zs0 ho0
theorem Gr.fr {W W' : World} {m n : Nat} {P : List (Nat × Nm)} {F : Nat → Prop} (h : Gr W m n P) (f : Fr F W W') (hm : ¬ F m) (hF : ∀ k cur, F k → W.heap[k]? ≠ some (.cells cur 3 (0, 0))) : Gr W' m n P := by
  obtain ⟨D, h1, h2⟩ := h
  exact ⟨D, groups_fr h1 f hm hF, h2⟩
theorem Gr.lt {W : World} {m n : Nat} {P : List (Nat × Nm)} (h : Gr W m n P) : m < W.heap.size := by
  obtain ⟨D, ⟨es, clock, hb, _⟩, _⟩ := h
  rcases Nat.lt_or_ge m W.heap.size with hl | hl
  · exact hl
  · rw [Array.getElem?_eq_none hl] at hb; cases hb
theorem Gr.made (W : World) : Gr (W.alloc (.map #[] 0)) W.heap.size 0 [] := ⟨.map [], World.ownsGroups_made _ _ _ _ _, fun _ => rfl⟩
theorem groups_isMap {W : World} {m n : Nat} {D : DataW Unit} (h : W.ownsGroups Tryd.prog 9 (m + 1) 3 .i64 m n D) : IsMap D := by
  obtain ⟨es, clock, _, _, _, rfl, _⟩ := h
  exact ⟨_, rfl⟩
/-- What a look-up finds. -/
theorem grD_of {W : World} {B : Nat} {v : Value} {zs : List Int} {ns : List Nat} (ho : W.ownsInts B 3 .i64 v zs) (hat : grD ns = rowDatum .i64 v zs) : zs = ints ns := by
  unfold grD at hat
  rcases ho.datum (H := Unit) with ⟨h1, h2⟩ | h1
  · rw [h1] at hat
    split at hat
    · rename_i e; rw [e, h2]; rfl
    · cases hat
  · rw [h1] at hat
    split at hat
    · cases hat
    · injection hat with hat _
      exact (List.map_inj_right (f := fun n => (DataW.lit (Lit.int .i64 n) : DataW Unit)) (fun a b hab => by injection hab with hab; injection hab)).1 hat.symm
theorem ofN_snoc (P : List (Nat × Nm)) (i : Nat) (x y : Nm) : ofN (P ++ [(i, x)]) y = if x = y then ofN P y ++ [i] else ofN P y := by
  unfold ofN
  rw [List.filter_append, List.map_append]
  by_cases e : x = y
  · rw [if_pos e]; simp [e]
  · rw [if_neg e]; simp [e]
theorem gr_add {W W' : World} {m n : Nat} {P : List (Nat × Nm)} {x : Nm} {i : Nat} {D : DataW Unit} {v : Value} {zs : List Int} {B : Nat} (hM : W.ownsGroups Tryd.prog 9 (m + 1) 3 .i64 m n D) (hT : ∀ x, D.atKey (.string x) .nil = grD (ofN P x)) {W1 : World} (ho : W1.ownsInts B 3 .i64 v zs) (hz : zs = ints (ofN P x ++ [i]))
    (h : W'.ownsGroups Tryd.prog 9 (m + 1) 3 .i64 m (n + 1) (D.put (.string x) (rowDatum .i64 v zs))) : Gr W' m (n + 1) (P ++ [(i, x)]) := by
  refine ⟨_, h, fun y => ?_⟩
  rw [ofN_snoc]
  by_cases e : x = y
  · subst e
    rw [if_pos rfl, atKey_put_same (groups_isMap hM) (keyLit _), ho.datum_pos (by rw [hz]; simp), hz]
    unfold grD
    rw [if_neg (by simp)]
  · rw [if_neg e, atKey_put_other (by intro e2; injection e2 with e2; exact e e2.symm), hT y]
/-- A change's cells. -/
def chC (mo mf mr mg : Nat) : List Value := [.map (some mo), .map (some mf), .map (some mr), .map (some mg)]

set_option maxRecDepth 100000 in
set_option maxHeartbeats 2000000 in
theorem goes_any (w : World) (c mo mf mr mg : Nat) (G : List Nm) (x : Nm) (hB : Blk w c 59 (chC mo mf mr mg)) (hG : Gs w mg G) (hx : x.length ≤ lim) :
    Calls Tryd.prog 30 #[.pointer (some ⟨c, 0, none⟩), .string ⟨x.toArray⟩] w fun e w' => e = .returned (.bool (decide (x ∈ G))) ∧ Fr (fun _ => False) w w' := by
  have c3 := hB.cell 3
  simp only [chC, List.getElem?_cons_zero, List.getElem?_cons_succ] at c3
  obtain ⟨n, D, _, hM, hT⟩ := hG
  have HM := hid hM
  have HT := hid (hT x)
  have hkey := keyS hx
  clear hB hM hT
  go_enter Tryd.func30, Tryd.ntmps30
  go_wp2_with (at_lookup; refine Hid.out ?_)
  refine wpList_lookup_own_unit _ rfl _ _ 57 rfl 9 75 lawS Tryd.underlying57 (zeroE _) mg n D rfl HM.out _ _ rfl hkey ?_
  rw [HT.out]
  generalize hbd : decide (x ∈ G) = b
  have HBd := hid hbd
  clear hbd
  go_wp2_with fail
  go_ret
  exact ⟨by rw [HBd.out]; rfl, (Fr.refl _ _).alloc _⟩
end Go.Proofs.YtcpeebkfnnkjnaaDoor.Tr
