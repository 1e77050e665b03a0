/- The tables of the slow way, as the rows list them. -/
import Derived.Test.YtionmohglmbklaaGreatDoorLaf
import Derived.Test.YtionmohglmbklaaGreatDoorAsl
import Derived.ChangeSame
namespace Go.Proofs.YtionmohglmbklaaGreatDoor.Tr
open Go.RowKit Go.Lib

theorem spot_none {w : World} {a : Addr} {v : Value} (h : w.cell? a = some v) : a = ⟨a.block, a.off, none⟩ := by
  obtain ⟨b, o, s⟩ := a
  cases s with
  | none => rfl
  | some x =>
    unfold World.cell? at h
    simp at h
    split at h <;> simp at h

section
variable {H : Type} {enc : TypeId × Value → H} {P : Program} {w : World} {base : Nat} {sp : Nat → Bool} {held : Bool}
theorem lit_string {fuel : Nat} {t : TypeId} {cs : List Value} {z : List UInt8} {p : List MemPlace} (ht : P.underlying t = some .string) (h : DataW.trod enc P w base sp held fuel t cs = some (.lit (.string z), p)) : cs = [.string ⟨z.toArray⟩] := by
  cases fuel with
  | zero => simp [DataW.trod] at h
  | succ n =>
    unfold DataW.trod at h
    rw [ht] at h
    split at h <;> simp_all
    rw [← h.2.1]
/-- A slice whose elements are two cells each. -/
theorem open_row2 {t e : TypeId} {fuel : Nat} {cs : List Value} {ds : List (DataW H)} {p : List MemPlace} (ht : P.underlying t = some (.slice e)) (hc : P.cellsOf e = 2)
    (h : DataW.trod enc P w base sp held fuel t cs = some (.slice ds [], p)) :
    ∃ a cap, cs = [.slice (some a) ds.length cap] ∧ ∀ i d, ds[i]? = some d → ∃ v v' n q, w.cell? (a.add (i * 2)) = some v ∧ w.cell? ((a.add (i * 2)).add 1) = some v' ∧ DataW.trod enc P w base sp held n e [v, v'] = some (d, q) := by
  rcases DataW.trod_slice ht h with ⟨_, hx⟩ | ⟨a, len, cap, elems, rest, n, _, hcs, hx, _, hl, _, hlen, hel, _⟩
  · simp at hx
  · simp only [Prod.mk.injEq, DataW.slice.injEq] at hx
    obtain ⟨⟨rfl, _⟩, _⟩ := hx
    have el : (elems.map (·.1)).length = len := by simpa using hlen
    refine ⟨a, cap, by rw [el]; exact hcs, fun i d hd => ?_⟩
    have hi : i < len := by rw [← el]; exact (List.getElem?_eq_some_iff.1 hd).1
    have hE := hel i hi
    rw [hc] at hE
    rw [List.getElem?_map] at hd
    cases hy : elems[i]? with
    | none => simp [hy] at hd
    | some y =>
      rw [hy] at hE hd
      simp only [Option.map_some, Option.some.injEq] at hd
      simp only [Option.bind_eq_some_iff] at hE
      obtain ⟨c1, hc1, hy1⟩ := hE
      have e0 : (a.add (i * 2)).add 0 = a.add (i * 2) := by simp [Addr.add]
      have : ∃ c c', c1 = [c, c'] ∧ w.cell? (a.add (i * 2)) = some c ∧ w.cell? ((a.add (i * 2)).add 1) = some c' := by
        unfold World.cells? at hc1
        split at hc1
        · simp only [List.range_succ, List.range_zero, List.nil_append, List.cons_append, List.mapM_cons, List.mapM_nil, e0] at hc1
          cases hcc : w.cell? (a.add (i * 2)) with
          | none => simp [hcc] at hc1
          | some c =>
            cases hcd : w.cell? ((a.add (i * 2)).add 1) with
            | none => simp [hcc, hcd] at hc1
            | some c' => simp [hcc, hcd] at hc1; exact ⟨c, c', hc1.symm, rfl, rfl⟩
        · cases hc1
      obtain ⟨c, c', rfl, h1, h2⟩ := this
      exact ⟨c, c', n, y.2, h1, h2, by rw [hy1, ← hd]⟩
end

/-- The cheats, as the table has them. -/
def chT (k : Nat) : Nat × List UInt8 := Go.Pinned.cheatRows.getD k (0, [])
def cheatB (k D : Nat) (C : List UInt8) : Bool :=
  C.all (fun c => decide (48 ≤ c.toNat ∧ c.toNat ≤ 57)) && ((C.getLast?.map (fun c => decide (49 ≤ c.toNat))).getD true) && decide (dval C = 5 ^ k) && decide (C.length + D = k + 1) && decide (2 ^ k < 10 ^ D) && decide (10 ^ D ≤ 2 ^ k * 10) && decide (1 ≤ D) && decide (D ≤ 19) && decide (C.length ≤ 42)
theorem cheat_of {k D : Nat} {C : List UInt8} (h : cheatB k D C = true) : Cheat k D C := by
  unfold cheatB at h
  simp only [Bool.and_eq_true, decide_eq_true_eq, List.all_eq_true] at h
  obtain ⟨⟨⟨⟨⟨⟨⟨⟨h1, h2⟩, h3⟩, h4⟩, h5⟩, h6⟩, h7⟩, h8⟩, h9⟩ := h
  refine ⟨h1, ?_, h3, h4, h5, h6, h7, h8, h9⟩
  intro c hc
  rw [hc] at h2
  simpa using h2
theorem chT_ok : CTok chT := by
  intro k h1 h2
  have : ∀ k : Fin 61, 1 ≤ k.1 → cheatB k.1 (chT k.1).1 (chT k.1).2 = true := by decide +kernel
  exact cheat_of (this ⟨k, by omega⟩ h1)

theorem lch_of {W : World} {l : List (String × DataW Unit)} (h : laidMet Tryz.prog l W) (m : ("internal/strconv.leftcheats", Rows.laid_internal_strconv_leftcheats) ∈ l) : Lch W chT := by
  have g3 : Tryz.prog.globalNamed "internal/strconv.leftcheats" = some 12 := by kernel_rfl
  have y3 : (Tryz.prog.globals[12]?).map (·.type) = some 254 := by kernel_rfl
  have c2 : Tryz.prog.cellsOf 253 = 2 := by kernel_rfl
  have c1 : Tryz.prog.cellsOf 3 = 1 := by kernel_rfl
  have c9 : Tryz.prog.cellsOf 9 = 1 := by kernel_rfl
  have hlen : Go.Pinned.cheatRows.length = 61 := by decide +kernel
  obtain ⟨g, t, cs, fuel, p, hg, ht, hv, hr⟩ := laidMet.reads h m
  obtain rfl := Option.some.inj (g3.symm.trans hg)
  obtain rfl := Option.some.inj (y3.symm.trans ht)
  obtain ⟨a, cap, hcs, hcell⟩ := open_row2 (ds := Go.Pinned.cheatRows.map fun x => .agg [.lit (.int .i64 x.1), .lit (.string x.2)]) Tryz.underlying254 c2 hr
  have hat : ∀ k, k < 61 → ∃ v v' n q, W.cell? (a.add (k * 2)) = some v ∧ W.cell? ((a.add (k * 2)).add 1) = some v' ∧ DataW.trod (fun _ => ()) Tryz.prog W 0 (fun _ => true) false n 253 [v, v'] = some (.agg [.lit (.int .i64 (chT k).1), .lit (.string (chT k).2)], q) := by
    intro k hk
    refine hcell k _ ?_
    have hx : Go.Pinned.cheatRows[k]? = some (chT k) := by
      unfold chT
      rw [List.getD_eq_getElem?_getD, List.getElem?_eq_getElem (by rw [hlen]; exact hk)]; rfl
    rw [List.getElem?_map, hx]; rfl
  have ha : a = ⟨a.block, a.off, none⟩ := by
    obtain ⟨v, _, _, _, hc, _, _⟩ := hat 0 (by omega)
    exact spot_none (by simpa [Addr.add] using hc)
  have c := World.var?_cell hg hv 0
  refine ⟨chT_ok, a.block, a.off, cap, ?_, ?_⟩
  · rw [c, ← Array.getElem?_toList, hcs, ← ha]
    simp [hlen]
  · intro k h1 h2
    obtain ⟨v, v', n, q, hc, hc', hd⟩ := hat k (by omega)
    obtain ⟨q0, q1, n', hx, hl, r0, r1⟩ := Go.ChangeShapes.trod_struct2 Tryz.underlying253 hd
    simp only [Prod.mk.injEq, DataW.agg.injEq, List.cons.injEq, and_true] at hx
    obtain ⟨⟨e0, e1⟩, _⟩ := hx
    obtain ⟨d0, p0⟩ := q0
    obtain ⟨d1, p1⟩ := q1
    simp only at e0 e1
    subst e0 e1
    have f0 := lit_int Tryz.underlying3 (show DataW.trod (fun _ => ()) Tryz.prog W 0 (fun _ => true) false n' 3 (([v, v'].drop 0).take (Tryz.prog.cellsOf 3)) = _ from r0)
    have f1 := lit_string Tryz.underlying9 (show DataW.trod (fun _ => ()) Tryz.prog W 0 (fun _ => true) false n' 9 (([v, v'].drop 1).take (Tryz.prog.cellsOf 9)) = _ from r1)
    rw [c1] at f0
    rw [c9] at f1
    simp at f0 f1
    subst f0 f1
    have ea : a.add (k * 2) = ⟨a.block, a.off + k * 2, none⟩ := if_neg (by omega)
    rw [ea] at hc hc'
    exact ⟨hc, by simpa [Addr.add] using hc'⟩

theorem fbt_of {W : World} {l : List (String × DataW Unit)} (h : laidMet Tryz.prog l W) (m1 : ("internal/strconv.leftcheats", Rows.laid_internal_strconv_leftcheats) ∈ l) (m2 : ("internal/strconv.float64info", Rows.laid_internal_strconv_float64info) ∈ l) (m3 : ("internal/strconv.powtab", Rows.laid_internal_strconv_powtab) ∈ l) : FbT W chT := by
  have g2 : Tryz.prog.globalNamed "internal/strconv.float64info" = some 6 := by kernel_rfl
  have y2 : (Tryz.prog.globals[6]?).map (·.type) = some 188 := by kernel_rfl
  have g3 : Tryz.prog.globalNamed "internal/strconv.powtab" = some 8 := by kernel_rfl
  have y3 : (Tryz.prog.globals[8]?).map (·.type) = some 39 := by kernel_rfl
  have cu : Tryz.prog.cellsOf 186 = 1 := by kernel_rfl
  have ci : Tryz.prog.cellsOf 3 = 1 := by kernel_rfl
  have hinfo : W.cell? ⟨6, 0, none⟩ = some (.int .u64 52) ∧ W.cell? ⟨6, 1, none⟩ = some (.int .u64 11) ∧ W.cell? ⟨6, 2, none⟩ = some (.int .i64 (-1023)) := by
    obtain ⟨g, t, cs, fuel, p, hg, ht, hv, hr⟩ := laidMet.reads h m2
    obtain rfl := Option.some.inj (g2.symm.trans hg)
    obtain rfl := Option.some.inj (y2.symm.trans ht)
    obtain ⟨q0, q1, q2, n, hx, hl, r0, r1, r2⟩ := Go.Deep.trod_struct3 Tryz.underlying188 hr
    simp only [Rows.laid_internal_strconv_float64info, Prod.mk.injEq, DataW.agg.injEq, List.cons.injEq, and_true] at hx
    obtain ⟨⟨e0, e1, e2⟩, _⟩ := hx
    obtain ⟨d0, p0⟩ := q0
    obtain ⟨d1, p1⟩ := q1
    obtain ⟨d2, p2⟩ := q2
    simp only at e0 e1 e2
    subst e0 e1 e2
    have f0 := lit_int (z := 52) Tryz.underlying186 (show DataW.trod (fun _ => ()) Tryz.prog W 0 (fun _ => true) false n 186 ((cs.toList.drop 0).take (Tryz.prog.cellsOf 186)) = _ from r0)
    have f1 := lit_int (z := 11) Tryz.underlying186 (show DataW.trod (fun _ => ()) Tryz.prog W 0 (fun _ => true) false n 186 ((cs.toList.drop 1).take (Tryz.prog.cellsOf 186)) = _ from r1)
    have f2 := lit_int (z := -1023) Tryz.underlying3 (show DataW.trod (fun _ => ()) Tryz.prog W 0 (fun _ => true) false n 3 ((cs.toList.drop 2).take (Tryz.prog.cellsOf 3)) = _ from r2)
    rw [cu] at f0 f1
    rw [ci] at f2
    have x0 := congrArg (·[0]?) f0
    have x1 := congrArg (·[0]?) f1
    have x2 := congrArg (·[0]?) f2
    simp only [List.getElem?_take, List.getElem?_drop] at x0 x1 x2
    refine ⟨?_, ?_, ?_⟩
    · rw [World.var?_cell hg hv 0, ← Array.getElem?_toList]; simpa using x0
    · rw [World.var?_cell hg hv 1, ← Array.getElem?_toList]; simpa using x1
    · rw [World.var?_cell hg hv 2, ← Array.getElem?_toList]; simpa using x2
  refine ⟨lch_of h m1, ?_, hinfo.1, hinfo.2.1, hinfo.2.2⟩
  obtain ⟨g, t, cs, fuel, p, hg, ht, hv, hr⟩ := laidMet.reads h m3
  obtain rfl := Option.some.inj (g3.symm.trans hg)
  obtain rfl := Option.some.inj (y3.symm.trans ht)
  obtain ⟨a, cap, hcs, hle, hcell⟩ := open_row Tryz.underlying39 ci hr
  have hat : ∀ i, i < 9 → ∃ v n q, W.cell? (a.add i) = some v ∧ DataW.trod (fun _ => ()) Tryz.prog W 0 (fun _ => true) false n 3 [v] = some (.lit (.int .i64 (powN i : Int)), q) := by
    intro i hi
    refine hcell i _ ?_
    match i, hi with
    | 0, _ => rfl
    | 1, _ => rfl
    | 2, _ => rfl
    | 3, _ => rfl
    | 4, _ => rfl
    | 5, _ => rfl
    | 6, _ => rfl
    | 7, _ => rfl
    | 8, _ => rfl
    | i + 9, hi => omega
  have ha : a = ⟨a.block, a.off, none⟩ := by
    obtain ⟨v, _, _, hc, _⟩ := hat 0 (by omega)
    exact spot_none (by simpa [Addr.add] using hc)
  have c := World.var?_cell hg hv 0
  refine ⟨a.block, a.off, cap, ?_, ?_⟩
  · rw [c, ← Array.getElem?_toList, hcs, ← ha]; rfl
  · intro i hi
    obtain ⟨v, n, q, hc, hd⟩ := hat i hi
    have e := lit_int Tryz.underlying3 hd
    simp only [List.cons.injEq, and_true] at e
    rw [← e]
    by_cases h0 : i = 0
    · subst h0
      rw [Nat.add_zero, ← ha]
      simpa [Addr.add] using hc
    · have ea : a.add i = ⟨a.block, a.off + i, none⟩ := if_neg h0
      rw [← ea]; exact hc

end Go.Proofs.YtionmohglmbklaaGreatDoor.Tr
