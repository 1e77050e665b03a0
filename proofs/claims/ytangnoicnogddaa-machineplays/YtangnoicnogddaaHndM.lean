import Derived.Laws.Concat
import Derived.Test.YtangnoicnogddaaPthM
import Derived.Test.YtangnoicnogddaaBase
/- Appending bytes, and bytes as strings. -/
namespace Go.Proofs.Ytangnoicnogddaa.Tr
open Go.RowKit

theorem bs_at (l : List UInt8) (j : Nat) (h : j < l.length) : (bs l)[j]? = some (bv l[j]) := by
  unfold bs; rw [List.getElem?_map, List.getElem?_eq_getElem h]; rfl

theorem Src.nil (w : World) (ad : Option Addr) : Src w ad [] := fun h => absurd rfl h
theorem Src.fr {w w' : World} {ad : Option Addr} {b : List UInt8} (h : Src w ad b) (f : Fr (fun _ => False) w w') : Src w' ad b := by
  intro hb
  obtain ⟨bb, bo, e, hr⟩ := h hb
  refine ⟨bb, bo, e, fun j v hv => ?_⟩
  have hc := hr j v hv
  have hlt := World.block_lt_of_cell? w ⟨bb, bo + j, none⟩ hc
  rw [World.cell?_of_block (w := w) (f.block bb hlt (fun h => h))]
  exact hc

theorem info5 : (Try.prog.info? 5).map (fun i => (i.zero, i.size, i.bytes)) = some (some (.int .u8 0), 1, 1) := by kernel_rfl

/-- 'append(v, s...)' of bytes that may be none, onto a row of the call's own. -/
theorem wpList_append_bytes {ops : Array Oper} {rest : List Oper} {o : Oper} {a : Act} {W : World} {Q : Exit → Act → World → Prop} (hgd : o.guard = none) (d s : Operand)
    (ho : o.op = .call { callee := .builtin .append, args := #[d, s], argTypes := #[37, 37] }) (base n : Nat) (v : Value) (xs : List Value) (b : List UInt8) (ad : Option Addr) (cap : Nat)
    (hd : a.eval d = v) (hs : a.eval s = .slice ad b.length cap) (hown : W.ownsRow base 5 1 v n xs) (hbase : base ≤ W.heap.size) (hsz : n + b.length ≤ 140737488355328)
    (hsrc : b ≠ [] → ∃ bb bo, ad = some ⟨bb, bo, none⟩ ∧ W.rangeAt bb bo (bs b))
    (h : ∀ v' W', W'.ownsRow base 5 1 v' (n + b.length) (xs ++ bs b) → W.grownBy W' v.ownBlock → wpList Try.prog ops Q rest (a.put o.dst v') W') : wpList Try.prog ops Q (o :: rest) a W := by
  obtain ⟨i0, hi0, hz0, hz1, hz2⟩ := info_parts info5
  by_cases hb : b = []
  · subst hb
    have hl : ∀ (x : Addr), (loadCells x 0).run Try.prog W = .ok #[] W := fun x => by simpa using run_loadCells_list (P := Try.prog) W x [] (by simp)
    have hrun : (Builtin.append_ #[37, 37] o.type #[v, .slice ad 0 cap]).run Try.prog W = .ok v W := by
      rcases hown.2 with ⟨rfl, rfl⟩ | ⟨g, cap', cur, rfl, _, _, hnc, _⟩
      · cases ad <;> simp [Builtin.append_, run_underlying Try.underlying37, sizeOf, typeInfo, hi0, Builtin.lenOf, Builtin.firstCells, hl]
      · cases ad <;> simp [Builtin.append_, run_underlying Try.underlying37, sizeOf, typeInfo, hi0, Builtin.lenOf, Builtin.firstCells, hnc, storeCells, hl]
    refine wpList_plain hgd fun K hK => ?_
    unfold Oper.wp
    simp only [List.length_nil] at hs
    simp [execOp, ho, resolve, invoke, builtin, hd, hs, hrun, Result.andThen]
    exact hK _ _ (h v W (by simpa [bs] using hown) ⟨rfl, rfl, rfl, Nat.le_refl _, fun _ _ _ => rfl⟩)
  · obtain ⟨bb, bo, rfl, hr⟩ := hsrc hb
    have hpos : 0 < b.length := List.length_pos_iff.2 hb
    refine wpList_append_lies W hgd d s 37 ho base 5 i0 _ 1 1 Try.underlying37 hi0 hz0 hz1 hz2 rfl (by omega) v n xs hd hown ⟨bb, bo, none⟩ b.length cap (bs b) hs (by rw [bs_length]; omega) (fun j u hu => by rw [Addr.add_mid]; exact hr j u hu) (bs_one b) hpos (by unfold maxLen; omega) (by omega) hbase _ rfl ?_
    intro g cap' W' h1 h2 _ _
    exact h _ _ h1 h2

theorem owned_range {w : World} {base n : Nat} {v : Value} {b : List UInt8} (h : w.ownsRow base 5 1 v n (bs b)) (hb : b ≠ []) : ∃ g cap, v = .slice (some ⟨g, 0, none⟩) b.length cap ∧ base ≤ g ∧ g < w.heap.size ∧ w.rangeAt g 0 (bs b) := by
  have hl : b.length = n := by have := h.1; rw [bs_length] at this; omega
  subst hl
  obtain ⟨g, cap, rfl, h1, h2⟩ := h.form (List.length_pos_iff.2 hb)
  refine ⟨g, cap, rfl, h1, h2, fun j u hu => ?_⟩
  have := h.cells rfl j u hu
  rw [Addr.add_mid] at this
  exact this
theorem owned_form {w : World} {base n : Nat} {v : Value} {b : List UInt8} (h : w.ownsRow base 5 1 v n (bs b)) : ∃ ad cap, v = .slice ad b.length cap := by
  have hl : b.length = n := by have := h.1; rw [bs_length] at this; omega
  subst hl
  exact own_len h

/-- A row of the call's own, which has something. -/
theorem owned_src {w : World} {base n : Nat} {v : Value} {b : List UInt8} (h : w.ownsRow base 5 1 v n (bs b)) (hb : b ≠ []) :
    ∃ g cap cur, v = .slice (some ⟨g, 0, none⟩) b.length cap ∧ base ≤ g ∧ b.length ≤ cap ∧ cap ≤ maxLen ∧ w.heap[g]? = some (.cells cur 5 (0, 0)) ∧ cur.size = cap ∧ w.rangeAt g 0 (bs b) := by
  have hl : b.length = n := by have := h.1; rw [bs_length] at this; omega
  subst hl
  obtain ⟨g', cap', e', h1, h2, hr⟩ := owned_range h hb
  rcases h.2 with ⟨h0, h00⟩ | ⟨g, cap, cur, hv, hg, hc, hle, hm, hs, ht⟩
  · exact absurd (List.length_eq_zero_iff.1 h00) hb
  · rw [hv] at e'
    simp only [Value.slice.injEq, Option.some.injEq, Addr.mk.injEq] at e'
    obtain ⟨⟨rfl, _⟩, _, rfl⟩ := e'
    exact ⟨g, cap, cur, hv, hg, hle, hm, hc, by omega, hr⟩

theorem conv_bytes {w : World} {ad : Option Addr} {b : List UInt8} (h : Src w ad b) (cap : Nat) : (convert 37 9 (.slice ad b.length cap)).run Try.prog w = .ok (.string ⟨b.toArray⟩) w := by
  by_cases hb : b = []
  · subst hb
    cases ad with
    | none =>
      rw [run_convert_bytes_string w 37 9 5 none _ cap Try.underlying37 Try.underlying5 Try.underlying9]
      simp [Conv.bytesToString]
      rfl
    | some a => exact run_convert_bytes_back (P := Try.prog) w 37 9 5 a cap [] Try.underlying37 Try.underlying5 Try.underlying9 (fun j hj => by simp at hj)
  · obtain ⟨bb, bo, rfl, hr⟩ := h hb
    exact run_convert_bytes_back (P := Try.prog) w 37 9 5 ⟨bb, bo, none⟩ cap b Try.underlying37 Try.underlying5 Try.underlying9 (fun j hj => by
      rw [Addr.add_mid]; exact hr j _ (bs_at b j hj))

end Go.Proofs.Ytangnoicnogddaa.Tr
/- Entries in memory; the contracts of mayPath, mayBe and of the document's 'one'. -/
namespace Go.Proofs.Ytangnoicnogddaa.Tr
open Go.RowKit

/-- An entry's three values: the bytes lie at ad. -/
structure EntV (w : World) (x : Ent) (ad : Option Addr) (cap : Nat) : Prop where
  src : Src w ad x.data
  cap : x.data.length ≤ cap
  len : x.data.length ≤ 140737488351232
  path : x.path.length ≤ 140737488351232
  k0 : -9223372036854775808 ≤ x.kind
  k1 : x.kind ≤ 9223372036854775807
theorem EntV.fr {w w' : World} {x : Ent} {ad : Option Addr} {cap : Nat} (h : EntV w x ad cap) (f : Fr (fun _ => False) w w') : EntV w' x ad cap :=
  { h with src := h.src.fr f }
abbrev entV (x : Ent) (ad : Option Addr) (cap : Nat) : Value := .agg #[.string ⟨x.path.toArray⟩, .int .i64 x.kind, .slice ad x.data.length cap]

theorem str_cat (a b : List UInt8) : (ByteArray.mk a.toArray) ++ (ByteArray.mk b.toArray) = ⟨(a ++ b).toArray⟩ := by
  apply ByteArray.ext
  simp

/-- May an entry have this path? -/
def pathOk (p : List UInt8) : Bool := decide (p.length ≤ 120) && (pathN (47 :: p)).2 && decide (1 ≤ (pathN (47 :: p)).1.length) && decide ((pathN (47 :: p)).1.length ≤ 4)

set_option maxRecDepth 100000 in
set_option maxHeartbeats 1000000 in
theorem mayPath_any (w : World) (p : List UInt8) : Calls Try.prog 79 #[.string ⟨p.toArray⟩] w fun e w' => e = .returned (.bool (pathOk p)) ∧ Fr (fun _ => False) w w' := by
  by_cases h1 : 120 < p.length
  · have hn : Hid (pathOk p = false) := by unfold Hid pathOk; rw [decide_eq_false (by omega)]; rfl
    have h1' : (120 : Int) < (p.length : Int) := by omega
    go_enter Try.func79, Try.ntmps79
    go_wp2
    go_ret
    exact ⟨by rw [hn.out]; rfl, Fr.refl _ _⟩
  have h1' : ¬ (120 : Int) < (p.length : Int) := by omega
  have HP := hid (path_any w (47 :: p))
  have HO : Hid (pathOk p = ((dpath (47 :: p)).2 && decide (1 ≤ (dpath (47 :: p)).1.length) && decide ((dpath (47 :: p)).1.length ≤ 4))) := by
    unfold Hid pathOk
    rw [decide_eq_true (by omega), Bool.true_and]
    cases hb : (pathN (47 :: p)).2 with
    | true => rw [dpath_yes _ hb, hb]
    | false => rw [dpath_no _ hb]; rfl
  generalize pathOk p = r at *
  generalize dpath (47 :: p) = d at *
  obtain ⟨L, b⟩ := d
  go_enter Try.func79, Try.ntmps79
  go_wp2_with fail
  rw [str_cat [47] p]
  refine HP.out.mono ?_
  rintro e w1 ⟨v, rfl, hown, hF⟩
  have HF := hid hF
  obtain ⟨va, vc, rfl⟩ := own_len hown
  clear hown hF HP h1'
  simp only at *
  cases b with
  | false =>
    go_wp2
    go_ret
    exact ⟨by rw [HO.out]; rfl, HF.out⟩
  | true =>
    by_cases hl : 1 ≤ L.length
    · have hl' : ((L.length : Nat) : Int) ≥ 1 := by omega
      go_wp2
      all_goals
        go_ret
        refine ⟨?_, HF.out⟩
        rw [HO.out]
        simp [hl]
      all_goals omega
    · have hl' : ¬ ((L.length : Nat) : Int) ≥ 1 := by omega
      go_wp2
      go_ret
      exact ⟨by rw [HO.out]; simp [hl], HF.out⟩

theorem mayBe_oneB (x : Ent) : oneB x = (pathOk x.path && decide (x.data.length ≤ 2048) && (if x.kind = 3 then (pathN x.data).2 else decide (x.kind = 1))) := by
  unfold oneB pathOk
  cases decide (x.path.length ≤ 120) <;> cases decide (x.data.length ≤ 2048) <;> cases (pathN (47 :: x.path)).2 <;> cases decide (1 ≤ (pathN (47 :: x.path)).1.length) <;> cases decide ((pathN (47 :: x.path)).1.length ≤ 4) <;> rfl

set_option maxRecDepth 100000 in
set_option maxHeartbeats 1000000 in
theorem mayBe_any (w : World) (x : Ent) (ad : Option Addr) (cap : Nat) (hx : EntV w x ad cap) : Calls Try.prog 63 #[entV x ad cap] w fun e w' => e = .returned (.bool (oneB x)) ∧ Fr (fun _ => False) w w' := by
  have HO := hid (mayBe_oneB x)
  have HX := hid hx
  generalize oneB x = r at *
  obtain ⟨p, k, d⟩ := x
  simp only [entV] at *
  clear hx
  go_enter Try.func63, Try.ntmps63
  go_wp2_with fail
  refine (mayPath_any _ p).mono ?_
  rintro e w1 ⟨rfl, hF⟩
  have hB := hF.blk (Blk.new w 39 [.string ⟨p.toArray⟩, .int .i64 k, .slice ad d.length cap]) (fun h => h)
  have HF : Hid (Fr (fun _ => False) w w1) := ((Fr.refl _ w).alloc _).trans hF (fun _ h => h.elim)
  have c1 := hB.cell 1
  have c2 := hB.cell 2
  simp only [List.getElem?_cons_zero, List.getElem?_cons_succ] at c1 c2
  clear hF hB
  cases hp : pathOk p with
  | false =>
    go_wp2
    go_ret
    exact ⟨by rw [HO.out, hp]; rfl, HF.out⟩
  | true =>
    by_cases hd : 2048 < d.length
    · have hd' : (2048 : Int) < ((d.length : Nat) : Int) := by omega
      go_wp2
      go_ret
      exact ⟨by rw [HO.out, decide_eq_false (show ¬ d.length ≤ 2048 by omega)]; simp, HF.out⟩
    have hd' : ¬ (2048 : Int) < ((d.length : Nat) : Int) := by omega
    have HO2 : Hid (r = if k = 3 then (pathN d).2 else decide (k = 1)) := by
      unfold Hid; rw [HO.out, hp, decide_eq_true (show d.length ≤ 2048 by omega)]; simp
    clear HO hp
    by_cases h1 : k = 1
    · subst h1
      go_wp2
      go_ret
      exact ⟨by rw [HO2.out]; simp, HF.out⟩
    have h1' : (k == 1) = false := by simpa using h1
    by_cases h3 : k = 3
    · subst h3
      have hcv := conv_bytes (HX.out.fr HF.out).src cap
      simp only at hcv
      have HP := hid (path_any w1 d)
      have HO3 : Hid (r = (dpath d).2) := by unfold Hid; rw [HO2.out, dpath_2]; simp
      clear HO2
      generalize dpath d = q at *
      obtain ⟨L, b⟩ := q
      go_wp2_with fail
      refine HP.out.mono ?_
      rintro e w2 ⟨v, rfl, hown, hF2⟩
      have HF2 : Hid (Fr (fun _ => False) w w2) := HF.out.trans hF2 (fun _ h => h.elim)
      obtain ⟨va, vc, rfl⟩ := own_len hown
      clear hown hF2 HP
      go_wp2
      go_ret
      exact ⟨by rw [HO3.out]; rfl, HF2.out⟩
    have h3' : (k == 3) = false := by simpa using h3
    go_wp2
    go_ret
    exact ⟨by rw [HO2.out, if_neg h3, decide_eq_false h1]; rfl, HF.out⟩

set_option maxRecDepth 100000 in
set_option maxHeartbeats 1000000 in
theorem one_any (w : World) (x : Ent) (ad : Option Addr) (cap : Nat) (hx : EntV w x ad cap) : Calls Try.prog 76 #[entV x ad cap] w fun e w' => e = .returned (.bool (oneB x)) ∧ Fr (fun _ => False) w w' := by
  have HX := hid hx
  obtain ⟨p, k, d⟩ := x
  simp only [entV] at *
  clear hx
  have HW : Hid (Fr (fun _ => False) w (w.alloc (.cells #[.string ⟨p.toArray⟩, .int .i64 k, .slice ad d.length cap] 39))) := (Fr.refl _ w).alloc _
  by_cases h1 : 120 < p.length
  · have hn : Hid (oneB ⟨p, k, d⟩ = false) := by unfold Hid oneB; rw [decide_eq_false (show ¬ p.length ≤ 120 by omega)]; rfl
    have h1' : (120 : Int) < (p.length : Int) := by omega
    go_enter Try.func76, Try.ntmps76
    go_wp2
    go_ret
    exact ⟨by rw [hn.out]; rfl, HW.out⟩
  have h1' : ¬ (120 : Int) < (p.length : Int) := by omega
  by_cases hd : 2048 < d.length
  · have hn : Hid (oneB ⟨p, k, d⟩ = false) := by unfold Hid oneB; rw [decide_eq_false (show ¬ d.length ≤ 2048 by omega)]; simp
    have hd' : (2048 : Int) < ((d.length : Nat) : Int) := by omega
    go_enter Try.func76, Try.ntmps76
    go_wp2
    go_ret
    exact ⟨by rw [hn.out]; rfl, HW.out⟩
  have hd' : ¬ (2048 : Int) < ((d.length : Nat) : Int) := by omega
  have HO : Hid (oneB ⟨p, k, d⟩ = ((pathN (47 :: p)).2 && decide (1 ≤ (pathN (47 :: p)).1.length) && decide ((pathN (47 :: p)).1.length ≤ 4) && (if k = 3 then (pathN d).2 else decide (k = 1)))) := by
    unfold Hid oneB
    rw [decide_eq_true (show p.length ≤ 120 by omega), decide_eq_true (show d.length ≤ 2048 by omega)]; rfl
  generalize oneB ⟨p, k, d⟩ = r at *
  have HP := hid (rpath_any (w.alloc (.cells #[.string ⟨p.toArray⟩, .int .i64 k, .slice ad d.length cap] 39)) (47 :: p))
  generalize pathN (47 :: p) = q at *
  obtain ⟨L, b⟩ := q
  go_enter Try.func76, Try.ntmps76
  go_wp2_with fail
  rw [str_cat [47] p]
  refine HP.out.mono ?_
  rintro e w1 ⟨v, rfl, hown, hF⟩
  have hB := hF.blk (Blk.new w 39 [.string ⟨p.toArray⟩, .int .i64 k, .slice ad d.length cap]) (fun h => h)
  have HF : Hid (Fr (fun _ => False) w w1) := HW.out.trans hF (fun _ h => h.elim)
  have c1 := hB.cell 1
  have c2 := hB.cell 2
  simp only [List.getElem?_cons_zero, List.getElem?_cons_succ] at c1 c2
  obtain ⟨va, vc, rfl⟩ := own_len hown
  clear hown hF hB HP h1' HW
  simp only at *
  cases b with
  | false =>
    go_wp2
    go_ret
    exact ⟨by rw [HO.out]; rfl, HF.out⟩
  | true =>
    by_cases hl : L.length < 1
    · have hl' : ((L.length : Nat) : Int) < 1 := by omega
      go_wp2
      go_ret
      exact ⟨by rw [HO.out, decide_eq_false (show ¬ 1 ≤ L.length by omega)]; rfl, HF.out⟩
    have hl' : ¬ ((L.length : Nat) : Int) < 1 := by omega
    by_cases hm : 4 < L.length
    · have hm' : (4 : Int) < ((L.length : Nat) : Int) := by omega
      go_wp2
      go_ret
      exact ⟨by rw [HO.out, decide_eq_false (show ¬ L.length ≤ 4 by omega)]; simp, HF.out⟩
    have hm' : ¬ (4 : Int) < ((L.length : Nat) : Int) := by omega
    have HO2 : Hid (r = if k = 3 then (pathN d).2 else decide (k = 1)) := by
      unfold Hid; rw [HO.out, decide_eq_true (show 1 ≤ L.length by omega), decide_eq_true (show L.length ≤ 4 by omega)]; rfl
    clear HO
    by_cases h3 : k = 3
    · subst h3
      have hcv := conv_bytes (HX.out.fr HF.out).src cap
      simp only at hcv
      have HP := hid (rpath_any w1 d)
      have HO3 : Hid (r = (pathN d).2) := by unfold Hid; rw [HO2.out]; simp
      clear HO2
      generalize pathN d = q at *
      obtain ⟨L2, b⟩ := q
      go_wp2_with fail
      refine HP.out.mono ?_
      rintro e w2 ⟨v, rfl, hown, hF2⟩
      have HF2 : Hid (Fr (fun _ => False) w w2) := HF.out.trans hF2 (fun _ h => h.elim)
      obtain ⟨va2, vc2, rfl⟩ := own_len hown
      clear hown hF2 HP
      go_wp2
      go_ret
      exact ⟨by rw [HO3.out]; rfl, HF2.out⟩
    have h3' : (k == 3) = false := by simpa using h3
    by_cases h1 : k = 1
    · subst h1
      go_wp2
      go_ret
      exact ⟨by rw [HO2.out]; rfl, HF.out⟩
    have h1' : (k == 1) = false := by simpa using h1
    go_wp2
    go_ret
    exact ⟨by rw [HO2.out, if_neg h3, decide_eq_false h1]; rfl, HF.out⟩

end Go.Proofs.Ytangnoicnogddaa.Tr
/- Does a text begin with another one? -/
namespace Go.Proofs.Ytangnoicnogddaa.Tr
open Go.RowKit

set_option maxRecDepth 100000 in
set_option maxHeartbeats 1000000 in
theorem hpx0_any (s p : ByteArray) (w : World) : Calls Try.prog 91 #[.string s, .string p] w fun e w' => e = .returned (.bool (Lib.hasPrefix s.data.toList p.data.toList)) ∧ w' = w := by
  obtain ⟨⟨s⟩⟩ := s
  obtain ⟨⟨p⟩⟩ := p
  have hsz : ∀ l : List UInt8, (ByteArray.mk l.toArray).size = l.length := fun l => rfl
  by_cases h : p.length ≤ s.length
  · have h1 : ((s.length : Nat) : Int) ≥ ((p.length : Nat) : Int) := by omega
    have hE : Hid (((ByteArray.mk s.toArray).extract 0 p.length).toList = s.take p.length) := by
      unfold Hid
      rw [ext_sub s 0 p.length, ByteArray.toList_eq]
      simp [sub]
    have HR : Hid (Lib.hasPrefix s p = (s.take p.length == p)) := by
      unfold Hid
      rw [Bool.eq_iff_iff]
      simp only [Lib.hasPrefix, List.isPrefixOf_iff_prefix, beq_iff_eq]
      constructor
      · rintro ⟨t, rfl⟩; simp
      · intro e; exact ⟨s.drop p.length, by conv => lhs; lhs; rw [← e]
                                            exact List.take_append_drop _ _⟩
    simp only
    rw [HR.out]
    go_enter Try.func91, Try.ntmps91
    go_wp2
    go_ret
    exact ⟨congrArg (fun z : List UInt8 => Ending.returned (.bool (z == p))) hE.out, rfl⟩
  · have h1 : ¬ ((s.length : Nat) : Int) ≥ ((p.length : Nat) : Int) := by omega
    have HR : Hid (Lib.hasPrefix s p = false) := by
      unfold Hid
      rw [Bool.eq_false_iff]
      simp only [Lib.hasPrefix, ne_eq, List.isPrefixOf_iff_prefix]
      intro e
      exact h e.length_le
    simp only
    rw [HR.out]
    go_enter Try.func91, Try.ntmps91
    go_wp2
    go_ret
    exact ⟨rfl, rfl⟩

set_option maxRecDepth 100000 in
set_option maxHeartbeats 1000000 in
theorem hpx_any (s p : ByteArray) (w : World) : Calls Try.prog 81 #[.string s, .string p] w fun e w' => e = .returned (.bool (Lib.hasPrefix s.data.toList p.data.toList)) ∧ w' = w := by
  have H := hid (hpx0_any s p w)
  generalize Lib.hasPrefix s.data.toList p.data.toList = b at *
  go_enter Try.func81, Try.ntmps81
  go_wp2_with (go_at_call 91; refine H.out.mono ?_; rintro e w1 ⟨rfl, rfl⟩)
  go_ret
  exact ⟨rfl, rfl⟩
end Go.Proofs.Ytangnoicnogddaa.Tr
/- Entries in a slice; the contracts of fits, Right and the document's Right. -/
namespace Go.Proofs.Ytangnoicnogddaa.Tr
open Go.RowKit

/-- Entries, one behind the other, from a place on. -/
def EntsAt (w : World) (bb bo : Nat) (L : List Ent) : Prop := ∀ i (h : i < L.length), ∃ ad cap, w.cell? ⟨bb, bo + i * 3, none⟩ = some (.string ⟨L[i].path.toArray⟩) ∧ w.cell? ⟨bb, bo + i * 3 + 1, none⟩ = some (.int .i64 L[i].kind) ∧ w.cell? ⟨bb, bo + i * 3 + 2, none⟩ = some (.slice ad L[i].data.length cap) ∧ EntV w L[i] ad cap
def Ents (w : World) (ad : Option Addr) (L : List Ent) : Prop := L ≠ [] → ∃ bb bo, ad = some ⟨bb, bo, none⟩ ∧ EntsAt w bb bo L
theorem cell_fr {w w' : World} (f : Fr (fun _ => False) w w') {a : Addr} {v : Value} (h : w.cell? a = some v) : w'.cell? a = some v := by
  have hlt := World.block_lt_of_cell? w a h
  rw [World.cell?_of_block (w := w) (f.block a.block hlt (fun h => h))]
  exact h
theorem EntsAt.fr {w w' : World} {bb bo : Nat} {L : List Ent} (h : EntsAt w bb bo L) (f : Fr (fun _ => False) w w') : EntsAt w' bb bo L := fun i hi => by
  obtain ⟨ad, cap, h1, h2, h3, h4⟩ := h i hi
  exact ⟨ad, cap, cell_fr f h1, cell_fr f h2, cell_fr f h3, h4.fr f⟩
theorem Ents.fr {w w' : World} {ad : Option Addr} {L : List Ent} (h : Ents w ad L) (f : Fr (fun _ => False) w w') : Ents w' ad L := fun hne => by
  obtain ⟨bb, bo, e, hr⟩ := h hne
  exact ⟨bb, bo, e, hr.fr f⟩
theorem Ents.nil (w : World) (ad : Option Addr) : Ents w ad [] := fun h => absurd rfl h
theorem Ents.take {w : World} {ad : Option Addr} {L : List Ent} (h : Ents w ad L) (k : Nat) : Ents w ad (L.take k) := fun hne => by
  obtain ⟨bb, bo, e, hr⟩ := h (fun e => hne (by simp [e]))
  refine ⟨bb, bo, e, fun i hi => ?_⟩
  have hi' : i < L.length := by simp at hi; omega
  have := hr i hi'
  simpa [List.getElem_take] using this
/-- The i-th of them. -/
theorem Ents.at {w : World} {ad : Option Addr} {L : List Ent} (h : Ents w ad L) (i : Nat) (hi : i < L.length) : ∃ bb bo da dc, ad = some ⟨bb, bo, none⟩ ∧ w.cell? ⟨bb, bo + i * 3, none⟩ = some (.string ⟨L[i].path.toArray⟩) ∧ w.cell? ⟨bb, bo + i * 3 + 1, none⟩ = some (.int .i64 L[i].kind) ∧ w.cell? ⟨bb, bo + i * 3 + 2, none⟩ = some (.slice da L[i].data.length dc) ∧ EntV w L[i] da dc := by
  obtain ⟨bb, bo, e, hr⟩ := h (fun e => by simp [e] at hi)
  obtain ⟨da, dc, h1, h2, h3, h4⟩ := hr i hi
  exact ⟨bb, bo, da, dc, e, h1, h2, h3, h4⟩

theorem hasPrefix_slash (p a : List UInt8) : Lib.hasPrefix p (a ++ [47]) = (decide (a.length < p.length) && (p.take (a.length + 1) == a ++ [47])) := by
  rw [Bool.eq_iff_iff]
  simp only [Lib.hasPrefix, List.isPrefixOf_iff_prefix, Bool.and_eq_true, decide_eq_true_eq, beq_iff_eq]
  constructor
  · rintro ⟨t, rfl⟩
    constructor
    · simp
    · have : a.length + 1 = (a ++ [47]).length := by simp
      rw [this, List.take_left]
  · rintro ⟨h1, h2⟩
    exact ⟨p.drop (a.length + 1), by rw [← h2, List.take_append_drop]⟩
theorem clash_eq (a p : List UInt8) : clash a p = (!(Op.bytesLess a p) || Lib.hasPrefix p (a ++ [47])) := by
  rw [hasPrefix_slash]; rfl
theorem all_clash_bad (L : List Ent) (p : List UInt8) (i : Nat) (h : i < L.length) (e : clash L[i].path p = true) : L.all (fun y => !clash y.path p) = false :=
  all_false_of _ L i h (by rw [e]; rfl)
theorem all_clash_ok (L : List Ent) (p : List UInt8) (i : Nat) (h : i < L.length) (ha : (L.take i).all (fun y => !clash y.path p) = true) (e : clash L[i].path p = false) : (L.take (i + 1)).all (fun y => !clash y.path p) = true := by
  rw [all_take_succ _ L i h, ha, e]; rfl

set_option maxRecDepth 100000 in
set_option maxHeartbeats 1000000 in
theorem fits_any (w : World) (ad : Option Addr) (L : List Ent) (cap : Nat) (p : List UInt8) (hL : Ents w ad L) (hn : L.length ≤ 140737488351232) :
    Calls Try.prog 64 #[.slice ad L.length cap, .string ⟨p.toArray⟩] w fun e w' => e = .returned (.bool (L.all (fun y => !clash y.path p))) ∧ Fr (fun _ => False) w w' := by
  have HL := hid hL
  clear hL
  go_enter Try.func64, Try.ntmps64
  go_wp2_with fail
  go_loopw [9] (fun iv wr => ∃ i : Nat, i ≤ L.length ∧ iv = .int .i64 (i : Int) ∧ (L.take i).all (fun y => !clash y.path p) = true ∧ Fr (fun _ => False) w wr) (fun iv _ => L.length - (intOf iv).toNat)
  case atStart => exact ⟨0, Nat.zero_le _, rfl, rfl, Fr.refl _ _⟩
  case round =>
    obtain ⟨i, hi, rfl, ha, hF⟩ := hrel
    have HF := hid hF
    by_cases hlt : i < L.length
    · have hi1 : (i : Int) < ((L.length : Nat) : Int) := by omega
      have hi0 : (0 : Int) ≤ (i : Int) := Int.natCast_nonneg _
      obtain ⟨bb, bo, da, dc, rfl, c0, c1, c2, hv⟩ := (HL.out.fr HF.out).at i hlt
      have hpl := hv.path
      have hp1 : ¬ (9223372036854775807 : Int) < ((L[i].path.length : Nat) : Int) + 1 := by omega
      have hp2 : ¬ 9223372036854775807 < L[i].path.length + 1 := by omega
      have HC := hid (clash_eq L[i].path p)
      have HBad := hid (all_clash_bad L p i hlt)
      have HOk := hid (all_clash_ok L p i hlt ha)
      have HF2 : Hid (∀ o, Fr (fun _ => False) w (wr.alloc o)) := fun o => HF.out.alloc o
      generalize L[i] = x at *
      clear HL hv ha hF
      cases hb : Op.bytesLess x.path p with
      | false =>
        have HB := hid (HBad.out (by rw [HC.out, hb]; rfl))
        clear HBad HOk HC
        go_wp2
        go_ret
        exact ⟨by rw [HB.out]; rfl, HF2.out _⟩
      | true =>
        cases hq : Lib.hasPrefix p (x.path ++ [47]) with
        | true =>
          have HB := hid (HBad.out (by rw [HC.out, hq]; simp))
          clear HBad HOk HC
          go_wp2_with (go_at_call 81; rw [str_cat x.path [47]]; refine (hpx_any _ _ _).mono ?_; rintro e w1 ⟨rfl, rfl⟩; simp only [hq])
          go_ret
          exact ⟨by rw [HB.out]; rfl, HF2.out _⟩
        | false =>
          have HB := hid (HOk.out (by rw [HC.out, hb, hq]; rfl))
          clear HBad HOk HC
          go_wp2_with (go_at_call 81; rw [str_cat x.path [47]]; refine (hpx_any _ _ _).mono ?_; rintro e w1 ⟨rfl, rfl⟩; simp only [hq])
          exact ⟨⟨i + 1, by omega, by go_num, HB.out, HF2.out _⟩, by simp [intOf]; omega⟩
    · obtain rfl : i = L.length := by omega
      have hkn : ¬ ((L.length : Nat) : Int) < ((L.length : Nat) : Int) := by omega
      rw [List.take_length] at ha
      have HA := hid ha
      clear ha
      go_wp2
      go_ret
      exact ⟨by rw [HA.out]; rfl, HF.out⟩

end Go.Proofs.Ytangnoicnogddaa.Tr
/- A drawn region by hand: which operation is taken first. Nothing here speaks of the Go text. -/
namespace Go.Proofs.Ytangnoicnogddaa.Tr
open Go.RowKit

section
variable {P : Program} {ops : Array Oper} {Q : Exit → Act → World → Prop} {md : Region.Mode} {S : World → Prop}
/-- Operation number i is taken first: its value is v in every world that meets S. -/
theorem takeH {i : Nat} {d : Option Tmp} {fuel : Nat} {listed : Array Bool} {a : Act} {w : World} (v : Value) (hd : (ops[i]?).map (·.dst) = some d) (hs : Region.noSelect ops = true) (hf : Region.free md ops listed i = true)
    (hr : (Region.ready md ops listed).contains i = true) (hQ : ∀ (o : Oper) c a w, Q (.panic c) (a.put o.dst v) w → Q (.panic c) a w) (hS : S w) (hy : ∀ o, ops[i]? = some o → YieldsIf P ops S o v a)
    (h : wpAnyH P md ops Q S fuel (listed.setIfInBounds i true) (a.put d v) w) : wpAnyH P md ops Q S (fuel + 1) listed a w := by
  cases ho : ops[i]? with
  | none => simp [ho] at hd
  | some o =>
    have e : o.dst = d := by simpa [ho] using hd
    subst e
    exact wpAnyH_take ho hs hf hr (hQ o) (hy o ho) hS h
/-- Operation number i alone can come up. -/
theorem oneH {i : Nat} {fuel : Nat} {listed : Array Bool} {a : Act} {w : World} (hr : Region.ready md ops listed = [i])
    (h : ∀ o, ops[i]? = some o → ∀ K' : Act → World → Prop, Hid (∀ a w, S w → wpAnyH P md ops Q S fuel (listed.setIfInBounds i true) a w → K' a w) → if Region.wanted o (yielded ops a.tmps) = true then Oper.wp P o a w K' Q else K' (a.put o.dst undef) w)
    (hi : i < ops.size) : wpAnyH P md ops Q S (fuel + 1) listed a w := by
  have ho : ops[i]? = some ops[i] := Array.getElem?_eq_getElem hi
  exact wpAnyH_ready hr (by simp) (AllReadyH.cons ho (fun K' hK => h _ ho K' (fun a w hS hW => hK a w hS (fun _ => hW))) AllReadyH.nil)
end

end Go.Proofs.Ytangnoicnogddaa.Tr
