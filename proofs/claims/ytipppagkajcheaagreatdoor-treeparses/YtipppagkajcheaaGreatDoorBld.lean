/- The builder: the contracts of data, line and signOf. -/
import Derived.Test.YtipppagkajcheaaGreatDoorApd
import Derived.Test.YtipppagkajcheaaGreatDoorRrt
namespace Go.Proofs.YtipppagkajcheaaGreatDoor.Tr
open Go.RowKit

/-- A builder at bk holds these bytes, in a row of its own. -/
structure Bld (W : World) (bk : Nat) (out : List UInt8) (v : Value) : Prop where
  blk : Blk W bk 43 [v]
  own : W.ownsRow (bk + 1) 5 1 v out.length (bs out)
/-- What is changed: the builder's cell, its row, and new blocks. -/
abbrev Bch (bk : Nat) (v : Value) : Nat → Prop := fun k => k = bk ∨ v.ownBlock = some k
/-- What a call of the builder's leaves. -/
def BPost (W : World) (bk : Nat) (v : Value) (out : List UInt8) (W' : World) : Prop :=
  ∃ v', Bld W' bk out v' ∧ Fr (Bch bk v) W W' ∧ (v'.ownBlock = v.ownBlock ∨ ∃ g, v'.ownBlock = some g ∧ W.heap.size ≤ g)
theorem BPost.trans {W W1 W2 : World} {bk : Nat} {v v1 : Value} {out : List UInt8} (f : Fr (Bch bk v) W W1) (o : v1.ownBlock = v.ownBlock ∨ ∃ g, v1.ownBlock = some g ∧ W.heap.size ≤ g) (h : BPost W1 bk v1 out W2) : BPost W bk v out W2 := by
  obtain ⟨v2, h1, h2, h3⟩ := h
  refine ⟨v2, h1, f.trans h2 ?_, ?_⟩
  · rintro i (rfl | hi)
    · exact .inl (.inl rfl)
    · rcases o with o | ⟨g, o, hg⟩
      · exact .inl (.inr (by rw [← o]; exact hi))
      · rw [o] at hi; cases hi; exact .inr hg
  · rcases h3 with h3 | ⟨g, h3, hg⟩
    · rcases o with o | ⟨g, o, hg⟩
      · exact .inl (h3.trans o)
      · exact .inr ⟨g, h3.trans o, hg⟩
    · exact .inr ⟨g, h3, Nat.le_trans f.size hg⟩

theorem Bld.lt {W : World} {bk : Nat} {out : List UInt8} {v : Value} (h : Bld W bk out v) : ∀ g, v.ownBlock = some g → bk + 1 ≤ g ∧ g < W.heap.size := fun g hg => h.own.lt g hg
/-- Behind an append and a store into the builder's cell. -/
theorem Bld.putV {W W1 : World} {bk : Nat} {out s : List UInt8} {v v' : Value} (h : Bld W bk out v) (a : Apd W W1 (bk + 1) v v' (out.length + s.length) (bs out ++ bs s)) : Bld (W1.setCell ⟨bk, 0, none⟩ v') bk (out ++ s) v' ∧ Fr (Bch bk v) W (W1.setCell ⟨bk, 0, none⟩ v') ∧ (v'.ownBlock = v.ownBlock ∨ ∃ g, v'.ownBlock = some g ∧ W.heap.size ≤ g) := by
  have hb1 : Blk W1 bk 43 [v] := h.blk.of_eq (a.grown.block bk h.blk.lt (fun e => by have := (h.lt bk e.symm).1; omega))
  have hrow : ∀ g, v'.ownBlock = some g → bk + 1 ≤ g := fun g hg => (a.own.lt g hg).1
  refine ⟨⟨by simpa using hb1.setCell 0 v', ?_⟩, ?_, ?_⟩
  · have h1 : W1.ownsRow (bk + 1) 5 1 v' (out ++ s).length (bs (out ++ s)) := by
      have := a.own
      simpa [bs] using this
    exact owns_of_eq h1 (fun k hk => Below.heap_setCell W1 _ v' k (fun e => by have := hrow k hk; simp at e; omega))
  · have f1 : Fr (Bch bk v) W W1 := ⟨a.grown.os, a.grown.tape, a.grown.output, a.grown.size, fun i hi hn => a.grown.block i hi (fun e => hn (.inr e.symm))⟩
    exact f1.setCell (.inl (.inl rfl)) v'
  · rcases a.row with h | h
    · exact .inl h
    · exact .inr ⟨_, h, Nat.le_refl _⟩

set_option maxRecDepth 100000 in
set_option maxHeartbeats 1000000 in
theorem data_any (W : World) (bk : Nat) (out d : List UInt8) (v : Value) (ad : Option Addr) (cap : Nat) (hB : Bld W bk out v) (hd : Src W ad d) (hl : out.length + d.length + 1 ≤ 140737488355328) :
    Calls Tryz.prog 19 #[.pointer (some ⟨bk, 0, none⟩), .slice ad d.length cap] W fun e W' => e = .returned (.tuple #[]) ∧ BPost W bk v (out ++ d ++ [10]) W' := by
  have c0 := hB.blk.cell 0
  have hf := hB.blk.frozen 0
  simp only [List.getElem?_cons_zero] at c0
  have HB := hid hB
  have HD := hid (srcBytes hd cap)
  have hbl := hB.blk.lt
  clear hB hd
  go_enter Tryz.func19, Tryz.ntmps19
  go_wp2_with (at_builtin; refine wpList_append_src (by rfl) _ _ 22 (by rfl) (bk + 1) out.length d.length v _ (bs out) (bs d) (by rfl) (by rfl) HB.out.own HD.out (by omega) (by omega) ?_; intro v1 W1 ha; refine Hid.out ?_)
  refine hid ?_
  obtain ⟨va, vc, rfl⟩ := own_len ha.own
  have hb1 := HB.out.blk.of_eq (ha.grown.block bk HB.out.blk.lt (fun e => by have := (HB.out.lt bk e.symm).1; omega))
  have c1 := hb1.cell 0
  have hf1 := hb1.frozen 0
  simp only [List.getElem?_cons_zero] at c1
  obtain ⟨hB2, hF2, hO2⟩ := HB.out.putV ha
  have HB2 := hid hB2
  have HP := hid (fun (out' : List UInt8) (W' : World) (h : BPost (W1.setCell ⟨bk, 0, none⟩ (.slice va (out.length + d.length) vc)) bk (.slice va (out.length + d.length) vc) out' W') => BPost.trans hF2 hO2 h)
  have hbl2 := hB2.blk.lt
  clear hB2 hF2 hO2 ha hb1 HB HD c0 hf hbl
  go_wp2_with (at_builtin; refine wpList_append_src (by rfl) _ _ 9 (by rfl) (bk + 1) (out ++ d).length [(10 : UInt8)].length _ _ (bs (out ++ d)) (bs [10]) (by rfl) (by rfl) HB2.out.own (srcStr _ [10]) (by simp; omega) (by omega) ?_; intro v3 W3 ha; refine Hid.out ?_)
  refine hid ?_
  obtain ⟨va3, vc3, rfl⟩ := own_len ha.own
  have hb3 := HB2.out.blk.of_eq (ha.grown.block bk HB2.out.blk.lt (fun e => by have := (HB2.out.lt bk e.symm).1; omega))
  have c3 := hb3.cell 0
  have hf3 := hb3.frozen 0
  simp only [List.getElem?_cons_zero] at c3
  obtain ⟨hB4, hF4, hO4⟩ := HB2.out.putV ha
  have HP4 := hid (HP.out _ _ ⟨_, hB4, hF4, hO4⟩)
  clear hB4 hF4 hO4 ha hb3 HB2 HP
  go_wp2
  go_end0
  simp only [List.length_append, List.length_cons, List.length_nil, Nat.zero_add] at HP4
  exact ⟨rfl, HP4.out⟩

theorem fr_below {w w' : World} (h : Below w.heap.size w w') : Fr (fun _ => False) w w' := ⟨h.os, h.tape, h.output, h.size, fun k hk _ => h.block k hk⟩
theorem step_append_src {ops : Array Oper} {o : Oper} {a : Act} {K : Act → World → Prop} {Q : Exit → Act → World → Prop} {E : Prop} {w : World} (hgd : o.guard = none) (d s : Operand) (tx : TypeId)
    (ho : o.op = .call { callee := .builtin .append, args := #[d, s], argTypes := #[22, tx] }) (base n m : Nat) (v x : Value) (xs news : List Value)
    (hd : a.eval d = v) (hx : a.eval s = x) (hown : w.ownsRow base 5 1 v n xs) (hs : Go.Src Tryz.prog 1 tx x m news w) (hsz : n + m ≤ 140737488355328) (hbase : base ≤ w.heap.size)
    (h : ∀ v' w', Apd w w' base v v' (n + m) (xs ++ news) → K (a.put o.dst v') w') : if Region.wanted o (yielded ops a.tmps) = true then Oper.wp Tryz.prog o a w K Q else E := by
  have hw : Region.wanted o (yielded ops a.tmps) = true := by simp [Region.wanted, hgd]
  rw [if_pos hw]
  exact wp_append_src d s tx ho base n m v x xs news hd hx hown hs hsz hbase h

/-- Words with a blank between, and a line feed. -/
def lineL (ws : List (List UInt8)) : List UInt8 := Lib.join ws [32] ++ [10]

set_option maxRecDepth 100000 in
set_option maxHeartbeats 4000000 in
theorem line_any (W : World) (bk : Nat) (out : List UInt8) (ws : List (List UInt8)) (v : Value) (wb cap : Nat) (hB : Bld W bk out v) (hw : ∀ (j : Nat) x, ws[j]? = some x → W.cell? ⟨wb, 0 + j, none⟩ = some (.string ⟨x.toArray⟩)) (hwb : wb < W.heap.size) (hn : ws.length ≤ 3) (hc : ws.length ≤ cap) (hl : out.length + (Lib.join ws [32]).length + 1 ≤ 140737488355328) :
    Calls Tryz.prog 18 #[.pointer (some ⟨bk, 0, none⟩), .slice (some ⟨wb, 0, none⟩) ws.length cap] W fun e W' => e = .returned (.tuple #[]) ∧ BPost W bk v (out ++ lineL ws) W' := by
  have c0 := hB.blk.cell 0
  have hf := hB.blk.frozen 0
  simp only [List.getElem?_cons_zero] at c0
  have HB := hid hB
  have hbl := hB.blk.lt
  have HJ : Hid (Calls Tryz.prog 31 #[.slice (some ⟨wb, 0, none⟩) ws.length cap, .string ⟨#[32]⟩] W.drew fun e w' => e = .returned (.string ⟨(Lib.join ws [32]).toArray⟩) ∧ Fr (fun _ => False) W w') := by
    have e : (ws.map (fun l => ByteArray.mk l.toArray)).map (·.data.toList) = ws := by
      rw [List.map_map]; exact List.map_id'' (fun l => rfl) ws
    have := Tryz.strings_Join wb 0 cap (ws.map (fun l => ByteArray.mk l.toArray)) ⟨#[32]⟩ W.drew (fun j x hx => by
      rw [List.getElem?_map] at hx
      cases hj : ws[j]? with
      | none => rw [hj] at hx; cases hx
      | some y => rw [hj] at hx; cases hx; exact hw j y hj) hwb (by simp; omega) (by simpa using hc) (by rw [e]; show (Lib.join ws [32]).length ≤ _; omega)
    rw [e, List.length_map] at this
    exact this.mono (fun e w' h => ⟨h.1, (Fr.refl _ W).drew.trans (fr_below h.2) (fun _ h => h.elim)⟩)
  unfold lineL
  generalize Lib.join ws [32] = J at *
  clear hB hw
  go_enter Tryz.func18, Tryz.ntmps18
  go_wp2_with fail
  go_region_law ((first
    | (rw [if_pos (by rfl)]; go_simp; go_at_call 31; refine HJ.out.mono ?_; rintro e w1 ⟨rfl, f1⟩; have c1 := (f1.blk HB.out.blk (fun h => h)).cell 0; have hf1 := (f1.blk HB.out.blk (fun h => h)).frozen 0; simp only [List.getElem?_cons_zero] at c1)
    | (refine step_append_src (by rfl) _ _ 9 (by rfl) (bk + 1) out.length J.length v _ (bs out) (bs J) (by rfl) (by rfl) (owns_of_eq HB.out.own (fun k hk => f1.block k (HB.out.lt k hk).2 (fun h => h))) (srcStr _ J) (by omega) (by have := f1.size; omega) ?_; intro v2 W2 ha; obtain ⟨va, vc, rfl⟩ := own_len ha.own; have c2 := ((f1.blk HB.out.blk (fun h => h)).of_eq (ha.grown.block bk (f1.blk HB.out.blk (fun h => h)).lt (fun e => by have := (HB.out.lt bk e.symm).1; omega))).cell 0; have hf2 := ((f1.blk HB.out.blk (fun h => h)).of_eq (ha.grown.block bk (f1.blk HB.out.blk (fun h => h)).lt (fun e => by have := (HB.out.lt bk e.symm).1; omega))).frozen 0; simp only [List.getElem?_cons_zero] at c2)))
  all_goals
    have HB1 : Hid (Bld w1 bk out v) := ⟨f1.blk HB.out.blk (fun h => h), owns_of_eq HB.out.own (fun k hk => f1.block k (HB.out.lt k hk).2 (fun h => h))⟩
    obtain ⟨hB2, hF2, hO2⟩ := HB1.out.putV ha
    have HB2 := hid hB2
    have HP := hid (fun (out' : List UInt8) (W' : World) (h : BPost (W2.setCell ⟨bk, 0, none⟩ (.slice va (out.length + J.length) vc)) bk (.slice va (out.length + J.length) vc) out' W') => BPost.trans (f1.mono (fun _ h => h.elim)) (.inl rfl) (BPost.trans hF2 hO2 h))
    have hbl2 := hB2.blk.lt
    have HL : Hid (out ++ (J ++ [10]) = out ++ J ++ [10]) := by unfold Hid; simp
    clear hB2 hF2 hO2 ha HB HB1 HJ c0 hf hbl c1 hf1 f1
    go_wp2_with (at_builtin; refine wpList_append_src (by rfl) _ _ 9 (by rfl) (bk + 1) (out ++ J).length [(10 : UInt8)].length _ _ (bs (out ++ J)) (bs [10]) (by rfl) (by rfl) HB2.out.own (srcStr _ [10]) (by simp; omega) (by omega) ?_; intro v3 W3 ha; refine Hid.out ?_)
    refine hid ?_
    obtain ⟨va3, vc3, rfl⟩ := own_len ha.own
    have hb3 := HB2.out.blk.of_eq (ha.grown.block bk HB2.out.blk.lt (fun e => by have := (HB2.out.lt bk e.symm).1; omega))
    have c3 := hb3.cell 0
    have hf3 := hb3.frozen 0
    simp only [List.getElem?_cons_zero] at c3
    obtain ⟨hB4, hF4, hO4⟩ := HB2.out.putV ha
    have HP4 := hid (HP.out _ _ ⟨_, hB4, hF4, hO4⟩)
    clear hB4 hF4 hO4 ha hb3 HB2 HP
    go_wp2
    go_end0
    rw [← HL.out] at HP4
    simp only [List.length_append, List.length_cons, List.length_nil, Nat.zero_add] at HP4
    exact ⟨rfl, HP4.out⟩

/-- An entry's sign. -/
def signL (k : Int) : List UInt8 := if k = 3 then [108] else [102]
set_option maxRecDepth 100000 in
theorem sign_any (w : World) (k : Int) : Calls Tryz.prog 29 #[.int .i64 k] w fun e w' => e = .returned (.string ⟨(signL k).toArray⟩) ∧ w' = w := by
  by_cases h : k = 3
  · subst h
    go_enter Tryz.func29, Tryz.ntmps29
    go_wp2
    go_ret
    exact ⟨rfl, rfl⟩
  · have h' : (k == 3) = false := by simpa using h
    have HS : Hid (signL k = [102]) := if_neg h
    go_enter Tryz.func29, Tryz.ntmps29
    go_wp2
    go_ret
    exact ⟨by rw [HS.out]; rfl, rfl⟩

end Go.Proofs.YtipppagkajcheaaGreatDoor.Tr
