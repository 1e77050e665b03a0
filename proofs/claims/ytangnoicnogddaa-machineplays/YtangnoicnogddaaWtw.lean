/- Both machines in hand, and the plan's copies. -/
import Derived.Test.YtangnoicnogddaaRfm
import Derived.Test.YtangnoicnogddaaRsa
import Derived.Test.YtangnoicnogddaaWo2
import Derived.Test.YtangnoicnogddaaWwk
import Derived.Test.YtangnoicnogddaaWcd
namespace Go.Proofs.Ytangnoicnogddaa.Tr
open Go.RowKit

section
variable {K O E : Nat → Prop} {w W W' : World} {mb rb : Nat} {s t : St}
theorem lv_reset (h : Lv K w mb s) : Calls Try.prog 9 #[.pointer (some ⟨mb, 0, none⟩)] w fun e w' => e = .returned (.tuple #[]) ∧ Lv K w' mb ⟨[], [], [], s.p⟩ ∧ Kp K w w' := by
  obtain ⟨O, ⟨D, fv, uv, rv, pa, pc, XF, XR, m⟩, ho⟩ := h.mx
  refine (reset_any m).mono ?_
  rintro e w' ⟨rfl, n⟩
  exact ⟨rfl, h.next ho (ok_nil s.p) n⟩
theorem lv_obsw (h : Lv K w mb s) : Calls Try.prog 13 #[.pointer (some ⟨mb, 0, none⟩)] w fun e w' => ObsW w s e w' := by
  obtain ⟨O, ⟨D, fv, uv, rv, pa, pc, XF, XR, m⟩, ho⟩ := h.mx
  exact obsw_any m h.ok
/-- Writing over others' blocks. -/
theorem Lv.other (h : Lv K W mb s) (f : Fr O W W') (hO : ∀ k, O k → K k) : Lv K W' mb s := by
  obtain ⟨hok, ⟨P, ⟨D, fv, uv, rv, pa, pc, XF, XR, m⟩, ho⟩, hk⟩ := h
  exact ⟨hok, ⟨P, ⟨D, fv, uv, rv, pa, pc, XF, XR, m.keep f (fun k hF hP => ho k hP (hO k hF))⟩, ho⟩, fun k hK => Nat.lt_of_lt_of_le (hk k hK) f.size⟩
theorem Lv.grow (h : Lv K W mb s) (f : Fr O W W') (hO : ∀ k, O k → K k) : Lv (fun k => K k ∨ Bt W.heap.size W'.heap.size k) W' mb s := by
  obtain ⟨hok, ⟨P, ⟨D, fv, uv, rv, pa, pc, XF, XR, m⟩, ho⟩, hk⟩ := h
  exact ⟨hok, ⟨P, ⟨D, fv, uv, rv, pa, pc, XF, XR, m.keep f (fun k hF hP => ho k hP (hO k hF))⟩, fun k hP hK => hK.elim (ho k hP) (fun hb => by have := m.os k hP; have := hb.1; omega)⟩,
    fun k hK => hK.elim (fun hK => Nat.lt_of_lt_of_le (hk k hK) f.size) (fun hb => hb.2)⟩

/-- Both machines: the program's at mb is s, the document's at rb is t; K is what the program's leaves alone, E the document's rows. -/
structure Two (w W : World) (K E : Nat → Prop) (mb rb : Nat) (s t : St) : Prop where
  l : Lv K W mb s
  r : RX E W rb t
  f : Fr (fun _ => False) w W
  b : w.heap.size ≤ rb
  kw : ∀ k, k < w.heap.size → K k
  kb : K rb
  ke : ∀ k, E k → K k
theorem RX.ne (h : RX E W rb t) : ¬ E rb := by obtain ⟨o, pa, pc, XF, XR, h⟩ := h; exact h.ne
theorem RX.es (h : RX E W rb t) : ∀ k, E k → k < W.heap.size := by obtain ⟨o, pa, pc, XF, XR, h⟩ := h; exact h.es
theorem RX.lt (h : RX E W rb t) : rb < W.heap.size := by obtain ⟨o, pa, pc, XF, XR, h⟩ := h; exact h.blk.lt
theorem RX.keep (h : RX E W rb t) (e : On E W W') (eb : W'.heap[rb]? = W.heap[rb]?) (hs : W.heap.size ≤ W'.heap.size) : RX E W' rb t := by
  obtain ⟨o, pa, pc, XF, XR, h⟩ := h; exact ⟨o, pa, pc, XF, XR, h.keep e eb hs⟩
theorem RX.fr (h : RX E W rb t) (f : Fr O W W') (hE : ∀ k, O k → ¬ E k) (hb : ¬ O rb) : RX E W' rb t :=
  h.keep (fun k hk => f.block k (h.es k hk) (fun ho => hE k ho hk)) (f.block _ h.lt hb) f.size
/-- Something was made, and belongs to others. -/
theorem Two.made (h : Two w W K E mb rb s t) (f : Fr (fun _ => False) W W') : Two w W' (fun k => K k ∨ Bt W.heap.size W'.heap.size k) E mb rb s t :=
  ⟨h.l.more f, h.r.fr f (fun _ h => h.elim) (fun h => h), h.f.trans f (fun _ h => h.elim), h.b, fun k hk => .inl (h.kw k hk), .inl h.kb, fun k hk => .inl (h.ke k hk)⟩
/-- Something was made, and the document's machine may have it. -/
theorem Two.madeE (h : Two w W K E mb rb s t) (f : Fr (fun _ => False) W W') : Two w W' (fun k => K k ∨ Bt W.heap.size W'.heap.size k) (fun k => E k ∨ Bt W.heap.size W'.heap.size k) mb rb s t :=
  ⟨h.l.more f, (h.r.fr f (fun _ h => h.elim) (fun h => h)).wide (fun k hk => .inl hk) (fun hk => hk.elim h.r.ne (fun hb => by have := hb.1; have := h.r.lt; omega)) (fun k hk => hk.elim (fun hk => Nat.lt_of_lt_of_le (h.r.es k hk) f.size) (fun hb => hb.2)),
    h.f.trans f (fun _ h => h.elim), h.b, fun k hk => .inl (h.kw k hk), .inl h.kb, fun k hk => hk.imp (h.ke k) id⟩
theorem Two.keep (h : Two w W K E mb rb s t) (f : Fr (fun _ => False) W W') : Two w W' K E mb rb s t :=
  ⟨h.l.keep f, h.r.fr f (fun _ h => h.elim) (fun h => h), h.f.trans f (fun _ h => h.elim), h.b, h.kw, h.kb, h.ke⟩
/-- What is others' was written over. -/
theorem Two.other (h : Two w W K E mb rb s t) (f : Fr O W W') (hO : ∀ k, O k → K k ∧ ¬ E k ∧ k ≠ rb ∧ w.heap.size ≤ k) : Two w W' K E mb rb s t :=
  ⟨h.l.other f (fun k hk => (hO k hk).1), h.r.fr f (fun k hk => (hO k hk).2.1) (fun hk => (hO _ hk).2.2.1 rfl), h.f.trans f (fun k hk => .inr (hO k hk).2.2.2), h.b, h.kw, h.kb, h.ke⟩
/-- The program's machine has done something. -/
theorem Two.prog (h : Two w W K E mb rb s t) {s' : St} (l : Lv K W' mb s') (k : Kp K W W') : Two w W' K E mb rb s' t :=
  ⟨l, h.r.fr k (fun i hi hE => hi (h.ke i hE)) (fun hn => hn h.kb), h.f.trans k (fun i hi => .inr (by
    rcases Nat.lt_or_ge i w.heap.size with hlt | hge
    · exact absurd (h.kw i hlt) hi
    · exact hge)), h.b, h.kw, h.kb, h.ke⟩
/-- The document's machine has done something. -/
theorem Two.doc (h : Two w W K E mb rb s t) {t' : St} {c : Int} {e : Ending} (hp : RPost E W rb (t', c) e W') : Two w W' (fun k => K k ∨ Bt W.heap.size W'.heap.size k) (fun k => E k ∨ Bt W.heap.size W'.heap.size k) mb rb s t' :=
  ⟨h.l.grow hp.2.1 (fun k hk => by subst hk; exact h.kb), hp.2.2, h.f.trans hp.2.1 (fun k hk => .inr (by subst hk; exact h.b)), h.b, fun k hk => .inl (h.kw k hk), .inl h.kb, fun k hk => hk.imp (h.ke k) id⟩
theorem Two.less (h : Two w W K E mb rb s t) : Two w W (fun k => k < w.heap.size ∨ k = rb ∨ E k) E mb rb s t :=
  ⟨h.l.less (fun k hk => by
    rcases hk with hk | rfl | hk
    · exact h.kw k hk
    · exact h.kb
    · exact h.ke k hk), h.r, h.f, h.b, fun k hk => .inl hk, .inr (.inl rfl), fun k hk => .inr (.inr hk)⟩
theorem Two.drew (h : Two w W K E mb rb s t) : Two w W.drew K E mb rb s t := h.keep ((Fr.refl _ W).drew)
/-- The document's machine is as new. -/
theorem Two.reset (h : Two w W K E mb rb s t) : Two w (((W.setCell ⟨rb, 0, none⟩ (.slice none 0 0)).setCell ⟨rb, 1, none⟩ (.slice none 0 0)).setCell ⟨rb, 2, none⟩ (.slice none 0 0)) K E mb rb s ⟨[], [], [], t.p⟩ := by
  have f : Fr (fun k => k = rb) W (((W.setCell ⟨rb, 0, none⟩ (.slice none 0 0)).setCell ⟨rb, 1, none⟩ (.slice none 0 0)).setCell ⟨rb, 2, none⟩ (.slice none 0 0)) :=
    (((Fr.refl (fun k => k = rb) W).setCell (p := ⟨rb, 0, none⟩) (.inl rfl) _).setCell (p := ⟨rb, 1, none⟩) (.inl rfl) _).setCell (p := ⟨rb, 2, none⟩) (.inl rfl) _
  refine ⟨h.l.other f (fun k hk => by subst hk; exact h.kb), ?_, h.f.trans f (fun k hk => .inr (by subst hk; exact h.b)), h.b, h.kw, h.kb, h.ke⟩
  obtain ⟨o, pa, pc, XF, XR, x⟩ := h.r
  obtain ⟨o, pa, pc, XF, XR, x⟩ := x.setF (f' := []) (XF' := []) (fa := none) (fc := 0) (n := 0) rfl (lies_nil _ _ _) rfl (fun i h => absurd h (by simp)) ⟨Nat.le_refl _, Nat.zero_le _⟩
  obtain ⟨o, pa, pc, XF, XR, x⟩ := x.setU (u' := []) (ua := none) (uc := 0) (n := 0) rfl (lies_nil _ _ _) ⟨Nat.le_refl _, Nat.zero_le _⟩
  exact x.setR (r' := []) (XR' := []) (ra := none) (rc := 0) (n := 0) rfl (lies_nil _ _ _) rfl (fun i h => absurd h (by simp)) ⟨Nat.le_refl _, Nat.zero_le _⟩
end
/-- 'append(l, more...)' of bools. -/
theorem wpList_app_P {ops : Array Oper} {rest : List Oper} {o : Oper} {a : Act} {W : World} {Q : Exit → Act → World → Prop} (hgd : o.guard = none) (d s : Operand) (ho : o.op = .call { callee := .builtin .append, args := #[d, s], argTypes := #[22, 22] })
    (base : Nat) (v : Value) (X Y : List Bool) (ad : Option Addr) (cap : Nat) (hd : a.eval d = v) (hs : a.eval s = .slice ad Y.length cap) (hown : W.ownsRow base 4 1 v X.length (boolC X)) (hsrc : Bools W ad Y) (hb : base ≤ W.heap.size) (hl : X.length + Y.length ≤ 140737488351232)
    (h : ∀ v' W', W'.ownsRow base 4 1 v' (X ++ Y).length (boolC (X ++ Y)) → W.grownBy W' v.ownBlock → (∀ k, v'.ownBlock = some k → v.ownBlock = some k ∨ W.heap.size ≤ k) → wpList Try.prog ops Q rest (a.put o.dst v') W') : wpList Try.prog ops Q (o :: rest) a W := by
  obtain ⟨i0, hi0, hz0, hz1, hz2⟩ := info_parts info4
  by_cases hy : Y = []
  · subst hy
    have hl : ∀ (x : Addr), (loadCells x 0).run Try.prog W = .ok #[] W := fun x => by simpa using run_loadCells_list (P := Try.prog) W x [] (by simp)
    have hrun : (Builtin.append_ #[22, 22] o.type #[v, .slice ad 0 cap]).run Try.prog W = .ok v W := by
      rcases hown.2 with ⟨rfl, h00⟩ | ⟨g, cap', cur, rfl, _, _, hnc, _⟩
      · cases ad <;> simp [Builtin.append_, run_underlying Try.underlying22, sizeOf, typeInfo, hi0, Builtin.lenOf, Builtin.firstCells, hl]
      · cases ad <;> simp [Builtin.append_, run_underlying Try.underlying22, sizeOf, typeInfo, hi0, Builtin.lenOf, Builtin.firstCells, hnc, storeCells, hl]
    refine wpList_plain hgd fun K hK => ?_
    unfold Oper.wp
    simp only [List.length_nil] at hs
    simp [execOp, ho, resolve, invoke, builtin, hd, hs, hrun, Result.andThen]
    exact hK _ _ (h v W (by simpa using hown) ⟨rfl, rfl, rfl, Nat.le_refl _, fun _ _ _ => rfl⟩ (fun k hk => .inl hk))
  · obtain ⟨bb, bo, rfl, hr⟩ := hsrc hy
    have hpos : 0 < Y.length := List.length_pos_iff.2 hy
    refine wpList_append_lies W hgd d s 22 ho base 4 i0 _ 1 1 Try.underlying22 hi0 hz0 hz1 hz2 rfl (by omega) v X.length (boolC X) hd hown ⟨bb, bo, none⟩ Y.length cap (boolC Y) hs (by rw [boolC_len]; omega) (fun j u hu => by
      rw [Addr.add_mid]
      have hj : j < Y.length := by have := (List.getElem?_eq_some_iff.1 hu).1; rwa [boolC_len] at this
      rw [hr j hj]
      simp [boolC, hj] at hu
      rw [← hu]) (boolC_one Y) hpos (by unfold maxLen; omega) (by omega) hb _ rfl ?_
    intro g cap' W' h1 h2 h3 h4
    refine h _ _ ?_ h2 ?_
    · rw [List.length_append, show boolC (X ++ Y) = boolC X ++ boolC Y by simp [boolC]]
      exact h1
    · intro k hk
      cases hk
      rcases h3 with h3 | h3
      · exact .inl h3
      · exact .inr (by rw [h3]; exact Nat.le_refl _)
/-- A row of bools in a block of O that may be written over. -/
def OwnB (O : Nat → Prop) (W : World) (ad : Option Addr) (n : Nat) : Prop := 0 < n → ∃ g cur, ad = some ⟨g, 0, none⟩ ∧ O g ∧ Blk W g 4 cur ∧ n ≤ cur.length ∧ ∀ j, j < n → ∃ b, cur[j]? = some (.bool b)
theorem ownb_own {W : World} {B A n c : Nat} {ad : Option Addr} {p : List Bool} (h : W.ownsRow B 4 1 (.slice ad n c) p.length (boolC p)) (hA : A ≤ B) : OwnB (Bt A W.heap.size) W ad p.length := fun hn => by
  obtain ⟨g, cap, cur, hv, hB, hc, hnc, _, ht⟩ := own_get (owns_down h (Nat.zero_le _)) hn
  cases hv
  have hg := (own_lt h g rfl).1
  refine ⟨g, cur, rfl, ⟨by omega, hB.lt⟩, hB, by omega, fun j hj => ⟨p[j], ?_⟩⟩
  have e : (cur.take (p.length * 1))[j]? = some (.bool p[j]) := by rw [ht]; simp [boolC, hj]
  rw [List.getElem?_take, if_pos (by omega)] at e
  exact e
theorem OwnB.set {O : Nat → Prop} {W : World} {g n : Nat} (h : OwnB O W (some ⟨g, 0, none⟩) n) (i : Nat) (b : Bool) : OwnB O (W.setCell ⟨g, i, none⟩ (.bool b)) (some ⟨g, 0, none⟩) n := fun hn => by
  obtain ⟨g', cur, e, hO, hB, hl, hb⟩ := h hn
  cases e
  refine ⟨g, _, rfl, hO, hB.setCell i _, by rw [List.length_set]; exact hl, fun j hj => ?_⟩
  by_cases he : i = j
  · subst he
    exact ⟨b, by rw [List.getElem?_set_self (by omega)]⟩
  · rw [List.getElem?_set_ne he]
    exact hb j hj
theorem OwnB.of_eq {O : Nat → Prop} {W W' : World} {ad : Option Addr} {n : Nat} (h : OwnB O W ad n) (he : ∀ k, O k → W'.heap[k]? = W.heap[k]?) : OwnB O W' ad n := fun hn => by
  obtain ⟨g, cur, e, hO, hB, hl, hb⟩ := h hn
  exact ⟨g, cur, e, hO, hB.of_eq (he g hO), hl, hb⟩
/-- A unit's lists together. -/
def Bnd (u : Ut) : Prop := u.r.length + u.a.length ≤ 1048576
theorem do_plan (s : St) (a : Ac) : (doF s a).1.p.length ≤ s.p.length := by
  have h1 : s.p.tail.length ≤ s.p.length := by simp
  unfold doF
  repeat' split
  · unfold stopF; (repeat' split) <;> simp
  · unfold removeF; split <;> simp
  · unfold dropF; split <;> simp
  · unfold fileF; split <;> simp
  · unfold userF; split <;> simp
  · unfold startF; (repeat' split) <;> simp
  · simp
/-- The first state of both. -/
theorem two_new {w w2 W3 : World} {mb : Nat} {pa : Option Addr} {pc : Nat} {p : List Bool} (F2 : Fr (fun _ => False) w w2) (l2 : Lv (fun k => k < w.heap.size) w2 mb ⟨[], [], [], []⟩) (f3 : Fr (fun _ => False) w2 W3) (o3 : W3.ownsRow w2.heap.size 4 1 (.slice pa p.length pc) p.length (boolC p)) :
    Two w (W3.alloc (.cells #[.slice none 0 0, .slice none 0 0, .slice none 0 0, .slice pa p.length pc] 35)) (fun k => k < w.heap.size ∨ Bt w2.heap.size (W3.alloc (.cells #[.slice none 0 0, .slice none 0 0, .slice none 0 0, .slice pa p.length pc] 35)).heap.size k) (Bt w2.heap.size W3.heap.size) mb W3.heap.size ⟨[], [], [], []⟩ ⟨[], [], [], p⟩ := by
  have f4 : Fr (fun _ => False) w2 (W3.alloc (.cells #[.slice none 0 0, .slice none 0 0, .slice none 0 0, .slice pa p.length pc] 35)) := f3.alloc _
  have hz : (W3.alloc (.cells #[.slice none 0 0, .slice none 0 0, .slice none 0 0, .slice pa p.length pc] 35)).heap.size = W3.heap.size + 1 := World.size_alloc _ _
  have hs := f3.size
  have hs2 := F2.size
  have on : ∀ k, Bt w2.heap.size W3.heap.size k → (W3.alloc (.cells #[.slice none 0 0, .slice none 0 0, .slice none 0 0, .slice pa p.length pc] 35)).heap[k]? = W3.heap[k]? := fun k hk => Below.heap_alloc _ _ k hk.2
  refine ⟨l2.more f4, ⟨⟨none, 0, 0, none, 0, 0, none, 0, 0⟩, pa, pc, [], [], ?_⟩, F2.trans f4 (fun _ h => h.elim), by omega, fun k hk => .inl hk, .inr ⟨by omega, by omega⟩, fun k hk => .inr ⟨hk.1, by have := hk.2; omega⟩⟩
  exact {
    blk := Blk.new W3 _ _
    f := lies_nil _ _ _
    fl := rfl
    fe := fun i h => absurd h (by simp)
    u := lies_nil _ _ _
    r := lies_nil _ _ _
    rl := rfl
    re := fun i h => absurd h (by simp)
    p := (lies_own o3 (Nat.le_refl _)).on on
    cf := ⟨Nat.le_refl _, Nat.zero_le _⟩
    cu := ⟨Nat.le_refl _, Nat.zero_le _⟩
    cr := ⟨Nat.le_refl _, Nat.zero_le _⟩
    cp := ⟨(own_cap o3).2.1, (own_cap o3).2.2⟩
    ne := fun h => by have := h.2; omega
    es := fun k hk => by have := hk.2; omega }
end Go.Proofs.Ytangnoicnogddaa.Tr
