/- Tokens held against each other. -/
import Derived.Test.YtionmohglmbklaaGreatDoorAll
import Derived.Laws.StructEq
namespace Go.Proofs.YtionmohglmbklaaGreatDoor.Tr
open Go.RowKit

abbrev tf0 : Field := { name := "Kind", type := 3, offset := 0, embedded := false, tag := "", pkgPath := "", byteOffset := 0 }
abbrev tf1 : Field := { name := "Text", type := 9, offset := 1, embedded := false, tag := "", pkgPath := "", byteOffset := 8 }
abbrev tf2 : Field := { name := "Int", type := 2, offset := 2, embedded := false, tag := "", pkgPath := "", byteOffset := 24 }
abbrev tf3 : Field := { name := "Float", type := 35, offset := 3, embedded := false, tag := "", pkgPath := "", byteOffset := 32 }
abbrev tf4 : Field := { name := "At", type := 3, offset := 4, embedded := false, tag := "", pkgPath := "", byteOffset := 40 }
theorem fieldsT : Tryz.prog.fieldsOf 37 = #[tf0, tf1, tf2, tf3, tf4] := by
  unfold Program.fieldsOf
  rw [Tryz.underlying37]
theorem eqF_step (d : Nat) (xs ys : Array Value) (f : Field) (fs : List Field) (a b : Value) (r : Bool) (w : World) (hn : f.name ≠ "_") (ha : (part f.type xs f.offset).run Tryz.prog w = .ok a w) (hb : (part f.type ys f.offset).run Tryz.prog w = .ok b w) (hr : (Op.equalIn d f.type a b).run Tryz.prog w = .ok r w) :
    (Op.eqFields d xs ys (f :: fs)).run Tryz.prog w = if r then (Op.eqFields d xs ys fs).run Tryz.prog w else .ok false w := by
  simp only [Op.eqFields, if_pos hn, Sem.run_bind, ha, hb, hr, Result.andThen_ok]
  cases r <;> simp
theorem eqFlt (d : Nat) (w : World) (a b : Nat) : (Op.equalIn (d + 1) 35 (.float .f64 a) (.float .f64 b)).run Tryz.prog w = .ok (Op.floatEq .f64 a b) w := by
  simp [Op.equalIn, run_underlying Tryz.underlying35]
def tokEq (x y : Tok) : Bool := x.kind == y.kind && (x.text == y.text && (x.int == y.int && (Op.floatEq .f64 x.flt y.flt && (x.at_ : Int) == (y.at_ : Int))))
theorem tpart0 (x : Tok) (w : World) : (part tf0.type (tokC x).toArray tf0.offset).run Tryz.prog w = .ok (.int .i64 x.kind) w := by simp [part, isAgg, run_underlying Tryz.underlying3, tokC]
theorem tpart1 (x : Tok) (w : World) : (part tf1.type (tokC x).toArray tf1.offset).run Tryz.prog w = .ok (.string ⟨x.text.toArray⟩) w := by simp [part, isAgg, run_underlying Tryz.underlying9, tokC]
theorem tpart2 (x : Tok) (w : World) : (part tf2.type (tokC x).toArray tf2.offset).run Tryz.prog w = .ok (.int .i64 x.int) w := by simp [part, isAgg, run_underlying Tryz.underlying2, tokC]
theorem tpart3 (x : Tok) (w : World) : (part tf3.type (tokC x).toArray tf3.offset).run Tryz.prog w = .ok (.float .f64 x.flt) w := by simp [part, isAgg, run_underlying Tryz.underlying35, tokC]
theorem tpart4 (x : Tok) (w : World) : (part tf4.type (tokC x).toArray tf4.offset).run Tryz.prog w = .ok (.int .i64 (x.at_ : Int)) w := by simp [part, isAgg, run_underlying Tryz.underlying3, tokC]
theorem eqTokIn (x y : Tok) (w : World) : (Op.equalIn 10000 37 (tokV x) (tokV y)).run Tryz.prog w = .ok (tokEq x y) w := by
  have h1 := run_equalIn_struct (P := Tryz.prog) w 9999 37 (tokC x).toArray (tokC y).toArray (by rw [fieldsT]; exact Tryz.underlying37) (by kernel_rfl)
  have e1 : tokV x = .agg (tokC x).toArray := rfl
  have e2 : tokV y = .agg (tokC y).toArray := rfl
  rw [e1, e2, h1, fieldsT]
  have s0 := fun fs => eqF_step 9999 (tokC x).toArray (tokC y).toArray tf0 fs _ _ _ w (by decide) (tpart0 x w) (tpart0 y w) (run_equalIn_int w 9998 3 .i64 .i64 _ _ Tryz.underlying3)
  have s1 := fun fs => eqF_step 9999 (tokC x).toArray (tokC y).toArray tf1 fs _ _ _ w (by decide) (tpart1 x w) (tpart1 y w) (run_equalIn_string w 9998 9 _ _ Tryz.underlying9)
  have s2 := fun fs => eqF_step 9999 (tokC x).toArray (tokC y).toArray tf2 fs _ _ _ w (by decide) (tpart2 x w) (tpart2 y w) (run_equalIn_int w 9998 2 .i64 .i64 _ _ Tryz.underlying2)
  have s3 := fun fs => eqF_step 9999 (tokC x).toArray (tokC y).toArray tf3 fs _ _ _ w (by decide) (tpart3 x w) (tpart3 y w) (eqFlt 9998 w x.flt y.flt)
  have s4 := fun fs => eqF_step 9999 (tokC x).toArray (tokC y).toArray tf4 fs _ _ _ w (by decide) (tpart4 x w) (tpart4 y w) (run_equalIn_int w 9998 3 .i64 .i64 _ _ Tryz.underlying3)
  show (Op.eqFields 9999 _ _ [tf0, tf1, tf2, tf3, tf4]).run Tryz.prog w = _
  rw [s0, s1, s2, s3, s4]
  have et : ((ByteArray.mk x.text.toArray).toList == (ByteArray.mk y.text.toArray).toList) = (x.text == y.text) := by simp
  rw [et]
  unfold tokEq
  generalize Op.floatEq .f64 x.flt y.flt = q
  cases (x.kind == y.kind) <;> cases (x.text == y.text) <;> cases (x.int == y.int) <;> cases q <;> cases ((x.at_ : Int) == (y.at_ : Int)) <;> simp [Op.eqFields]
theorem eqTok (x y : Tok) (w : World) : (binOp BinOp.eql 37 (tokV x) (tokV y)).run Tryz.prog w = .ok (.bool (tokEq x y)) w := by
  have e := eqTokIn x y w
  have e1 : tokV x = .agg (tokC x).toArray := rfl
  have e2 : tokV y = .agg (tokC y).toArray := rfl
  rw [e1, e2] at e ⊢
  rw [run_eql_struct, e]
  rfl
theorem neTok (x y : Tok) (w : World) : (binOp BinOp.neq 37 (tokV x) (tokV y)).run Tryz.prog w = .ok (.bool (!tokEq x y)) w := by
  have e := eqTokIn x y w
  have e1 : tokV x = .agg (tokC x).toArray := rfl
  have e2 : tokV y = .agg (tokC y).toArray := rfl
  rw [e1, e2] at e ⊢
  rw [run_neq_struct, e]
  rfl
theorem tokEq_refl (x : Tok) (h : Op.floatEq .f64 x.flt x.flt = true) : tokEq x x = true := by
  unfold tokEq; simp [h]
theorem floatEq0 : Op.floatEq .f64 0 0 = true := by decide +kernel

theorem toks_at : ∀ (L : List Tok) (i : Nat) (h : i < L.length) (j : Nat), j < 5 → (toksC L)[i * 5 + j]? = (tokC L[i])[j]?
  | [], i, h, _, _ => absurd h (by simp)
  | x :: r, 0, _, j, hj => by
    have e : toksC (x :: r) = tokC x ++ toksC r := by simp [toksC]
    rw [e, Nat.zero_mul, Nat.zero_add, List.getElem?_append_left (by simpa [tokC] using hj)]
    rfl
  | x :: r, i + 1, h, j, hj => by
    have e : toksC (x :: r) = tokC x ++ toksC r := by simp [toksC]
    have h5 : (tokC x).length = 5 := rfl
    rw [e, List.getElem?_append_right (by rw [h5]; omega), h5, show (i + 1) * 5 + j - 5 = i * 5 + j by omega, toks_at r i (by simpa using h) j hj]
    simp
/-- Tokens in memory. -/
structure Tks (w : World) (g : Nat) (L : List Tok) : Prop where
  kind : ∀ i (h : i < L.length), w.cell? ⟨g, i * 5, none⟩ = some (.int .i64 L[i].kind)
  text : ∀ i (h : i < L.length), w.cell? ⟨g, i * 5 + 1, none⟩ = some (.string ⟨L[i].text.toArray⟩)
  int : ∀ i (h : i < L.length), w.cell? ⟨g, i * 5 + 2, none⟩ = some (.int .i64 L[i].int)
  flt : ∀ i (h : i < L.length), w.cell? ⟨g, i * 5 + 3, none⟩ = some (.float .f64 L[i].flt)
  at_ : ∀ i (h : i < L.length), w.cell? ⟨g, i * 5 + 4, none⟩ = some (.int .i64 (L[i].at_ : Int))
theorem toks_own {w : World} {base n : Nat} {v : Value} {L : List Tok} (h : w.ownsRow base 37 5 v n (toksC L)) (hn : n = L.length) (hL : 0 < L.length) : ∃ g cap, v = .slice (some ⟨g, 0, none⟩) L.length cap ∧ base ≤ g ∧ Tks w g L := by
  subst hn
  obtain ⟨g, cap, rfl, h1, h2⟩ := h.form hL
  have hc : ∀ j u, (toksC L)[j]? = some u → w.cell? ⟨g, j, none⟩ = some u := fun j u hu => by
    have := h.cells rfl j u hu
    rw [Addr.add_mid, Nat.zero_add] at this
    exact this
  refine ⟨g, cap, rfl, h1, ⟨fun i hi => ?_, fun i hi => ?_, fun i hi => ?_, fun i hi => ?_, fun i hi => ?_⟩⟩
  · exact hc _ _ ((toks_at L i hi 0 (by omega)).trans rfl)
  · exact hc _ _ ((toks_at L i hi 1 (by omega)).trans rfl)
  · exact hc _ _ ((toks_at L i hi 2 (by omega)).trans rfl)
  · exact hc _ _ ((toks_at L i hi 3 (by omega)).trans rfl)
  · exact hc _ _ ((toks_at L i hi 4 (by omega)).trans rfl)

end Go.Proofs.YtionmohglmbklaaGreatDoor.Tr
