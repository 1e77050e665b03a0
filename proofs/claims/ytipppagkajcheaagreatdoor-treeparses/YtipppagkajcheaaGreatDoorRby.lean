/- The contract of the document's Bytes. -/
import Derived.Test.YtipppagkajcheaaGreatDoorDec
namespace Go.Proofs.YtipppagkajcheaaGreatDoor.Tr
open Go.RowKit

/-- Bytes in a row of the call's own; what was there stands. -/
structure Ob (w W : World) (out : List UInt8) (v : Value) : Prop where
  own : W.ownsRow w.heap.size 5 1 v out.length (bs out)
  f : Fr (fun _ => False) w W
theorem Ob.apd {w W W' : World} {out s : List UInt8} {v v' : Value} (h : Ob w W out v) (a : Apd W W' w.heap.size v v' (out.length + s.length) (bs out ++ bs s)) : Ob w W' (out ++ s) v' :=
  ⟨by have := a.own; simpa [bs] using this, h.f.grown a.grown (fun k hk => .inr (h.own.lt k hk).1)⟩
theorem Ob.fr {w W W' : World} {out : List UInt8} {v : Value} (h : Ob w W out v) (f : Fr (fun _ => False) W W') : Ob w W' out v :=
  ⟨owns_of_eq h.own (fun k hk => f.block k (h.own.lt k hk).2 (fun h => h)), h.f.trans f (fun _ h => h.elim)⟩
theorem Ob.new {w W : World} (f : Fr (fun _ => False) w W) (l : List UInt8) (h0 : l.length ≤ 140737488355328) : Ob w (W.alloc (.cells (bs l).toArray 5)) l (.slice (some ⟨W.heap.size, 0, none⟩) l.length l.length) :=
  ⟨⟨by simp [bs_length], .inr ⟨W.heap.size, l.length, _, rfl, f.size, heap_alloc_new W _, Nat.le_refl _, by unfold maxLen; omega, by simp [bs_length], by rw [Nat.mul_one]; exact List.take_of_length_le (by simp [bs_length])⟩⟩, f.alloc _⟩
theorem Ob.len {w W : World} {out : List UInt8} {v : Value} (h : Ob w W out v) : w.heap.size ≤ W.heap.size := h.f.size

/-- Bytes that fill a row, which may not be written. -/
structure Obf (w W : World) (out : List UInt8) (v : Value) : Prop where
  full : ∃ g, v = .slice (some ⟨g, 0, none⟩) out.length out.length ∧ w.heap.size ≤ g ∧ g < W.heap.size ∧ W.rangeAt g 0 (bs out)
  f : Fr (fun _ => False) w W
theorem Obf.fr {w W W' : World} {out : List UInt8} {v : Value} (h : Obf w W out v) (f : Fr (fun _ => False) W W') : Obf w W' out v := by
  obtain ⟨g, h1, h2, h3, h4⟩ := h.full
  exact ⟨⟨g, h1, h2, Nat.lt_of_lt_of_le h3 f.size, fun j u hu => cell_fr f (h4 j u hu)⟩, h.f.trans f (fun _ h => h.elim)⟩
theorem run_append_full {w W : World} {tx ty : TypeId} {v x : Value} {out s : List UInt8} (h : Obf w W out v) (hs : Go.Src Tryz.prog 1 tx x s.length (bs s) W) (hne : s ≠ []) (hsz : out.length + s.length ≤ 140737488355328) :
    ∃ v' W', (Builtin.append_ #[22, tx] ty #[v, x]).run Tryz.prog W = .ok v' W' ∧ Ob w W' (out ++ s) v' := by
  obtain ⟨i0, hi0, hz0, hz1, hz2⟩ := info_parts info5
  obtain ⟨g, rfl, hg1, hg2, hr⟩ := h.full
  have hm : 0 < s.length := List.length_pos_iff.2 hne
  have h63 : out.length + s.length ≤ maxLen := by unfold maxLen; omega
  have hnext : Builtin.nextslicecap (out.length + s.length) out.length * i0.bytes ≤ 281474976710656 := by
    rw [hz2, Nat.mul_one]
    have := nextslicecap_le (need := out.length + s.length) (old := out.length) (by omega)
    omega
  have hrun := run_append_grow_src (P := Tryz.prog) W 22 tx ty 5 i0 (.int .u8 0) Tryz.underlying22 hi0 hz0 (some ⟨g, 0, none⟩) out.length out.length (bs out)
    (by rw [hz1]; exact run_firstCells_some W.drew 1 out.length ⟨g, 0, none⟩ out.length out.length (bs out) (by simp [bs_length]) (fun j u hu => by
      rw [Addr.add_mid]; exact hr j u hu)) x s.length (bs s) (by rw [hz1]; exact hs) (by omega) (by unfold maxLen at h63; omega) hnext
  have hlen : (bs out ++ bs s).length = (out.length + s.length) * 1 := by rw [List.length_append, bs_length, bs_length]; omega
  have hge := grownCap_ge W (out.length + s.length) out.length 5
  have hcm : grownCap W (out.length + s.length) out.length 5 ≤ maxLen := grownCap_le_maxLen W (out.length + s.length) out.length 5 h63
  refine ⟨_, _, hrun, ?_, (h.f.drew).alloc _⟩
  have e1 : (out ++ s).length = out.length + s.length := by simp
  have e2 : bs (out ++ s) = bs out ++ bs s := by simp [bs]
  rw [e1, e2]
  refine ⟨hlen, .inr ⟨W.heap.size, _, _, rfl, h.f.size, heap_alloc_new W.drew _, hge, hcm, ?_, ?_⟩⟩
  · simp only [Array.size_append, List.size_toArray, size_zeroCells, hlen]
    have : (Value.int .u8 0).cells.size = 1 := rfl
    rw [this]; omega
  · simp only [Array.toList_append]
    rw [← hlen]
    exact List.take_left
theorem wpList_append_obf {ops : Array Oper} {rest : List Oper} {o : Oper} {a : Act} {Q : Exit → Act → World → Prop} {w W : World} {out : List UInt8} {v : Value} (hgd : o.guard = none) (d s : Operand) (tx : TypeId)
    (ho : o.op = .call { callee := .builtin .append, args := #[d, s], argTypes := #[22, tx] }) (x : Value) (t : List UInt8)
    (hd : a.eval d = v) (hx : a.eval s = x) (hO : Obf w W out v) (hs : Go.Src Tryz.prog 1 tx x t.length (bs t) W) (hne : t ≠ []) (hsz : out.length + t.length ≤ 140737488355328)
    (h : ∀ v' W', Ob w W' (out ++ t) v' → wpList Tryz.prog ops Q rest (a.put o.dst v') W') : wpList Tryz.prog ops Q (o :: rest) a W := by
  refine wpList_plain hgd fun _ hK => ?_
  obtain ⟨v', w', hr, h2⟩ := run_append_full (ty := o.type) hO hs hne hsz
  unfold Oper.wp execOp
  simp only [ho, resolve, invoke, builtin, Sem.run_bind, Sem.run_pure, Result.andThen_ok, List.map_toArray, List.map_cons, List.map_nil, hd, hx, hr]
  exact hK _ _ (h v' w' h2)
theorem wpList_append_ob {ops : Array Oper} {rest : List Oper} {o : Oper} {a : Act} {Q : Exit → Act → World → Prop} {w W : World} {out : List UInt8} {v : Value} (hgd : o.guard = none) (d s : Operand) (tx : TypeId)
    (ho : o.op = .call { callee := .builtin .append, args := #[d, s], argTypes := #[22, tx] }) (x : Value) (t : List UInt8)
    (hd : a.eval d = v) (hx : a.eval s = x) (hO : Ob w W out v) (hs : Go.Src Tryz.prog 1 tx x t.length (bs t) W) (hsz : out.length + t.length ≤ 140737488355328)
    (h : ∀ v' W', Ob w W' (out ++ t) v' → wpList Tryz.prog ops Q rest (a.put o.dst v') W') : wpList Tryz.prog ops Q (o :: rest) a W :=
  wpList_append_src hgd d s tx ho w.heap.size out.length t.length v x (bs out) (bs t) hd hx hO.own hs hsz hO.len (fun v' W' ha => h v' W' (hO.apd ha))
/-- The one or the other. -/
def Obx (w W : World) (out : List UInt8) (v : Value) : Prop := Ob w W out v ∨ Obf w W out v
theorem wpList_append_obx {ops : Array Oper} {rest : List Oper} {o : Oper} {a : Act} {Q : Exit → Act → World → Prop} {w W : World} {out : List UInt8} {v : Value} (hgd : o.guard = none) (d s : Operand) (tx : TypeId)
    (ho : o.op = .call { callee := .builtin .append, args := #[d, s], argTypes := #[22, tx] }) (x : Value) (t : List UInt8)
    (hd : a.eval d = v) (hx : a.eval s = x) (hO : Obx w W out v) (hs : Go.Src Tryz.prog 1 tx x t.length (bs t) W) (hne : t ≠ []) (hsz : out.length + t.length ≤ 140737488355328)
    (h : ∀ v' W', Ob w W' (out ++ t) v' → wpList Tryz.prog ops Q rest (a.put o.dst v') W') : wpList Tryz.prog ops Q (o :: rest) a W :=
  hO.elim (fun hO => wpList_append_ob hgd d s tx ho x t hd hx hO hs hsz h) (fun hO => wpList_append_obf hgd d s tx ho x t hd hx hO hs hne hsz h)
theorem Obx.form {w W : World} {out : List UInt8} {v : Value} (h : Obx w W out v) : ∃ a c, v = .slice a out.length c := by
  rcases h with h | h
  · exact own_len h.own
  · obtain ⟨g, rfl, _⟩ := h.full; exact ⟨_, _, rfl⟩
theorem Obx.f {w W : World} {out : List UInt8} {v : Value} (h : Obx w W out v) : Fr (fun _ => False) w W := h.elim (·.f) (·.f)
/-- A constant's bytes. -/
theorem Obf.const {w W : World} (f : Fr (fun _ => False) w W) (l : List UInt8) : Obf w (W.alloc (.cells (bs l).toArray 5 ((bs l).toArray.size, (bs l).toArray.size + 1))) l (.slice (some ⟨W.heap.size, 0, none⟩) l.length l.length) :=
  ⟨⟨W.heap.size, rfl, f.size, by simp, fun j u hu => by
    rw [Nat.zero_add, cell_of_row _ W.heap.size j _ 5 _ (heap_alloc_new W _)]
    simpa using hu⟩, f.alloc _⟩

set_option maxRecDepth 100000 in
set_option maxHeartbeats 4000000 in
theorem rbytes_any (w : World) (ad : Option Addr) (L : List Ent) (cap : Nat) (hL : Ents w ad L) :
    Calls Tryz.prog 14 #[.slice ad L.length cap] w fun e w' => ∃ v, e = .returned v ∧ w'.ownsRow w.heap.size 5 1 v (bytesL L).length (bs (bytesL L)) ∧ Fr (fun _ => False) w w' := by
  have HR := hid (rright_any w ad L cap hL)
  have HL := hid hL
  clear hL
  cases hr : rightB L with
  | false =>
    rw [hr] at HR
    have HE : Hid (bytesL L = []) := by unfold Hid bytesL; rw [hr]; rfl
    go_enter Tryz.func14, Tryz.ntmps14
    go_wp2_with (go_at_call 25; refine HR.out.mono ?_; rintro e w1 ⟨rfl, f1⟩; have F1 := hid f1)
    go_ret
    exact ⟨_, rfl, by rw [HE.out]; exact World.ownsRow_nil _ _ _ _, F1.out⟩
  | true =>
    rw [hr] at HR
    obtain ⟨hn, hone⟩ := right_one L hr
    have HOne := hid hone
    have HLen : Hid (∀ i, ((L.take i).flatMap entL).length ≤ 52272) := fun i => by
      have h1 := flat_length (L.take i) (fun x hx => hone x (List.mem_of_mem_take hx))
      have h2 : (L.take i).length ≤ 24 := by simp; omega
      omega
    have HE : Hid ([116, 114, 101, 101, 10] ++ L.flatMap entL ++ [101, 110, 100, 10] = bytesL L) := by unfold Hid bytesL; rw [hr]; rfl
    clear hr hone
    go_enter Tryz.func14, Tryz.ntmps14
    go_wp2_with (go_at_call 25; refine HR.out.mono ?_; rintro e w1 ⟨rfl, f1⟩; have F1 := hid f1; clear f1; have hcv := Lib.run_convert_bytes_const (P := Tryz.prog) w1 22 5 #[.int .u8 116, .int .u8 114, .int .u8 101, .int .u8 101, .int .u8 10] 5 5 Tryz.underlying22 Tryz.underlying5)
    have HO0 : Hid (Obx w (w1.alloc (.cells #[.int .u8 116, .int .u8 114, .int .u8 101, .int .u8 101, .int .u8 10] 5 (5, 6))) [116, 114, 101, 101, 10] (.slice (some ⟨w1.heap.size, 0, none⟩) 5 5)) := .inr (Obf.const F1.out [116, 114, 101, 101, 10])
    go_loopw [4, 5] (fun bv iv wr => ∃ (i : Nat), i ≤ L.length ∧ iv = .int .i64 (i : Int) ∧ Obx w wr ([116, 114, 101, 101, 10] ++ (L.take i).flatMap entL) bv) (fun _ iv _ => L.length - (intOf iv).toNat)
    case atStart => exact ⟨0, Nat.zero_le _, rfl, by simpa using HO0.out⟩
    case round =>
      obtain ⟨i, hi, rfl, hOr⟩ := hrel
      have HOr := hid hOr
      clear HO0 hOr
      obtain ⟨va, vc, rfl⟩ := HOr.out.form
      by_cases hlt : i < L.length
      · have hi1 : (i : Int) < ((L.length : Nat) : Int) := by omega
        have hi0 : (0 : Int) ≤ (i : Int) := Int.natCast_nonneg _
        obtain ⟨bb, bo, da, dc, rfl, c0, c1', c2, hv⟩ := HL.out.at i hlt
        have c1 := cell_fr HOr.out.f c1'
        have hx := HOne.out L[i] (List.getElem_mem _)
        obtain ⟨hxp, hxd, hxk⟩ := path_bound L[i] hx
        have HStep := hid (flat_take L i hlt)
        have hlen := HLen.out i
        have hdl := decL_len 4 L[i].data.length (by decide) (by omega)
        have HX := hid (fun W (f : Fr (fun _ => False) w W) => (show W.cell? ⟨bb, bo + i * 3, none⟩ = some (.string ⟨L[i].path.toArray⟩) ∧ W.cell? ⟨bb, bo + i * 3 + 2, none⟩ = some (.slice da L[i].data.length dc) ∧ Src W da L[i].data from ⟨cell_fr f c0, cell_fr f c2, hv.src.fr f⟩))
        have hOl : ([116, 114, 101, 101, 10] ++ (L.take i).flatMap entL).length ≤ 53000 := by rw [List.length_append]; have : [(116 : UInt8), 114, 101, 101, 10].length = 5 := rfl; omega
        have HEnd : Hid (([116, 114, 101, 101, 10] ++ (L.take i).flatMap entL) ++ entL L[i] = [116, 114, 101, 101, 10] ++ (L.take (i + 1)).flatMap entL) := by unfold Hid; rw [HStep.out]; simp
        clear hx hv c0 c2 c1' HStep hlen HR HLen hcv
        generalize L[i] = x at *
        generalize [116, 114, 101, 101, 10] ++ (L.take i).flatMap entL = o at *
        rcases hxk with hk | hk
        · have hk1 : (x.kind == 1) = true := by rw [hk]; rfl
          have HEn : Hid (o ++ [102, 32] ++ x.path ++ ([32] ++ decL x.data.length ++ [10]) ++ x.data ++ [10] = o ++ entL x) := by unfold Hid entL; rw [hk]; simp
          rw [HEnd.out] at HEn
          go_wp2_with (at_builtin; refine wpList_append_obx (by rfl) _ _ 9 (by rfl) _ [102, 32] (by rfl) (by rfl) HOr.out (srcStr _ [102, 32]) (by simp) (by simp; omega) ?_; intro v1 W1 hO1; refine Hid.out ?_)
          refine hid ?_
          obtain ⟨va1, vc1, rfl⟩ := own_len hO1.own
          have d1 := (HX.out W1 hO1.f).1
          have HO1 := hid hO1
          have hl1 : (o ++ [102, 32]).length ≤ 53100 := by simp; omega
          clear hO1 HOr hOl c1
          generalize hg1 : o ++ [102, 32] = o1 at *
          go_wp2_with (at_builtin; refine wpList_append_ob (by rfl) _ _ 9 (by rfl) _ x.path (by rfl) (by rfl) HO1.out (srcStr _ x.path) (by omega) ?_; intro v2 W2 hO2; refine Hid.out ?_)
          refine hid ?_
          obtain ⟨va2, vc2, rfl⟩ := own_len hO2.own
          have d2 := (HX.out W2 hO2.f).2.1
          have HO2 := hid hO2
          have hl2 : (o1 ++ x.path).length ≤ 53300 := by simp; omega
          clear hO2 HO1 hl1 d1
          generalize hg2 : o1 ++ x.path = o2 at *
          have HDc := hid (decimal_any W2 x.data.length (by omega))
          have hz1 : ¬ 9223372036854775807 < 1 + (decL x.data.length).length := by omega
          have hz2 : ¬ 9223372036854775807 < 1 + (decL x.data.length).length + 1 := by omega
          have HS1 : Hid (((ByteArray.mk #[32]) ++ (ByteArray.mk (decL x.data.length).toArray)) ++ (ByteArray.mk #[10]) = ⟨([32] ++ decL x.data.length ++ [10]).toArray⟩) := by unfold Hid; rw [str_cat [32] (decL x.data.length)]; exact str_cat ([32] ++ decL x.data.length) [10]
          have hl3 : ([32] ++ decL x.data.length ++ [10]).length ≤ 6 := by simp; omega
          generalize decL x.data.length = dl at *
          go_wp2_with (first
            | (go_at_call 26; refine HDc.out.mono ?_; rintro e W3 ⟨rfl, f3⟩; have HO3 := hid (HO2.out.fr f3); clear f3)
            | (at_builtin; rw [HS1.out]; refine wpList_append_ob (by rfl) _ _ 9 (by rfl) _ ([32] ++ dl ++ [10]) (by rfl) (by rfl) HO3.out (srcStr _ _) (by omega) ?_; intro v4 W4 hO4; refine Hid.out ?_))
          refine hid ?_
          obtain ⟨va4, vc4, rfl⟩ := own_len hO4.own
          have d4 := (HX.out W4 hO4.f).2.1
          have HD4 := hid (srcBytes (HX.out W4 hO4.f).2.2 dc)
          have HO4 := hid hO4
          have hl4 : (o2 ++ ([32] ++ dl ++ [10])).length ≤ 53400 := by rw [List.length_append]; omega
          clear hO4 HO3 HO2 hl2 d2 HDc hz1 hz2 HS1 hl3 HX
          generalize hg4 : o2 ++ ([32] ++ dl ++ [10]) = o4 at *
          go_wp2_with (at_builtin; refine wpList_append_ob (by rfl) _ _ 22 (by rfl) _ x.data (by rfl) (by rfl) HO4.out HD4.out (by omega) ?_; intro v5 W5 hO5; refine Hid.out ?_)
          refine hid ?_
          obtain ⟨va5, vc5, rfl⟩ := own_len hO5.own
          have HO5 := hid (hO5.fr ((Fr.refl _ W5).alloc (.cells #[.int .u8 10] 5)))
          have HS5 : Hid (Src (W5.alloc (.cells #[.int .u8 10] 5)) (some ⟨W5.heap.size, 0, none⟩) [10]) := src_new W5 10
          have hl5 : (o4 ++ x.data).length ≤ 56000 := by rw [List.length_append]; omega
          clear hO5 HO4 hl4 d4 HD4
          generalize hg5 : o4 ++ x.data = o5 at *
          go_wp2_with (at_builtin; refine wpList_append_ob (by rfl) _ _ 22 (by rfl) _ [10] (by rfl) (by rfl) HO5.out (srcBytes HS5.out 1) (by simp; omega) ?_; intro v6 W6 hO6; refine Hid.out ?_)
          refine hid ?_
          have HO6 : Hid (Obx w W6 ([116, 114, 101, 101, 10] ++ (L.take (i + 1)).flatMap entL) v6) := by unfold Hid; rw [← HEn.out]; exact .inl hO6
          clear hO6 HO5 HS5 hl5 HEn HEnd
          go_wp2
          exact ⟨⟨i + 1, by omega, by go_num, HO6.out⟩, by simp [intOf]; omega⟩
        · have hk1 : (x.kind == 1) = false := by rw [hk]; rfl
          have HEn : Hid (o ++ [108, 32] ++ x.path ++ ([32] ++ decL x.data.length ++ [10]) ++ x.data ++ [10] = o ++ entL x) := by unfold Hid entL; rw [hk]; simp
          rw [HEnd.out] at HEn
          go_wp2_with (at_builtin; refine wpList_append_obx (by rfl) _ _ 9 (by rfl) _ [108, 32] (by rfl) (by rfl) HOr.out (srcStr _ [108, 32]) (by simp) (by simp; omega) ?_; intro v1 W1 hO1; refine Hid.out ?_)
          refine hid ?_
          obtain ⟨va1, vc1, rfl⟩ := own_len hO1.own
          have d1 := (HX.out W1 hO1.f).1
          have HO1 := hid hO1
          have hl1 : (o ++ [108, 32]).length ≤ 53100 := by simp; omega
          clear hO1 HOr hOl c1
          generalize hg1 : o ++ [108, 32] = o1 at *
          go_wp2_with (at_builtin; refine wpList_append_ob (by rfl) _ _ 9 (by rfl) _ x.path (by rfl) (by rfl) HO1.out (srcStr _ x.path) (by omega) ?_; intro v2 W2 hO2; refine Hid.out ?_)
          refine hid ?_
          obtain ⟨va2, vc2, rfl⟩ := own_len hO2.own
          have d2 := (HX.out W2 hO2.f).2.1
          have HO2 := hid hO2
          have hl2 : (o1 ++ x.path).length ≤ 53300 := by simp; omega
          clear hO2 HO1 hl1 d1
          generalize hg2 : o1 ++ x.path = o2 at *
          have HDc := hid (decimal_any W2 x.data.length (by omega))
          have hz1 : ¬ 9223372036854775807 < 1 + (decL x.data.length).length := by omega
          have hz2 : ¬ 9223372036854775807 < 1 + (decL x.data.length).length + 1 := by omega
          have HS1 : Hid (((ByteArray.mk #[32]) ++ (ByteArray.mk (decL x.data.length).toArray)) ++ (ByteArray.mk #[10]) = ⟨([32] ++ decL x.data.length ++ [10]).toArray⟩) := by unfold Hid; rw [str_cat [32] (decL x.data.length)]; exact str_cat ([32] ++ decL x.data.length) [10]
          have hl3 : ([32] ++ decL x.data.length ++ [10]).length ≤ 6 := by simp; omega
          generalize decL x.data.length = dl at *
          go_wp2_with (first
            | (go_at_call 26; refine HDc.out.mono ?_; rintro e W3 ⟨rfl, f3⟩; have HO3 := hid (HO2.out.fr f3); clear f3)
            | (at_builtin; rw [HS1.out]; refine wpList_append_ob (by rfl) _ _ 9 (by rfl) _ ([32] ++ dl ++ [10]) (by rfl) (by rfl) HO3.out (srcStr _ _) (by omega) ?_; intro v4 W4 hO4; refine Hid.out ?_))
          refine hid ?_
          obtain ⟨va4, vc4, rfl⟩ := own_len hO4.own
          have d4 := (HX.out W4 hO4.f).2.1
          have HD4 := hid (srcBytes (HX.out W4 hO4.f).2.2 dc)
          have HO4 := hid hO4
          have hl4 : (o2 ++ ([32] ++ dl ++ [10])).length ≤ 53400 := by rw [List.length_append]; omega
          clear hO4 HO3 HO2 hl2 d2 HDc hz1 hz2 HS1 hl3 HX
          generalize hg4 : o2 ++ ([32] ++ dl ++ [10]) = o4 at *
          go_wp2_with (at_builtin; refine wpList_append_ob (by rfl) _ _ 22 (by rfl) _ x.data (by rfl) (by rfl) HO4.out HD4.out (by omega) ?_; intro v5 W5 hO5; refine Hid.out ?_)
          refine hid ?_
          obtain ⟨va5, vc5, rfl⟩ := own_len hO5.own
          have HO5 := hid (hO5.fr ((Fr.refl _ W5).alloc (.cells #[.int .u8 10] 5)))
          have HS5 : Hid (Src (W5.alloc (.cells #[.int .u8 10] 5)) (some ⟨W5.heap.size, 0, none⟩) [10]) := src_new W5 10
          have hl5 : (o4 ++ x.data).length ≤ 56000 := by rw [List.length_append]; omega
          clear hO5 HO4 hl4 d4 HD4
          generalize hg5 : o4 ++ x.data = o5 at *
          go_wp2_with (at_builtin; refine wpList_append_ob (by rfl) _ _ 22 (by rfl) _ [10] (by rfl) (by rfl) HO5.out (srcBytes HS5.out 1) (by simp; omega) ?_; intro v6 W6 hO6; refine Hid.out ?_)
          refine hid ?_
          have HO6 : Hid (Obx w W6 ([116, 114, 101, 101, 10] ++ (L.take (i + 1)).flatMap entL) v6) := by unfold Hid; rw [← HEn.out]; exact .inl hO6
          clear hO6 HO5 HS5 hl5 HEn HEnd
          go_wp2
          exact ⟨⟨i + 1, by omega, by go_num, HO6.out⟩, by simp [intOf]; omega⟩
      · obtain rfl : i = L.length := by omega
        have hkn : ¬ ((L.length : Nat) : Int) < ((L.length : Nat) : Int) := by omega
        have hlen := HLen.out L.length
        rw [List.take_length] at HOr hlen
        have hOl : ([116, 114, 101, 101, 10] ++ L.flatMap entL).length ≤ 53000 := by rw [List.length_append]; have : [(116 : UInt8), 114, 101, 101, 10].length = 5 := rfl; omega
        rw [List.take_length]
        clear hlen HLen hcv HR
        generalize [116, 114, 101, 101, 10] ++ L.flatMap entL = o at *
        go_wp2_with (at_builtin; refine wpList_append_obx (by rfl) _ _ 9 (by rfl) _ [101, 110, 100, 10] (by rfl) (by rfl) HOr.out (srcStr _ [101, 110, 100, 10]) (by simp) (by simp; omega) ?_; intro v1 W1 hO1; refine Hid.out ?_)
        refine hid ?_
        have HO1 := hid hO1
        clear hO1 HOr
        go_wp2
        go_ret
        exact ⟨v1, rfl, by rw [← HE.out]; exact HO1.out.own, HO1.out.f⟩

end Go.Proofs.YtipppagkajcheaaGreatDoor.Tr
