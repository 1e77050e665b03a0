
/- The contract of Write. -/
import Derived.Test.YtehoiahgkbnjdaaGreatMake
import Derived.Deep.RegionLaw
namespace Go.Proofs.YtehoiahgkbnjdaaGreat.Dk
open Go.RowKit

/-- Write: the disk behind it, and the answer. -/
def Dsk.written (D : Dsk) (i : Nat) (b : List UInt8) : Dsk := { D.deed with N := splice D.deed.N (i * 128) b, Q := D.deed.Q ++ [(i, b)] }
def Dsk.writeE (D : Dsk) (i : Int) (len : Nat) : Int := if D.reach i ≠ 0 then D.reach i else if len ≠ 128 then 44 else D.deedE
def Dsk.write (D : Dsk) (i : Int) (b : List UInt8) : Dsk := if D.reach i ≠ 0 then D else if b.length ≠ 128 then D else if D.deedE = 0 then D.written i.toNat b else D.deed

/-- 'copy' into the variable that was made last, behind its first cell. -/
theorem wpList_copyW {ops : Array Oper} {rest : List Oper} {o : Oper} {a : Act} {W : World} {Q : Exit → Act → World → Prop} (hgd : o.guard = none) (d s : Operand)
    (ho : o.op = .call { callee := .builtin .copy, args := #[d, s], argTypes := #[49, 49] }) (i : Nat) (z b : List UInt8) (hz : z.length = 128) (hb : b.length = 128)
    (ab ao cap : Nat) (hd : a.eval d = .slice (some ⟨W.heap.size, 1, none⟩) 128 128) (hs : a.eval s = .slice (some ⟨ab, ao, none⟩) 128 cap)
    (hsrc : W.rangeAt ab ao (bs b))
    (h : wpList Tryz.prog ops Q rest (a.put o.dst (.int .i64 128)) (W.alloc (.cells (wc (i, b)).toArray 130))) : wpList Tryz.prog ops Q (o :: rest) a (W.alloc (.cells (wc (i, z)).toArray 130)) := by
  refine wpList_plain hgd fun K hK => ?_
  have hl : (bs b).length = 128 := by rw [bs_length, hb]
  have hB := Blk.new W 130 (wc (i, z))
  have hrun := run_copy_row (P := Tryz.prog) (W.alloc (.cells (wc (i, z)).toArray 130)) 49 49 o.type 5 W.heap.size 1 128 128 ⟨ab, ao, none⟩ 128 cap (wc (i, z)).toArray 130 (bs b) Tryz.underlying49 (by kernel_rfl) hB (by rw [hl]; rfl)
    (fun j v hv => by rw [Addr.add_mid]; exact World.rangeAt_alloc hsrc _ j v hv) (by simp [wc_length (i, z) hz, hl]) (bs_one b)
  have e : ((wc (i, z)).toArray.toList.take 1 ++ bs b ++ (wc (i, z)).toArray.toList.drop (1 + (bs b).length)).toArray = (wc (i, b)).toArray := by
    have e1 : (wc (i, z)).toArray.toList.drop (1 + (bs b).length) = [] := List.drop_eq_nil_of_le (by simp [wc_length (i, z) hz, hl])
    rw [e1]
    simp [wc]
  rw [e, World.setRow_alloc_new] at hrun
  unfold Oper.wp
  simp only [hl] at hrun
  simp [execOp, ho, resolve, invoke, builtin, hd, hs, hrun, Result.andThen]
  exact hK _ _ h

/-! A load of many cells as ONE rule for the walk, at the whole operation. -/
def addrOf : Value → Addr
  | .pointer (some a) => a
  | _ => ⟨0, 0, none⟩
def readCells (n : Nat) (w : World) (a : Addr) : Array Value := ((List.range n).map fun j => (w.cell? ⟨a.block, a.off + j, none⟩).getD undef).toArray
def okLoad (n : Nat) (w : World) (v : Value) : Prop := ∃ b o, v = .pointer (some ⟨b, o, none⟩) ∧ ∀ j, j < n → (w.cell? ⟨b, o + j, none⟩).isSome = true
theorem addrOf_ptr (a : Addr) : addrOf (.pointer (some a)) = a := rfl
theorem readCells_range {w : World} {b o : Nat} {cs : List Value} (h : w.rangeAt b o cs) : readCells cs.length w ⟨b, o, none⟩ = cs.toArray := by
  unfold readCells
  congr 1
  apply List.ext_getElem
  · simp
  · intro j h1 h2
    simp [h j cs[j] (List.getElem?_eq_getElem h2)]
theorem okLoad_range {w : World} {b o : Nat} {cs : List Value} (h : w.rangeAt b o cs) : okLoad cs.length w (.pointer (some ⟨b, o, none⟩)) := ⟨b, o, rfl, h.isSome⟩
theorem rangeAt_readCells {n : Nat} {w : World} {b o : Nat} (h : ∀ j, j < n → (w.cell? ⟨b, o + j, none⟩).isSome = true) : w.rangeAt b o (readCells n w ⟨b, o, none⟩).toList := fun j v hv => by
  have hj : j < n := by
    have := (List.getElem?_eq_some_iff.1 hv).1
    simpa [readCells] using this
  obtain ⟨u, hu⟩ := Option.isSome_iff_exists.1 (h j hj)
  simp [readCells, hj, hu] at hv
  rw [hu, hv]
theorem wp_load62 {dst : Option Tmp} {type : TypeId} {pos : String} {after : Array Edge} {guard : Option (Nat × Bool)} {x : Operand} {a : Act} {w : World} {K : Act → World → Prop} {Q : Exit → Act → World → Prop} (h : okLoad 129 w (a.eval x)) :
    Oper.wp Tryz.prog { dst := dst, op := .load 130 x, type := type, pos := pos, after := after, guard := guard } a w K Q = K (a.put dst (.agg (readCells 129 w (addrOf (a.eval x))))) w := by
  obtain ⟨b, o, hx, hc⟩ := h
  have hl : (readCells 129 w ⟨b, o, none⟩).toList.length = 129 := by simp [readCells]
  unfold Oper.wp execOp
  simp only [hx, addrOf_ptr, Instr.loadAt, Instr.sureAddr, Sem.run_bind, Sem.run_pure, Result.andThen_ok, run_loadVar_mid w b o 130 _ _ (rangeAt_readCells hc) Tryz.underlying130 rfl (by rw [size62, hl])]
  rfl
theorem fold_fill : ∀ (c : List Value) (k : Nat) (base : List Value), k + c.length ≤ base.length → (c.zipIdx k).foldl (fun (cs : Array Value) (x : Value × Nat) => cs.setIfInBounds (0 + x.2) x.1) base.toArray = (splice base k c).toArray
  | [], k, base, _ => by simp [splice]
  | v :: r, k, base, h => by
    simp only [List.length_cons] at h
    rw [List.zipIdx_cons, List.foldl_cons]
    simp only [Nat.zero_add, List.setIfInBounds_toArray]
    have := fold_fill r (k + 1) (base.set k v) (by simp; omega)
    simp only [Nat.zero_add] at this
    rw [this, splice_cons base k v r (by omega)]
theorem fill_whole (c base : Array Value) (h : base.size = c.size) : Instr.fill (fun i => some (i * 129, 129)) base [(0, .agg c)] = if c.size = 129 then some c else none := by
  have e := fold_fill c.toList 0 base.toList (by simp [h])
  have e2 : splice base.toList 0 c.toList = c.toList := by simp [splice, ← h]
  rw [e2] at e
  by_cases hc : c.size = 129
  · simp only [Instr.fill, Value.cells, Nat.zero_mul, hc, h, ne_eq, not_true_eq_false, decide_false, Nat.zero_add, Nat.lt_irrefl, gt_iff_lt, Bool.or_self, Bool.false_eq_true, if_false, if_true]
    have e3 : c.zipIdx.foldl (fun (cs : Array Value) (x : Value × Nat) => cs.setIfInBounds (0 + x.2) x.1) base = c := by
      rw [← Array.foldl_toList, Array.toList_zipIdx]
      simpa using e
    simpa using e3
  · simp [Instr.fill, Value.cells, hc]
theorem run_build54 (w : World) (c : Array Value) (hc : c.size = 129) :
    (Instr.buildSlice 102 1 #[(0, .agg c)]).run Tryz.prog w = .ok (.slice (some ⟨w.heap.size, 0, none⟩) 1 1) (w.alloc (.cells c 130)) := by
  obtain ⟨i0, hi0, hz0, hz1, hz2⟩ := info_parts info62
  have hf := fun (z : Array Value) => fill_whole c ((Array.range 129).map (z[· % z.size]!)) (by simp [hc])
  simp only [hc, if_true] at hf
  simp [Instr.buildSlice, run_underlying Tryz.underlying102, sizeOf, typeInfo, hi0, hz1, hf, newRow]
def aggOf : Value → Array Value
  | .agg c => c
  | _ => #[]
theorem aggOf_agg (c : Array Value) : aggOf (.agg c) = c := rfl
def okAgg (n : Nat) (v : Value) : Prop := ∃ c, v = .agg c ∧ c.size = n
theorem okAgg_wc (q : Nat × List UInt8) (h : q.2.length = 128) : okAgg 129 (.agg (wc q).toArray) := ⟨_, rfl, by simp [wc_length q h]⟩
theorem wp_build54 {dst : Option Tmp} {type : TypeId} {pos : String} {after : Array Edge} {guard : Option (Nat × Bool)} {x : Operand} {a : Act} {w : World} {K : Act → World → Prop} {Q : Exit → Act → World → Prop} (h : okAgg 129 (a.eval x)) :
    Oper.wp Tryz.prog { dst := dst, op := .buildSlice 102 1 #[(0, x)], type := type, pos := pos, after := after, guard := guard } a w K Q = K (a.put dst (.slice (some ⟨w.heap.size, 0, none⟩) 1 1)) (w.alloc (.cells (aggOf (a.eval x)) 130)) := by
  obtain ⟨c, hx, hc⟩ := h
  unfold Oper.wp execOp
  simp only [List.map_toArray, List.map_cons, List.map_nil, hx, aggOf_agg, run_build54 w c hc, Sem.run_bind, Sem.run_pure, Result.andThen_ok]
  rfl
attribute [local go_sem ↓] wp_load62 wp_build54
attribute [local go_sem] addrOf_ptr aggOf_agg

/-- One more write is loose. -/
theorem Rep.pushed {B : Nat} {W W' : World} {p bl bn : Nat} {lv : Value} {D : Dsk} (h : Rep B W p bl bn lv D) {gg cap : Nat} (i : Nat) (b : List UInt8) (hi : i < D.n) (hb : b.length = 128)
    (ho : W'.ownsRow B 130 129 (.slice (some ⟨gg, 0, none⟩) (D.Q.length + 1) cap) (D.Q.length + 1) (enc D.Q ++ wc (i, b))) (hg : W.grownBy W' lv.ownBlock) (hat : lv.ownBlock = some gg ∨ gg = W.heap.size) :
    Rep B (W'.setCell ⟨p, 2, none⟩ (.slice (some ⟨gg, 0, none⟩) (D.Q.length + 1) cap)) p bl bn (.slice (some ⟨gg, 0, none⟩) (D.Q.length + 1) cap) { D with Q := D.Q ++ [(i, b)] } := by
  have far : ∀ k, foot p bl bn lv k → lv.ownBlock ≠ some k → gg ≠ k := fun k hk hn e => by
    subst e
    rcases hat with h1 | h1
    · exact hn h1
    · have := h.foot_lt _ hk; omega
  have np := far p (.inl rfl) h.qp
  have nl := far bl (.inr (.inl rfl)) h.ql
  have nn := far bn (.inr (.inr (.inl rfl))) h.qn
  have hqs : ∀ x ∈ D.Q ++ [(i, b)], x.1 < D.n ∧ x.2.length = 128 := fun x hx => by
    rcases List.mem_append.1 hx with h1 | h1
    · exact h.ok.q x h1
    · simp only [List.mem_singleton] at h1
      subst h1
      exact ⟨hi, hb⟩
  exact
    { hp := (h.hp.of_eq (hg.block p h.hp.lt (Ne.symm h.qp))).setCell 2 _
      hl := (h.hl.of_eq (hg.block bl h.hl.lt (Ne.symm h.ql))).setCell_ne (Ne.symm h.pl) _
      hn := (h.hn.of_eq (hg.block bn h.hn.lt (Ne.symm h.qn))).setCell_ne (Ne.symm h.pn) _
      hq := by
        have e : enc (D.Q ++ [(i, b)]) = enc D.Q ++ wc (i, b) := by rw [enc_append]; simp [enc, wc]
        show World.ownsRow _ _ _ _ _ (D.Q ++ [(i, b)]).length (enc (D.Q ++ [(i, b)]))
        rw [e, List.length_append]
        exact owns_of_eq ho (fun k hk => Below.heap_setCell W' _ _ k (fun e' => by
          have hk' : gg = k := by simpa [Value.ownBlock] using hk
          exact np (hk'.trans e')))
      pB := h.pB
      lB := h.lB
      nB := h.nB
      pl := h.pl
      pn := h.pn
      ln := h.ln
      qp := by simpa [Value.ownBlock] using np
      ql := by simpa [Value.ownBlock] using nl
      qn := by simpa [Value.ownBlock] using nn
      ok := { h.ok with q := hqs } }

theorem wz_eq (i : Nat) : (#[Value.int .i64 (i : Int)] ++ (bs (List.replicate 128 0)).toArray) = (wc (i, List.replicate 128 0)).toArray := by simp [wc]

set_option maxRecDepth 100000 in
set_option maxHeartbeats 400000 in
theorem write_ok {B : Nat} {w : World} {p bl bn : Nat} {lv : Value} {D : Dsk} (h : Rep B w p bl bn lv D) (hQ : D.Q.length < 1073741824) (hd : D.deeds < 1073741824)
    (i : Nat) (b : List UInt8) (ab ao cap : Nat) (hr0 : D.reach (i : Int) = 0) (hb : b.length = 128) (hsrc : w.rangeAt ab ao (bs b)) (hab : ab < w.heap.size) (hnf : ¬ foot p bl bn lv ab) (h0 : D.deedE = 0) :
    Calls Tryz.prog 64 #[pv p, .int .i64 (i : Int), .slice (some ⟨ab, ao, none⟩) 128 cap] w fun e w' => e = .returned (.int .i64 0) ∧ Did B p bl bn lv w (D.written i b) w' := by
  have hr := reach_any h (i : Int)
  rw [hr0] at hr
  have HR : Hid (Calls Tryz.prog 76 #[pv p, .int .i64 (i : Int)] w fun e w' => e = .returned (.int .i64 0) ∧ w' = w) := hr
  have hc := deed_any h (by omega) (by omega)
  rw [h0] at hc
  have HC : Hid (Calls Tryz.prog 87 #[pv p] w fun e w' => e = .returned (.int .i64 0) ∧ Did B p bl bn lv w D.deed w') := hc
  have hi : i < D.n := by
    unfold Dsk.reach at hr0
    split at hr0
    · omega
    · split at hr0
      · omega
      · omega
  have hq := deed_Q D h0
  clear hr hc h h0 hr0
  go_enter Tryz.func64, Tryz.ntmps64
  go_wp2_with fail
  refine HR.out.mono ?_
  rintro e w0 ⟨rfl, hw⟩
  obtain rfl : w = w0 := hw.symm
  clear hw
  go_wp2_with fail
  refine HC.out.mono ?_
  rintro e w1 ⟨rfl, lv1, r1, s1, f1⟩
  have R1 : Hid (Rep B w1 p bl bn lv1 D.deed) := r1
  have S1 : Hid (∀ k, lv1.ownBlock = some k → lv.ownBlock = some k ∨ w.heap.size ≤ k) := s1
  have F1 : Hid (Fr (foot p bl bn lv) w w1) := f1
  have hsrc1 : Hid (w1.rangeAt ab ao (bs b)) := fun j v hv => by
    rw [World.cell?_of_block (w := w) (f1.block ab hab hnf)]; exact hsrc j v hv
  clear r1 s1 f1 HR HC hsrc
  have hz := zero62
  have HQ : Hid (D.deed.Q = D.Q ∧ D.deed.L = D.L ∧ D.deed.N = D.N ∧ D.deed.n = D.n) := hq
  clear hq
  have hzl : zw.length = 129 := by simp [zw, bs_length]
  have hzn : ¬ zw = [] := by intro e; rw [e] at hzl; simp at hzl
  have hr128 : Hid ((List.replicate 128 (0 : UInt8)).length = 128) := by unfold Hid; simp
  have HB : Hid (b.length = 128) := hb
  clear hb
  go_wp2_with (first | (refine wpList_store62 (by rfl) _ _ (by rfl) (i, List.replicate 128 0) hr128.out zw_size (by rfl) (by rfl) ?_) | (refine wpList_copyW (by rfl) _ _ (by rfl) i (List.replicate 128 0) b hr128.out HB.out ab ao cap (by rfl) (by rfl) hsrc1.out ?_))
  simp only [Act.put, List.setIfInBounds_toArray, List.set_cons_zero, List.set_cons_succ]
  have RA : Rep B (w1.alloc (.cells (wc (i, b)).toArray 130)) p bl bn lv1 D.deed := R1.out.alloc _
  have hu := Tryz.underlying117
  have hl : (bs b).length = 128 := by rw [bs_length]; exact HB.out
  have hi59 : (Tryz.prog.info? 117).map (·.size) = some (bs b).length := by rw [size59, hl]
  have h1 : ∀ v ∈ bs b, v.oneCell' = true := bs_one _
  have S1' : (w1.alloc (.cells (wc (i, b)).toArray 130)).cell? ⟨p, 1, none⟩ = some (.slice (some ⟨bn, 0, none⟩) D.n D.deed.cn) := by
    have := RA.c1; rw [HQ.out.2.2.2] at this; exact this
  have S2 : (w1.alloc (.cells (wc (i, b)).toArray 130)).rangeAt w1.heap.size 1 (bs b) := (Blk.new w1 130 (wc (i, b))).range 1 _ (by rw [bs_length]; simp [wc, bs]; exact List.take_of_length_le (by simp))
  have S3 : (w1.alloc (.cells (wc (i, b)).toArray 130)).there bn (i * 128) 128 := RA.hn.there _ _ (by rw [List.length_append, bs_length, RA.ok.lN, HQ.out.2.2.2]; omega)
  have hi0 : (0 : Int) ≤ (i : Int) := Int.natCast_nonneg _
  have hi1 : (i : Int) < (D.n : Int) := by omega
  have n1 : p ≠ bn := R1.out.pn
  have n2 : w1.heap.size ≠ bn := Ne.symm (Nat.ne_of_lt R1.out.hn.lt)
  have HRA : Hid (Rep B (w1.alloc (.cells (wc (i, b)).toArray 130)) p bl bn lv1 D.deed) := RA
  clear RA
  go_region_held3 (fun w' => w'.cell? ⟨p, 1, none⟩ = some (.slice (some ⟨bn, 0, none⟩) D.n D.deed.cn) ∧ w'.rangeAt w1.heap.size 1 (bs b) ∧ w'.there bn (i * 128) 128)
    (first
      | exact ⟨S1', S2, S3⟩
      | (go_split_ands
         refine ⟨?_, ?_, ?_⟩
         · (rw [World.cell?_setCells_out _ _ _ _ _ (fun e _ => absurd e n1)]; assumption)
         · exact World.rangeAt_setCells_apart (by assumption) _ _ _ (.inl n2)
         · (apply World.there_setCells; assumption)))
    (fail)
  have R2 : Rep B ((w1.alloc (.cells (wc (i, b)).toArray 130)).drew.setCells bn (i * 128) (bs b)) p bl bn lv1 { D.deed with N := splice D.deed.N (i * 128) b } := HRA.out.drew.setN i b (by rw [HQ.out.2.2.2]; exact hi) HB.out
  have F2 : Fr (foot p bl bn lv) w ((w1.alloc (.cells (wc (i, b)).toArray 130)).drew.setCells bn (i * 128) (bs b)) := ((F1.out.alloc _).drew).setCells (.inl (.inr (.inr (.inl rfl)))) _ _
  have B2 : Blk ((w1.alloc (.cells (wc (i, b)).toArray 130)).drew.setCells bn (i * 128) (bs b)) w1.heap.size 130 (wc (i, b)) := ((Blk.new w1 130 (wc (i, b))).drew).setCells_ne n2 _ _
  clear S1' S2 S3 HRA hsrc1
  generalize hH : w1.heap.size = H at *
  generalize hW : (w1.alloc (.cells (wc (i, b)).toArray 130)).drew.setCells bn (i * 128) (bs b) = W2 at *
  clear hW hH
  have c2 := R2.c2
  have fz := R2.fz
  have HR2 : Hid (Rep B W2 p bl bn lv1 { D.deed with N := splice D.deed.N (i * 128) b }) := R2
  have HF2 : Hid (Fr (foot p bl bn lv) w W2) := F2
  have rg : W2.rangeAt H 0 (wc (i, b)) := B2.range 0 _ (by simp)
  have hrd : readCells 129 W2.drew ⟨H, 0, none⟩ = (wc (i, b)).toArray := by have := readCells_range (w := W2.drew) (b := H) (o := 0) (by simpa using rg); rwa [wc_length (i, b) HB.out] at this
  have hok : okLoad 129 W2.drew (.pointer (some ⟨H, 0, none⟩)) := by have := okLoad_range (w := W2.drew) (b := H) (o := 0) (by simpa using rg); rwa [wc_length (i, b) HB.out] at this
  clear R2 F2 B2 rg
  go_wp2_with fail
  obtain ⟨i0, hi0, hz0, hz1, hz2⟩ := info_parts info62
  have hO : Hid (W2.ownsRow B 130 129 lv1 D.deed.Q.length (enc D.deed.Q)) := HR2.out.hq
  have hp2 : Hid (p < W2.heap.size) := HR2.out.hp.lt
  have hqp : Hid (lv1.ownBlock ≠ some p) := HR2.out.qp
  have hBW : Hid (B ≤ W2.heap.size) := Nat.le_trans HR2.out.pB (Nat.le_of_lt HR2.out.hp.lt)
  have hlen : Hid (D.deed.Q.length < 1073741824) := by unfold Hid; rw [HQ.out.1]; exact hQ
  have Hwl : Hid ((wc (i, b)).length = 1 * 129) := wc_length (i, b) HB.out
  have hag := okAgg_wc (i, b) HB.out
  have c2a : (W2.alloc (.cells (wc (i, b)).toArray 130)).cell? ⟨p, 2, none⟩ = some lv1 := (HR2.out.alloc _).c2
  have Hmax : Hid (D.deed.Q.length + 1 ≤ maxLen) := by have := hlen.out; unfold Hid maxLen; omega
  have hst : Hid (∀ w3 : World, ((W2.alloc (.cells (wc (i, b)).toArray 130)).drew).grownBy w3 lv1.ownBlock → w3.cell? ⟨p, 2, none⟩ = some lv1 ∧ w3.frozen? ⟨p, 2, none⟩ = false) := fun w3 hg => by
    have hb : p < (W2.alloc (.cells (wc (i, b)).toArray 130)).drew.heap.size := by have := hp2.out; simp; omega
    have RX := (HR2.out.alloc (.cells (wc (i, b)).toArray 130)).drew
    exact ⟨by rw [hg.cell_far _ hb (Ne.symm hqp.out)]; exact RX.c2, by rw [hg.frozen_far _ hb (Ne.symm hqp.out)]; exact RX.fz 2⟩
  go_region_law ((
    refine step_append_lies _ (by rfl) _ _ _ (by rfl) B 130 i0 _ 129 136 Tryz.underlying102 hi0 hz0 hz1 hz2 zw_size (by omega) lv1 D.deed.Q.length (enc D.deed.Q) (by rfl) (by exact (hO.out.alloc _).drew) ⟨W2.heap.size, 0, none⟩ 1 1 (wc (i, b)) (by rfl) Hwl.out (by exact World.news_of_block (cs := (wc (i, b)).toArray) (t := 130) (fr := (0, 0)) (heap_alloc_new W2 _)) (wc_one _) (by omega) Hmax.out (by have := hlen.out; omega) (by have := hBW.out; simp; omega) (W2.heap.size + 1) (by simp) ?_
    intro gg cap2 w3 hown1 hgrow hat hlt
    have c2' := (hst.out w3 hgrow).1
    have fz' := (hst.out w3 hgrow).2))
  all_goals
    have HP : Hid (Did B p bl bn lv w (D.written i b) (w3.setCell ⟨p, 2, none⟩ (.slice (some ⟨gg, 0, none⟩) (D.deed.Q.length + 1) cap2))) := by
      have RP := ((HR2.out.alloc (.cells (wc (i, b)).toArray 130)).drew).pushed i b (by show i < D.deed.n; rw [HQ.out.2.2.2]; exact hi) HB.out hown1 hgrow (by simpa using hat)
      refine ⟨_, RP, fun k hk => ?_, ?_⟩
      · have hk' : gg = k := by simpa [Value.ownBlock] using hk
        subst hk'
        rcases hat with h2 | h2
        · exact S1.out gg h2
        · right; have := HF2.out.size; omega
      · refine ((HF2.out.alloc _).drew.grown hgrow (fun k hk => ?_)).setCell (.inl (.inl rfl)) _
        rcases S1.out k hk with h2 | h2
        · exact .inl (.inr (.inr (.inr h2)))
        · exact .inr h2
    clear hown1 hgrow hat hlt
    go_wp2
    go_ret
    exact ⟨rfl, HP.out⟩

theorem reach_bounds {D : Dsk} {i : Int} (h : D.reach i = 0) : D.up = true ∧ 0 ≤ i ∧ i < (D.n : Int) := by
  unfold Dsk.reach at h
  split at h
  · omega
  · rename_i hu
    split at h
    · omega
    · exact ⟨by simpa using hu, by omega, by omega⟩

set_option maxHeartbeats 400000 in
theorem write_any {B : Nat} {w : World} {p bl bn : Nat} {lv : Value} {D : Dsk} (h : Rep B w p bl bn lv D) (hQ : D.Q.length < 1073741824) (hd : D.deeds < 1073741824)
    (i : Int) (b : List UInt8) (ad : Option Addr) (cap : Nat)
    (hs : b.length = 128 → ∃ ab ao, ad = some ⟨ab, ao, none⟩ ∧ w.rangeAt ab ao (bs b) ∧ ab < w.heap.size ∧ ¬ foot p bl bn lv ab) :
    Calls Tryz.prog 64 #[pv p, .int .i64 i, .slice ad b.length cap] w fun e w' => e = .returned (.int .i64 (D.writeE i b.length)) ∧ Did B p bl bn lv w (D.write i b) w' := by
  have HD : Hid (Did B p bl bn lv w D w) := ⟨lv, h, fun k hk => .inl hk, Fr.refl _ _⟩
  unfold Dsk.writeE Dsk.write
  have hr := reach_any h i
  by_cases hr0 : D.reach i ≠ 0
  · rw [if_pos hr0, if_pos hr0]
    generalize D.reach i = r at *
    have hb0 : (r != 0) = true := by simpa using hr0
    have HR : Hid (Calls Tryz.prog 76 #[pv p, .int .i64 i] w fun e w' => e = .returned (.int .i64 r) ∧ w' = w) := hr
    clear hr h hr0 hs
    go_enter Tryz.func64, Tryz.ntmps64
    go_wp2_with fail
    refine HR.out.mono ?_
    rintro e w0 ⟨rfl, hw⟩
    obtain rfl : w = w0 := hw.symm
    clear hw
    go_wp2
    go_ret
    exact ⟨rfl, HD.out⟩
  · rw [if_neg hr0, if_neg hr0]
    have hr1 : D.reach i = 0 := by simpa using hr0
    by_cases hl : b.length ≠ 128
    · rw [if_pos hl, if_pos hl]
      rw [hr1] at hr
      have HR : Hid (Calls Tryz.prog 76 #[pv p, .int .i64 i] w fun e w' => e = .returned (.int .i64 0) ∧ w' = w) := hr
      generalize b.length = n at *
      have hb0 : ((n : Int) != 128) = true := by rw [bne_iff_ne]; omega
      clear hr h hr0 hs hr1
      go_enter Tryz.func64, Tryz.ntmps64
      go_wp2_with fail
      refine HR.out.mono ?_
      rintro e w0 ⟨rfl, hw⟩
      obtain rfl : w = w0 := hw.symm
      clear hw
      go_wp2
      go_ret
      exact ⟨rfl, HD.out⟩
    · rw [if_neg hl, if_neg hl]
      have hl1 : b.length = 128 := by simpa using hl
      obtain ⟨ab, ao, rfl, hsrc, hab, hnf⟩ := hs hl1
      obtain ⟨_, i0, i1⟩ := reach_bounds hr1
      obtain ⟨k, rfl⟩ := Int.eq_ofNat_of_zero_le i0
      rw [hl1]
      rcases deedE_cases D with h0 | h0
      · rw [if_pos h0, h0]
        exact write_ok h hQ hd k b ab ao cap hr1 hl1 hsrc hab hnf h0
      · rw [if_neg (by omega), h0]
        have hc := deed_any h (by omega) (by omega)
        rw [h0] at hc
        rw [hr1] at hr
        have HR : Hid (Calls Tryz.prog 76 #[pv p, .int .i64 (k : Int)] w fun e w' => e = .returned (.int .i64 0) ∧ w' = w) := hr
        have HC : Hid (Calls Tryz.prog 87 #[pv p] w fun e w' => e = .returned (.int .i64 41) ∧ Did B p bl bn lv w D.deed w') := hc
        clear hr hc h hr0 hr1 h0 hl hl1 hsrc hs
        go_enter Tryz.func64, Tryz.ntmps64
        go_wp2_with fail
        refine HR.out.mono ?_
        rintro e w0 ⟨rfl, hw⟩
        obtain rfl : w = w0 := hw.symm
        clear hw
        go_wp2_with fail
        refine HC.out.mono ?_
        rintro e w1 ⟨rfl, h1⟩
        have H1 : Hid (Did B p bl bn lv w D.deed w1) := h1
        clear h1
        go_wp2
        go_ret
        exact ⟨rfl, H1.out⟩

end Go.Proofs.YtehoiahgkbnjdaaGreat.Dk
