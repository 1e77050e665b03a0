/- What arguments that are rows of acts and of bools are; what every proof of this seat asks of its row. -/
import Derived.Test.YtangnoicnogddaaMga
import Derived.Stop.Joined
import Derived.LaidMore
import Derived.MakeChecks
import Derived.Deep.Slices
import Derived.OpenShut
import Derived.ShutString
import Derived.ChangeOld
import Derived.SizedLaws
import Derived.ProofKit
import Derived.Deep.DeepHandedRow
import Derived.Deep.DeepWitnessRowRef
namespace Go.Proofs.Ytangnoicnogddaa.Tr
open Go.ChangeShapes Go.WideShapes Go.ChangeAt Go.RowKit Go.Deep Go.Lib

theorem cellsU : Try.prog.cellsOf 41 = 4 := by kernel_rfl
theorem cellsE : Try.prog.cellsOf 39 = 3 := by kernel_rfl
theorem cellsZ : Try.prog.cellsOf 43 = 9 := by kernel_rfl
theorem bytesZ : Try.prog.bytesOf 43 = 152 := by kernel_rfl
theorem bytes9 : Try.prog.bytesOf 9 = 16 := by kernel_rfl
theorem bytes4 : Try.prog.bytesOf 4 = 1 := by kernel_rfl
theorem bytes5 : Try.prog.bytesOf 5 = 1 := by kernel_rfl
theorem cells9 : Try.prog.cellsOf 9 = 1 := by kernel_rfl
theorem cells3 : Try.prog.cellsOf 3 = 1 := by kernel_rfl
theorem cells4 : Try.prog.cellsOf 4 = 1 := by kernel_rfl
theorem cellsN : Try.prog.cellsOf 30 = 1 := by kernel_rfl
theorem cellsB : Try.prog.cellsOf 37 = 1 := by kernel_rfl
def byteOf (x : Int) : UInt8 := UInt8.ofNat x.toNat
theorem bv_byteOf (x : Int) (h0 : 0 ≤ x) (h1 : x ≤ 255) : bv (byteOf x) = .int .u8 x := by
  unfold bv byteOf
  obtain ⟨n, rfl⟩ := Int.eq_ofNat_of_zero_le h0
  have : n % 2 ^ 8 = n := Nat.mod_eq_of_lt (by omega)
  simp [this]
theorem bs_of_nums (zs : List Int) (h : ∀ n ∈ zs, (Lit.int .u8 n).wf = true) : bs (zs.map byteOf) = zs.map (Value.int .u8) := by
  simp only [bs, List.map_map]
  apply List.map_congr_left
  intro n hn
  have hb := bounds_u8 (h n hn)
  exact bv_byteOf n hb.1 hb.2
theorem open_bytes {H : Type} {enc : TypeId × Value → H} {W : World} {ad : Option Addr} {len cap : Nat} {d : DataW H} {ps : List MemPlace}
    (h : DataW.Trod enc Try.prog W 0 (fun _ => true) true 37 (.slice ad len cap) d ps) (hw : ∀ n ∈ d.weights Try.prog 37, n ≤ reachBytes) :
    ∃ b : List UInt8, len = b.length ∧ b.length ≤ 140737488351232 ∧ Src W ad b ∧ b.length ≤ cap := by
  obtain ⟨fuel, hf⟩ := h
  rcases open_ints Try.underlying37 Try.underlying5 (by kernel_rfl) hf with ⟨hcs, _⟩ | ⟨x, l', c', zs, hcs, _, hl', hm', hz', hx, hcell, hwz⟩
  · simp [Value.cells] at hcs
    obtain ⟨rfl, rfl, rfl⟩ := hcs
    exact ⟨[], rfl, by simp, Src.nil _ _, by simp⟩
  · simp [Value.cells] at hcs
    obtain ⟨rfl, rfl, rfl⟩ := hcs
    have hzl : zs.length = cap := by simpa using hz'
    have hwt : ∀ q ∈ zs.take len, (Lit.int .u8 q).wf = true := fun q hq => hwz q (List.mem_of_mem_take hq)
    have hln : ((zs.take len).map byteOf).length = len := by simp [hzl, hl']
    have hd : d = .slice (lits .u8 (zs.take len)) (lits .u8 (zs.drop len)) := by
      have := congrArg Prod.fst hx
      simpa using this
    have hwz2 := hw (zs.length * 1) (by
      rw [hd]
      simp only [DataW.weights, Try.underlying37, bytes5, List.mem_cons]
      left
      simp [lits]
      omega)
    have hr : reachBytes = 140737488351232 := rfl
    refine ⟨(zs.take len).map byteOf, hln.symm, by rw [hln]; omega, fun hne => ?_, by rw [hln]; omega⟩
    have hl0 : 0 < len := by
      rcases Nat.eq_zero_or_pos len with h | h
      · subst h; simp at hne
      · exact h
    have hq0 := hcell 0 (by omega)
    obtain ⟨bb, bo, sp⟩ := x
    have hsp : sp = none := by
      have := World.cell?_spot hq0
      simpa [Addr.add] using this
    subst hsp
    refine ⟨bb, bo, rfl, ?_⟩
    rw [bs_of_nums _ hwt]
    intro j v hv
    have hj : j < len := by
      have := (List.getElem?_eq_some_iff.1 hv).1
      simp at this
      omega
    have := hcell j (by omega)
    rw [Addr.add_mid] at this
    rw [this, ← hv]
    simp [hj, List.getD_eq_getElem?_getD, List.getElem?_eq_getElem (show j < zs.length by omega)]
theorem weightsAll_mem {H : Type} (e : TypeId) : ∀ (l : List (DataW H)) (d : DataW H) (n : Nat), d ∈ l → n ∈ d.weights Try.prog e → n ∈ DataW.weightsAll Try.prog e l
  | [], _, _, h, _ => absurd h (by simp)
  | x :: r, d, n, h, hn => by
    rw [DataW.weightsAll, List.mem_append]
    rcases List.mem_cons.1 h with rfl | h
    · exact .inl hn
    · exact .inr (weightsAll_mem e r d n h hn)
theorem list_of {α : Type} (P : Nat → α → Prop) : ∀ n, (∀ i, i < n → ∃ x, P i x) → ∃ L : List α, n = L.length ∧ ∀ i (h : i < L.length), P i L[i]
  | 0, _ => ⟨[], rfl, fun i h => absurd h (by simp)⟩
  | n + 1, h => by
    obtain ⟨L, h1, h2⟩ := list_of P n (fun i hi => h i (by omega))
    obtain ⟨x, hx⟩ := h n (by omega)
    subst h1
    refine ⟨L ++ [x], by simp, fun i hi => ?_⟩
    by_cases hi' : i < L.length
    · rw [List.getElem_append_left hi']; exact h2 i hi'
    · have e : i = L.length := by simp at hi; omega
      subst e
      rw [List.getElem_append_right (by omega)]
      simpa using hx
theorem open_names {H : Type} {enc : TypeId × Value → H} {W : World} {fuel : Nat} {c : Value} {D : DataW H} {ps : List MemPlace}
    (h : DataW.trod enc Try.prog W 0 (fun _ => true) true fuel 30 [c] = some (D, ps)) (hw : ∀ n ∈ D.weights Try.prog 30, n ≤ reachBytes) :
    ∃ (ns : List (List UInt8)) (ad : Option Addr) (cap : Nat), c = .slice ad ns.length cap ∧ ns.length ≤ cap ∧ ns.length ≤ lim16 ∧ Strs W ad ns ∧ ∀ s ∈ ns, s.length ≤ lim := by
  rcases open_slice Try.underlying30 h with ⟨hcs, _⟩ | ⟨a, l, cp, m, n, D', Pl, hcs, hb, hl, hm, hmm, hx, hall⟩
  · simp only [List.cons.injEq, and_true] at hcs
    subst hcs
    exact ⟨[], none, 0, rfl, by simp, by simp, fun h => absurd rfl h, by simp⟩
  · simp only [List.cons.injEq, and_true] at hcs
    subst hcs
    have hmc : m = cp := by simpa using hmm
    subst hmc
    have hd : D = .slice ((List.range l).map D') ((List.range (m - l)).map fun j => D' (l + j)) := congrArg Prod.fst hx
    have hw0 : m * 16 ≤ reachBytes := hw _ (by
      rw [hd]
      simp only [DataW.weights, Try.underlying30, bytes9, List.mem_cons, List.length_map, List.length_range]
      left; congr 1; omega)
    have hwe : ∀ i, i < l → ∀ q ∈ (D' i).weights Try.prog 9, q ≤ reachBytes := fun i hi q hq => hw q (by
      rw [hd]
      simp only [DataW.weights, Try.underlying30, List.mem_cons, List.mem_append]
      exact .inr (.inl (weightsAll_mem _ _ (D' i) q (List.mem_map.2 ⟨i, List.mem_range.2 hi, rfl⟩) hq)))
    have hr : reachBytes = 140737488351232 := rfl
    have hone : ∀ i, i < l → ∃ s : List UInt8, W.cell? (a.add (i * 1)) = some (.string ⟨s.toArray⟩) ∧ s.length ≤ lim := by
      intro i hi
      obtain ⟨cs, h1, h2⟩ := hall i (by omega)
      rw [cells9] at h1
      obtain ⟨_, hlen, hc⟩ := World.cells?_some h1
      obtain ⟨s, rfl, e2, _⟩ := DataW.trod_string Try.underlying9 h2
      refine ⟨s.data.toList, ?_, ?_⟩
      · have := hc 0 (by simp)
        have e : ((a.add (i * 1)).add 0) = a.add (i * 1) := by simp [Addr.add]
        rw [e] at this
        simpa using this
      · have e3 : D' i = .lit (.string s.data.toList) := congrArg Prod.fst e2
        have := hwe i hi s.data.toList.length (by rw [e3]; simp [DataW.weights])
        rw [hr] at this; exact this
    rcases Nat.eq_zero_or_pos l with h0 | hpos
    · subst h0
      exact ⟨[], some a, m, rfl, by simp, by simp, fun h => absurd rfl h, by simp⟩
    obtain ⟨bb, bo, sp⟩ := a
    have hsp : sp = none := by
      obtain ⟨s, g0, _⟩ := hone 0 hpos
      have := World.cell?_spot g0
      simpa [Addr.add] using this
    subst hsp
    obtain ⟨L, hL1, hL2⟩ := list_of _ l hone
    subst hL1
    refine ⟨L, _, m, rfl, hl, by unfold lim16; omega, fun _ => ⟨bb, bo, rfl, fun i hi => ?_⟩, fun s hs => ?_⟩
    · have := (hL2 i hi).1
      rw [Addr.add_mid, Nat.mul_one] at this
      exact this
    · obtain ⟨i, hi, rfl⟩ := List.getElem_of_mem hs
      exact (hL2 i hi).2
set_option maxRecDepth 100000 in
theorem open_unit {H : Type} {enc : TypeId × Value → H} {W : World} {n : Nat} {cs : List Value} {D : DataW H} {Pl : List MemPlace}
    (h : DataW.trod enc Try.prog W 0 (fun _ => true) true n 41 cs = some (D, Pl)) (hlen : cs.length = 4) (hw : ∀ q ∈ D.weights Try.prog 41, q ≤ reachBytes) : ∃ (d : Ut) (y : Uv), cs = y.cs ∧ UIn W d y := by
  obtain ⟨xs, n', _, hD, _, hxl, hf⟩ := DataW.trod_struct Try.underlying41 h
  match cs, hlen with
  | [u0, u1, u2, u3], _ =>
    have f0 := hf 0 _ rfl
    have f1 := hf 1 _ rfl
    have f2 := hf 2 _ rfl
    have f3 := hf 3 _ rfl
    match xs, hxl with
    | [y0, y1, y2, y3], _ =>
      simp [cells9, cellsN] at f0 f1 f2 f3
      obtain ⟨s0, e0, hy0, _⟩ := DataW.trod_string Try.underlying9 f0
      obtain ⟨s1, e1, hy1, _⟩ := DataW.trod_string Try.underlying9 f1
      simp only [List.cons.injEq, and_true] at e0 e1
      subst e0 e1
      have hDe : D = .agg [.lit (.string s0.data.toList), .lit (.string s1.data.toList), y2.1, y3.1] := by
        have := congrArg Prod.fst hD
        rw [hy0, hy1] at this
        simpa using this
      have hr : reachBytes = 140737488351232 := rfl
      have hw0 : s0.data.toList.length ≤ lim := by
        have := hw s0.data.toList.length (by rw [hDe]; simp [DataW.weights, Try.underlying41, DataW.weightsEach])
        rw [hr] at this; exact this
      have hw1 : s1.data.toList.length ≤ lim := by
        have := hw s1.data.toList.length (by rw [hDe]; simp [DataW.weights, Try.underlying41, DataW.weightsEach])
        rw [hr] at this; exact this
      have hw2 : ∀ q ∈ y2.1.weights Try.prog 30, q ≤ reachBytes := fun q hq => hw q (by
        rw [hDe]
        simp [DataW.weights, Try.underlying41, DataW.weightsEach, hq])
      have hw3 : ∀ q ∈ y3.1.weights Try.prog 30, q ≤ reachBytes := fun q hq => hw q (by
        rw [hDe]
        simp [DataW.weights, Try.underlying41, DataW.weightsEach, hq])
      obtain ⟨rs, ra, rc, e2, _, b2, c2, d2⟩ := open_names f2 hw2
      obtain ⟨xs, aa, ac, e3, _, b3, c3, d3⟩ := open_names f3 hw3
      subst e2 e3
      exact ⟨⟨s0.data.toList, s1.data.toList, rs, xs⟩, ⟨s0.data.toList, s1.data.toList, ra, rs.length, rc, aa, xs.length, ac⟩, by cases s0; cases s1; rfl, rfl, rfl, rfl, rfl, c2, c3, ⟨hw0, hw1, b2, b3, d2, d3⟩⟩
theorem below_of_fr {w w' : World} (f : Fr (fun _ => False) w w') : Below w.heap.size w w' := ⟨f.os, f.tape, f.output, f.size, fun k hk => f.block k hk (fun h => h)⟩
theorem wit_row {H : Type} {enc : TypeId × Value → H} {C : Checked} {os : Os} {f : FuncId} {fn : Func} {s : OpenSpec} {conds : List PathCond} {apart : Bool} {laid : List (String × DataW Unit)} (w0 : World) (args : Array Value) (hos : w0.os = os)
    (hsh : (w0.forCall (fun _ _ => 0) ⟨#[], args, []⟩).Shaped C.prog) (hok : Input.okWideB C.prog (w0.forCall (fun _ _ => 0) ⟨#[], args, []⟩) f ⟨#[], args, []⟩ = true)
    (hrow : s.preRow enc C.prog fn conds apart laid (w0.forCall (fun _ _ => 0) ⟨#[], args, []⟩).memory args) :
    ∃ (w : World) (tape : Tape) (i : Input), w.os = os ∧ (w.forCall tape i).Shaped C.prog ∧ i.vars = [] ∧ Input.okWide C.prog (w.forCall tape i) .any w.heap.size f i ∧
      s.preRow enc C.prog fn conds apart laid (w.forCall tape i).memory i.args ∧ ({ modest := false } : Assume).holds C.prog (lone (Frame.enter C.prog f i.args .normal) [] (w.forCall tape i)) :=
  ⟨w0, fun _ _ => 0, ⟨#[], args, []⟩, hos, hsh, (Input.okWide_of_okWideB (base := 0) hok).1, (Input.okWide_of_okWideB hok).2, hrow, by
    simp only [Assume.holds]
    exact ⟨by simp, by simp, fun _ => Modest.zero, by simp, by simp⟩⟩
set_option maxRecDepth 100000 in
theorem open_ent {H : Type} {enc : TypeId × Value → H} {W : World} {n : Nat} {cs : List Value} {D : DataW H} {Pl : List MemPlace}
    (h : DataW.trod enc Try.prog W 0 (fun _ => true) true n 39 cs = some (D, Pl)) (hlen : cs.length = 3) (hw : ∀ n ∈ D.weights Try.prog 39, n ≤ reachBytes) :
    ∃ (x : Ent) (da : Option Addr) (dc : Nat), cs = [.string ⟨x.path.toArray⟩, .int .i64 x.kind, .slice da x.data.length dc] ∧ EntV W x da dc := by
  obtain ⟨xs, n', _, hD, _, hxl, hf⟩ := DataW.trod_struct Try.underlying39 h
  match cs, hlen with
  | [u0, u1, u2], _ =>
    have f0 := hf 0 _ rfl
    have f1 := hf 1 _ rfl
    have f2 := hf 2 _ rfl
    match xs, hxl with
    | [y0, y1, y2], _ =>
      simp [cells9, cells3, cellsB] at f0 f1 f2
      obtain ⟨s, e0, hy0, hs⟩ := DataW.trod_string Try.underlying9 f0
      obtain ⟨k, e1, hy1, hk⟩ := DataW.trod_int Try.underlying3 f1
      simp only [List.cons.injEq, and_true] at e0 e1
      subst e0 e1
      have hDe : D = .agg [.lit (.string s.data.toList), .lit (.int .i64 k), y2.1] := by
        have := congrArg Prod.fst hD
        rw [hy0, hy1] at this
        simpa using this
      have hws : s.data.toList.length ≤ reachBytes := hw _ (by
        rw [hDe]
        simp [DataW.weights, Try.underlying39, DataW.weightsEach])
      have hwd : ∀ m ∈ y2.1.weights Try.prog 37, m ≤ reachBytes := fun m hm => hw m (by
        rw [hDe]
        simp [DataW.weights, Try.underlying39, DataW.weightsEach, hm])
      obtain ⟨da, dl, dc, rfl⟩ : ∃ da dl dc, u2 = .slice da dl dc := by
        rcases open_slice Try.underlying37 f2 with ⟨e, _⟩ | ⟨a, l, c, _, _, _, _, e, _⟩
        · simp at e; exact ⟨_, _, _, e⟩
        · simp at e; exact ⟨_, _, _, e⟩
      have ht : DataW.Trod enc Try.prog W 0 (fun _ => true) true 37 (.slice da dl dc) y2.1 y2.2 := ⟨n', f2⟩
      obtain ⟨b, rfl, hbl, hbs, hbc⟩ := open_bytes ht hwd
      have hkb := bounds_i64 hk
      refine ⟨⟨s.data.toList, k, b⟩, da, dc, ?_, ⟨hbs, hbc, hbl, ?_, hkb.1, hkb.2⟩⟩
      · simp
      · have e : reachBytes = 140737488351232 := rfl
        rw [e] at hws
        exact hws

set_option maxRecDepth 100000 in
theorem open_act {H : Type} {enc : TypeId × Value → H} {W : World} {n : Nat} {cs : List Value} {D : DataW H} {Pl : List MemPlace}
    (h : DataW.trod enc Try.prog W 0 (fun _ => true) true n 43 cs = some (D, Pl)) (hlen : cs.length = 9) (hw : ∀ q ∈ D.weights Try.prog 43, q ≤ reachBytes) : ∃ (a : Ac) (z : Zv), cs = z.cs ∧ AIn W a z := by
  obtain ⟨xs, n', _, hD, _, hxl, hf⟩ := DataW.trod_struct Try.underlying43 h
  match cs, hlen with
  | [u0, u1, u2, u3, u4, u5, u6, u7, u8], _ =>
    have f0 := hf 0 _ rfl
    have f1 := hf 1 _ rfl
    have f2 := hf 2 _ rfl
    have f3 := hf 3 _ rfl
    match xs, hxl with
    | [y0, y1, y2, y3], _ =>
      simp [cells9, cells3, cellsE, cellsU] at f0 f1 f2 f3
      obtain ⟨k, e0, hy0, _⟩ := DataW.trod_int Try.underlying3 f0
      obtain ⟨s1, e1, hy1, _⟩ := DataW.trod_string Try.underlying9 f1
      simp only [List.cons.injEq, and_true] at e0 e1
      subst e0 e1
      have hDe : D = .agg [.lit (.int .i64 k), .lit (.string s1.data.toList), y2.1, y3.1] := by
        have := congrArg Prod.fst hD
        rw [hy0, hy1] at this
        simpa using this
      have hw2 : ∀ q ∈ y2.1.weights Try.prog 39, q ≤ reachBytes := fun q hq => hw q (by
        rw [hDe]
        simp [DataW.weights, Try.underlying43, DataW.weightsEach, hq])
      have hw3 : ∀ q ∈ y3.1.weights Try.prog 41, q ≤ reachBytes := fun q hq => hw q (by
        rw [hDe]
        simp [DataW.weights, Try.underlying43, DataW.weightsEach, hq])
      obtain ⟨f, da, dc, e2, hv⟩ := open_ent f2 rfl hw2
      obtain ⟨u, y, e3, hu⟩ := open_unit f3 rfl hw3
      simp only [Uv.cs, List.cons.injEq, and_true] at e2 e3
      obtain ⟨rfl, rfl, rfl⟩ := e2
      obtain ⟨rfl, rfl, rfl, rfl⟩ := e3
      exact ⟨⟨k, s1.data.toList, f, u⟩, ⟨k, s1.data.toList, ⟨f.path, f.kind, da, f.data.length, dc⟩, y⟩, by cases s1; rfl, rfl, rfl, rfl, rfl, rfl, hv, hu⟩
/-- A row of acts. -/
theorem open_acts {H : Type} {enc : TypeId × Value → H} {W : World} {fuel : Nat} {c : Value} {D : DataW H} {ps : List MemPlace}
    (h : DataW.trod enc Try.prog W 0 (fun _ => true) true fuel 23 [c] = some (D, ps)) (hw : ∀ n ∈ D.weights Try.prog 23, n ≤ reachBytes) :
    ∃ (L : List Ac) (ad : Option Addr) (cap : Nat), c = .slice ad L.length cap ∧ L.length ≤ cap ∧ L.length ≤ lim ∧ Acs W L ad := by
  rcases open_slice Try.underlying23 h with ⟨hcs, _⟩ | ⟨a, l, cp, m, n, D', Pl, hcs, hb, hl, hm, hmm, hx, hall⟩
  · simp only [List.cons.injEq, and_true] at hcs
    subst hcs
    exact ⟨[], none, 0, rfl, by simp, by simp, fun i h => absurd h (by simp)⟩
  · simp only [List.cons.injEq, and_true] at hcs
    subst hcs
    have hmc : m = cp := by simpa using hmm
    subst hmc
    have hd : D = .slice ((List.range l).map D') ((List.range (m - l)).map fun j => D' (l + j)) := congrArg Prod.fst hx
    have hw0 : m * 152 ≤ reachBytes := hw _ (by
      rw [hd]
      simp only [DataW.weights, Try.underlying23, bytesZ, List.mem_cons, List.length_map, List.length_range]
      left; congr 1; omega)
    have hwe : ∀ i, i < l → ∀ q ∈ (D' i).weights Try.prog 43, q ≤ reachBytes := fun i hi q hq => hw q (by
      rw [hd]
      simp only [DataW.weights, Try.underlying23, List.mem_cons, List.mem_append]
      exact .inr (.inl (weightsAll_mem _ _ (D' i) q (List.mem_map.2 ⟨i, List.mem_range.2 hi, rfl⟩) hq)))
    have hr : reachBytes = 140737488351232 := rfl
    have hone : ∀ i, i < l → ∃ d : Ac, ∃ y : Zv, (∀ j u, y.cs[j]? = some u → W.cell? ((a.add (i * 9)).add j) = some u) ∧ AIn W d y := by
      intro i hi
      obtain ⟨cs, h1, h2⟩ := hall i (by omega)
      rw [cellsZ] at h1
      obtain ⟨_, hlen, hc⟩ := World.cells?_some h1
      obtain ⟨d, y, rfl, hv⟩ := open_act h2 hlen (hwe i hi)
      refine ⟨d, y, fun j u hu => ?_, hv⟩
      have hj : j < y.cs.length := (List.getElem?_eq_some_iff.1 hu).1
      have := hc j hj
      rw [this, ← hu, List.getElem?_eq_getElem hj]
    rcases Nat.eq_zero_or_pos l with h0 | hpos
    · subst h0
      exact ⟨[], some a, m, rfl, by simp, by simp, fun i h => absurd h (by simp)⟩
    obtain ⟨bb, bo, sp⟩ := a
    have hsp : sp = none := by
      obtain ⟨d, y, g0, _⟩ := hone 0 hpos
      have := World.cell?_spot (g0 0 _ rfl)
      simpa [Addr.add] using this
    subst hsp
    obtain ⟨L, hL1, hL2⟩ := list_of _ l hone
    subst hL1
    refine ⟨L, _, m, rfl, hl, by unfold lim; omega, fun i hi => ?_⟩
    obtain ⟨y, g1, g2⟩ := hL2 i hi
    refine ⟨bb, bo, y, rfl, fun j u hu => ?_, g2⟩
    have := g1 j u hu
    rw [Addr.add_mid, Addr.add_mid] at this
    exact this
/-- A row of bools. -/
theorem open_bools {H : Type} {enc : TypeId × Value → H} {W : World} {fuel : Nat} {c : Value} {D : DataW H} {ps : List MemPlace}
    (h : DataW.trod enc Try.prog W 0 (fun _ => true) true fuel 22 [c] = some (D, ps)) (hw : ∀ n ∈ D.weights Try.prog 22, n ≤ reachBytes) :
    ∃ (L : List Bool) (ad : Option Addr) (cap : Nat), c = .slice ad L.length cap ∧ L.length ≤ cap ∧ L.length ≤ 140737488351232 ∧ Bools W ad L := by
  rcases open_slice Try.underlying22 h with ⟨hcs, _⟩ | ⟨a, l, cp, m, n, D', Pl, hcs, hb, hl, hm, hmm, hx, hall⟩
  · simp only [List.cons.injEq, and_true] at hcs
    subst hcs
    exact ⟨[], none, 0, rfl, by simp, by simp, fun h => absurd rfl h⟩
  · simp only [List.cons.injEq, and_true] at hcs
    subst hcs
    have hmc : m = cp := by simpa using hmm
    subst hmc
    have hd : D = .slice ((List.range l).map D') ((List.range (m - l)).map fun j => D' (l + j)) := congrArg Prod.fst hx
    have hw0 : m * 1 ≤ reachBytes := hw _ (by
      rw [hd]
      simp only [DataW.weights, Try.underlying22, bytes4, List.mem_cons, List.length_map, List.length_range]
      left; congr 1; omega)
    have hr : reachBytes = 140737488351232 := rfl
    have hone : ∀ i, i < l → ∃ d : Bool, W.cell? (a.add (i * 1)) = some (.bool d) := by
      intro i hi
      obtain ⟨cs, h1, h2⟩ := hall i (by omega)
      rw [cells4] at h1
      obtain ⟨_, hlen, hc⟩ := World.cells?_some h1
      obtain ⟨d, rfl, _⟩ := DataW.trod_bool Try.underlying4 h2
      refine ⟨d, ?_⟩
      have := hc 0 (by simp)
      have e : ((a.add (i * 1)).add 0) = a.add (i * 1) := by simp [Addr.add]
      rw [e] at this
      simpa using this
    rcases Nat.eq_zero_or_pos l with h0 | hpos
    · subst h0
      exact ⟨[], some a, m, rfl, by simp, by simp, fun h => absurd rfl h⟩
    obtain ⟨bb, bo, sp⟩ := a
    have hsp : sp = none := by
      obtain ⟨d, g0⟩ := hone 0 hpos
      have := World.cell?_spot g0
      simpa [Addr.add] using this
    subst hsp
    obtain ⟨L, hL1, hL2⟩ := list_of _ l hone
    subst hL1
    refine ⟨L, _, m, rfl, hl, by omega, fun _ => ⟨bb, bo, rfl, fun i hi => ?_⟩⟩
    have := hL2 i hi
    rw [Addr.add_mid, Nat.mul_one] at this
    exact this
end Go.Proofs.Ytangnoicnogddaa.Tr
