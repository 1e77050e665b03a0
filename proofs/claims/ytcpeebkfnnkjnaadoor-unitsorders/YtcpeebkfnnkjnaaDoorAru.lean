/- What an argument that is a row of units is; what every proof of this seat asks of its row. -/
import Derived.Test.YtcpeebkfnnkjnaaDoorUso
import Derived.Stop.Joined
import Derived.LaidMore
import Derived.MakeChecks
import Derived.Deep.Slices
import Derived.OpenShut
import Derived.Lib.LaidU8
import Derived.Deep.Strs
import Derived.Deep.DeepHandedRow
import Derived.Deep.DeepWitnessRowRef
namespace Go.Proofs.YtcpeebkfnnkjnaaDoor.Tr
open Go.RowKit Go.Deep Go.Lib

theorem cellsU : Tryd.prog.cellsOf 32 = 4 := by kernel_rfl
theorem bytesU : Tryd.prog.bytesOf 32 = 80 := by kernel_rfl
theorem bytes9 : Tryd.prog.bytesOf 9 = 16 := by kernel_rfl
theorem cells9 : Tryd.prog.cellsOf 9 = 1 := by kernel_rfl
theorem cellsN : Tryd.prog.cellsOf 30 = 1 := by kernel_rfl
theorem weightsAll_mem {H : Type} (e : TypeId) : ∀ (l : List (DataW H)) (d : DataW H) (n : Nat), d ∈ l → n ∈ d.weights Tryd.prog e → n ∈ DataW.weightsAll Tryd.prog e l
  | [], _, _, h, _ => absurd h (by simp)
  | x :: r, d, n, h, hn => by
    rw [DataW.weightsAll, List.mem_append]
    rcases List.mem_cons.1 h with rfl | h
    · exact .inl hn
    · exact .inr (weightsAll_mem e r d n h hn)
theorem list_of {α : Type} (P : Nat → α → Prop) : ∀ n, (∀ i, i < n → ∃ x, P i x) → ∃ L : List α, n = L.length ∧ ∀ i (h : i < L.length), P i L[i]
  | 0, _ => ⟨[], rfl, fun i h => absurd h (by simp)⟩
  | n + 1, h => by
    obtain ⟨L, h1, h2⟩ := list_of P n (fun i hi => h i (by omega))
    obtain ⟨x, hx⟩ := h n (by omega)
    subst h1
    refine ⟨L ++ [x], by simp, fun i hi => ?_⟩
    by_cases hi' : i < L.length
    · rw [List.getElem_append_left hi']; exact h2 i hi'
    · have e : i = L.length := by simp at hi; omega
      subst e
      rw [List.getElem_append_right (by omega)]
      simpa using hx
theorem open_names {H : Type} {enc : TypeId × Value → H} {W : World} {fuel : Nat} {c : Value} {D : DataW H} {ps : List MemPlace}
    (h : DataW.trod enc Tryd.prog W 0 (fun _ => true) true fuel 30 [c] = some (D, ps)) (hw : ∀ n ∈ D.weights Tryd.prog 30, n ≤ reachBytes) :
    ∃ (ns : List (List UInt8)) (ad : Option Addr) (cap : Nat), c = .slice ad ns.length cap ∧ ns.length ≤ cap ∧ ns.length ≤ lim ∧ Strs W ad ns ∧ ∀ s ∈ ns, s.length ≤ lim := by
  rcases open_slice Tryd.underlying30 h with ⟨hcs, _⟩ | ⟨a, l, cp, m, n, D', Pl, hcs, hb, hl, hm, hmm, hx, hall⟩
  · simp only [List.cons.injEq, and_true] at hcs
    subst hcs
    exact ⟨[], none, 0, rfl, by simp, by simp, fun h => absurd rfl h, by simp⟩
  · simp only [List.cons.injEq, and_true] at hcs
    subst hcs
    have hmc : m = cp := by simpa using hmm
    subst hmc
    have hd : D = .slice ((List.range l).map D') ((List.range (m - l)).map fun j => D' (l + j)) := congrArg Prod.fst hx
    have hw0 : m * 16 ≤ reachBytes := hw _ (by
      rw [hd]
      simp only [DataW.weights, Tryd.underlying30, bytes9, List.mem_cons, List.length_map, List.length_range]
      left; congr 1; omega)
    have hwe : ∀ i, i < l → ∀ q ∈ (D' i).weights Tryd.prog 9, q ≤ reachBytes := fun i hi q hq => hw q (by
      rw [hd]
      simp only [DataW.weights, Tryd.underlying30, List.mem_cons, List.mem_append]
      exact .inr (.inl (weightsAll_mem _ _ (D' i) q (List.mem_map.2 ⟨i, List.mem_range.2 hi, rfl⟩) hq)))
    have hr : reachBytes = 140737488351232 := rfl
    have hone : ∀ i, i < l → ∃ s : List UInt8, W.cell? (a.add (i * 1)) = some (.string ⟨s.toArray⟩) ∧ s.length ≤ lim := by
      intro i hi
      obtain ⟨cs, h1, h2⟩ := hall i (by omega)
      rw [cells9] at h1
      obtain ⟨_, hlen, hc⟩ := World.cells?_some h1
      obtain ⟨s, rfl, e2, _⟩ := DataW.trod_string Tryd.underlying9 h2
      refine ⟨s.data.toList, ?_, ?_⟩
      · have := hc 0 (by simp)
        have e : ((a.add (i * 1)).add 0) = a.add (i * 1) := by simp [Addr.add]
        rw [e] at this
        simpa using this
      · have e3 : D' i = .lit (.string s.data.toList) := congrArg Prod.fst e2
        have := hwe i hi s.data.toList.length (by rw [e3]; simp [DataW.weights])
        rw [hr] at this; exact this
    rcases Nat.eq_zero_or_pos l with h0 | hpos
    · subst h0
      exact ⟨[], some a, m, rfl, by simp, by simp, fun h => absurd rfl h, by simp⟩
    obtain ⟨bb, bo, sp⟩ := a
    have hsp : sp = none := by
      obtain ⟨s, g0, _⟩ := hone 0 hpos
      have := World.cell?_spot g0
      simpa [Addr.add] using this
    subst hsp
    obtain ⟨L, hL1, hL2⟩ := list_of _ l hone
    subst hL1
    refine ⟨L, _, m, rfl, hl, by unfold lim; omega, fun _ => ⟨bb, bo, rfl, fun i hi => ?_⟩, fun s hs => ?_⟩
    · have := (hL2 i hi).1
      rw [Addr.add_mid, Nat.mul_one] at this
      exact this
    · obtain ⟨i, hi, rfl⟩ := List.getElem_of_mem hs
      exact (hL2 i hi).2


set_option maxRecDepth 100000 in
theorem open_unit {H : Type} {enc : TypeId × Value → H} {W : World} {n : Nat} {cs : List Value} {D : DataW H} {Pl : List MemPlace}
    (h : DataW.trod enc Tryd.prog W 0 (fun _ => true) true n 32 cs = some (D, Pl)) (hlen : cs.length = 4) (hw : ∀ q ∈ D.weights Tryd.prog 32, q ≤ reachBytes) : ∃ (d : Ut) (y : Uv), cs = y.cs ∧ UIn W d y := by
  obtain ⟨xs, n', _, hD, _, hxl, hf⟩ := DataW.trod_struct Tryd.underlying32 h
  match cs, hlen with
  | [u0, u1, u2, u3], _ =>
    have f0 := hf 0 _ rfl
    have f1 := hf 1 _ rfl
    have f2 := hf 2 _ rfl
    have f3 := hf 3 _ rfl
    match xs, hxl with
    | [y0, y1, y2, y3], _ =>
      simp [cells9, cellsN] at f0 f1 f2 f3
      obtain ⟨s0, e0, hy0, _⟩ := DataW.trod_string Tryd.underlying9 f0
      obtain ⟨s1, e1, hy1, _⟩ := DataW.trod_string Tryd.underlying9 f1
      simp only [List.cons.injEq, and_true] at e0 e1
      subst e0 e1
      have hDe : D = .agg [.lit (.string s0.data.toList), .lit (.string s1.data.toList), y2.1, y3.1] := by
        have := congrArg Prod.fst hD
        rw [hy0, hy1] at this
        simpa using this
      have hr : reachBytes = 140737488351232 := rfl
      have hw0 : s0.data.toList.length ≤ lim := by
        have := hw s0.data.toList.length (by rw [hDe]; simp [DataW.weights, Tryd.underlying32, DataW.weightsEach])
        rw [hr] at this; exact this
      have hw1 : s1.data.toList.length ≤ lim := by
        have := hw s1.data.toList.length (by rw [hDe]; simp [DataW.weights, Tryd.underlying32, DataW.weightsEach])
        rw [hr] at this; exact this
      have hw2 : ∀ q ∈ y2.1.weights Tryd.prog 30, q ≤ reachBytes := fun q hq => hw q (by
        rw [hDe]
        simp [DataW.weights, Tryd.underlying32, DataW.weightsEach, hq])
      have hw3 : ∀ q ∈ y3.1.weights Tryd.prog 30, q ≤ reachBytes := fun q hq => hw q (by
        rw [hDe]
        simp [DataW.weights, Tryd.underlying32, DataW.weightsEach, hq])
      obtain ⟨rs, ra, rc, e2, _, b2, c2, d2⟩ := open_names f2 hw2
      obtain ⟨xs, aa, ac, e3, _, b3, c3, d3⟩ := open_names f3 hw3
      subst e2 e3
      exact ⟨⟨s0.data.toList, s1.data.toList, rs, xs⟩, ⟨s0.data.toList, s1.data.toList, ra, rs.length, rc, aa, xs.length, ac⟩, by cases s0; cases s1; rfl, rfl, rfl, rfl, rfl, c2, c3, ⟨hw0, hw1, b2, b3, d2, d3⟩⟩

/-- A row of units. -/
theorem open_units {H : Type} {enc : TypeId × Value → H} {W : World} {fuel : Nat} {c : Value} {D : DataW H} {ps : List MemPlace}
    (h : DataW.trod enc Tryd.prog W 0 (fun _ => true) true fuel 22 [c] = some (D, ps)) (hw : ∀ n ∈ D.weights Tryd.prog 22, n ≤ reachBytes) :
    ∃ (L : List Ut) (ad : Option Addr) (cap : Nat), c = .slice ad L.length cap ∧ L.length ≤ cap ∧ L.length ≤ lim ∧ Us W W L ad := by
  rcases open_slice Tryd.underlying22 h with ⟨hcs, _⟩ | ⟨a, l, cp, m, n, D', Pl, hcs, hb, hl, hm, hmm, hx, hall⟩
  · simp only [List.cons.injEq, and_true] at hcs
    subst hcs
    exact ⟨[], none, 0, rfl, by simp, by simp, fun h => absurd rfl h⟩
  · simp only [List.cons.injEq, and_true] at hcs
    subst hcs
    have hmc : m = cp := by simpa using hmm
    subst hmc
    have hd : D = .slice ((List.range l).map D') ((List.range (m - l)).map fun j => D' (l + j)) := congrArg Prod.fst hx
    have hw0 : m * 80 ≤ reachBytes := hw _ (by
      rw [hd]
      simp only [DataW.weights, Tryd.underlying22, bytesU, List.mem_cons, List.length_map, List.length_range]
      left; congr 1; omega)
    have hwe : ∀ i, i < l → ∀ q ∈ (D' i).weights Tryd.prog 32, q ≤ reachBytes := fun i hi q hq => hw q (by
      rw [hd]
      simp only [DataW.weights, Tryd.underlying22, List.mem_cons, List.mem_append]
      exact .inr (.inl (weightsAll_mem _ _ (D' i) q (List.mem_map.2 ⟨i, List.mem_range.2 hi, rfl⟩) hq)))
    have hr : reachBytes = 140737488351232 := rfl
    have hone : ∀ i, i < l → ∃ d : Ut, ∃ y : Uv, (∀ j u, y.cs[j]? = some u → W.cell? ((a.add (i * 4)).add j) = some u) ∧ UIn W d y := by
      intro i hi
      obtain ⟨cs, h1, h2⟩ := hall i (by omega)
      rw [cellsU] at h1
      obtain ⟨_, hlen, hc⟩ := World.cells?_some h1
      obtain ⟨d, y, rfl, hv⟩ := open_unit h2 hlen (hwe i hi)
      refine ⟨d, y, fun j u hu => ?_, hv⟩
      have hj : j < y.cs.length := (List.getElem?_eq_some_iff.1 hu).1
      have := hc j hj
      rw [this, ← hu, List.getElem?_eq_getElem hj]
    rcases Nat.eq_zero_or_pos l with h0 | hpos
    · subst h0
      exact ⟨[], some a, m, rfl, by simp, by simp, fun h => absurd rfl h⟩
    obtain ⟨bb, bo, sp⟩ := a
    have hsp : sp = none := by
      obtain ⟨d, y, g0, _⟩ := hone 0 hpos
      have := World.cell?_spot (g0 0 _ rfl)
      simpa [Addr.add] using this
    subst hsp
    obtain ⟨L, hL1, hL2⟩ := list_of _ l hone
    subst hL1
    refine ⟨L, _, m, rfl, hl, by unfold lim; omega, fun _ => ⟨bb, bo, rfl, fun i hi => ?_⟩⟩
    obtain ⟨y, g1, g2⟩ := hL2 i hi
    have g : ∀ j u, y.cs[j]? = some u → W.cell? ⟨bb, bo + i * 4 + j, none⟩ = some u := fun j u hu => by
      have := g1 j u hu
      rw [Addr.add_mid, Addr.add_mid] at this
      exact this
    exact ⟨y, g, g2⟩
theorem below_of_fr {w w' : World} (f : Fr (fun _ => False) w w') : Below w.heap.size w w' := ⟨f.os, f.tape, f.output, f.size, fun k hk => f.block k hk (fun h => h)⟩
theorem wit_row {H : Type} {enc : TypeId × Value → H} {C : Checked} {os : Os} {f : FuncId} {fn : Func} {s : OpenSpec} {conds : List PathCond} {apart : Bool} {laid : List (String × DataW Unit)} (w0 : World) (args : Array Value) (hos : w0.os = os)
    (hsh : (w0.forCall (fun _ _ => 0) ⟨#[], args, []⟩).Shaped C.prog) (hok : Input.okWideB C.prog (w0.forCall (fun _ _ => 0) ⟨#[], args, []⟩) f ⟨#[], args, []⟩ = true)
    (hrow : s.preRow enc C.prog fn conds apart laid (w0.forCall (fun _ _ => 0) ⟨#[], args, []⟩).memory args) :
    ∃ (w : World) (tape : Tape) (i : Input), w.os = os ∧ (w.forCall tape i).Shaped C.prog ∧ i.vars = [] ∧ Input.okWide C.prog (w.forCall tape i) .any w.heap.size f i ∧
      s.preRow enc C.prog fn conds apart laid (w.forCall tape i).memory i.args ∧ ({ modest := false } : Assume).holds C.prog (lone (Frame.enter C.prog f i.args .normal) [] (w.forCall tape i)) :=
  ⟨w0, fun _ _ => 0, ⟨#[], args, []⟩, hos, hsh, (Input.okWide_of_okWideB (base := 0) hok).1, (Input.okWide_of_okWideB hok).2, hrow, by
    simp only [Assume.holds]
    exact ⟨by simp, by simp, fun _ => Modest.zero, by simp, by simp⟩⟩
section
variable {H : Type} {enc : TypeId × Value → H} {P : Program} {w : World} {base : Nat} {sp : Nat → Bool} {held : Bool}
theorem lit_int {fuel : Nat} {t : TypeId} {k : IntKind} {cs : List Value} {z : Int} {p : List MemPlace} (ht : P.underlying t = some (.int k)) (h : DataW.trod enc P w base sp held fuel t cs = some (.lit (.int k z), p)) : cs = [.int k z] := by
  cases fuel with
  | zero => simp [DataW.trod] at h
  | succ n =>
    unfold DataW.trod at h
    rw [ht] at h
    split at h <;> simp_all
end
theorem tab_of {W : World} {l : List (String × DataW Unit)} (h : laidMet Tryd.prog l W) (m : ("math/bits.deBruijn32tab", Rows.laid_math_bits_deBruijn32tab) ∈ l) : TabAt 1 Lib.deBruijn32tab W := by
  have g1 : Tryd.prog.globalNamed "math/bits.deBruijn32tab" = some 1 := by kernel_rfl
  have y1 : (Tryd.prog.globals[1]?).map (·.type) = some 96 := by kernel_rfl
  obtain ⟨g, t, cs, fuel, p, hg, ht, hv, hr⟩ := laidMet.reads h m
  obtain rfl := Option.some.inj (g1.symm.trans hg)
  obtain rfl := Option.some.inj (y1.symm.trans ht)
  have hds : (Rows.laid_math_bits_deBruijn32tab : DataW Unit) = .agg (Lib.deBruijn32tab.map fun z : Nat => .lit (.int .u8 (z : Int))) := by kernel_rfl
  rw [hds] at hr
  intro j hj
  have hj' : j < 32 := hj
  obtain ⟨f', d, q, hd, hx⟩ := array_elem Tryd.underlying96 hr j hj'
  have hc5 : Tryd.prog.cellsOf 5 = 1 := by kernel_rfl
  rw [hc5] at hx
  have e : d = .lit (.int .u8 ((Lib.deBruijn32tab.getD j 0 : Nat) : Int)) := by
    rw [List.getElem?_map, List.getElem?_eq_getElem hj] at hd
    simp only [Option.map_some, Option.some.injEq] at hd
    rw [← hd, List.getD_eq_getElem?_getD, List.getElem?_eq_getElem hj]
    rfl
  rw [e] at hx
  have e2 := lit_int Tryd.underlying5 hx
  have c := World.var?_cell hg hv j
  rw [c, ← Array.getElem?_toList]
  have := congrArg (fun l : List Value => l[0]?) e2
  simp only [Nat.mul_one, List.getElem?_take, List.getElem?_drop, Nat.add_zero] at this
  simpa using this
end Go.Proofs.YtcpeebkfnnkjnaaDoor.Tr
