/- The same arguments, and how much they weigh. -/
import Derived.Test.YtangnoicnogddaaMar
namespace Go.Proofs.Ytangnoicnogddaa.Tr
open Go.ChangeShapes Go.WideShapes Go.ChangeAt Go.RowKit Go.Deep Go.Lib

theorem bulkAll_len {H : Type} : ∀ (l : List (DataW H)), l.length ≤ Rows.uptoBulkAll l
  | [] => by simp [Rows.uptoBulkAll]
  | d :: r => by
    have ih := bulkAll_len r
    have h1 : 1 ≤ Rows.uptoBulk d := by
      cases d with
      | lit l => cases l <;> simp [Rows.uptoBulk]
      | _ => simp [Rows.uptoBulk]
    simp only [Rows.uptoBulkAll, List.length_cons]; omega
theorem bulkAll_mem {H : Type} : ∀ (l : List (DataW H)) (d : DataW H), d ∈ l → Rows.uptoBulk d ≤ Rows.uptoBulkAll l
  | [], _, h => absurd h (by simp)
  | x :: r, d, h => by
    simp only [Rows.uptoBulkAll]
    rcases List.mem_cons.1 h with rfl | h
    · omega
    · have := bulkAll_mem r d h; omega
theorem open_names2 {H : Type} {enc : TypeId × Value → H} {W : World} {fuel : Nat} {c : Value} {D : DataW H} {ps : List MemPlace}
    (h : DataW.trod enc Try.prog W 0 (fun _ => true) true fuel 30 [c] = some (D, ps)) (hw : ∀ n ∈ D.weights Try.prog 30, n ≤ reachBytes) :
    ∃ (ns : List (List UInt8)) (ad : Option Addr) (cap : Nat), c = .slice ad ns.length cap ∧ ns.length ≤ cap ∧ ns.length ≤ lim16 ∧ Strs W ad ns ∧ (∀ s ∈ ns, s.length ≤ lim) ∧ ns.length ≤ Rows.uptoBulk D := by
  rcases open_slice Try.underlying30 h with ⟨hcs, _⟩ | ⟨a, l, cp, m, n, D', Pl, hcs, hb, hl, hm, hmm, hx, hall⟩
  · simp only [List.cons.injEq, and_true] at hcs
    subst hcs
    exact ⟨[], none, 0, rfl, by simp, by simp, fun h => absurd rfl h, by simp, by simp⟩
  · simp only [List.cons.injEq, and_true] at hcs
    subst hcs
    have hmc : m = cp := by simpa using hmm
    subst hmc
    have hd : D = .slice ((List.range l).map D') ((List.range (m - l)).map fun j => D' (l + j)) := congrArg Prod.fst hx
    have hw0 : m * 16 ≤ reachBytes := hw _ (by
      rw [hd]
      simp only [DataW.weights, Try.underlying30, bytes9, List.mem_cons, List.length_map, List.length_range]
      left; congr 1; omega)
    have hwe : ∀ i, i < l → ∀ q ∈ (D' i).weights Try.prog 9, q ≤ reachBytes := fun i hi q hq => hw q (by
      rw [hd]
      simp only [DataW.weights, Try.underlying30, List.mem_cons, List.mem_append]
      exact .inr (.inl (weightsAll_mem _ _ (D' i) q (List.mem_map.2 ⟨i, List.mem_range.2 hi, rfl⟩) hq)))
    have hr : reachBytes = 140737488351232 := rfl
    have hone : ∀ i, i < l → ∃ s : List UInt8, W.cell? (a.add (i * 1)) = some (.string ⟨s.toArray⟩) ∧ s.length ≤ lim := by
      intro i hi
      obtain ⟨cs, h1, h2⟩ := hall i (by omega)
      rw [cells9] at h1
      obtain ⟨_, hlen, hc⟩ := World.cells?_some h1
      obtain ⟨s, rfl, e2, _⟩ := DataW.trod_string Try.underlying9 h2
      refine ⟨s.data.toList, ?_, ?_⟩
      · have := hc 0 (by simp)
        have e : ((a.add (i * 1)).add 0) = a.add (i * 1) := by simp [Addr.add]
        rw [e] at this
        simpa using this
      · have e3 : D' i = .lit (.string s.data.toList) := congrArg Prod.fst e2
        have := hwe i hi s.data.toList.length (by rw [e3]; simp [DataW.weights])
        rw [hr] at this; exact this
    rcases Nat.eq_zero_or_pos l with h0 | hpos
    · subst h0
      exact ⟨[], some a, m, rfl, by simp, by simp, fun h => absurd rfl h, by simp, by simp⟩
    obtain ⟨bb, bo, sp⟩ := a
    have hsp : sp = none := by
      obtain ⟨s, g0, _⟩ := hone 0 hpos
      have := World.cell?_spot g0
      simpa [Addr.add] using this
    subst hsp
    obtain ⟨L, hL1, hL2⟩ := list_of _ l hone
    subst hL1
    refine ⟨L, _, m, rfl, hl, by unfold lim16; omega, fun _ => ⟨bb, bo, rfl, fun i hi => ?_⟩, fun s hs => ?_, ?_⟩
    · have := (hL2 i hi).1
      rw [Addr.add_mid, Nat.mul_one] at this
      exact this
    · obtain ⟨i, hi, rfl⟩ := List.getElem_of_mem hs
      exact (hL2 i hi).2
    · rw [hd]
      have := bulkAll_len ((List.range L.length).map D')
      simp only [Rows.uptoBulk]
      simp at this
      omega
set_option maxRecDepth 100000 in
theorem open_unit2 {H : Type} {enc : TypeId × Value → H} {W : World} {n : Nat} {cs : List Value} {D : DataW H} {Pl : List MemPlace}
    (h : DataW.trod enc Try.prog W 0 (fun _ => true) true n 41 cs = some (D, Pl)) (hlen : cs.length = 4) (hw : ∀ q ∈ D.weights Try.prog 41, q ≤ reachBytes) : ∃ (d : Ut) (y : Uv), cs = y.cs ∧ UIn W d y ∧ d.r.length + d.a.length ≤ Rows.uptoBulk D := by
  obtain ⟨xs, n', _, hD, _, hxl, hf⟩ := DataW.trod_struct Try.underlying41 h
  match cs, hlen with
  | [u0, u1, u2, u3], _ =>
    have f0 := hf 0 _ rfl
    have f1 := hf 1 _ rfl
    have f2 := hf 2 _ rfl
    have f3 := hf 3 _ rfl
    match xs, hxl with
    | [y0, y1, y2, y3], _ =>
      simp [cells9, cellsN] at f0 f1 f2 f3
      obtain ⟨s0, e0, hy0, _⟩ := DataW.trod_string Try.underlying9 f0
      obtain ⟨s1, e1, hy1, _⟩ := DataW.trod_string Try.underlying9 f1
      simp only [List.cons.injEq, and_true] at e0 e1
      subst e0 e1
      have hDe : D = .agg [.lit (.string s0.data.toList), .lit (.string s1.data.toList), y2.1, y3.1] := by
        have := congrArg Prod.fst hD
        rw [hy0, hy1] at this
        simpa using this
      have hr : reachBytes = 140737488351232 := rfl
      have hw0 : s0.data.toList.length ≤ lim := by
        have := hw s0.data.toList.length (by rw [hDe]; simp [DataW.weights, Try.underlying41, DataW.weightsEach])
        rw [hr] at this; exact this
      have hw1 : s1.data.toList.length ≤ lim := by
        have := hw s1.data.toList.length (by rw [hDe]; simp [DataW.weights, Try.underlying41, DataW.weightsEach])
        rw [hr] at this; exact this
      have hw2 : ∀ q ∈ y2.1.weights Try.prog 30, q ≤ reachBytes := fun q hq => hw q (by
        rw [hDe]
        simp [DataW.weights, Try.underlying41, DataW.weightsEach, hq])
      have hw3 : ∀ q ∈ y3.1.weights Try.prog 30, q ≤ reachBytes := fun q hq => hw q (by
        rw [hDe]
        simp [DataW.weights, Try.underlying41, DataW.weightsEach, hq])
      obtain ⟨rs, ra, rc, e2, _, b2, c2, d2, g2⟩ := open_names2 f2 hw2
      obtain ⟨xs, aa, ac, e3, _, b3, c3, d3, g3⟩ := open_names2 f3 hw3
      subst e2 e3
      exact ⟨⟨s0.data.toList, s1.data.toList, rs, xs⟩, ⟨s0.data.toList, s1.data.toList, ra, rs.length, rc, aa, xs.length, ac⟩, by cases s0; cases s1; rfl, ⟨rfl, rfl, rfl, rfl, c2, c3, ⟨hw0, hw1, b2, b3, d2, d3⟩⟩, by rw [hDe]; simp only [Rows.uptoBulk, Rows.uptoBulkAll]; omega⟩
set_option maxRecDepth 100000 in
theorem open_act2 {H : Type} {enc : TypeId × Value → H} {W : World} {n : Nat} {cs : List Value} {D : DataW H} {Pl : List MemPlace}
    (h : DataW.trod enc Try.prog W 0 (fun _ => true) true n 43 cs = some (D, Pl)) (hlen : cs.length = 9) (hw : ∀ q ∈ D.weights Try.prog 43, q ≤ reachBytes) : ∃ (a : Ac) (z : Zv), cs = z.cs ∧ AIn W a z ∧ a.u.r.length + a.u.a.length ≤ Rows.uptoBulk D := by
  obtain ⟨xs, n', _, hD, _, hxl, hf⟩ := DataW.trod_struct Try.underlying43 h
  match cs, hlen with
  | [u0, u1, u2, u3, u4, u5, u6, u7, u8], _ =>
    have f0 := hf 0 _ rfl
    have f1 := hf 1 _ rfl
    have f2 := hf 2 _ rfl
    have f3 := hf 3 _ rfl
    match xs, hxl with
    | [y0, y1, y2, y3], _ =>
      simp [cells9, cells3, cellsE, cellsU] at f0 f1 f2 f3
      obtain ⟨k, e0, hy0, _⟩ := DataW.trod_int Try.underlying3 f0
      obtain ⟨s1, e1, hy1, _⟩ := DataW.trod_string Try.underlying9 f1
      simp only [List.cons.injEq, and_true] at e0 e1
      subst e0 e1
      have hDe : D = .agg [.lit (.int .i64 k), .lit (.string s1.data.toList), y2.1, y3.1] := by
        have := congrArg Prod.fst hD
        rw [hy0, hy1] at this
        simpa using this
      have hw2 : ∀ q ∈ y2.1.weights Try.prog 39, q ≤ reachBytes := fun q hq => hw q (by
        rw [hDe]
        simp [DataW.weights, Try.underlying43, DataW.weightsEach, hq])
      have hw3 : ∀ q ∈ y3.1.weights Try.prog 41, q ≤ reachBytes := fun q hq => hw q (by
        rw [hDe]
        simp [DataW.weights, Try.underlying43, DataW.weightsEach, hq])
      obtain ⟨f, da, dc, e2, hv⟩ := open_ent f2 rfl hw2
      obtain ⟨u, y, e3, hu, hb⟩ := open_unit2 f3 rfl hw3
      simp only [Uv.cs, List.cons.injEq, and_true] at e2 e3
      obtain ⟨rfl, rfl, rfl⟩ := e2
      obtain ⟨rfl, rfl, rfl, rfl⟩ := e3
      exact ⟨⟨k, s1.data.toList, f, u⟩, ⟨k, s1.data.toList, ⟨f.path, f.kind, da, f.data.length, dc⟩, y⟩, by cases s1; rfl, ⟨rfl, rfl, rfl, rfl, rfl, hv, hu⟩, by rw [hDe]; simp only [Rows.uptoBulk, Rows.uptoBulkAll]; omega⟩
/-- A row of acts. -/
theorem open_acts2 {H : Type} {enc : TypeId × Value → H} {W : World} {fuel : Nat} {c : Value} {D : DataW H} {ps : List MemPlace}
    (h : DataW.trod enc Try.prog W 0 (fun _ => true) true fuel 23 [c] = some (D, ps)) (hw : ∀ n ∈ D.weights Try.prog 23, n ≤ reachBytes) :
    ∃ (L : List Ac) (ad : Option Addr) (cap : Nat), c = .slice ad L.length cap ∧ L.length ≤ cap ∧ L.length ≤ lim ∧ Acs W L ad ∧ ∀ a ∈ L, a.u.r.length + a.u.a.length ≤ Rows.uptoBulk D := by
  rcases open_slice Try.underlying23 h with ⟨hcs, _⟩ | ⟨a, l, cp, m, n, D', Pl, hcs, hb, hl, hm, hmm, hx, hall⟩
  · simp only [List.cons.injEq, and_true] at hcs
    subst hcs
    exact ⟨[], none, 0, rfl, by simp, by simp, fun i h => absurd h (by simp), by simp⟩
  · simp only [List.cons.injEq, and_true] at hcs
    subst hcs
    have hmc : m = cp := by simpa using hmm
    subst hmc
    have hd : D = .slice ((List.range l).map D') ((List.range (m - l)).map fun j => D' (l + j)) := congrArg Prod.fst hx
    have hw0 : m * 152 ≤ reachBytes := hw _ (by
      rw [hd]
      simp only [DataW.weights, Try.underlying23, bytesZ, List.mem_cons, List.length_map, List.length_range]
      left; congr 1; omega)
    have hwe : ∀ i, i < l → ∀ q ∈ (D' i).weights Try.prog 43, q ≤ reachBytes := fun i hi q hq => hw q (by
      rw [hd]
      simp only [DataW.weights, Try.underlying23, List.mem_cons, List.mem_append]
      exact .inr (.inl (weightsAll_mem _ _ (D' i) q (List.mem_map.2 ⟨i, List.mem_range.2 hi, rfl⟩) hq)))
    have hr : reachBytes = 140737488351232 := rfl
    have hone : ∀ i, i < l → ∃ d : Ac, ∃ y : Zv, (∀ j u, y.cs[j]? = some u → W.cell? ((a.add (i * 9)).add j) = some u) ∧ AIn W d y ∧ d.u.r.length + d.u.a.length ≤ Rows.uptoBulk D := by
      intro i hi
      obtain ⟨cs, h1, h2⟩ := hall i (by omega)
      rw [cellsZ] at h1
      obtain ⟨_, hlen, hc⟩ := World.cells?_some h1
      obtain ⟨d, y, rfl, hv, hb2⟩ := open_act2 h2 hlen (hwe i hi)
      have hbi : Rows.uptoBulk (D' i) ≤ Rows.uptoBulk D := by
        rw [hd]
        have := bulkAll_mem ((List.range l).map D') (D' i) (List.mem_map.2 ⟨i, List.mem_range.2 hi, rfl⟩)
        simp only [Rows.uptoBulk]
        omega
      refine ⟨d, y, fun j u hu => ?_, hv, Nat.le_trans hb2 hbi⟩
      have hj : j < y.cs.length := (List.getElem?_eq_some_iff.1 hu).1
      have := hc j hj
      rw [this, ← hu, List.getElem?_eq_getElem hj]
    rcases Nat.eq_zero_or_pos l with h0 | hpos
    · subst h0
      exact ⟨[], some a, m, rfl, by simp, by simp, fun i h => absurd h (by simp), by simp⟩
    obtain ⟨bb, bo, sp⟩ := a
    have hsp : sp = none := by
      obtain ⟨d, y, g0, _, _⟩ := hone 0 hpos
      have := World.cell?_spot (g0 0 _ rfl)
      simpa [Addr.add] using this
    subst hsp
    obtain ⟨L, hL1, hL2⟩ := list_of _ l hone
    subst hL1
    refine ⟨L, _, m, rfl, hl, by unfold lim; omega, fun i hi => ?_, fun x hx => ?_⟩
    rotate_left
    · obtain ⟨i, hi, rfl⟩ := List.getElem_of_mem hx
      obtain ⟨_, _, _, g3⟩ := hL2 i hi
      exact g3
    obtain ⟨y, g1, g2, _⟩ := hL2 i hi
    refine ⟨bb, bo, y, rfl, fun j u hu => ?_, g2⟩
    have := g1 j u hu
    rw [Addr.add_mid, Addr.add_mid] at this
    exact this
end Go.Proofs.Ytangnoicnogddaa.Tr
