import Derived.Test.YtniailfcmlongaaGreatDoorVtrM
import Derived.Stop.Joined
import Derived.LaidMore
import Derived.MakeChecks
import Derived.Deep.Slices
import Derived.Test.YtniailfcmlongaaGreatDoorTdfM
import Derived.OpenShut
/- What an argument that is a value is: a tree, read off the row's own reading. -/
namespace Go.Proofs.YtniailfcmlongaaGreatDoor.Tr
open Go.RowKit Go.Deep

theorem cellsV : Tryz.prog.cellsOf 26 = 6 := by kernel_rfl
theorem bytesV : Tryz.prog.bytesOf 26 = 88 := by kernel_rfl
theorem bytes9 : Tryz.prog.bytesOf 9 = 16 := by kernel_rfl
theorem cells9 : Tryz.prog.cellsOf 9 = 1 := by kernel_rfl
theorem cells3 : Tryz.prog.cellsOf 3 = 1 := by kernel_rfl
theorem cells2 : Tryz.prog.cellsOf 2 = 1 := by kernel_rfl
theorem cellsF : Tryz.prog.cellsOf 22 = 1 := by kernel_rfl
theorem cellsN : Tryz.prog.cellsOf 23 = 1 := by kernel_rfl
theorem cellsI : Tryz.prog.cellsOf 24 = 1 := by kernel_rfl
theorem weightsAll_mem {H : Type} (e : TypeId) : ∀ (l : List (DataW H)) (d : DataW H) (n : Nat), d ∈ l → n ∈ d.weights Tryz.prog e → n ∈ DataW.weightsAll Tryz.prog e l
  | [], _, _, h, _ => absurd h (by simp)
  | x :: r, d, n, h, hn => by
    rw [DataW.weightsAll, List.mem_append]
    rcases List.mem_cons.1 h with rfl | h
    · exact .inl hn
    · exact .inr (weightsAll_mem e r d n h hn)
theorem trod_float {H : Type} {enc : TypeId × Value → H} {W : World} {fuel : Nat} {t : TypeId} {cs : List Value} {x : DataW H × List MemPlace} {k : FloatKind} (ht : Tryz.prog.underlying t = some (.float k)) (h : DataW.trod enc Tryz.prog W 0 (fun _ => true) true fuel t cs = some x) : ∃ b, cs = [.float k b] ∧ x = (.lit (.float k b), []) := by
  cases fuel with
  | zero => simp [DataW.trod] at h
  | succ n =>
    unfold DataW.trod at h
    rw [ht] at h
    split at h <;> simp_all
theorem list_of {α : Type} (P : Nat → α → Prop) : ∀ n, (∀ i, i < n → ∃ x, P i x) → ∃ L : List α, n = L.length ∧ ∀ i (h : i < L.length), P i L[i]
  | 0, _ => ⟨[], rfl, fun i h => absurd h (by simp)⟩
  | n + 1, h => by
    obtain ⟨L, h1, h2⟩ := list_of P n (fun i hi => h i (by omega))
    obtain ⟨x, hx⟩ := h n (by omega)
    subst h1
    refine ⟨L ++ [x], by simp, fun i hi => ?_⟩
    by_cases hi' : i < L.length
    · rw [List.getElem_append_left hi']; exact h2 i hi'
    · have e : i = L.length := by simp at hi; omega
      subst e
      rw [List.getElem_append_right (by omega)]
      simpa using hx
theorem open_names {H : Type} {enc : TypeId × Value → H} {W : World} {fuel : Nat} {c : Value} {D : DataW H} {ps : List MemPlace}
    (h : DataW.trod enc Tryz.prog W 0 (fun _ => true) true fuel 23 [c] = some (D, ps)) (hw : ∀ n ∈ D.weights Tryz.prog 23, n ≤ reachBytes) :
    ∃ (ns : List (List UInt8)) (ad : Option Addr) (cap : Nat), c = .slice ad ns.length cap ∧ ns.length ≤ cap ∧ ns.length ≤ lim ∧ Strs W ad ns ∧ ∀ s ∈ ns, s.length ≤ lim := by
  rcases open_slice Tryz.underlying23 h with ⟨hcs, _⟩ | ⟨a, l, cp, m, n, D', Pl, hcs, hb, hl, hm, hmm, hx, hall⟩
  · simp only [List.cons.injEq, and_true] at hcs
    subst hcs
    exact ⟨[], none, 0, rfl, by simp, by simp, fun h => absurd rfl h, by simp⟩
  · simp only [List.cons.injEq, and_true] at hcs
    subst hcs
    have hmc : m = cp := by simpa using hmm
    subst hmc
    have hd : D = .slice ((List.range l).map D') ((List.range (m - l)).map fun j => D' (l + j)) := congrArg Prod.fst hx
    have hw0 : m * 16 ≤ reachBytes := hw _ (by
      rw [hd]
      simp only [DataW.weights, Tryz.underlying23, bytes9, List.mem_cons, List.length_map, List.length_range]
      left; congr 1; omega)
    have hwe : ∀ i, i < l → ∀ q ∈ (D' i).weights Tryz.prog 9, q ≤ reachBytes := fun i hi q hq => hw q (by
      rw [hd]
      simp only [DataW.weights, Tryz.underlying23, List.mem_cons, List.mem_append]
      exact .inr (.inl (weightsAll_mem _ _ (D' i) q (List.mem_map.2 ⟨i, List.mem_range.2 hi, rfl⟩) hq)))
    have hr : reachBytes = 140737488351232 := rfl
    have hone : ∀ i, i < l → ∃ s : List UInt8, W.cell? (a.add (i * 1)) = some (.string ⟨s.toArray⟩) ∧ s.length ≤ lim := by
      intro i hi
      obtain ⟨cs, h1, h2⟩ := hall i (by omega)
      rw [cells9] at h1
      obtain ⟨_, hlen, hc⟩ := World.cells?_some h1
      obtain ⟨s, rfl, e2, _⟩ := DataW.trod_string Tryz.underlying9 h2
      refine ⟨s.data.toList, ?_, ?_⟩
      · have := hc 0 (by simp)
        have e : ((a.add (i * 1)).add 0) = a.add (i * 1) := by simp [Addr.add]
        rw [e] at this
        simpa using this
      · have e3 : D' i = .lit (.string s.data.toList) := congrArg Prod.fst e2
        have := hwe i hi s.data.toList.length (by rw [e3]; simp [DataW.weights])
        rw [hr] at this; exact this
    rcases Nat.eq_zero_or_pos l with h0 | hpos
    · subst h0
      exact ⟨[], some a, m, rfl, by simp, by simp, fun h => absurd rfl h, by simp⟩
    obtain ⟨bb, bo, sp⟩ := a
    have hsp : sp = none := by
      obtain ⟨s, g0, _⟩ := hone 0 hpos
      have := World.cell?_spot g0
      simpa [Addr.add] using this
    subst hsp
    obtain ⟨L, hL1, hL2⟩ := list_of _ l hone
    subst hL1
    refine ⟨L, _, m, rfl, hl, by unfold lim; omega, fun _ => ⟨bb, bo, rfl, fun i hi => ?_⟩, fun s hs => ?_⟩
    · have := (hL2 i hi).1
      rw [Addr.add_mid, Nat.mul_one] at this
      exact this
    · obtain ⟨i, hi, rfl⟩ := List.getElem_of_mem hs
      exact (hL2 i hi).2

theorem IIn_of {W : World} {bb : Nat} : ∀ (L : List Vt) (bo : Nat), (∀ i (h : i < L.length), ∃ x, sixO W bb (bo + i * 6) x ∧ VIn W L[i] x) → IIn W L (some ⟨bb, bo, none⟩)
  | [], _, _ => by rw [IIn]; trivial
  | v :: r, bo, h => by
    rw [IIn]
    obtain ⟨x, h1, h2⟩ := h 0 (by simp)
    refine ⟨bb, bo, x, rfl, by simpa using h1, h2, IIn_of r (bo + 6) fun i hi => ?_⟩
    obtain ⟨y, y1, y2⟩ := h (i + 1) (by simpa using hi)
    refine ⟨y, ?_, by simpa using y2⟩
    rw [show bo + 6 + i * 6 = bo + (i + 1) * 6 by omega]; exact y1

set_option maxRecDepth 100000 in
theorem open_tree {H : Type} {enc : TypeId × Value → H} {W : World} : ∀ (m : Nat) {n : Nat} {cs : List Value} {D : DataW H} {Pl : List MemPlace}, SizeOf.sizeOf D ≤ m →
    DataW.trod enc Tryz.prog W 0 (fun _ => true) true n 26 cs = some (D, Pl) → cs.length = 6 → (∀ q ∈ D.weights Tryz.prog 26, q ≤ reachBytes) → ∃ (v : Vt) (x : Vv), cs = x.cs ∧ VIn W v x := by
  intro m
  induction m with
  | zero =>
    intro n cs D Pl hs
    exfalso
    cases D <;> simp at hs
  | succ m ih =>
    intro n cs D Pl hs h hlen hw
    obtain ⟨xs, n', _, hD, _, hxl, hf⟩ := DataW.trod_struct Tryz.underlying26 h
    match cs, hlen with
    | [u0, u1, u2, u3, u4, u5], _ =>
      have f0 := hf 0 _ rfl
      have f1 := hf 1 _ rfl
      have f2 := hf 2 _ rfl
      have f3 := hf 3 _ rfl
      have f4 := hf 4 _ rfl
      have f5 := hf 5 _ rfl
      match xs, hxl with
      | [y0, y1, y2, y3, y4, y5], _ =>
        simp [cells9, cells3, cells2, cellsF, cellsN, cellsI] at f0 f1 f2 f3 f4 f5
        obtain ⟨k, e0, hy0, hk⟩ := DataW.trod_int Tryz.underlying3 f0
        obtain ⟨z, e1, hy1, hz⟩ := DataW.trod_int Tryz.underlying2 f1
        obtain ⟨f, e2, hy2⟩ := trod_float Tryz.underlying22 f2
        obtain ⟨s, e3, hy3, _⟩ := DataW.trod_string Tryz.underlying9 f3
        simp only [List.cons.injEq, and_true] at e0 e1 e2 e3
        subst e0 e1 e2 e3
        have hDe : D = .agg [.lit (.int .i64 k), .lit (.int .i64 z), .lit (.float .f64 f), .lit (.string s.data.toList), y4.1, y5.1] := by
          have := congrArg Prod.fst hD
          rw [hy0, hy1, hy2, hy3] at this
          simpa using this
        have hws : s.data.toList.length ≤ reachBytes := hw _ (by
          rw [hDe]
          simp [DataW.weights, Tryz.underlying26, DataW.weightsEach])
        have hwn : ∀ q ∈ y4.1.weights Tryz.prog 23, q ≤ reachBytes := fun q hq => hw q (by
          rw [hDe]
          simp [DataW.weights, Tryz.underlying26, DataW.weightsEach, hq])
        have hwi : ∀ q ∈ y5.1.weights Tryz.prog 24, q ≤ reachBytes := fun q hq => hw q (by
          rw [hDe]
          simp [DataW.weights, Tryz.underlying26, DataW.weightsEach, hq])
        obtain ⟨ns, na, nc, rfl, hn1, hn2, hn3, hn4⟩ := open_names f4 hwn
        have hsz : SizeOf.sizeOf y5.1 ≤ m := by
          have : SizeOf.sizeOf y5.1 < SizeOf.sizeOf D := by
            rw [hDe]
            simp
            omega
          omega
        have hr : reachBytes = 140737488351232 := rfl
        have hk' : -9223372036854775808 ≤ k ∧ k ≤ 9223372036854775807 := by simp [Lit.wf, IntKind.min, IntKind.max, IntKind.signed, IntKind.bits] at hk; omega
        have hz' : -9223372036854775808 ≤ z ∧ z ≤ 9223372036854775807 := by simp [Lit.wf, IntKind.min, IntKind.max, IntKind.signed, IntKind.bits] at hz; omega
        have hitems : ∃ (its : List Vt) (ia : Option Addr) (ic : Nat), u5 = .slice ia its.length ic ∧ its.length ≤ ic ∧ its.length ≤ lim ∧ IIn W its ia := by
          rcases open_slice Tryz.underlying24 f5 with ⟨hcs, _⟩ | ⟨a, l, cp, mm, nn, D', Pl', hcs, hb, hl, hm, hmm, hx, hall⟩
          · simp only [List.cons.injEq, and_true] at hcs
            subst hcs
            exact ⟨[], none, 0, rfl, by simp, by simp, by rw [IIn]; trivial⟩
          · simp only [List.cons.injEq, and_true] at hcs
            subst hcs
            have hmc : mm = cp := by simpa using hmm
            subst hmc
            have hd : y5.1 = .slice ((List.range l).map D') ((List.range (mm - l)).map fun j => D' (l + j)) := congrArg Prod.fst hx
            have hw0 : mm * 88 ≤ reachBytes := hwi _ (by
              rw [hd]
              simp only [DataW.weights, Tryz.underlying24, bytesV, List.mem_cons, List.length_map, List.length_range]
              left; congr 1; omega)
            have hwe : ∀ i, i < l → ∀ q ∈ (D' i).weights Tryz.prog 26, q ≤ reachBytes := fun i hi q hq => hwi q (by
              rw [hd]
              simp only [DataW.weights, Tryz.underlying24, List.mem_cons, List.mem_append]
              exact .inr (.inl (weightsAll_mem _ _ (D' i) q (List.mem_map.2 ⟨i, List.mem_range.2 hi, rfl⟩) hq)))
            have hsi : ∀ i, i < l → SizeOf.sizeOf (D' i) ≤ m := fun i hi => by
              have h1 : SizeOf.sizeOf (D' i) < SizeOf.sizeOf ((List.range l).map D') := List.sizeOf_lt_of_mem (List.mem_map.2 ⟨i, List.mem_range.2 hi, rfl⟩)
              have h2 : SizeOf.sizeOf ((List.range l).map D') < SizeOf.sizeOf y5.1 := by
                rw [hd]
                simp
                omega
              omega
            have hone : ∀ i, i < l → ∃ v : Vt, ∃ x : Vv, (∀ j u, x.cs[j]? = some u → W.cell? ((a.add (i * 6)).add j) = some u) ∧ VIn W v x := by
              intro i hi
              obtain ⟨cs, h1, h2⟩ := hall i (by omega)
              rw [cellsV] at h1
              obtain ⟨_, hlen, hc⟩ := World.cells?_some h1
              obtain ⟨v, x, rfl, hv⟩ := ih (hsi i hi) h2 hlen (hwe i hi)
              refine ⟨v, x, fun j u hu => ?_, hv⟩
              have hj : j < x.cs.length := (List.getElem?_eq_some_iff.1 hu).1
              have := hc j hj
              rw [this, ← hu, List.getElem?_eq_getElem hj]
            rcases Nat.eq_zero_or_pos l with h0 | hpos
            · subst h0
              exact ⟨[], some a, mm, rfl, by simp, by simp, by rw [IIn]; trivial⟩
            obtain ⟨bb, bo, sp⟩ := a
            have hsp : sp = none := by
              obtain ⟨v, x, g0, _⟩ := hone 0 hpos
              have := World.cell?_spot (g0 0 _ rfl)
              simpa [Addr.add] using this
            subst hsp
            obtain ⟨L, hL1, hL2⟩ := list_of _ l hone
            subst hL1
            refine ⟨L, _, mm, rfl, hl, by unfold lim; omega, IIn_of L bo fun i hi => ?_⟩
            obtain ⟨x, g1, g2⟩ := hL2 i hi
            refine ⟨x, fun j u hu => ?_, g2⟩
            have := g1 j u hu
            rw [Addr.add_mid, Addr.add_mid] at this
            exact this
        obtain ⟨its, ia, ic, rfl, hi1, hi2, hi3⟩ := hitems
        refine ⟨.mk k z f s.data.toList ns its, ⟨k, z, f, s.data.toList, na, ns.length, nc, ia, its.length, ic⟩, by simp, ?_⟩
        rw [VIn]
        exact ⟨⟨rfl, rfl, rfl, rfl⟩, ⟨⟨hk'.1, hk'.2⟩, ⟨hz'.1, hz'.2⟩, by rw [hr] at hws; exact hws, hn4⟩, ⟨rfl, hn1, hn2, hn3⟩, ⟨rfl, hi1, hi2⟩, hi3⟩
end Go.Proofs.YtniailfcmlongaaGreatDoor.Tr
/- What arguments that are rows of definitions, and rows of ints, are. -/
namespace Go.Proofs.YtniailfcmlongaaGreatDoor.Tr
open Go.RowKit Go.Deep

theorem cellsD : Tryz.prog.cellsOf 30 = 8 := by kernel_rfl
theorem bytesD : Tryz.prog.bytesOf 30 = 104 := by kernel_rfl
theorem bytes3 : Tryz.prog.bytesOf 3 = 8 := by kernel_rfl

set_option maxRecDepth 100000 in
theorem open_def {H : Type} {enc : TypeId × Value → H} {W : World} {n : Nat} {cs : List Value} {D : DataW H} {Pl : List MemPlace}
    (h : DataW.trod enc Tryz.prog W 0 (fun _ => true) true n 30 cs = some (D, Pl)) (hlen : cs.length = 8) (hw : ∀ q ∈ D.weights Tryz.prog 30, q ≤ reachBytes) : ∃ (d : Dt) (y : Dv), cs = y.cs ∧ DIn W d y := by
  obtain ⟨xs, n', _, hD, _, hxl, hf⟩ := DataW.trod_struct Tryz.underlying30 h
  match cs, hlen with
  | [u0, u1, u2, u3, u4, u5, u6, u7], _ =>
    have f0 := hf 0 _ rfl
    have f1 := hf 1 _ rfl
    have f2 := hf 2 _ rfl
    match xs, hxl with
    | [y0, y1, y2], _ =>
      simp [cellsV, cells2] at f0 f1 f2
      obtain ⟨p, e1, hy1, hp⟩ := DataW.trod_int Tryz.underlying2 f1
      obtain ⟨o, e2, hy2, ho⟩ := DataW.trod_int Tryz.underlying2 f2
      simp only [List.cons.injEq, and_true] at e1 e2
      subst e1 e2
      have hDe : D = .agg [y0.1, .lit (.int .i64 p), .lit (.int .i64 o)] := by
        have := congrArg Prod.fst hD
        rw [hy1, hy2] at this
        simpa using this
      have hwv : ∀ q ∈ y0.1.weights Tryz.prog 26, q ≤ reachBytes := fun q hq => hw q (by
        rw [hDe]
        simp [DataW.weights, Tryz.underlying30, DataW.weightsEach, hq])
      obtain ⟨v, x, e, hv⟩ := open_tree (SizeOf.sizeOf y0.1) (Nat.le_refl _) f0 rfl hwv
      simp only [Vv.cs, List.cons.injEq, and_true] at e
      obtain ⟨rfl, rfl, rfl, rfl, rfl, rfl⟩ := e
      exact ⟨⟨v, p, o⟩, ⟨x, p, o⟩, rfl, hv, rfl, rfl, bounds_i64 hp, bounds_i64 ho⟩

/-- A row of definitions. -/
theorem open_defs {H : Type} {enc : TypeId × Value → H} {W : World} {fuel : Nat} {c : Value} {D : DataW H} {ps : List MemPlace}
    (h : DataW.trod enc Tryz.prog W 0 (fun _ => true) true fuel 31 [c] = some (D, ps)) (hw : ∀ n ∈ D.weights Tryz.prog 31, n ≤ reachBytes) :
    ∃ (L : List Dt) (ad : Option Addr) (cap : Nat), c = .slice ad L.length cap ∧ L.length ≤ cap ∧ L.length ≤ lim ∧ DsIn W L ad := by
  rcases open_slice Tryz.underlying31 h with ⟨hcs, _⟩ | ⟨a, l, cp, m, n, D', Pl, hcs, hb, hl, hm, hmm, hx, hall⟩
  · simp only [List.cons.injEq, and_true] at hcs
    subst hcs
    exact ⟨[], none, 0, rfl, by simp, by simp, fun h => absurd rfl h⟩
  · simp only [List.cons.injEq, and_true] at hcs
    subst hcs
    have hmc : m = cp := by simpa using hmm
    subst hmc
    have hd : D = .slice ((List.range l).map D') ((List.range (m - l)).map fun j => D' (l + j)) := congrArg Prod.fst hx
    have hw0 : m * 104 ≤ reachBytes := hw _ (by
      rw [hd]
      simp only [DataW.weights, Tryz.underlying31, bytesD, List.mem_cons, List.length_map, List.length_range]
      left; congr 1; omega)
    have hwe : ∀ i, i < l → ∀ q ∈ (D' i).weights Tryz.prog 30, q ≤ reachBytes := fun i hi q hq => hw q (by
      rw [hd]
      simp only [DataW.weights, Tryz.underlying31, List.mem_cons, List.mem_append]
      exact .inr (.inl (weightsAll_mem _ _ (D' i) q (List.mem_map.2 ⟨i, List.mem_range.2 hi, rfl⟩) hq)))
    have hr : reachBytes = 140737488351232 := rfl
    have hone : ∀ i, i < l → ∃ d : Dt, ∃ y : Dv, (∀ j u, y.cs[j]? = some u → W.cell? ((a.add (i * 8)).add j) = some u) ∧ DIn W d y := by
      intro i hi
      obtain ⟨cs, h1, h2⟩ := hall i (by omega)
      rw [cellsD] at h1
      obtain ⟨_, hlen, hc⟩ := World.cells?_some h1
      obtain ⟨d, y, rfl, hv⟩ := open_def h2 hlen (hwe i hi)
      refine ⟨d, y, fun j u hu => ?_, hv⟩
      have hj : j < y.cs.length := (List.getElem?_eq_some_iff.1 hu).1
      have := hc j hj
      rw [this, ← hu, List.getElem?_eq_getElem hj]
    rcases Nat.eq_zero_or_pos l with h0 | hpos
    · subst h0
      exact ⟨[], some a, m, rfl, by simp, by simp, fun h => absurd rfl h⟩
    obtain ⟨bb, bo, sp⟩ := a
    have hsp : sp = none := by
      obtain ⟨d, y, g0, _⟩ := hone 0 hpos
      have := World.cell?_spot (g0 0 _ rfl)
      simpa [Addr.add] using this
    subst hsp
    obtain ⟨L, hL1, hL2⟩ := list_of _ l hone
    subst hL1
    refine ⟨L, _, m, rfl, hl, by unfold lim; omega, fun _ => ⟨bb, bo, rfl, fun i hi => ?_⟩⟩
    obtain ⟨y, g1, g2⟩ := hL2 i hi
    have g : ∀ j u, y.cs[j]? = some u → W.cell? ⟨bb, bo + i * 8 + j, none⟩ = some u := fun j u hu => by
      have := g1 j u hu
      rw [Addr.add_mid, Addr.add_mid] at this
      exact this
    exact ⟨y, ⟨g 0 _ rfl, g 1 _ rfl, g 2 _ rfl, g 3 _ rfl, g 4 _ rfl, g 5 _ rfl, g 6 _ rfl, g 7 _ rfl⟩, g2⟩
/-- Ints that lie in a row. -/
def Ins (w : World) (ad : Option Addr) (O : List Int) : Prop := O ≠ [] → ∃ b o, ad = some ⟨b, o, none⟩ ∧ ∀ i (h : i < O.length), w.cell? ⟨b, o + i, none⟩ = some (.int .i64 O[i]) ∧ I64 O[i]
theorem open_ints {H : Type} {enc : TypeId × Value → H} {W : World} {fuel : Nat} {c : Value} {D : DataW H} {ps : List MemPlace}
    (h : DataW.trod enc Tryz.prog W 0 (fun _ => true) true fuel 40 [c] = some (D, ps)) (hw : ∀ n ∈ D.weights Tryz.prog 40, n ≤ reachBytes) :
    ∃ (O : List Int) (ad : Option Addr) (cap : Nat), c = .slice ad O.length cap ∧ O.length ≤ lim ∧ Ins W ad O := by
  rcases open_slice1 Tryz.underlying40 cells3 h with ⟨hcs, _⟩ | ⟨a, l, cp, m, n, V, D', Pl, hcs, hb, hl, hm, hmm, hx, hall⟩
  · simp only [List.cons.injEq, and_true] at hcs
    subst hcs
    exact ⟨[], none, 0, rfl, by simp, fun h => absurd rfl h⟩
  · simp only [List.cons.injEq, and_true] at hcs
    subst hcs
    have hmc : m = cp := by simpa using hmm
    subst hmc
    have hd : D = .slice ((List.range l).map D') ((List.range (m - l)).map fun j => D' (l + j)) := congrArg Prod.fst hx
    have hw0 : m * 8 ≤ reachBytes := hw _ (by
      rw [hd]
      simp only [DataW.weights, Tryz.underlying40, bytes3, List.mem_cons, List.length_map, List.length_range]
      left; congr 1; omega)
    have hr : reachBytes = 140737488351232 := rfl
    have hone : ∀ i, i < l → ∃ z : Int, W.cell? (a.add i) = some (.int .i64 z) ∧ I64 z := by
      intro i hi
      obtain ⟨h1, h2⟩ := hall i (by omega)
      obtain ⟨z, e, _, hz⟩ := DataW.trod_int Tryz.underlying3 h2
      simp only [List.cons.injEq, and_true] at e
      rw [e] at h1
      exact ⟨z, h1, bounds_i64 hz⟩
    rcases Nat.eq_zero_or_pos l with h0 | hpos
    · subst h0
      exact ⟨[], some a, m, rfl, by simp, fun h => absurd rfl h⟩
    obtain ⟨bb, bo, sp⟩ := a
    have hsp : sp = none := by
      obtain ⟨_, g0, _⟩ := hone 0 hpos
      have := World.cell?_spot g0
      simpa [Addr.add] using this
    subst hsp
    obtain ⟨L, hL1, hL2⟩ := list_of _ l hone
    subst hL1
    refine ⟨L, _, m, rfl, by unfold lim; omega, fun _ => ⟨bb, bo, rfl, fun i hi => ?_⟩⟩
    obtain ⟨g1, g2⟩ := hL2 i hi
    rw [Addr.add_mid] at g1
    exact ⟨g1, g2⟩
end Go.Proofs.YtniailfcmlongaaGreatDoor.Tr
