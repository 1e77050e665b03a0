import Derived.Test.YtlepjghfcpgbcaaGreatDoorVtr
import Derived.Stop.Joined
import Derived.LaidMore
import Derived.MakeChecks
import Derived.Deep.Slices
import Derived.Test.YtlepjghfcpgbcaaGreatDoorShzM
import Derived.Test.YtlepjghfcpgbcaaGreatDoorFmf
import Derived.Deep.Strs
import Derived.Lib.LaidU8
import Derived.Lib.LaidTab
import Derived.Deep.DeepHandedRow
import Derived.Deep.DeepWitnessRowRef
import Derived.Test.YtlepjghfcpgbcaaGreatDoorCards
import Derived.Test.YtlepjghfcpgbcaaGreatDoorTie
import Derived.Test.YtlepjghfcpgbcaaGreatDoorVtw
import Derived.Test.YtlepjghfcpgbcaaGreatDoorVtk
import Derived.ChangeMaps5
import Derived.ShutString
import Derived.OpenShut
import Derived.Lay
/- What an argument that is a value is: a tree, read off the row's own reading. -/
namespace Go.Proofs.YtlepjghfcpgbcaaGreatDoor.Tr
open Go.RowKit Go.Deep

theorem cellsV : Tryz.prog.cellsOf 26 = 6 := by kernel_rfl
theorem bytesV : Tryz.prog.bytesOf 26 = 88 := by kernel_rfl
theorem bytes9 : Tryz.prog.bytesOf 9 = 16 := by kernel_rfl
theorem cells9 : Tryz.prog.cellsOf 9 = 1 := by kernel_rfl
theorem cells3 : Tryz.prog.cellsOf 3 = 1 := by kernel_rfl
theorem cells2 : Tryz.prog.cellsOf 2 = 1 := by kernel_rfl
theorem cellsF : Tryz.prog.cellsOf 22 = 1 := by kernel_rfl
theorem cellsN : Tryz.prog.cellsOf 23 = 1 := by kernel_rfl
theorem cellsI : Tryz.prog.cellsOf 24 = 1 := by kernel_rfl
theorem weightsAll_mem {H : Type} (e : TypeId) : ∀ (l : List (DataW H)) (d : DataW H) (n : Nat), d ∈ l → n ∈ d.weights Tryz.prog e → n ∈ DataW.weightsAll Tryz.prog e l
  | [], _, _, h, _ => absurd h (by simp)
  | x :: r, d, n, h, hn => by
    rw [DataW.weightsAll, List.mem_append]
    rcases List.mem_cons.1 h with rfl | h
    · exact .inl hn
    · exact .inr (weightsAll_mem e r d n h hn)
theorem trod_float {H : Type} {enc : TypeId × Value → H} {W : World} {fuel : Nat} {t : TypeId} {cs : List Value} {x : DataW H × List MemPlace} {k : FloatKind} (ht : Tryz.prog.underlying t = some (.float k)) (h : DataW.trod enc Tryz.prog W 0 (fun _ => true) true fuel t cs = some x) : ∃ b, cs = [.float k b] ∧ x = (.lit (.float k b), []) := by
  cases fuel with
  | zero => simp [DataW.trod] at h
  | succ n =>
    unfold DataW.trod at h
    rw [ht] at h
    split at h <;> simp_all
theorem list_of {α : Type} (P : Nat → α → Prop) : ∀ n, (∀ i, i < n → ∃ x, P i x) → ∃ L : List α, n = L.length ∧ ∀ i (h : i < L.length), P i L[i]
  | 0, _ => ⟨[], rfl, fun i h => absurd h (by simp)⟩
  | n + 1, h => by
    obtain ⟨L, h1, h2⟩ := list_of P n (fun i hi => h i (by omega))
    obtain ⟨x, hx⟩ := h n (by omega)
    subst h1
    refine ⟨L ++ [x], by simp, fun i hi => ?_⟩
    by_cases hi' : i < L.length
    · rw [List.getElem_append_left hi']; exact h2 i hi'
    · have e : i = L.length := by simp at hi; omega
      subst e
      rw [List.getElem_append_right (by omega)]
      simpa using hx
theorem open_names {H : Type} {enc : TypeId × Value → H} {W : World} {fuel : Nat} {c : Value} {D : DataW H} {ps : List MemPlace}
    (h : DataW.trod enc Tryz.prog W 0 (fun _ => true) true fuel 23 [c] = some (D, ps)) (hw : ∀ n ∈ D.weights Tryz.prog 23, n ≤ reachBytes) :
    ∃ (ns : List (List UInt8)) (ad : Option Addr) (cap : Nat), c = .slice ad ns.length cap ∧ ns.length ≤ cap ∧ ns.length ≤ lim ∧ Strs W ad ns ∧ ∀ s ∈ ns, s.length ≤ lim := by
  rcases open_slice Tryz.underlying23 h with ⟨hcs, _⟩ | ⟨a, l, cp, m, n, D', Pl, hcs, hb, hl, hm, hmm, hx, hall⟩
  · simp only [List.cons.injEq, and_true] at hcs
    subst hcs
    exact ⟨[], none, 0, rfl, by simp, by simp, fun h => absurd rfl h, by simp⟩
  · simp only [List.cons.injEq, and_true] at hcs
    subst hcs
    have hmc : m = cp := by simpa using hmm
    subst hmc
    have hd : D = .slice ((List.range l).map D') ((List.range (m - l)).map fun j => D' (l + j)) := congrArg Prod.fst hx
    have hw0 : m * 16 ≤ reachBytes := hw _ (by
      rw [hd]
      simp only [DataW.weights, Tryz.underlying23, bytes9, List.mem_cons, List.length_map, List.length_range]
      left; congr 1; omega)
    have hwe : ∀ i, i < l → ∀ q ∈ (D' i).weights Tryz.prog 9, q ≤ reachBytes := fun i hi q hq => hw q (by
      rw [hd]
      simp only [DataW.weights, Tryz.underlying23, List.mem_cons, List.mem_append]
      exact .inr (.inl (weightsAll_mem _ _ (D' i) q (List.mem_map.2 ⟨i, List.mem_range.2 hi, rfl⟩) hq)))
    have hr : reachBytes = 140737488351232 := rfl
    have hone : ∀ i, i < l → ∃ s : List UInt8, W.cell? (a.add (i * 1)) = some (.string ⟨s.toArray⟩) ∧ s.length ≤ lim := by
      intro i hi
      obtain ⟨cs, h1, h2⟩ := hall i (by omega)
      rw [cells9] at h1
      obtain ⟨_, hlen, hc⟩ := World.cells?_some h1
      obtain ⟨s, rfl, e2, _⟩ := DataW.trod_string Tryz.underlying9 h2
      refine ⟨s.data.toList, ?_, ?_⟩
      · have := hc 0 (by simp)
        have e : ((a.add (i * 1)).add 0) = a.add (i * 1) := by simp [Addr.add]
        rw [e] at this
        simpa using this
      · have e3 : D' i = .lit (.string s.data.toList) := congrArg Prod.fst e2
        have := hwe i hi s.data.toList.length (by rw [e3]; simp [DataW.weights])
        rw [hr] at this; exact this
    rcases Nat.eq_zero_or_pos l with h0 | hpos
    · subst h0
      exact ⟨[], some a, m, rfl, by simp, by simp, fun h => absurd rfl h, by simp⟩
    obtain ⟨bb, bo, sp⟩ := a
    have hsp : sp = none := by
      obtain ⟨s, g0, _⟩ := hone 0 hpos
      have := World.cell?_spot g0
      simpa [Addr.add] using this
    subst hsp
    obtain ⟨L, hL1, hL2⟩ := list_of _ l hone
    subst hL1
    refine ⟨L, _, m, rfl, hl, by unfold lim; omega, fun _ => ⟨bb, bo, rfl, fun i hi => ?_⟩, fun s hs => ?_⟩
    · have := (hL2 i hi).1
      rw [Addr.add_mid, Nat.mul_one] at this
      exact this
    · obtain ⟨i, hi, rfl⟩ := List.getElem_of_mem hs
      exact (hL2 i hi).2

theorem IIn_of {W : World} {bb : Nat} : ∀ (L : List Vt) (bo : Nat), (∀ i (h : i < L.length), ∃ x, sixO W bb (bo + i * 6) x ∧ VIn W L[i] x) → IIn W L (some ⟨bb, bo, none⟩)
  | [], _, _ => by rw [IIn]; trivial
  | v :: r, bo, h => by
    rw [IIn]
    obtain ⟨x, h1, h2⟩ := h 0 (by simp)
    refine ⟨bb, bo, x, rfl, by simpa using h1, h2, IIn_of r (bo + 6) fun i hi => ?_⟩
    obtain ⟨y, y1, y2⟩ := h (i + 1) (by simpa using hi)
    refine ⟨y, ?_, by simpa using y2⟩
    rw [show bo + 6 + i * 6 = bo + (i + 1) * 6 by omega]; exact y1

set_option maxRecDepth 100000 in
theorem open_tree {H : Type} {enc : TypeId × Value → H} {W : World} : ∀ (m : Nat) {n : Nat} {cs : List Value} {D : DataW H} {Pl : List MemPlace}, SizeOf.sizeOf D ≤ m →
    DataW.trod enc Tryz.prog W 0 (fun _ => true) true n 26 cs = some (D, Pl) → cs.length = 6 → (∀ q ∈ D.weights Tryz.prog 26, q ≤ reachBytes) → ∃ (v : Vt) (x : Vv), cs = x.cs ∧ VIn W v x := by
  intro m
  induction m with
  | zero =>
    intro n cs D Pl hs
    exfalso
    cases D <;> simp at hs
  | succ m ih =>
    intro n cs D Pl hs h hlen hw
    obtain ⟨xs, n', _, hD, _, hxl, hf⟩ := DataW.trod_struct Tryz.underlying26 h
    match cs, hlen with
    | [u0, u1, u2, u3, u4, u5], _ =>
      have f0 := hf 0 _ rfl
      have f1 := hf 1 _ rfl
      have f2 := hf 2 _ rfl
      have f3 := hf 3 _ rfl
      have f4 := hf 4 _ rfl
      have f5 := hf 5 _ rfl
      match xs, hxl with
      | [y0, y1, y2, y3, y4, y5], _ =>
        simp [cells9, cells3, cells2, cellsF, cellsN, cellsI] at f0 f1 f2 f3 f4 f5
        obtain ⟨k, e0, hy0, hk⟩ := DataW.trod_int Tryz.underlying3 f0
        obtain ⟨z, e1, hy1, hz⟩ := DataW.trod_int Tryz.underlying2 f1
        obtain ⟨f, e2, hy2⟩ := trod_float Tryz.underlying22 f2
        obtain ⟨s, e3, hy3, _⟩ := DataW.trod_string Tryz.underlying9 f3
        simp only [List.cons.injEq, and_true] at e0 e1 e2 e3
        subst e0 e1 e2 e3
        have hDe : D = .agg [.lit (.int .i64 k), .lit (.int .i64 z), .lit (.float .f64 f), .lit (.string s.data.toList), y4.1, y5.1] := by
          have := congrArg Prod.fst hD
          rw [hy0, hy1, hy2, hy3] at this
          simpa using this
        have hws : s.data.toList.length ≤ reachBytes := hw _ (by
          rw [hDe]
          simp [DataW.weights, Tryz.underlying26, DataW.weightsEach])
        have hwn : ∀ q ∈ y4.1.weights Tryz.prog 23, q ≤ reachBytes := fun q hq => hw q (by
          rw [hDe]
          simp [DataW.weights, Tryz.underlying26, DataW.weightsEach, hq])
        have hwi : ∀ q ∈ y5.1.weights Tryz.prog 24, q ≤ reachBytes := fun q hq => hw q (by
          rw [hDe]
          simp [DataW.weights, Tryz.underlying26, DataW.weightsEach, hq])
        obtain ⟨ns, na, nc, rfl, hn1, hn2, hn3, hn4⟩ := open_names f4 hwn
        have hsz : SizeOf.sizeOf y5.1 ≤ m := by
          have : SizeOf.sizeOf y5.1 < SizeOf.sizeOf D := by
            rw [hDe]
            simp
            omega
          omega
        have hr : reachBytes = 140737488351232 := rfl
        have hk' : -9223372036854775808 ≤ k ∧ k ≤ 9223372036854775807 := by simp [Lit.wf, IntKind.min, IntKind.max, IntKind.signed, IntKind.bits] at hk; omega
        have hz' : -9223372036854775808 ≤ z ∧ z ≤ 9223372036854775807 := by simp [Lit.wf, IntKind.min, IntKind.max, IntKind.signed, IntKind.bits] at hz; omega
        have hitems : ∃ (its : List Vt) (ia : Option Addr) (ic : Nat), u5 = .slice ia its.length ic ∧ its.length ≤ ic ∧ its.length ≤ lim ∧ IIn W its ia := by
          rcases open_slice Tryz.underlying24 f5 with ⟨hcs, _⟩ | ⟨a, l, cp, mm, nn, D', Pl', hcs, hb, hl, hm, hmm, hx, hall⟩
          · simp only [List.cons.injEq, and_true] at hcs
            subst hcs
            exact ⟨[], none, 0, rfl, by simp, by simp, by rw [IIn]; trivial⟩
          · simp only [List.cons.injEq, and_true] at hcs
            subst hcs
            have hmc : mm = cp := by simpa using hmm
            subst hmc
            have hd : y5.1 = .slice ((List.range l).map D') ((List.range (mm - l)).map fun j => D' (l + j)) := congrArg Prod.fst hx
            have hw0 : mm * 88 ≤ reachBytes := hwi _ (by
              rw [hd]
              simp only [DataW.weights, Tryz.underlying24, bytesV, List.mem_cons, List.length_map, List.length_range]
              left; congr 1; omega)
            have hwe : ∀ i, i < l → ∀ q ∈ (D' i).weights Tryz.prog 26, q ≤ reachBytes := fun i hi q hq => hwi q (by
              rw [hd]
              simp only [DataW.weights, Tryz.underlying24, List.mem_cons, List.mem_append]
              exact .inr (.inl (weightsAll_mem _ _ (D' i) q (List.mem_map.2 ⟨i, List.mem_range.2 hi, rfl⟩) hq)))
            have hsi : ∀ i, i < l → SizeOf.sizeOf (D' i) ≤ m := fun i hi => by
              have h1 : SizeOf.sizeOf (D' i) < SizeOf.sizeOf ((List.range l).map D') := List.sizeOf_lt_of_mem (List.mem_map.2 ⟨i, List.mem_range.2 hi, rfl⟩)
              have h2 : SizeOf.sizeOf ((List.range l).map D') < SizeOf.sizeOf y5.1 := by
                rw [hd]
                simp
                omega
              omega
            have hone : ∀ i, i < l → ∃ v : Vt, ∃ x : Vv, (∀ j u, x.cs[j]? = some u → W.cell? ((a.add (i * 6)).add j) = some u) ∧ VIn W v x := by
              intro i hi
              obtain ⟨cs, h1, h2⟩ := hall i (by omega)
              rw [cellsV] at h1
              obtain ⟨_, hlen, hc⟩ := World.cells?_some h1
              obtain ⟨v, x, rfl, hv⟩ := ih (hsi i hi) h2 hlen (hwe i hi)
              refine ⟨v, x, fun j u hu => ?_, hv⟩
              have hj : j < x.cs.length := (List.getElem?_eq_some_iff.1 hu).1
              have := hc j hj
              rw [this, ← hu, List.getElem?_eq_getElem hj]
            rcases Nat.eq_zero_or_pos l with h0 | hpos
            · subst h0
              exact ⟨[], some a, mm, rfl, by simp, by simp, by rw [IIn]; trivial⟩
            obtain ⟨bb, bo, sp⟩ := a
            have hsp : sp = none := by
              obtain ⟨v, x, g0, _⟩ := hone 0 hpos
              have := World.cell?_spot (g0 0 _ rfl)
              simpa [Addr.add] using this
            subst hsp
            obtain ⟨L, hL1, hL2⟩ := list_of _ l hone
            subst hL1
            refine ⟨L, _, mm, rfl, hl, by unfold lim; omega, IIn_of L bo fun i hi => ?_⟩
            obtain ⟨x, g1, g2⟩ := hL2 i hi
            refine ⟨x, fun j u hu => ?_, g2⟩
            have := g1 j u hu
            rw [Addr.add_mid, Addr.add_mid] at this
            exact this
        obtain ⟨its, ia, ic, rfl, hi1, hi2, hi3⟩ := hitems
        refine ⟨.mk k z f s.data.toList ns its, ⟨k, z, f, s.data.toList, na, ns.length, nc, ia, its.length, ic⟩, by simp, ?_⟩
        rw [VIn]
        exact ⟨⟨rfl, rfl, rfl, rfl⟩, ⟨⟨hk'.1, hk'.2⟩, ⟨hz'.1, hz'.2⟩, by rw [hr] at hws; exact hws, hn4⟩, ⟨rfl, hn1, hn2, hn3⟩, ⟨rfl, hi1, hi2⟩, hi3⟩
end Go.Proofs.YtlepjghfcpgbcaaGreatDoor.Tr
/- An argument api.Value as a tree, its floats words of 64 bits, its lists not too long. -/
namespace Go.Proofs.YtlepjghfcpgbcaaGreatDoor.Tr
open Go.RowKit Go.Deep

theorem trod_float2 {H : Type} {enc : TypeId × Value → H} {W : World} {fuel : Nat} {t : TypeId} {cs : List Value} {x : DataW H × List MemPlace} (ht : Tryz.prog.underlying t = some (.float .f64)) (h : DataW.trod enc Tryz.prog W 0 (fun _ => true) true fuel t cs = some x) : ∃ b, cs = [.float .f64 b] ∧ x = (.lit (.float .f64 b), []) ∧ b < 18446744073709551616 := by
  obtain ⟨b, h1, h2⟩ := trod_float ht h
  refine ⟨b, h1, h2, ?_⟩
  subst h1
  cases fuel with
  | zero => simp [DataW.trod] at h
  | succ n =>
    unfold DataW.trod at h
    rw [ht] at h
    simp only at h
    split at h
    · rename_i hw
      simp [Lit.wf] at hw
      omega
    · cases h
theorem flL_of {l : List Vt} (h : ∀ v ∈ l, flV v) : flL l := by
  induction l with
  | nil => rw [flL]; trivial
  | cons a l ih => rw [flL]; exact ⟨h a (List.mem_cons_self ..), ih (fun v hv => h v (List.mem_cons_of_mem _ hv))⟩
theorem nmL_of {l : List Vt} (h : ∀ v ∈ l, nmV v) : nmL l := by
  induction l with
  | nil => rw [nmL]; trivial
  | cons a l ih => rw [nmL]; exact ⟨h a (List.mem_cons_self ..), ih (fun v hv => h v (List.mem_cons_of_mem _ hv))⟩
theorem open_names2 {H : Type} {enc : TypeId × Value → H} {W : World} {fuel : Nat} {c : Value} {D : DataW H} {ps : List MemPlace}
    (h : DataW.trod enc Tryz.prog W 0 (fun _ => true) true fuel 23 [c] = some (D, ps)) (hw : ∀ n ∈ D.weights Tryz.prog 23, n ≤ reachBytes) :
    ∃ (ns : List (List UInt8)) (ad : Option Addr) (cap : Nat), (c = .slice ad ns.length cap ∧ ns.length ≤ cap ∧ ns.length ≤ lim ∧ Strs W ad ns ∧ ∀ s ∈ ns, s.length ≤ lim) ∧ ns.length ≤ 8796093022200 := by
  rcases open_slice Tryz.underlying23 h with ⟨hcs, _⟩ | ⟨a, l, cp, m, n, D', Pl, hcs, hb, hl, hm, hmm, hx, hall⟩
  · simp only [List.cons.injEq, and_true] at hcs
    subst hcs
    exact ⟨[], none, 0, ⟨rfl, by simp, by simp, fun h => absurd rfl h, by simp⟩, by simp⟩
  · simp only [List.cons.injEq, and_true] at hcs
    subst hcs
    have hmc : m = cp := by simpa using hmm
    subst hmc
    have hd : D = .slice ((List.range l).map D') ((List.range (m - l)).map fun j => D' (l + j)) := congrArg Prod.fst hx
    have hw0 : m * 16 ≤ reachBytes := hw _ (by
      rw [hd]
      simp only [DataW.weights, Tryz.underlying23, bytes9, List.mem_cons, List.length_map, List.length_range]
      left; congr 1; omega)
    have hwe : ∀ i, i < l → ∀ q ∈ (D' i).weights Tryz.prog 9, q ≤ reachBytes := fun i hi q hq => hw q (by
      rw [hd]
      simp only [DataW.weights, Tryz.underlying23, List.mem_cons, List.mem_append]
      exact .inr (.inl (weightsAll_mem _ _ (D' i) q (List.mem_map.2 ⟨i, List.mem_range.2 hi, rfl⟩) hq)))
    have hr : reachBytes = 140737488351232 := rfl
    have hone : ∀ i, i < l → ∃ s : List UInt8, W.cell? (a.add (i * 1)) = some (.string ⟨s.toArray⟩) ∧ s.length ≤ lim := by
      intro i hi
      obtain ⟨cs, h1, h2⟩ := hall i (by omega)
      rw [cells9] at h1
      obtain ⟨_, hlen, hc⟩ := World.cells?_some h1
      obtain ⟨s, rfl, e2, _⟩ := DataW.trod_string Tryz.underlying9 h2
      refine ⟨s.data.toList, ?_, ?_⟩
      · have := hc 0 (by simp)
        have e : ((a.add (i * 1)).add 0) = a.add (i * 1) := by simp [Addr.add]
        rw [e] at this
        simpa using this
      · have e3 : D' i = .lit (.string s.data.toList) := congrArg Prod.fst e2
        have := hwe i hi s.data.toList.length (by rw [e3]; simp [DataW.weights])
        rw [hr] at this; exact this
    rcases Nat.eq_zero_or_pos l with h0 | hpos
    · subst h0
      exact ⟨[], some a, m, ⟨rfl, by simp, by simp, fun h => absurd rfl h, by simp⟩, by simp⟩
    obtain ⟨bb, bo, sp⟩ := a
    have hsp : sp = none := by
      obtain ⟨s, g0, _⟩ := hone 0 hpos
      have := World.cell?_spot g0
      simpa [Addr.add] using this
    subst hsp
    obtain ⟨L, hL1, hL2⟩ := list_of _ l hone
    subst hL1
    refine ⟨L, _, m, ⟨rfl, hl, by unfold lim; omega, fun _ => ⟨bb, bo, rfl, fun i hi => ?_⟩, fun s hs => ?_⟩, by omega⟩
    · have := (hL2 i hi).1
      rw [Addr.add_mid, Nat.mul_one] at this
      exact this
    · obtain ⟨i, hi, rfl⟩ := List.getElem_of_mem hs
      exact (hL2 i hi).2

set_option maxRecDepth 100000 in
theorem open_tree2 {H : Type} {enc : TypeId × Value → H} {W : World} : ∀ (m : Nat) {n : Nat} {cs : List Value} {D : DataW H} {Pl : List MemPlace}, SizeOf.sizeOf D ≤ m →
    DataW.trod enc Tryz.prog W 0 (fun _ => true) true n 26 cs = some (D, Pl) → cs.length = 6 → (∀ q ∈ D.weights Tryz.prog 26, q ≤ reachBytes) → ∃ (v : Vt) (x : Vv), cs = x.cs ∧ VIn W v x ∧ flV v ∧ nmV v := by
  intro m
  induction m with
  | zero =>
    intro n cs D Pl hs
    exfalso
    cases D <;> simp at hs
  | succ m ih =>
    intro n cs D Pl hs h hlen hw
    obtain ⟨xs, n', _, hD, _, hxl, hf⟩ := DataW.trod_struct Tryz.underlying26 h
    match cs, hlen with
    | [u0, u1, u2, u3, u4, u5], _ =>
      have f0 := hf 0 _ rfl
      have f1 := hf 1 _ rfl
      have f2 := hf 2 _ rfl
      have f3 := hf 3 _ rfl
      have f4 := hf 4 _ rfl
      have f5 := hf 5 _ rfl
      match xs, hxl with
      | [y0, y1, y2, y3, y4, y5], _ =>
        simp [cells9, cells3, cells2, cellsF, cellsN, cellsI] at f0 f1 f2 f3 f4 f5
        obtain ⟨k, e0, hy0, hk⟩ := DataW.trod_int Tryz.underlying3 f0
        obtain ⟨z, e1, hy1, hz⟩ := DataW.trod_int Tryz.underlying2 f1
        obtain ⟨f, e2, hy2, hfl⟩ := trod_float2 Tryz.underlying22 f2
        obtain ⟨s, e3, hy3, _⟩ := DataW.trod_string Tryz.underlying9 f3
        simp only [List.cons.injEq, and_true] at e0 e1 e2 e3
        subst e0 e1 e2 e3
        have hDe : D = .agg [.lit (.int .i64 k), .lit (.int .i64 z), .lit (.float .f64 f), .lit (.string s.data.toList), y4.1, y5.1] := by
          have := congrArg Prod.fst hD
          rw [hy0, hy1, hy2, hy3] at this
          simpa using this
        have hws : s.data.toList.length ≤ reachBytes := hw _ (by
          rw [hDe]
          simp [DataW.weights, Tryz.underlying26, DataW.weightsEach])
        have hwn : ∀ q ∈ y4.1.weights Tryz.prog 23, q ≤ reachBytes := fun q hq => hw q (by
          rw [hDe]
          simp [DataW.weights, Tryz.underlying26, DataW.weightsEach, hq])
        have hwi : ∀ q ∈ y5.1.weights Tryz.prog 24, q ≤ reachBytes := fun q hq => hw q (by
          rw [hDe]
          simp [DataW.weights, Tryz.underlying26, DataW.weightsEach, hq])
        obtain ⟨ns, na, nc, ⟨rfl, hn1, hn2, hn3, hn4⟩, hn5⟩ := open_names2 f4 hwn
        have hsz : SizeOf.sizeOf y5.1 ≤ m := by
          have : SizeOf.sizeOf y5.1 < SizeOf.sizeOf D := by
            rw [hDe]
            simp
            omega
          omega
        have hr : reachBytes = 140737488351232 := rfl
        have hk' : -9223372036854775808 ≤ k ∧ k ≤ 9223372036854775807 := by simp [Lit.wf, IntKind.min, IntKind.max, IntKind.signed, IntKind.bits] at hk; omega
        have hz' : -9223372036854775808 ≤ z ∧ z ≤ 9223372036854775807 := by simp [Lit.wf, IntKind.min, IntKind.max, IntKind.signed, IntKind.bits] at hz; omega
        have hitems : ∃ (its : List Vt) (ia : Option Addr) (ic : Nat), (u5 = .slice ia its.length ic ∧ its.length ≤ ic ∧ its.length ≤ lim ∧ IIn W its ia) ∧ its.length ≤ 1599289640354 ∧ flL its ∧ nmL its := by
          rcases open_slice Tryz.underlying24 f5 with ⟨hcs, _⟩ | ⟨a, l, cp, mm, nn, D', Pl', hcs, hb, hl, hm, hmm, hx, hall⟩
          · simp only [List.cons.injEq, and_true] at hcs
            subst hcs
            exact ⟨[], none, 0, ⟨rfl, by simp, by simp, by rw [IIn]; trivial⟩, by simp, by rw [flL]; trivial, by rw [nmL]; trivial⟩
          · simp only [List.cons.injEq, and_true] at hcs
            subst hcs
            have hmc : mm = cp := by simpa using hmm
            subst hmc
            have hd : y5.1 = .slice ((List.range l).map D') ((List.range (mm - l)).map fun j => D' (l + j)) := congrArg Prod.fst hx
            have hw0 : mm * 88 ≤ reachBytes := hwi _ (by
              rw [hd]
              simp only [DataW.weights, Tryz.underlying24, bytesV, List.mem_cons, List.length_map, List.length_range]
              left; congr 1; omega)
            have hwe : ∀ i, i < l → ∀ q ∈ (D' i).weights Tryz.prog 26, q ≤ reachBytes := fun i hi q hq => hwi q (by
              rw [hd]
              simp only [DataW.weights, Tryz.underlying24, List.mem_cons, List.mem_append]
              exact .inr (.inl (weightsAll_mem _ _ (D' i) q (List.mem_map.2 ⟨i, List.mem_range.2 hi, rfl⟩) hq)))
            have hsi : ∀ i, i < l → SizeOf.sizeOf (D' i) ≤ m := fun i hi => by
              have h1 : SizeOf.sizeOf (D' i) < SizeOf.sizeOf ((List.range l).map D') := List.sizeOf_lt_of_mem (List.mem_map.2 ⟨i, List.mem_range.2 hi, rfl⟩)
              have h2 : SizeOf.sizeOf ((List.range l).map D') < SizeOf.sizeOf y5.1 := by
                rw [hd]
                simp
                omega
              omega
            have hone : ∀ i, i < l → ∃ v : Vt, ∃ x : Vv, (∀ j u, x.cs[j]? = some u → W.cell? ((a.add (i * 6)).add j) = some u) ∧ VIn W v x ∧ flV v ∧ nmV v := by
              intro i hi
              obtain ⟨cs, h1, h2⟩ := hall i (by omega)
              rw [cellsV] at h1
              obtain ⟨_, hlen, hc⟩ := World.cells?_some h1
              obtain ⟨v, x, rfl, hv⟩ := ih (hsi i hi) h2 hlen (hwe i hi)
              refine ⟨v, x, fun j u hu => ?_, hv⟩
              have hj : j < x.cs.length := (List.getElem?_eq_some_iff.1 hu).1
              have := hc j hj
              rw [this, ← hu, List.getElem?_eq_getElem hj]
            rcases Nat.eq_zero_or_pos l with h0 | hpos
            · subst h0
              exact ⟨[], some a, mm, ⟨rfl, by simp, by simp, by rw [IIn]; trivial⟩, by simp, by rw [flL]; trivial, by rw [nmL]; trivial⟩
            obtain ⟨bb, bo, sp⟩ := a
            have hsp : sp = none := by
              obtain ⟨v, x, g0, _⟩ := hone 0 hpos
              have := World.cell?_spot (g0 0 _ rfl)
              simpa [Addr.add] using this
            subst hsp
            obtain ⟨L, hL1, hL2⟩ := list_of _ l hone
            subst hL1
            refine ⟨L, _, mm, ⟨rfl, hl, by unfold lim; omega, IIn_of L bo fun i hi => ?_⟩, by omega, flL_of fun q hq => ?_, nmL_of fun q hq => ?_⟩
            · obtain ⟨x, g1, g2, _⟩ := hL2 i hi
              refine ⟨x, fun j u hu => ?_, g2⟩
              have := g1 j u hu
              rw [Addr.add_mid, Addr.add_mid] at this
              exact this
            · obtain ⟨i, hi, rfl⟩ := List.getElem_of_mem hq
              obtain ⟨x, _, _, g3, _⟩ := hL2 i hi
              exact g3
            · obtain ⟨i, hi, rfl⟩ := List.getElem_of_mem hq
              obtain ⟨x, _, _, _, g4⟩ := hL2 i hi
              exact g4
        obtain ⟨its, ia, ic, ⟨rfl, hi1, hi2, hi3⟩, hi4, hi5, hi6⟩ := hitems
        refine ⟨.mk k z f s.data.toList ns its, ⟨k, z, f, s.data.toList, na, ns.length, nc, ia, its.length, ic⟩, by simp, ?_, by rw [flV]; exact ⟨hfl, hi5⟩, by rw [nmV]; exact ⟨hn5, hi4, hi6, ⟨hz'.1, hz'.2⟩⟩⟩
        rw [VIn]
        exact ⟨⟨rfl, rfl, rfl, rfl⟩, ⟨⟨hk'.1, hk'.2⟩, ⟨hz'.1, hz'.2⟩, by rw [hr] at hws; exact hws, hn4⟩, ⟨rfl, hn1, hn2, hn3⟩, ⟨rfl, hi1, hi2⟩, hi3⟩
end Go.Proofs.YtlepjghfcpgbcaaGreatDoor.Tr
/- The tables that the rows list. -/
namespace Go.Proofs.YtlepjghfcpgbcaaGreatDoor.Tr
open Go.RowKit Go.Lib

theorem below_of_fr {w w' : World} (f : Fr (fun _ => False) w w') : Below w.heap.size w w' := ⟨f.os, f.tape, f.output, f.size, fun k hk => f.block k hk (fun h => h)⟩
/-- A row of the table. -/
def tabQ (i : Nat) : Nat × Nat := Go.Pinned.pow10Rows.getD i (0, 0)
theorem tabQ_lt (i : Nat) : (tabQ i).1 < 18446744073709551616 ∧ (tabQ i).2 < 18446744073709551616 := by
  have h : Go.Pinned.pow10Rows.all (fun x => decide (x.1 < 18446744073709551616) && decide (x.2 < 18446744073709551616)) = true := by decide +kernel
  unfold tabQ
  rw [List.getD_eq_getElem?_getD]
  cases e : Go.Pinned.pow10Rows[i]? with
  | none => exact ⟨by decide, by decide⟩
  | some x =>
    have := List.all_eq_true.1 h x (List.mem_of_getElem? e)
    simpa using this

theorem pw_of {W : World} {l : List (String × DataW Unit)} (h : laidMet Tryz.prog l W) (m : ("internal/strconv.pow10Tab", Rows.laid_internal_strconv_pow10Tab) ∈ l) : Pw W tabQ := by
  have g3 : Tryz.prog.globalNamed "internal/strconv.pow10Tab" = some 13 := by kernel_rfl
  have y3 : (Tryz.prog.globals[13]?).map (·.type) = some 212 := by kernel_rfl
  have c2 : Tryz.prog.cellsOf 211 = 2 := by kernel_rfl
  have c1 : Tryz.prog.cellsOf 44 = 1 := by kernel_rfl
  have hlen : Go.Pinned.pow10Rows.length = 696 := by decide +kernel
  obtain ⟨g, t, cs, fuel, p, hg, ht, hv, hr⟩ := laidMet.reads h m
  obtain rfl := Option.some.inj (g3.symm.trans hg)
  obtain rfl := Option.some.inj (y3.symm.trans ht)
  intro i hi
  obtain ⟨fuel', d, q, hdi, he⟩ := array_elem (ds := Go.Pinned.pow10Rows.map fun x => .agg [.lit (.int .u64 x.1), .lit (.int .u64 x.2)]) Tryz.underlying212 hr i hi
  have hx : Go.Pinned.pow10Rows[i]? = some (tabQ i) := by
    unfold tabQ
    rw [List.getD_eq_getElem?_getD, List.getElem?_eq_getElem (by rw [hlen]; exact hi)]; rfl
  rw [List.getElem?_map, hx, Option.map_some, Option.some.injEq] at hdi
  subst hdi
  have hb := tabQ_lt i
  generalize tabQ i = x at he hb ⊢
  rw [c2] at he
  have hcs := ints_of_struct (k := .u64) (zs := [(x.1 : Int), (x.2 : Int)]) Tryz.underlying211 (fun j f hj => by
    match j, hj with
    | 0, hj => simp at hj; subst hj; exact ⟨Tryz.underlying44, rfl, c1⟩
    | 1, hj => simp at hj; subst hj; exact ⟨Tryz.underlying44, rfl, c1⟩
    | j + 2, hj => simp at hj) (by rw [c2]; rfl) he
  have e0 := congrArg (·[0]?) hcs
  have e1 := congrArg (·[1]?) hcs
  simp only [List.getElem?_take, List.getElem?_drop] at e0 e1
  refine ⟨?_, ?_, hb⟩
  · rw [World.var?_cell hg hv (i * 2), ← Array.getElem?_toList]
    simpa using e0
  · rw [World.var?_cell hg hv (i * 2 + 1), ← Array.getElem?_toList]
    simpa using e1

theorem tab_of {W : World} {l : List (String × DataW Unit)} (h : laidMet Tryz.prog l W) (m : ("internal/strconv.uint64pow10", Rows.laid_internal_strconv_uint64pow10) ∈ l) : Tab W := by
  have g3 : Tryz.prog.globalNamed "internal/strconv.uint64pow10" = some 3 := by kernel_rfl
  have y3 : (Tryz.prog.globals[3]?).map (·.type) = some 139 := by kernel_rfl
  obtain ⟨g, t, cs, fuel, p, hg, ht, hv, hr⟩ := laidMet.reads h m
  obtain rfl := Option.some.inj (g3.symm.trans hg)
  obtain rfl := Option.some.inj (y3.symm.trans ht)
  have e := cells_of_tab (k := .u64) (zs := Lib.pow10Tab) Tryz.underlying139 Tryz.underlying44 (by kernel_rfl) (by kernel_rfl) hr
  unfold Tab TabIs
  rw [hv, ← e]
theorem tw_of {W : World} {l : List (String × DataW Unit)} (h : laidMet Tryz.prog l W) (m1 : ("internal/strconv.uint64pow10", Rows.laid_internal_strconv_uint64pow10) ∈ l) (m2 : ("internal/strconv.pow10Tab", Rows.laid_internal_strconv_pow10Tab) ∈ l) : Tw W :=
  ⟨⟨tabQ, pw_of h m2, by decide +kernel⟩, tab_of h m1⟩
/-- A start that fits a row that lists great tables. -/
theorem wit_row {H : Type} {enc : TypeId × Value → H} {C : Checked} {os : Os} {f : FuncId} {fn : Func} {s : OpenSpec} {conds : List PathCond} {apart : Bool} {laid : List (String × DataW Unit)} (w0 : World) (args : Array Value) (hos : w0.os = os)
    (hsh : (w0.forCall (fun _ _ => 0) ⟨#[], args, []⟩).Shaped C.prog) (hok : Input.okWideB C.prog (w0.forCall (fun _ _ => 0) ⟨#[], args, []⟩) f ⟨#[], args, []⟩ = true)
    (hrow : s.preRow enc C.prog fn conds apart laid (w0.forCall (fun _ _ => 0) ⟨#[], args, []⟩).memory args) :
    ∃ (w : World) (tape : Tape) (i : Input), w.os = os ∧ (w.forCall tape i).Shaped C.prog ∧ i.vars = [] ∧ Input.okWide C.prog (w.forCall tape i) .any w.heap.size f i ∧
      s.preRow enc C.prog fn conds apart laid (w.forCall tape i).memory i.args ∧ ({ modest := false } : Assume).holds C.prog (lone (Frame.enter C.prog f i.args .normal) [] (w.forCall tape i)) :=
  ⟨w0, fun _ _ => 0, ⟨#[], args, []⟩, hos, hsh, (Input.okWide_of_okWideB (base := 0) hok).1, (Input.okWide_of_okWideB hok).2, hrow, by
    simp only [Assume.holds]
    exact ⟨by simp, by simp, fun _ => Modest.zero, by simp, by simp⟩⟩

end Go.Proofs.YtlepjghfcpgbcaaGreatDoor.Tr
/- PROVED: for every two values, ValueTells returns true and leaves them as they were. The tables of the library that the row lists hold what the program's text lays (tied; two great tables are pinned by the form). -/
namespace Go.Proofs.YtlepjghfcpgbcaaGreatDoor.valueTells
open Go.ChangeShapes Go.WideShapes Go.ChangeAt Go.RowKit Go.ChangeMaps Go.Proofs.YtlepjghfcpgbcaaGreatDoor.Tr

theorem own : ownKnob Tryz.prog.godebug = none := by kernel_rfl
theorem plainH (W : World) : laidMetH Tryz.prog Rows.valueTellsRow.laid W = laidMet Tryz.prog Rows.valueTellsRow.laid W := MakeChecks.laidMetH_plain _ _ _ (by kernel_rfl)
theorem laidOut : laidOutB Tryz.prog = true := fa1
theorem door_met (os : Os) (args : Array Value) : laidMetH Tryz.prog Rows.valueTellsRow.laid ((World.laidAll Tryz.prog os Rows.valueTellsRow.laid).forCall (fun _ _ => 0) ⟨#[], args, []⟩).memory := by
  rw [plainH]
  exact laidMet_laidAll args (by kernel_rfl) (by kernel_rfl)
theorem reads (os : Os) {H : Type} (enc : TypeId × Value → H) : ∃ places, DataW.whole enc Tryz.prog ((World.laidAll Tryz.prog os Rows.valueTellsRow.laid).forCall (fun _ _ => 0) ⟨#[], #[vZ.v, vZ.v], []⟩).memory Tryz.f3.params.toList Rows.valueTellsSpec.vars false #[vZ.v, vZ.v].toList 8 = some ([.agg [.lit (.int .i64 0), .lit (.int .i64 0), .lit (.float .f64 0), .lit (.string []), .nil, .nil], .agg [.lit (.int .i64 0), .lit (.int .i64 0), .lit (.float .f64 0), .lit (.string []), .nil, .nil]], [], places) :=
  ⟨[], by kernel_rfl⟩

set_option maxRecDepth 100000 in
theorem lifted (os : Os) (started : os.Started) (H : Type) (enc : TypeId × Value → H) (F : Stop.Interp) :
    ReturnsInHanded {} Tryz.checked os 3 .any ((OpenSpec.ofChange Rows.valueTellsSpec).preRow enc Tryz.prog Tryz.f3 Rows.valueTellsRow.domain false Rows.valueTellsRow.laid) (((OpenSpec.ofChange Rows.valueTellsSpec).at F).post enc Tryz.prog Tryz.f3 false true false false) := by
  obtain ⟨places, hx⟩ := reads os enc
  refine returnsInHanded_of_row (C := Tryz.checked) (s := OpenSpec.ofChange Rows.valueTellsSpec) own started (by kernel_rfl) Tryz.func3
    (wit_row (enc := enc) (C := Tryz.checked) (World.laidAll Tryz.prog os Rows.valueTellsRow.laid) #[vZ.v, vZ.v] (World.laidAll_os _ _ _) (World.shaped_of_ZipB (by kernel_rfl) (by kernel_rfl)) (by kernel_rfl)
      (OpenSpec.preRow_of_cond 8 hx (by kernel_rfl) (fun k hk => by cases hk) (by kernel_rfl) (door_met os _))) ?_
  intro W base args ds gs before hval0 hW _ _ hsz0 hL hShp _
  have hsz : (DataW.weightsEach Tryz.prog (Tryz.f3.params.toList ++ Rows.valueTellsSpec.plain.varTypes Tryz.prog) (ds ++ gs)).all (· ≤ reachBytes) = true := hsz0
  have hval : ∀ (j : Nat) t v, Tryz.f3.params[j]? = some t → args[j]? = some v → Value.okWide Tryz.prog W .any base t v := hval0
  have hW' : DataW.Whole enc Tryz.prog Tryz.f3.params.toList Rows.valueTellsSpec.vars false W args.toList ds gs before := hW
  have hW0 := hW'
  obtain ⟨p, q, hA0, hV, rfl, hfz, hnd⟩ := hW0
  have hA : DataW.TrodAll enc Tryz.prog W 0 (fun _ => true) true Tryz.f3.params.toList args.toList ds p := hA0
  rw [Tryz.params3] at hA hval hsz
  obtain ⟨v0, vs0, d0, ds0, p0, q0, hargs, rfl, rfl, h0, r0⟩ := trodAll_cons hA
  obtain ⟨v1, vs1, d1, ds1, p1, q1, rfl, rfl, rfl, h1, r1⟩ := trodAll_cons r0
  obtain ⟨rfl, rfl, rfl⟩ := trodAll_nil r1
  obtain rfl : args = #[v0, v1] := by cases args; simp_all
  obtain ⟨rfl, rfl⟩ := trodVars_none hV
  obtain ⟨cs0, rfl, hcs0⟩ := okWide_struct Tryz.underlying26 (hval 0 26 v0 rfl rfl)
  have k0 := h0
  have lt0 : ∀ x ∈ p0, x.block < W.heap.size := by obtain ⟨m, hm⟩ := k0; exact DataW.trod_lt m _ _ _ hm
  have hw0 : ∀ n ∈ d0.weights Tryz.prog 26, n ≤ reachBytes := fun n hn => of_decide_eq_true (List.all_eq_true.1 hsz _ (DataW.weights_mem_each (j := 0) (t := 26) rfl rfl n hn))
  obtain ⟨u0, x0, e0, hx0, hf0, hn0⟩ : ∃ (v : Vt) (x : Vv), cs0.toList = x.cs ∧ VIn W v x ∧ flV v ∧ nmV v := by obtain ⟨m, hm⟩ := k0; exact open_tree2 _ (Nat.le_refl _) hm (by rw [cellsV] at hcs0; simpa using hcs0) hw0
  have ev0 : Value.agg cs0 = x0.v := by rw [← Array.toArray_toList (xs := cs0), e0]
  obtain ⟨cs1, rfl, hcs1⟩ := okWide_struct Tryz.underlying26 (hval 1 26 v1 rfl rfl)
  have k1 := h1
  have lt1 : ∀ x ∈ p1, x.block < W.heap.size := by obtain ⟨m, hm⟩ := k1; exact DataW.trod_lt m _ _ _ hm
  have hw1 : ∀ n ∈ d1.weights Tryz.prog 26, n ≤ reachBytes := fun n hn => of_decide_eq_true (List.all_eq_true.1 hsz _ (DataW.weights_mem_each (j := 1) (t := 26) rfl rfl n hn))
  obtain ⟨u1, x1, e1, hx1, hf1, hn1⟩ : ∃ (v : Vt) (x : Vv), cs1.toList = x.cs ∧ VIn W v x ∧ flV v ∧ nmV v := by obtain ⟨m, hm⟩ := k1; exact open_tree2 _ (Nat.le_refl _) hm (by rw [cellsV] at hcs1; simpa using hcs1) hw1
  have ev1 : Value.agg cs1 = x1.v := by rw [← Array.toArray_toList (xs := cs1), e1]
  have hL2 : laidMetH Tryz.prog Rows.valueTellsRow.laid W := hL
  rw [plainH] at hL2
  have hT : Tw W := tw_of hL2 (by simp [Rows.valueTellsRow]) (by simp [Rows.valueTellsRow])
  have hU : TwU W tabQ := ⟨pw_of hL2 (by simp [Rows.valueTellsRow]), tab_of hL2 (by simp [Rows.valueTellsRow])⟩
  have hc : Calls Tryz.prog 3 #[.agg cs0, .agg cs1] W fun e w' => e = .returned (.bool true) ∧ Fr (fun _ => False) W w' := by
    rw [ev0, ev1]
    exact tells_walk W _ _ _ _ hx0 hx1 hf0 hn0 hT hU
  refine hc.mono fun e W' ⟨he, fr⟩ => ?_
  have bel := below_of_fr fr
  subst he
  exact ⟨_, rfl, _, _, _, [], _, [], hW', trodAll_mk1 (shut_bool Tryz.underlying4 _), trodAll_cons_mk (Below.trod laidOut (by kernel_rfl) (of_decide_eq_true (by kernel_rfl)) k0 bel lt0) (trodAll_cons_mk (Below.trod laidOut (by kernel_rfl) (of_decide_eq_true (by kernel_rfl)) k1 bel lt1) trodAll_mk0), rfl, bel.frame _, fun h => by cases h⟩

theorem said : Rows.ValueTellsSaid :=
  OpenClaim.holds_of_cond 3 Tryz.f3 rfl rfl rfl rfl rfl rfl rfl ⟨rfl, rfl, rfl, rfl, rfl⟩ rfl rfl rfl rfl rfl (by kernel_rfl) Tryz.func3 closed
    (of_decide_eq_true (by kernel_rfl)) (by unfold Func.isWrapper; first | (rw [if_pos (by decide +kernel)]; kernel_rfl) | (rw [if_neg (by decide +kernel)]; exact ⟨rfl, rfl⟩))
    (fun os started H enc _ F => by rw [OpenClaim.pre_eq_preRow]; exact lifted os started H enc F)
theorem plain (f : FuncId) (fn : Func) (hf : Tryz.pinned.checked.prog.funcNamed "bootjack/bootjacklaw12.ValueTells" = some f) (hfn : Tryz.pinned.checked.prog.funcs[f]? = some fn) :
    true = Tryz.pinned.checked.prog.looks [] ∧ ∀ (j : Nat) t, fn.params[j]? = some t → Tryz.pinned.checked.prog.wantsStandIn t = false := by
  obtain rfl : f = 3 := Option.some.inj ((show Tryz.prog.funcNamed "bootjack/bootjacklaw12.ValueTells" = some 3 by kernel_rfl).symm.trans hf) |>.symm
  obtain rfl : fn = Tryz.f3 := (Option.some.inj (Tryz.func3.symm.trans hfn)).symm
  refine ⟨by kernel_rfl, fun j t ht => ?_⟩
  rw [Tryz.params3] at ht
  have hm : t ∈ [26, 26] := by simpa using Array.mem_of_getElem? ht
  have hall : ([26, 26].all fun u => !Tryz.prog.wantsStandIn u) = true := by kernel_rfl
  exact (show Tryz.prog.wantsStandIn t = false by simpa using List.all_eq_true.1 hall t hm)

end Go.Proofs.YtlepjghfcpgbcaaGreatDoor.valueTells
namespace Go.Proofs.YtlepjghfcpgbcaaGreatDoor
theorem valueTells_proved : Rows.ValueTellsCardSaid :=
  Claim7.holds_tied_plain_at .later [] _ _ _ _ valueTells.said (fun _ h => by cases h) (by kernel_rfl) (fun _ h => by cases h) valueTells_row_tie rfl ⟨rfl, rfl⟩ (by kernel_rfl) rfl valueTells.plain (by kernel_rfl)
#print axioms valueTells_proved
end Go.Proofs.YtlepjghfcpgbcaaGreatDoor
