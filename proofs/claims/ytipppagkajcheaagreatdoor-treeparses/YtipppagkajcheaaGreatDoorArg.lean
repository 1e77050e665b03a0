/- What an argument of entries is: its cells, read off the row's own reading. -/
import Derived.Test.YtipppagkajcheaaGreatDoorCop
import Derived.Test.YtipppagkajcheaaGreatDoorSAr
import Derived.Stop.Joined
import Derived.Stop.LaidErr
import Derived.LaidMore
import Derived.MakeChecks
import Derived.Lib.LaidTab
namespace Go.Proofs.YtipppagkajcheaaGreatDoor.Tr
open Go.ChangeShapes Go.WideShapes Go.ChangeAt Go.RowKit Go.Deep

theorem cellsE : Tryz.prog.cellsOf 36 = 3 := by kernel_rfl
theorem bytesE : Tryz.prog.bytesOf 36 = 48 := by kernel_rfl
theorem cells9 : Tryz.prog.cellsOf 9 = 1 := by kernel_rfl
theorem cells3 : Tryz.prog.cellsOf 3 = 1 := by kernel_rfl
theorem cellsB : Tryz.prog.cellsOf 22 = 1 := by kernel_rfl
theorem weightsAll_mem {H : Type} (e : TypeId) : ∀ (l : List (DataW H)) (d : DataW H) (n : Nat), d ∈ l → n ∈ d.weights Tryz.prog e → n ∈ DataW.weightsAll Tryz.prog e l
  | [], _, _, h, _ => absurd h (by simp)
  | x :: r, d, n, h, hn => by
    rw [DataW.weightsAll, List.mem_append]
    rcases List.mem_cons.1 h with rfl | h
    · exact .inl hn
    · exact .inr (weightsAll_mem e r d n h hn)

theorem bulkAll_len {H : Type} : ∀ (l : List (DataW H)), l.length ≤ Rows.uptoBulkAll l
  | [] => by simp [Rows.uptoBulkAll]
  | d :: r => by
    have ih := bulkAll_len r
    have h1 : 1 ≤ Rows.uptoBulk d := by
      cases d with
      | lit l => cases l <;> simp [Rows.uptoBulk]
      | _ => simp [Rows.uptoBulk]
    simp only [Rows.uptoBulkAll, List.length_cons]; omega
theorem bulkAll_app {H : Type} : ∀ (l m : List (DataW H)), Rows.uptoBulkAll (l ++ m) = Rows.uptoBulkAll l + Rows.uptoBulkAll m
  | [], m => by simp [Rows.uptoBulkAll]
  | d :: r, m => by
    simp only [List.cons_append, Rows.uptoBulkAll]
    rw [bulkAll_app r m]; omega
/-- Bytes, and how much they weigh. -/
theorem open_bytes2 {H : Type} {enc : TypeId × Value → H} {W : World} {ad : Option Addr} {len cap : Nat} {d : DataW H} {ps : List MemPlace}
    (h : DataW.Trod enc Tryz.prog W 0 (fun _ => true) true 22 (.slice ad len cap) d ps) : len ≤ Rows.uptoBulk d := by
  obtain ⟨fuel, hf⟩ := h
  rcases open_ints Tryz.underlying22 Tryz.underlying5 (by kernel_rfl) hf with ⟨hcs, _⟩ | ⟨x, l', c', zs, hcs, _, hl', hm', hz', hx, hcell, hwz⟩
  · simp [Value.cells] at hcs
    obtain ⟨rfl, rfl, rfl⟩ := hcs
    omega
  · simp [Value.cells] at hcs
    obtain ⟨rfl, rfl, rfl⟩ := hcs
    have hzl : zs.length = cap := by simpa using hz'
    have hd : d = .slice (lits .u8 (zs.take len)) (lits .u8 (zs.drop len)) := by
      have := congrArg Prod.fst hx
      simpa using this
    rw [hd]
    have := bulkAll_len (H := H) (lits .u8 (zs.take len))
    have e : (lits (H := H) .u8 (zs.take len)).length = len := by simp [lits, hzl, hl']
    simp only [Rows.uptoBulk]; omega
/-- The bounds of an entry. -/
def EntB (x : Ent) : Prop := x.path.length ≤ 140737488351232 ∧ x.data.length ≤ 140737488351232 ∧ -9223372036854775808 ≤ x.kind ∧ x.kind ≤ 9223372036854775807
set_option maxRecDepth 100000 in
theorem open_ent {H : Type} {enc : TypeId × Value → H} {W : World} {n : Nat} {cs : List Value} {D : DataW H} {Pl : List MemPlace}
    (h : DataW.trod enc Tryz.prog W 0 (fun _ => true) true n 36 cs = some (D, Pl)) (hlen : cs.length = 3) (hw : ∀ n ∈ D.weights Tryz.prog 36, n ≤ reachBytes) :
    ∃ (x : Ent) (da : Option Addr) (dc : Nat), cs = [.string ⟨x.path.toArray⟩, .int .i64 x.kind, .slice da x.data.length dc] ∧ EntV W x da dc ∧ x.data.length ≤ Rows.uptoBulk D := by
  obtain ⟨xs, n', _, hD, _, hxl, hf⟩ := DataW.trod_struct Tryz.underlying36 h
  match cs, hlen with
  | [u0, u1, u2], _ =>
    have f0 := hf 0 _ rfl
    have f1 := hf 1 _ rfl
    have f2 := hf 2 _ rfl
    match xs, hxl with
    | [y0, y1, y2], _ =>
      simp [cells9, cells3, cellsB] at f0 f1 f2
      obtain ⟨s, e0, hy0, hs⟩ := DataW.trod_string Tryz.underlying9 f0
      obtain ⟨k, e1, hy1, hk⟩ := DataW.trod_int Tryz.underlying3 f1
      simp only [List.cons.injEq, and_true] at e0 e1
      subst e0 e1
      have hDe : D = .agg [.lit (.string s.data.toList), .lit (.int .i64 k), y2.1] := by
        have := congrArg Prod.fst hD
        rw [hy0, hy1] at this
        simpa using this
      have hws : s.data.toList.length ≤ reachBytes := hw _ (by
        rw [hDe]
        simp [DataW.weights, Tryz.underlying36, DataW.weightsEach])
      have hwd : ∀ m ∈ y2.1.weights Tryz.prog 22, m ≤ reachBytes := fun m hm => hw m (by
        rw [hDe]
        simp [DataW.weights, Tryz.underlying36, DataW.weightsEach, hm])
      have hbulk : Rows.uptoBulk y2.1 ≤ Rows.uptoBulk D := by
        rw [hDe]; simp only [Rows.uptoBulk, Rows.uptoBulkAll]; omega
      obtain ⟨da, dl, dc, rfl⟩ : ∃ da dl dc, u2 = .slice da dl dc := by
        rcases open_slice Tryz.underlying22 f2 with ⟨e, _⟩ | ⟨a, l, c, _, _, _, _, e, _⟩
        · simp at e; exact ⟨_, _, _, e⟩
        · simp at e; exact ⟨_, _, _, e⟩
      have ht : DataW.Trod enc Tryz.prog W 0 (fun _ => true) true 22 (.slice da dl dc) y2.1 y2.2 := ⟨n', f2⟩
      obtain ⟨b, rfl, hbl, hbs, hbc⟩ := open_bytes ht hwd
      have hb2 := open_bytes2 ht
      have hkb := bounds_i64 hk
      refine ⟨⟨s.data.toList, k, b⟩, da, dc, ?_, ⟨hbs, hbc, hbl, ?_, hkb.1, hkb.2⟩, Nat.le_trans hb2 hbulk⟩
      · simp
      · have e : reachBytes = 140737488351232 := rfl
        rw [e] at hws
        exact hws

theorem list_of {H : Type} (D : Nat → DataW H) (P : Nat → Ent → Prop) : ∀ n, (∀ i, i < n → ∃ x, P i x ∧ x.data.length ≤ Rows.uptoBulk (D i)) → ∃ L : List Ent, n = L.length ∧ (∀ i (h : i < L.length), P i L[i]) ∧ bulkD L ≤ Rows.uptoBulkAll ((List.range n).map D)
  | 0, _ => ⟨[], rfl, fun i h => absurd h (by simp), by simp [bulkD]⟩
  | n + 1, h => by
    obtain ⟨L, h1, h2, h3⟩ := list_of D P n (fun i hi => h i (by omega))
    obtain ⟨x, hx1, hx2⟩ := h n (by omega)
    subst h1
    refine ⟨L ++ [x], by simp, fun i hi => ?_, ?_⟩
    · by_cases hi' : i < L.length
      · rw [List.getElem_append_left hi']; exact h2 i hi'
      · have e : i = L.length := by simp at hi; omega
        subst e
        rw [List.getElem_append_right (by omega)]
        simpa using hx1
    · rw [List.range_succ, List.map_append, bulkAll_app]
      have : bulkD (L ++ [x]) = bulkD L + x.data.length := by simp [bulkD]
      simp only [List.map_cons, List.map_nil, Rows.uptoBulkAll]
      omega

set_option maxRecDepth 100000 in
theorem open_ents {H : Type} {enc : TypeId × Value → H} {W : World} {ad : Option Addr} {len cap : Nat} {d : DataW H} {ps : List MemPlace}
    (h : DataW.Trod enc Tryz.prog W 0 (fun _ => true) true 24 (.slice ad len cap) d ps) (hw : ∀ n ∈ d.weights Tryz.prog 24, n ≤ reachBytes) :
    ∃ L : List Ent, len = L.length ∧ L.length * 48 ≤ 140737488351232 ∧ Ents W ad L ∧ L.length ≤ cap ∧ (∀ x ∈ L, EntB x) ∧ bulkD L ≤ Rows.uptoBulk d := by
  obtain ⟨fuel, hf⟩ := h
  rcases open_slice Tryz.underlying24 hf with ⟨hcs, _⟩ | ⟨a, l, c, m, n, D, Pl, hcs, hb, hl, hm, hmm, hx, hall⟩
  · simp [Value.cells] at hcs
    obtain ⟨rfl, rfl, rfl⟩ := hcs
    exact ⟨[], rfl, by simp, Ents.nil _ _, by simp, by simp, by simp [bulkD]⟩
  · simp [Value.cells] at hcs
    obtain ⟨rfl, rfl, rfl⟩ := hcs
    have hmc : m = cap := by simpa using hmm
    subst hmc
    have hd : d = .slice ((List.range len).map D) ((List.range (m - len)).map fun j => D (len + j)) := congrArg Prod.fst hx
    have hr : reachBytes = 140737488351232 := rfl
    have hw0 : m * 48 ≤ reachBytes := hw _ (by
      rw [hd]
      simp only [DataW.weights, Tryz.underlying24, bytesE, List.mem_cons, List.length_map, List.length_range]
      left; congr 1; omega)
    have hwe : ∀ i, i < len → ∀ q ∈ (D i).weights Tryz.prog 36, q ≤ reachBytes := fun i hi q hq => hw q (by
      rw [hd]
      simp only [DataW.weights, Tryz.underlying24, List.mem_cons, List.mem_append]
      exact .inr (.inl (weightsAll_mem _ _ (D i) q (List.mem_map.2 ⟨i, List.mem_range.2 hi, rfl⟩) hq)))
    rcases Nat.eq_zero_or_pos len with h0 | hpos
    · subst h0
      exact ⟨[], rfl, by simp, Ents.nil _ _, by simp, by simp, by simp [bulkD]⟩
    have hone : ∀ i, i < len → ∃ (x : Ent) (da : Option Addr) (dc : Nat), (W.cell? ((a.add (i * 3)).add 0) = some (.string ⟨x.path.toArray⟩) ∧ W.cell? ((a.add (i * 3)).add 1) = some (.int .i64 x.kind) ∧ W.cell? ((a.add (i * 3)).add 2) = some (.slice da x.data.length dc)) ∧ EntV W x da dc ∧ x.data.length ≤ Rows.uptoBulk (D i) := by
      intro i hi
      obtain ⟨cs, h1, h2⟩ := hall i (by omega)
      rw [cellsE] at h1
      obtain ⟨_, hlen, hc⟩ := World.cells?_some h1
      obtain ⟨x, da, dc, rfl, hv, hbk⟩ := open_ent h2 hlen (hwe i hi)
      exact ⟨x, da, dc, ⟨hc 0 (by simp), hc 1 (by simp), hc 2 (by simp)⟩, hv, hbk⟩
    obtain ⟨bb, bo, sp⟩ := a
    have hsp : sp = none := by
      obtain ⟨x, _, _, ⟨g0, _⟩, _⟩ := hone 0 hpos
      have := World.cell?_spot g0
      simpa [Addr.add] using this
    subst hsp
    simp only [Addr.add_mid, Nat.add_zero] at hone
    obtain ⟨L, hLl, hLp, hLb⟩ := list_of D (fun i x => ∃ (da : Option Addr) (dc : Nat), (W.cell? ⟨bb, bo + i * 3, none⟩ = some (.string ⟨x.path.toArray⟩) ∧ W.cell? ⟨bb, bo + i * 3 + 1, none⟩ = some (.int .i64 x.kind) ∧ W.cell? ⟨bb, bo + i * 3 + 2, none⟩ = some (.slice da x.data.length dc)) ∧ EntV W x da dc) len (fun i hi => by
      obtain ⟨x, da, dc, h1, h2, h3⟩ := hone i hi
      exact ⟨x, ⟨da, dc, h1, h2⟩, h3⟩)
    subst hLl
    refine ⟨L, rfl, by omega, fun _ => ⟨bb, bo, rfl, fun i hi => ?_⟩, hl, fun x hx => ?_, ?_⟩
    · obtain ⟨da, dc, ⟨g0, g1, g2⟩, hv⟩ := hLp i hi
      exact ⟨da, dc, g0, g1, g2, hv⟩
    · obtain ⟨i, hi, rfl⟩ := List.getElem_of_mem hx
      obtain ⟨da, dc, _, hv⟩ := hLp i hi
      exact ⟨hv.path, hv.len, hv.k0, hv.k1⟩
    · rw [hd]; simp only [Rows.uptoBulk]; omega

theorem tab_of {W : World} {l : List (String × DataW Unit)} (h : laidMetH Tryz.prog l W) (hl : l = [("math/bits.deBruijn32tab", Rows.laid_math_bits_deBruijn32tab), ("math/bits.deBruijn64tab", Rows.laid_math_bits_deBruijn64tab), ("internal/strconv.uint64pow10", Rows.laid_internal_strconv_uint64pow10)]) : Tab W := by
  subst hl
  rw [MakeChecks.laidMetH_plain _ _ _ (by kernel_rfl)] at h
  exact Lib.tabIs_of_head (P := Tryz.prog) (name := "internal/strconv.uint64pow10") (k := .u64) (zs := Lib.pow10Tab) (g := 3) (t := 141) (e := 65) (n := 20) (by kernel_rfl) (by kernel_rfl) (by kernel_rfl) (by kernel_rfl) (by kernel_rfl) (by kernel_rfl) h.tail.tail

end Go.Proofs.YtipppagkajcheaaGreatDoor.Tr
