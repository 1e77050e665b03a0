import Derived.Test.YtangnoicnogddaaUap
import Derived.Lib.SliceRun
import Derived.Lib.AppendZerosOnto
import Derived.Lib.Overlaps
import Derived.Laws.Externs
import Derived.Deep.RegionLaw
import Derived.Shelf.RegionOpenPlain
/- Cells of a row: cleared, copied; what deleting and inserting leave. -/
namespace Go.Proofs.Ytangnoicnogddaa.Tr
open Go.RowKit

/-- One element cleared. -/
theorem run_clear_one {P : Program} (w : World) (t e ty : TypeId) (z : Value) (k : Nat) (ht : P.underlying t = some (.slice e)) (hv : ∀ w, (zeroValue e).run P w = .ok z w) (hk : z.cells.size = k) (h1 : ∀ v ∈ z.cells.toList, v.oneCell' = true) (b o c : Nat)
    (hth : w.there b o k) : (Builtin.clear_ #[t] ty #[.slice (some ⟨b, o, none⟩) 1 c]).run P w = .ok (.tuple #[]) (w.setCells b o z.cells.toList) := by
  have hzc : (Builtin.zeroCells z.cells 1).toList = z.cells.toList := by
    simp only [Builtin.zeroCells, Nat.one_mul]
    apply List.ext_getElem
    · simp
    · intro i h1 h2
      have hi : i < z.cells.size := by simpa using h2
      simp [Nat.mod_eq_of_lt hi, getElem!_pos z.cells i hi]
  have hl : z.cells.toList.length = k := by simpa using hk
  have hst := run_storeCells_cells (P := P) b o z.cells.toList 0 w (fun j hj => by simpa using (hth j (by omega)).1) (fun j hj => by simpa using (hth j (by omega)).2) h1
  simp only [Nat.add_zero] at hst
  simp [Builtin.clear_, run_underlying ht, hv, hzc, hst]
theorem run_copy_rows {P : Program} (w : World) (dT sT ty elem : TypeId) (b o dLen dCap : Nat) (a : Addr) (sLen sCap sz : Nat) (cs : List Value)
    (hu : P.underlying dT = some (.slice elem)) (hs : (P.info? elem).map (·.size) = some sz) (hn : cs.length = Nat.min sLen dLen * sz)
    (hsrc : ∀ j v, cs[j]? = some v → w.cell? (a.add j) = some v) (ht : w.there b o cs.length) (h1 : ∀ v ∈ cs, v.oneCell' = true) :
    (Builtin.copy_ #[dT, sT] ty #[.slice (some ⟨b, o, none⟩) dLen dCap, .slice (some a) sLen sCap]).run P w = .ok (goInt (Nat.min sLen dLen)) (w.setCells b o cs) := by
  have hl := run_loadCells_list (P := P) w a cs hsrc
  have hst := run_storeCells_cells (P := P) b o cs 0 w (fun j hj => by simpa using (ht j hj).1) (fun j hj => by simpa using (ht j hj).2) h1
  cases hq : P.info? elem with
  | none => simp [hq] at hs
  | some i =>
    have hi : i.size = sz := by simpa [hq] using hs
    simp [Builtin.copy_, run_underlying hu, Builtin.lenOf, Builtin.firstCells, sizeOf, typeInfo, hq, hi, ← hn, hl, hst]
theorem wpList_copy_run {P : Program} (w : World) {ops : Array Oper} {rest : List Oper} {o : Oper} {a : Act} {Q : Exit → Act → World → Prop} (hgd : o.guard = none) (d s : Operand) (t t' : TypeId)
    (ho : o.op = .call { callee := .builtin .copy, args := #[d, s], argTypes := #[t, t'] }) (v u : Value) (hd : a.eval d = v) (hs : a.eval s = u) {v' : Value} {w' : World}
    (hr : (Builtin.copy_ #[t, t'] o.type #[v, u]).run P w = .ok v' w') (h : wpList P ops Q rest (a.put o.dst v') w') : wpList P ops Q (o :: rest) a w := by
  refine wpList_plain hgd fun K hK => ?_
  unfold Oper.wp execOp
  simp only [ho, resolve, invoke, builtin, Sem.run_bind, Sem.run_pure, Result.andThen_ok, List.map_toArray, List.map_cons, List.map_nil, hd, hs, hr]
  exact hK _ _ h
theorem step_copy_run {P : Program} {ops : Array Oper} {o : Oper} {a : Act} {w : World} {K : Act → World → Prop} {Q : Exit → Act → World → Prop} {E : Prop}
    (hg : o.guard = none) (d x : Operand) (dT sT : TypeId) (hop : o.op = Op.call { callee := Callee.builtin Builtin.copy, args := #[d, x], argTypes := #[dT, sT] })
    (v u : Value) (hd : a.eval d = v) (hx : a.eval x = u) {v' : Value} {w' : World} (hr : (Builtin.copy_ #[dT, sT] o.type #[v, u]).run P w = .ok v' w') (hK : K (a.put o.dst v') w') :
    if Region.wanted o (yielded ops a.tmps) = true then Oper.wp P o a w K Q else E := by
  have hw : Region.wanted o (yielded ops a.tmps) = true := by simp [Region.wanted, hg]
  rw [if_pos hw]
  unfold Oper.wp
  simp [execOp, hop, resolve, invoke, builtin, hd, hx, hr, Result.andThen]
  exact hK
theorem splice_take {α : Type} (L : List α) (o : Nat) (s : List α) (m : Nat) (h : m ≤ o) (ho : o ≤ L.length) : (splice L o s).take m = L.take m := by
  unfold splice
  rw [List.take_append_of_le_length (by simp; omega), List.take_take, Nat.min_eq_left h]
theorem splice_len {α : Type} (L : List α) (o : Nat) (s : List α) (h : o + s.length ≤ L.length) : (splice L o s).length = L.length := by
  unfold splice; simp; omega
theorem splice_to {α : Type} (L : List α) (o : Nat) (s : List α) (ho : o ≤ L.length) : (splice L o s).take (o + s.length) = L.take o ++ s := by
  unfold splice
  have hl : (L.take o ++ s).length = o + s.length := by simp; omega
  rw [← List.append_assoc, ← hl, List.take_left]
/-- What deleting one of n leaves. -/
theorem del_cells (cur zs : List Value) (k n i : Nat) (hi : i < n) (hn : n * k ≤ cur.length) (hz : zs.length = k) :
    let news := (cur.drop ((i + 1) * k)).take ((n - (i + 1)) * k)
    let c1 := splice cur (i * k) news
    let c2 := splice c1 ((n - 1) * k) zs
    news.length = (n - (i + 1)) * k ∧ i * k + news.length ≤ cur.length ∧ c1.length = cur.length ∧ (n - 1) * k + zs.length ≤ cur.length ∧ c2.length = cur.length ∧ c2.take ((n - 1) * k) = (cur.take (n * k)).take (i * k) ++ (cur.take (n * k)).drop ((i + 1) * k) := by
  intro news c1 c2
  obtain ⟨m, rfl⟩ : ∃ m, n = i + 1 + m := ⟨n - (i + 1), by omega⟩
  have e1 : (i + 1 + m - (i + 1)) = m := by omega
  have e2 : (i + 1 + m - 1) = i + m := by omega
  have x1 : (i + 1 + m) * k = i * k + k + m * k := by rw [Nat.add_mul, Nat.add_mul, Nat.one_mul]
  have x2 : (i + 1) * k = i * k + k := by rw [Nat.add_mul, Nat.one_mul]
  have x3 : (i + m) * k = i * k + m * k := Nat.add_mul _ _ _
  have hl : news.length = m * k := by
    show ((cur.drop ((i + 1) * k)).take ((i + 1 + m - (i + 1)) * k)).length = _
    rw [e1, List.length_take, List.length_drop]; omega
  have h2 : i * k + news.length ≤ cur.length := by omega
  have h3 : c1.length = cur.length := splice_len _ _ _ h2
  have h4 : (i + 1 + m - 1) * k + zs.length ≤ cur.length := by rw [e2]; omega
  refine ⟨by rw [hl, e1], h2, h3, h4, (splice_len _ _ _ (by rw [h3]; exact h4)).trans h3, ?_⟩
  show (splice c1 ((i + 1 + m - 1) * k) zs).take ((i + 1 + m - 1) * k) = _
  rw [splice_take _ _ _ _ (Nat.le_refl _) (by rw [h3]; omega), e2, x3, ← hl, splice_to _ _ _ (by omega)]
  congr 1
  · rw [List.take_take, Nat.min_eq_left (by omega)]
  · show (cur.drop ((i + 1) * k)).take ((i + 1 + m - (i + 1)) * k) = _
    rw [e1, List.drop_take, show (i + 1 + m) * k - (i + 1) * k = m * k by omega]
end Go.Proofs.Ytangnoicnogddaa.Tr
/- slices.Delete of one element. -/
namespace Go.Proofs.Ytangnoicnogddaa.Tr
open Go.RowKit

theorem deliv (i n : Nat) (h : i < n) : ((i : Int) + 1).toNat = i + 1 ∧ (0 : Int) ≤ (i : Int) + 1 ∧ (i : Int) + 1 ≤ (n : Int) ∧ (i : Int) ≤ (i : Int) + 1 := by omega

set_option maxRecDepth 1000000 in
set_option maxHeartbeats 4000000 in
theorem delU_any (w : World) (g n cap i : Nat) (cur : List Value) (hB : Blk w g 41 cur) (hc : cur.length = cap * 4) (h1 : ∀ v ∈ cur.take (n * 4), v.oneCell' = true) (hn : n ≤ cap) (hcap : cap ≤ maxLen) (hi : i < n) :
    Calls Try.prog 38 #[.slice (some ⟨g, 0, none⟩) n cap, .int .i64 (i : Int), .int .i64 ((i : Int) + 1)] w fun e w' => e = .returned (.slice (some ⟨g, 0, none⟩) (n - 1) cap) ∧ Fr (· = g) w w' ∧ ∃ cur', Blk w' g 41 cur' ∧ cur'.length = cap * 4 ∧ cur'.take ((n - 1) * 4) = (cur.take (n * 4)).take (i * 4) ++ (cur.take (n * 4)).drop ((i + 1) * 4) := by
  have hcap' : cap ≤ 9223372036854775807 := by unfold maxLen at hcap; omega
  obtain ⟨i0, hi0, hz0, hz1, hz2⟩ := info_parts infoU
  obtain ⟨ZL, hZL⟩ : ∃ ZL, ZL = (uZ.v : Value).cells.toList := ⟨_, rfl⟩
  have hzl : ZL.length = 4 := by rw [hZL]; rfl
  have hnk : n * 4 ≤ cur.length := by rw [hc]; exact Nat.mul_le_mul_right _ hn
  obtain ⟨d1, d2, d3, d4, d5, d6⟩ := del_cells cur ZL 4 n i hi (by first | exact hnk | (rw [Nat.mul_one]; exact hnk)) hzl
  obtain ⟨news, hnews⟩ : ∃ news, news = (cur.drop ((i + 1) * 4)).take ((n - (i + 1)) * 4) := ⟨_, rfl⟩
  simp only [← hnews] at d1 d2 d3 d4 d5 d6
  have hB1 := (hB.drew).setCells news (i * 4) d2
  have hB2 := hB1.setCells ZL ((n - 1) * 4) (by rw [d3]; exact d4)
  have hF : Fr (· = g) w ((w.drew.setCells g (i * 4) news).setCells g ((n - 1) * 4) ZL) := ((Fr.refl (fun x => x = g) w).drew.setCells (.inl rfl) _ _).setCells (.inl rfl) _ _
  have HE : Hid (Fr (· = g) w ((w.drew.setCells g (i * 4) news).setCells g ((n - 1) * 4) ZL) ∧ ∃ cur', Blk ((w.drew.setCells g (i * 4) news).setCells g ((n - 1) * 4) ZL) g 41 cur' ∧ cur'.length = cap * 4 ∧ cur'.take ((n - 1) * 4) = (cur.take (n * 4)).take (i * 4) ++ (cur.take (n * 4)).drop ((i + 1) * 4)) :=
    ⟨hF, _, hB2, by rw [d5, hc], d6⟩
  have hcl : ∀ ty, (Builtin.clear_ #[31] ty #[.slice (some ⟨g, (n - 1) * 4, none⟩) 1 (cap - (n - 1))]).run Try.prog (w.drew.setCells g (i * 4) news) = .ok (.tuple #[]) ((w.drew.setCells g (i * 4) news).setCells g ((n - 1) * 4) ZL) := fun ty =>
    hZL ▸ run_clear_one _ _ 41 ty uZ.v 4 Try.underlying31 Try.zeroValue41 rfl (by intro v hv; exact uv_one uZ v hv) g _ _ (hB1.there _ _ (by rw [d3]; have := d4; rw [hzl] at this; exact this))
  obtain ⟨A, hA, hsrc⟩ : ∃ A : Addr, (if cap = i + 1 then (some (⟨g, 0, none⟩ : Addr)) else some ⟨g, (i + 1) * 4, none⟩) = some A ∧ Hid (∀ t u, news[t]? = some u → w.drew.cell? (A.add t) = some u) := by
    by_cases h : cap = i + 1
    · refine ⟨⟨g, 0, none⟩, by simp [h], fun t u hu => ?_⟩
      have h0 : news.length = 0 := by first | (rw [d1, show n - (i + 1) = 0 by omega, Nat.zero_mul]) | (rw [d1]; omega)
      rw [List.length_eq_zero_iff.1 h0] at hu
      simp at hu
    · refine ⟨⟨g, (i + 1) * 4, none⟩, by simp [h], fun t u hu => ?_⟩
      rw [Addr.add_lit, hB.drew.cell]
      rw [hnews, List.getElem?_take] at hu
      split at hu
      · rwa [List.getElem?_drop] at hu
      · cases hu
  have s1 : Hid (news.length = (n - (i + 1)) * 4) := d1
  have s2 : Hid (∀ u ∈ news, u.oneCell' = true) := by
    intro u hu
    rw [hnews] at hu
    refine h1 u ?_
    have hm : (n - (i + 1)) * 4 = n * 4 - (i + 1) * 4 := by first | exact Nat.sub_mul _ _ _ | rfl
    rw [hm, ← List.drop_take] at hu
    exact List.mem_of_mem_drop hu
  have s3 : Hid (∀ t, t < news.length → (w.drew.cell? ⟨g, 0 + i * 4 + t, none⟩).isSome = true ∧ w.drew.frozen? ⟨g, 0 + i * 4 + t, none⟩ = false) := by
    intro t ht
    rw [Nat.zero_add]
    exact ⟨by rw [hB.drew.cell, List.getElem?_eq_getElem (by omega)]; rfl, hB.drew.frozen _⟩
  obtain ⟨W1, hW1⟩ : ∃ W1, W1 = w.drew.setCells g (i * 4) news := ⟨_, rfl⟩
  rw [← hW1] at hcl HE
  have hW : Hid (W1 = w.drew.setCells g (0 + i * 4) news) := by unfold Hid; rw [Nat.zero_add]; exact hW1
  have hic : i ≤ cap := by omega
  have hjc : i + 1 ≤ cap := by omega
  have hin : i + (n - (i + 1)) = n - 1 := by omega
  obtain ⟨q1, q2, q3, q4⟩ := deliv i n hi
  have hn1 : n - 1 ≤ cap := by omega
  have hn2 : n - (n - 1) = 1 := by omega
  have hn3 : ¬ (cap = n - 1) := by omega
  have hn4 : ((n - 1 : Nat) : Int) ≤ (n : Int) := by omega
  have hne : (((i : Int)) == (i : Int) + 1) = false := by simp; omega
  have mixed : Try.prog.follows .mixedOrders = true := by kernel_rfl
  clear hZL hzl hW1 hB hB1 hB2 hF d1 d2 d3 d4 d5 d6 hnews hc h1 hnk hcap
  go_enter Try.func38, Try.ntmps38
  go_wp2_with fail
  go_region_law_o (refine step_append_room rfl (.tmp 22) (.tmp 25) 31 rfl 41 i0 4 Try.underlying31 hi0 hz1 g 0 i cap (by simp [Act.eval, Act.put]) A (n - (i + 1)) (cap - (i + 1)) news (by simp [Act.eval, Act.put]) s1.out hsrc.out s2.out (by omega) s3.out ?_; rw [← hW.out, hin])
  go_wp2
  go_ret
  exact ⟨rfl, HE.out⟩

set_option maxRecDepth 1000000 in
set_option maxHeartbeats 4000000 in
theorem delE_any (w : World) (g n cap i : Nat) (cur : List Value) (hB : Blk w g 39 cur) (hc : cur.length = cap * 3) (h1 : ∀ v ∈ cur.take (n * 3), v.oneCell' = true) (hn : n ≤ cap) (hcap : cap ≤ maxLen) (hi : i < n) :
    Calls Try.prog 40 #[.slice (some ⟨g, 0, none⟩) n cap, .int .i64 (i : Int), .int .i64 ((i : Int) + 1)] w fun e w' => e = .returned (.slice (some ⟨g, 0, none⟩) (n - 1) cap) ∧ Fr (· = g) w w' ∧ ∃ cur', Blk w' g 39 cur' ∧ cur'.length = cap * 3 ∧ cur'.take ((n - 1) * 3) = (cur.take (n * 3)).take (i * 3) ++ (cur.take (n * 3)).drop ((i + 1) * 3) := by
  have hcap' : cap ≤ 9223372036854775807 := by unfold maxLen at hcap; omega
  obtain ⟨i0, hi0, hz0, hz1, hz2⟩ := info_parts infoE
  obtain ⟨ZL, hZL⟩ : ∃ ZL, ZL = (xZ.v : Value).cells.toList := ⟨_, rfl⟩
  have hzl : ZL.length = 3 := by rw [hZL]; rfl
  have hnk : n * 3 ≤ cur.length := by rw [hc]; exact Nat.mul_le_mul_right _ hn
  obtain ⟨d1, d2, d3, d4, d5, d6⟩ := del_cells cur ZL 3 n i hi (by first | exact hnk | (rw [Nat.mul_one]; exact hnk)) hzl
  obtain ⟨news, hnews⟩ : ∃ news, news = (cur.drop ((i + 1) * 3)).take ((n - (i + 1)) * 3) := ⟨_, rfl⟩
  simp only [← hnews] at d1 d2 d3 d4 d5 d6
  have hB1 := (hB.drew).setCells news (i * 3) d2
  have hB2 := hB1.setCells ZL ((n - 1) * 3) (by rw [d3]; exact d4)
  have hF : Fr (· = g) w ((w.drew.setCells g (i * 3) news).setCells g ((n - 1) * 3) ZL) := ((Fr.refl (fun x => x = g) w).drew.setCells (.inl rfl) _ _).setCells (.inl rfl) _ _
  have HE : Hid (Fr (· = g) w ((w.drew.setCells g (i * 3) news).setCells g ((n - 1) * 3) ZL) ∧ ∃ cur', Blk ((w.drew.setCells g (i * 3) news).setCells g ((n - 1) * 3) ZL) g 39 cur' ∧ cur'.length = cap * 3 ∧ cur'.take ((n - 1) * 3) = (cur.take (n * 3)).take (i * 3) ++ (cur.take (n * 3)).drop ((i + 1) * 3)) :=
    ⟨hF, _, hB2, by rw [d5, hc], d6⟩
  have hcl : ∀ ty, (Builtin.clear_ #[29] ty #[.slice (some ⟨g, (n - 1) * 3, none⟩) 1 (cap - (n - 1))]).run Try.prog (w.drew.setCells g (i * 3) news) = .ok (.tuple #[]) ((w.drew.setCells g (i * 3) news).setCells g ((n - 1) * 3) ZL) := fun ty =>
    hZL ▸ run_clear_one _ _ 39 ty xZ.v 3 Try.underlying29 Try.zeroValue39 rfl (by intro v hv; exact xv_one xZ v hv) g _ _ (hB1.there _ _ (by rw [d3]; have := d4; rw [hzl] at this; exact this))
  obtain ⟨A, hA, hsrc⟩ : ∃ A : Addr, (if cap = i + 1 then (some (⟨g, 0, none⟩ : Addr)) else some ⟨g, (i + 1) * 3, none⟩) = some A ∧ Hid (∀ t u, news[t]? = some u → w.drew.cell? (A.add t) = some u) := by
    by_cases h : cap = i + 1
    · refine ⟨⟨g, 0, none⟩, by simp [h], fun t u hu => ?_⟩
      have h0 : news.length = 0 := by first | (rw [d1, show n - (i + 1) = 0 by omega, Nat.zero_mul]) | (rw [d1]; omega)
      rw [List.length_eq_zero_iff.1 h0] at hu
      simp at hu
    · refine ⟨⟨g, (i + 1) * 3, none⟩, by simp [h], fun t u hu => ?_⟩
      rw [Addr.add_lit, hB.drew.cell]
      rw [hnews, List.getElem?_take] at hu
      split at hu
      · rwa [List.getElem?_drop] at hu
      · cases hu
  have s1 : Hid (news.length = (n - (i + 1)) * 3) := d1
  have s2 : Hid (∀ u ∈ news, u.oneCell' = true) := by
    intro u hu
    rw [hnews] at hu
    refine h1 u ?_
    have hm : (n - (i + 1)) * 3 = n * 3 - (i + 1) * 3 := by first | exact Nat.sub_mul _ _ _ | rfl
    rw [hm, ← List.drop_take] at hu
    exact List.mem_of_mem_drop hu
  have s3 : Hid (∀ t, t < news.length → (w.drew.cell? ⟨g, 0 + i * 3 + t, none⟩).isSome = true ∧ w.drew.frozen? ⟨g, 0 + i * 3 + t, none⟩ = false) := by
    intro t ht
    rw [Nat.zero_add]
    exact ⟨by rw [hB.drew.cell, List.getElem?_eq_getElem (by omega)]; rfl, hB.drew.frozen _⟩
  obtain ⟨W1, hW1⟩ : ∃ W1, W1 = w.drew.setCells g (i * 3) news := ⟨_, rfl⟩
  rw [← hW1] at hcl HE
  have hW : Hid (W1 = w.drew.setCells g (0 + i * 3) news) := by unfold Hid; rw [Nat.zero_add]; exact hW1
  have hic : i ≤ cap := by omega
  have hjc : i + 1 ≤ cap := by omega
  have hin : i + (n - (i + 1)) = n - 1 := by omega
  obtain ⟨q1, q2, q3, q4⟩ := deliv i n hi
  have hn1 : n - 1 ≤ cap := by omega
  have hn2 : n - (n - 1) = 1 := by omega
  have hn3 : ¬ (cap = n - 1) := by omega
  have hn4 : ((n - 1 : Nat) : Int) ≤ (n : Int) := by omega
  have hne : (((i : Int)) == (i : Int) + 1) = false := by simp; omega
  have mixed : Try.prog.follows .mixedOrders = true := by kernel_rfl
  clear hZL hzl hW1 hB hB1 hB2 hF d1 d2 d3 d4 d5 d6 hnews hc h1 hnk hcap
  go_enter Try.func40, Try.ntmps40
  go_wp2_with fail
  go_region_law_o (refine step_append_room rfl (.tmp 22) (.tmp 25) 29 rfl 39 i0 3 Try.underlying29 hi0 hz1 g 0 i cap (by simp [Act.eval, Act.put]) A (n - (i + 1)) (cap - (i + 1)) news (by simp [Act.eval, Act.put]) s1.out hsrc.out s2.out (by omega) s3.out ?_; rw [← hW.out, hin])
  go_wp2
  go_ret
  exact ⟨rfl, HE.out⟩

set_option maxRecDepth 1000000 in
set_option maxHeartbeats 4000000 in
theorem del9_any (w : World) (g n cap i : Nat) (cur : List Value) (hB : Blk w g 9 cur) (hc : cur.length = cap) (h1 : ∀ v ∈ cur.take (n), v.oneCell' = true) (hn : n ≤ cap) (hcap : cap ≤ maxLen) (hi : i < n) :
    Calls Try.prog 42 #[.slice (some ⟨g, 0, none⟩) n cap, .int .i64 (i : Int), .int .i64 ((i : Int) + 1)] w fun e w' => e = .returned (.slice (some ⟨g, 0, none⟩) (n - 1) cap) ∧ Fr (· = g) w w' ∧ ∃ cur', Blk w' g 9 cur' ∧ cur'.length = cap ∧ cur'.take ((n - 1)) = (cur.take (n)).take (i) ++ (cur.take (n)).drop ((i + 1)) := by
  have hcap' : cap ≤ 9223372036854775807 := by unfold maxLen at hcap; omega
  obtain ⟨i0, hi0, hz0, hz1, hz2⟩ := info_parts info9
  obtain ⟨ZL, hZL⟩ : ∃ ZL, ZL = ((.string ⟨#[]⟩) : Value).cells.toList := ⟨_, rfl⟩
  have hzl : ZL.length = 1 := by rw [hZL]; rfl
  have hnk : n ≤ cur.length := by rw [hc]; exact hn
  obtain ⟨d1, d2, d3, d4, d5, d6⟩ := del_cells cur ZL 1 n i hi (by first | exact hnk | (rw [Nat.mul_one]; exact hnk)) hzl
  simp only [Nat.mul_one] at d1 d2 d3 d4 d5 d6
  obtain ⟨news, hnews⟩ : ∃ news, news = (cur.drop ((i + 1))).take ((n - (i + 1))) := ⟨_, rfl⟩
  simp only [← hnews] at d1 d2 d3 d4 d5 d6
  have hB1 := (hB.drew).setCells news (i) d2
  have hB2 := hB1.setCells ZL ((n - 1)) (by rw [d3]; exact d4)
  have hF : Fr (· = g) w ((w.drew.setCells g (i) news).setCells g ((n - 1)) ZL) := ((Fr.refl (fun x => x = g) w).drew.setCells (.inl rfl) _ _).setCells (.inl rfl) _ _
  have HE : Hid (Fr (· = g) w ((w.drew.setCells g (i) news).setCells g ((n - 1)) ZL) ∧ ∃ cur', Blk ((w.drew.setCells g (i) news).setCells g ((n - 1)) ZL) g 9 cur' ∧ cur'.length = cap ∧ cur'.take ((n - 1)) = (cur.take (n)).take (i) ++ (cur.take (n)).drop ((i + 1))) :=
    ⟨hF, _, hB2, by rw [d5, hc], d6⟩
  have hcl : ∀ ty, (Builtin.clear_ #[30] ty #[.slice (some ⟨g, (n - 1), none⟩) 1 (cap - (n - 1))]).run Try.prog (w.drew.setCells g (i) news) = .ok (.tuple #[]) ((w.drew.setCells g (i) news).setCells g ((n - 1)) ZL) := fun ty =>
    hZL ▸ run_clear_one _ _ 9 ty (.string ⟨#[]⟩) 1 Try.underlying30 Try.zeroValue9 rfl (by intro v hv; exact by simp [Value.cells] at hv; rw [hv]; rfl) g _ _ (hB1.there _ _ (by rw [d3]; have := d4; rw [hzl] at this; exact this))
  obtain ⟨A, hA, hsrc⟩ : ∃ A : Addr, (if cap = i + 1 then (some (⟨g, 0, none⟩ : Addr)) else some ⟨g, (i + 1), none⟩) = some A ∧ Hid (∀ t u, news[t]? = some u → w.drew.cell? (A.add t) = some u) := by
    by_cases h : cap = i + 1
    · refine ⟨⟨g, 0, none⟩, by simp [h], fun t u hu => ?_⟩
      have h0 : news.length = 0 := by first | (rw [d1, show n - (i + 1) = 0 by omega, Nat.zero_mul]) | (rw [d1]; omega)
      rw [List.length_eq_zero_iff.1 h0] at hu
      simp at hu
    · refine ⟨⟨g, (i + 1), none⟩, by simp [h], fun t u hu => ?_⟩
      rw [Addr.add_lit, hB.drew.cell]
      rw [hnews, List.getElem?_take] at hu
      split at hu
      · rwa [List.getElem?_drop] at hu
      · cases hu
  have s1 : Hid (news.length = (n - (i + 1)) * 1) := by rw [Nat.mul_one]; exact d1
  have s2 : Hid (∀ u ∈ news, u.oneCell' = true) := by
    intro u hu
    rw [hnews] at hu
    refine h1 u ?_
    have hm : (n - (i + 1)) = n - (i + 1) := by first | exact Nat.sub_mul _ _ _ | rfl
    rw [hm, ← List.drop_take] at hu
    exact List.mem_of_mem_drop hu
  have s3 : Hid (∀ t, t < news.length → (w.drew.cell? ⟨g, 0 + i * 1 + t, none⟩).isSome = true ∧ w.drew.frozen? ⟨g, 0 + i * 1 + t, none⟩ = false) := by
    intro t ht
    rw [Nat.zero_add, Nat.mul_one]
    exact ⟨by rw [hB.drew.cell, List.getElem?_eq_getElem (by omega)]; rfl, hB.drew.frozen _⟩
  obtain ⟨W1, hW1⟩ : ∃ W1, W1 = w.drew.setCells g (i) news := ⟨_, rfl⟩
  rw [← hW1] at hcl HE
  have hW : Hid (W1 = w.drew.setCells g (0 + i * 1) news) := by unfold Hid; rw [Nat.zero_add, Nat.mul_one]; exact hW1
  have hic : i ≤ cap := by omega
  have hjc : i + 1 ≤ cap := by omega
  have hin : i + (n - (i + 1)) = n - 1 := by omega
  obtain ⟨q1, q2, q3, q4⟩ := deliv i n hi
  have hn1 : n - 1 ≤ cap := by omega
  have hn2 : n - (n - 1) = 1 := by omega
  have hn3 : ¬ (cap = n - 1) := by omega
  have hn4 : ((n - 1 : Nat) : Int) ≤ (n : Int) := by omega
  have hne : (((i : Int)) == (i : Int) + 1) = false := by simp; omega
  have mixed : Try.prog.follows .mixedOrders = true := by kernel_rfl
  clear hZL hzl hW1 hB hB1 hB2 hF d1 d2 d3 d4 d5 d6 hnews hc h1 hnk hcap
  go_enter Try.func42, Try.ntmps42
  go_wp2_with fail
  go_region_law_o (refine step_append_room rfl (.tmp 22) (.tmp 25) 30 rfl 9 i0 1 Try.underlying30 hi0 hz1 g 0 i cap (by simp [Act.eval, Act.put]) A (n - (i + 1)) (cap - (i + 1)) news (by simp [Act.eval, Act.put]) s1.out hsrc.out s2.out (by omega) s3.out ?_; rw [← hW.out, hin])
  go_wp2
  go_ret
  exact ⟨rfl, HE.out⟩
end Go.Proofs.Ytangnoicnogddaa.Tr
