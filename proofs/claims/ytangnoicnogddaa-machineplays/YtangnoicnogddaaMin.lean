/- slices.Insert of one element. -/
import Derived.Test.YtangnoicnogddaaMdlM
namespace Go.Proofs.Ytangnoicnogddaa.Tr
open Go.RowKit

theorem blk_shape {w : World} {b : Nat} {t : TypeId} {xs : List Value} (h : Blk w b t xs) : w.shape? b = some (t, xs.length) := by
  have h' : w.heap[b]? = some (.cells xs.toArray t (0, 0)) := h
  unfold World.shape?
  rw [h']
  simp
/-- What inserting one leaves. -/
theorem ins_cells (cur xc : List Value) (k n i : Nat) (hi : i ≤ n) (hn : (n + 1) * k ≤ cur.length) (hz : xc.length = k) :
    let news := (cur.drop (i * k)).take ((n - i) * k)
    let c1 := splice cur ((i + 1) * k) news
    let c2 := splice c1 (i * k) xc
    news.length = (n - i) * k ∧ (i + 1) * k + news.length ≤ cur.length ∧ c1.length = cur.length ∧ i * k + xc.length ≤ cur.length ∧ c2.length = cur.length ∧ c2.take ((n + 1) * k) = (cur.take (n * k)).take (i * k) ++ xc ++ (cur.take (n * k)).drop (i * k) := by
  intro news c1 c2
  obtain ⟨m, rfl⟩ : ∃ m, n = i + m := ⟨n - i, by omega⟩
  have e1 : i + m - i = m := by omega
  have x1 : (i + m) * k = i * k + m * k := Nat.add_mul _ _ _
  have x2 : (i + 1) * k = i * k + k := by rw [Nat.add_mul, Nat.one_mul]
  have x3 : (i + m + 1) * k = i * k + m * k + k := by rw [Nat.add_mul, Nat.add_mul, Nat.one_mul]
  have hl : news.length = m * k := by
    show ((cur.drop (i * k)).take ((i + m - i) * k)).length = _
    rw [e1, List.length_take, List.length_drop]; omega
  have h2 : (i + 1) * k + news.length ≤ cur.length := by omega
  have h3 : c1.length = cur.length := splice_len _ _ _ h2
  have h4 : i * k + xc.length ≤ cur.length := by omega
  refine ⟨by rw [hl, e1], h2, h3, h4, (splice_len _ _ _ (by rw [h3]; exact h4)).trans h3, ?_⟩
  have a1 : c2.take ((i + m + 1) * k) = (splice c1 (i * k) xc).take ((i + m + 1) * k) := rfl
  rw [a1]
  unfold splice
  have hl2 : (c1.take (i * k) ++ xc).length = (i + 1) * k := by rw [List.length_append, List.length_take, h3, hz]; omega
  rw [← List.append_assoc, List.take_append, hl2, List.take_of_length_le (by rw [hl2]; omega)]
  have b1 : c1.take (i * k) = cur.take (i * k) := splice_take _ _ _ _ (by omega) (by omega)
  have b2 : (c1.drop (i * k + xc.length)).take ((i + m + 1) * k - (i + 1) * k) = news := by
    have q : (i + m + 1) * k - (i + 1) * k = news.length := by omega
    rw [q, hz, ← x2]
    show ((splice cur ((i + 1) * k) news).drop ((i + 1) * k)).take news.length = news
    unfold splice
    rw [List.drop_append_of_le_length (by rw [List.length_take]; omega), List.drop_eq_nil_of_le (by rw [List.length_take]; omega), List.nil_append, List.take_left]
  rw [b1, b2, List.take_take, Nat.min_eq_left (by omega)]
  congr 1
  show (cur.drop (i * k)).take ((i + m - i) * k) = _
  rw [e1, List.drop_take, x1, Nat.add_sub_cancel_left]
/-- .. and what a new row is. -/
theorem ins_grow (row xs xc : List Value) (k n i : Nat) (hi : i ≤ n) (hx : xs.length = n * k) (hn : (n + 1) * k ≤ row.length) (hr : row.take (i * k) = xs.take (i * k)) (hz : xc.length = k) :
    let c1 := splice row (i * k) xc
    let c2 := splice c1 ((i + 1) * k) (xs.drop (i * k))
    i * k + xc.length ≤ row.length ∧ c1.length = row.length ∧ (i + 1) * k + (xs.drop (i * k)).length ≤ row.length ∧ c2.length = row.length ∧ c2.take ((n + 1) * k) = xs.take (i * k) ++ xc ++ xs.drop (i * k) := by
  intro c1 c2
  obtain ⟨m, rfl⟩ : ∃ m, n = i + m := ⟨n - i, by omega⟩
  have x1 : (i + m) * k = i * k + m * k := Nat.add_mul _ _ _
  have x2 : (i + 1) * k = i * k + k := by rw [Nat.add_mul, Nat.one_mul]
  have x3 : (i + m + 1) * k = i * k + m * k + k := by rw [Nat.add_mul, Nat.add_mul, Nat.one_mul]
  have h1 : i * k + xc.length ≤ row.length := by omega
  have h2 : c1.length = row.length := splice_len _ _ _ h1
  have h3 : (i + 1) * k + (xs.drop (i * k)).length ≤ row.length := by rw [List.length_drop]; omega
  refine ⟨h1, h2, h3, (splice_len _ _ _ (by rw [h2]; exact h3)).trans h2, ?_⟩
  have q : (i + m + 1) * k = (i + 1) * k + (xs.drop (i * k)).length := by rw [List.length_drop]; omega
  have a1 : c2.take ((i + m + 1) * k) = (splice c1 ((i + 1) * k) (xs.drop (i * k))).take ((i + m + 1) * k) := rfl
  rw [a1, q, splice_to _ _ _ (by omega)]
  congr 1
  have q2 : (i + 1) * k = i * k + xc.length := by omega
  show (splice row (i * k) xc).take ((i + 1) * k) = _
  rw [q2, splice_to _ _ _ (by omega), hr]
def InsPost (t : TypeId) (k : Nat) (v : Value) (n : Nat) (xs : List Value) (w : World) (e : Ending) (w' : World) : Prop := ∃ v', e = .returned v' ∧ w'.ownsRow 0 t k v' n xs ∧ w.grownBy w' v.ownBlock ∧ ∀ b, v'.ownBlock = some b → v.ownBlock = some b ∨ w.heap.size ≤ b

set_option maxRecDepth 1000000 in
set_option maxHeartbeats 4000000 in
theorem insE_any (w : World) (v : Value) (xs xc : List Value) (n i vb vc : Nat) (tA : TypeId) (hown : w.ownsRow 0 39 3 v n xs) (hx1 : ∀ u ∈ xs, u.oneCell' = true) (hB : Blk w vb tA xc) (hz : xc.length = 3) (hc1 : ∀ u ∈ xc, u.oneCell' = true) (hne : v.ownBlock ≠ some vb) (hi : i ≤ n) (hn : n ≤ 1000) :
    Calls Try.prog 44 #[v, .int .i64 (i : Int), .slice (some ⟨vb, 0, none⟩) 1 vc] w fun e w' => InsPost 39 3 v (n + 1) (xs.take (i * 3) ++ xc ++ xs.drop (i * 3)) w e w' := by
  obtain ⟨i0, hi0, hz0, hz1, hz2⟩ := info_parts infoE
  have hsz : (Try.prog.info? 39).map (·.size) = some 3 := by rw [hi0]; simp [hz1]
  have hxl := hown.1
  have mixed : Try.prog.follows .mixedOrders = true := by kernel_rfl
  have hi1 : (0 : Int) ≤ (i : Int) := Int.natCast_nonneg _
  have hin : (i : Int) ≤ (n : Int) := by omega
  obtain ⟨ad, cap, rfl⟩ : ∃ ad cap, v = .slice ad n cap := own_len hown
  by_cases hin0 : i = n
  · -- at the end
    subst hin0
    obtain ⟨R, hR⟩ : ∃ R, R = xs.take (i * 3) ++ xc ++ xs.drop (i * 3) := ⟨_, rfl⟩
    rw [← hR]
    have hP : Hid (xs ++ xc = R) := by
      unfold Hid
      rw [hR]
      rw [List.take_of_length_le (by omega), List.drop_eq_nil_of_le (by omega), List.append_nil]
    have HO := hid hown
    have HB := hid hB
    obtain ⟨w0, hw0⟩ : ∃ w0, w0 = w := ⟨_, rfl⟩
    have hcap : i ≤ cap ∧ cap ≤ maxLen := by
      rcases hown.2 with ⟨e, h0⟩ | ⟨g, c, cur, e, _, _, h3, h4, _⟩
      · cases e; exact ⟨by omega, by simp [maxLen]⟩
      · cases e; exact ⟨h3, h4⟩
    have hca : (i : Int) ≤ (cap : Int) := by omega
    have hen : (i : Int) == (i : Int) := by simp
    clear hown hB hR
    go_enter Try.func44, Try.ntmps44
    cases ad with
    | none =>
      go_wp2_with (at_builtin; refine wpList_append_lies w rfl _ _ 29 rfl 0 39 i0 _ 3 48 Try.underlying29 hi0 hz0 hz1 hz2 rfl (by omega) _ i xs rfl HO.out ⟨vb, 0, none⟩ 1 vc xc rfl (by omega) (fun j u hu => by rw [Addr.add_lit, HB.out.cell, Nat.zero_add]; exact hu) hc1 (by omega) (by unfold maxLen; omega) (by omega) (Nat.zero_le _) _ rfl ?_; intro g1 cap1 w1 h1 h2 h3 h4)
      go_ret
      refine ⟨.slice (some ⟨g1, 0, none⟩) (i + 1) cap1, rfl, by rw [← hP.out]; exact h1, h2, fun b hb => ?_⟩
      obtain rfl : g1 = b := by simpa [Value.ownBlock] using hb
      rcases h3 with h3 | h3
      · exact .inl h3
      · exact .inr (by omega)
    | some a0 =>
      obtain ⟨ab, ao, asp⟩ := a0
      go_wp2_with (at_builtin; refine wpList_append_lies w rfl _ _ 29 rfl 0 39 i0 _ 3 48 Try.underlying29 hi0 hz0 hz1 hz2 rfl (by omega) _ i xs rfl HO.out ⟨vb, 0, none⟩ 1 vc xc rfl (by omega) (fun j u hu => by rw [Addr.add_lit, HB.out.cell, Nat.zero_add]; exact hu) hc1 (by omega) (by unfold maxLen; omega) (by omega) (Nat.zero_le _) _ rfl ?_; intro g1 cap1 w1 h1 h2 h3 h4)
      all_goals
        go_ret
        refine ⟨.slice (some ⟨g1, 0, none⟩) (i + 1) cap1, rfl, by rw [← hP.out]; exact h1, h2, fun b hb => ?_⟩
        obtain rfl : g1 = b := by simpa [Value.ownBlock] using hb
        rcases h3 with h3 | h3
        · exact .inl h3
        · exact .inr (by omega)
  have hilt : i < n := by omega
  rcases hown.2 with ⟨_, h0⟩ | ⟨g, cap2, cur, hv, _, hg, hnc, hcm, hcs, htk⟩
  · omega
  cases hv
  have hcap' : cap ≤ 9223372036854775807 := by unfold maxLen at hcm; omega
  have hz2' : ((i : Int) == (n : Int)) = false := by
    have : (i : Int) ≠ (n : Int) := by omega
    simpa using this
  have hBg : Blk w g 39 cur.toList := hg
  have hgb : vb ≠ g := fun h => hne (by rw [h]; rfl)
  have hw1 : IntKind.i64.wrap ((n : Int) + 1) = (n : Int) + 1 := by rw [IntKind.wrap_i64]; omega
  have hw2 : IntKind.i64.wrap ((i : Int) + 1) = (i : Int) + 1 := by rw [IntKind.wrap_i64]; omega
  have htn : ((i : Int) + 1).toNat = i + 1 := by omega
  have htn' : ((n : Int) + 1).toNat = n + 1 := by omega
  have hb1 : (0 : Int) ≤ (i : Int) + 1 := by omega
  have hb1' : (0 : Int) ≤ (n : Int) + 1 := by omega
  have hci : (i : Int) ≤ (cap : Int) := by omega
  have hiN : ¬ (cap = i) := by omega
  by_cases hroom : n + 1 ≤ cap
  · -- in place
    have hz3 : ¬ ((cap : Int) < (n : Int) + 1) := by omega
    have hcul : cur.toList.length = cap * 3 := by simpa using hcs
    obtain ⟨d1, d2, d3, d4, d5, d6⟩ := ins_cells cur.toList xc 3 n i hi (by rw [hcul]; exact Nat.mul_le_mul_right _ hroom) hz
    obtain ⟨news, hnews⟩ : ∃ news, news = (cur.toList.drop (i * 3)).take ((n - i) * 3) := ⟨_, rfl⟩
    simp only [← hnews] at d1 d2 d3 d4 d5 d6
    have hnx : news = xs.drop (i * 3) := by
      have hsm : (n - i) * 3 = n * 3 - i * 3 := by first | exact Nat.sub_mul _ _ _ | rfl
      rw [hnews, ← htk, List.drop_take, hsm]
    obtain ⟨W1, hW1⟩ : ∃ W1, W1 = w.drew.setCells g ((i + 1) * 3) news := ⟨_, rfl⟩
    have hB1 : Blk W1 g 39 (splice cur.toList ((i + 1) * 3) news) := by rw [hW1]; exact (hBg.drew).setCells news ((i + 1) * 3) d2
    have hV1 : Blk W1 vb tA xc := by rw [hW1]; exact (hB.drew).setCells_ne hgb _ _
    have hcp1 : ∀ ty dc sc, (Builtin.copy_ #[29, 29] ty #[.slice (some ⟨g, (i + 1) * 3, none⟩) (n - i) dc, .slice (some ⟨g, i * 3, none⟩) (n + 1 - i) sc]).run Try.prog w.drew = .ok (goInt (Nat.min (n + 1 - i) (n - i))) W1 := fun ty dc sc => by
      rw [hW1]
      exact run_copy_rows w.drew _ _ ty 39 g _ _ dc ⟨g, i * 3, none⟩ _ sc 3 news Try.underlying29 hsz (by rw [show Nat.min (n + 1 - i) (n - i) = n - i by simp only [Nat.min_def]; split <;> omega]; exact d1)
        (fun j u hu => by
          rw [Addr.add_lit, hBg.drew.cell]
          rw [hnews, List.getElem?_take] at hu
          split at hu
          · rwa [List.getElem?_drop] at hu
          · cases hu)
        (hBg.drew.there _ _ d2) (fun u hu => by rw [hnx] at hu; exact hx1 u (List.mem_of_mem_drop hu))
    have hcp2 : ∀ ty dc, (Builtin.copy_ #[29, 29] ty #[.slice (some ⟨g, i * 3, none⟩) (n + 1 - i) dc, .slice (some ⟨vb, 0, none⟩) 1 vc]).run Try.prog W1 = .ok (goInt (Nat.min 1 (n + 1 - i))) (W1.setCells g (i * 3) xc) := fun ty dc =>
      run_copy_rows W1 _ _ ty 39 g _ _ dc ⟨vb, 0, none⟩ _ vc 3 xc Try.underlying29 hsz (by rw [show Nat.min 1 (n + 1 - i) = 1 by simp only [Nat.min_def]; split <;> omega]; omega)
        (fun j u hu => by rw [Addr.add_lit, hV1.cell, Nat.zero_add]; exact hu)
        (hB1.there _ _ (by rw [d3]; exact d4)) hc1
    have hov : ∀ lb cb, (callFunc 65 #[.slice (some ⟨vb, 0, none⟩) 1 vc, .slice (some ⟨g, (i + 1) * 3, none⟩) lb cb]).run Try.prog w = .ok (.value (.bool false)) w := fun lb cb => by
      rw [run_callFunc_extern Try.func65 (by kernel_rfl) (by kernel_rfl) (by kernel_rfl) (e := Extern.SlicesOverlaps.overlaps #[29, 29] #[4]) (by kernel_rfl),
        Lib.run_overlaps_apart w 29 4 39 Try.underlying29 3 (fun w => by simp [sizeOf, typeInfo, hi0, hz1]) ⟨vb, 0, none⟩ ⟨g, (i + 1) * 3, none⟩ 1 vc lb cb hgb tA 39 xc.length cur.toList.length (blk_shape hB) (blk_shape hBg) (by rw [hcul]; omega) (hB.frozen _) (hB.frozen _)]
      rfl
    have hE : Hid (InsPost 39 3 (.slice (some ⟨g, 0, none⟩) n cap) (n + 1) (xs.take (i * 3) ++ xc ++ xs.drop (i * 3)) w (.returned (.slice (some ⟨g, 0, none⟩) (n + 1) cap)) (W1.setCells g (i * 3) xc)) := by
      have hF : Fr (fun x => x = g) w (W1.setCells g (i * 3) xc) := by
        rw [hW1]
        exact ((Fr.refl (fun x => x = g) w).drew.setCells (.inl rfl) _ _).setCells (.inl rfl) _ _
      refine ⟨_, rfl, ⟨?_, .inr ⟨g, cap, (splice (splice cur.toList ((i + 1) * 3) news) (i * 3) xc).toArray, rfl, Nat.zero_le _, hB1.setCells xc _ (by rw [d3]; exact d4), hroom, hcm, by simp only [List.size_toArray]; rw [d5, hcul], ?_⟩⟩, ⟨hF.os, hF.tape, hF.output, hF.size, fun k hk hne => hF.block k hk (fun h => hne (by rw [h]; rfl))⟩, fun b hb => .inl hb⟩
      · simp only [List.length_append, List.length_take, List.length_drop, hz, hxl]; omega
      · show List.take _ (splice _ _ _) = _
        have hm1 : (n + 1) * 3 = (n + 1) * 3 := by first | rfl | exact Nat.mul_one _
        have hm2 : n * 3 = n * 3 := by first | rfl | exact Nat.mul_one _
        rw [hm1, d6]
        try rw [hm2] at htk
        rw [htk]
    have hin1 : (i : Int) ≤ (n : Int) + 1 := by omega
    have hb2 : ¬ (cap = i + 1) := by omega
    have hbl : (i : Int) + 1 ≤ (n : Int) + 1 := by omega
    clear hB1 hV1 hB hBg hg hown d1 d2 d3 d4 d5 d6 hnews hnx hW1 hx1 hc1 hz hxl htk hcs hcul
    go_enter Try.func44, Try.ntmps44
    go_wp2_with (simp only [hov])
    go_region_law_o (refine step_copy_run rfl _ _ 29 29 rfl _ _ (by simp [Act.eval, Act.put]) (by simp [Act.eval, Act.put]) (hcp1 _ _ _) ?_)
    go_wp2_with (at_builtin; refine wpList_copy_run _ rfl _ _ 29 29 rfl _ _ rfl rfl (hcp2 _ _) ?_)
    go_ret
    exact hE.out
  · -- a new row
    have hz3 : (cap : Int) < (n : Int) + 1 := by omega
    have hkk : (n : Int) + 1 - (i : Int) = ((n + 1 - i : Nat) : Int) := by omega
    have hik : i + (n + 1 - i) = n + 1 := by omega
    have hcx : ∀ j u, xs[j]? = some u → w.cell? ⟨g, j, none⟩ = some u := fun j u hu => by
      rw [hBg.cell]
      rw [← htk, List.getElem?_take] at hu
      split at hu
      · exact hu
      · cases hu
    have hold : (Builtin.firstCells i0.size i (.slice (some ⟨g, 0, none⟩) i cap)).run Try.prog w.drew = .ok (xs.take (i * 3)).toArray w.drew := by
      rw [hz1]
      exact run_firstCells_some w.drew 3 i ⟨g, 0, none⟩ i cap (xs.take (i * 3)) (by rw [List.length_take, hxl]; omega) (fun j u hj => by
        rw [Addr.add_lit, Nat.zero_add]
        rw [List.getElem?_take] at hj
        split at hj
        · exact hcx j u hj
        · cases hj)
    obtain ⟨G, hG⟩ : ∃ G, G = grownCap w (n + 1) cap 39 := ⟨_, rfl⟩
    obtain ⟨ROW, hROW⟩ : ∃ ROW : Array Value, ROW = (xs.take (i * 3)).toArray ++ Builtin.zeroCells xZ.v.cells (n + 1 - i) ++ Builtin.zeroCells xZ.v.cells (G - (n + 1)) := ⟨_, rfl⟩
    obtain ⟨W1, hW1⟩ : ∃ W1, W1 = w.drew.alloc (.cells ROW 39) := ⟨_, rfl⟩
    have hrz : ∀ ty, (Builtin.append_ #[29, 3] ty #[.slice (some ⟨g, 0, none⟩) i cap, .int .i64 ((n : Int) + 1 - (i : Int))]).run Try.prog w = .ok (.slice (some ⟨w.heap.size, 0, none⟩) (n + 1) G) W1 := fun ty => by
      have h := Lib.run_append_grow_zeros w 29 3 ty 39 i0 _ .i64 .i64 Try.underlying29 Try.underlying3 hi0 hz0 (some ⟨g, 0, none⟩) i cap (xs.take (i * 3)) hold (n + 1 - i) (by omega) (by omega) (by omega) (by omega) (by rw [hz2]; omega) (by rw [hz2, hik]; exact growslice_fits (by omega) (by omega))
      rw [hik, ← hG, ← hROW, ← hW1] at h
      rw [hkk]
      exact h
    have hGn : n + 1 ≤ G := by rw [hG]; exact grownCap_ge w _ _ _
    have hGm : G ≤ maxLen := by rw [hG]; exact grownCap_le_maxLen w (n + 1) cap 39 (by unfold maxLen; omega)
    have hzs : (xZ.v : Value).cells.size = 3 := rfl
    have hRl : ROW.toList.length = G * 3 := by
      have hzc : ∀ q, (Builtin.zeroCells xZ.v.cells q).size = q * 3 := fun q => by simp [Builtin.zeroCells, hzs]
      rw [Array.length_toList, hROW, Array.size_append, Array.size_append, hzc, hzc, List.size_toArray, List.length_take, hxl, Nat.min_eq_left (Nat.mul_le_mul_right _ hi), ← Nat.add_mul, ← Nat.add_mul]
      congr 1
      omega
    have hRt : ROW.toList.take (i * 3) = xs.take (i * 3) := by
      rw [hROW]
      simp only [Array.toList_append, List.append_assoc]
      rw [List.take_left' (by rw [List.length_take, hxl]; omega)]
    obtain ⟨d1, d2, d3, d4, d5⟩ := ins_grow ROW.toList xs xc 3 n i hi (by rw [hxl]) (by rw [hRl]; exact Nat.mul_le_mul_right _ hGn) hRt hz
    have hBN : Blk W1 w.heap.size 39 ROW.toList := by rw [hW1]; exact Blk.new w.drew 39 ROW.toList
    have hVN : Blk W1 vb tA xc := by rw [hW1]; exact hB.drew.alloc _
    have hgl : g < w.heap.size := hBg.lt
    have hvl : vb < w.heap.size := hB.lt
    have hF1 : Fr (fun _ => False) w W1 := by rw [hW1]; exact (Fr.refl _ w).drew.alloc _
    have hX1 : ∀ j u, xs[j]? = some u → W1.cell? ⟨g, j, none⟩ = some u := fun j u hu => by
      rw [World.cell?_of_block (hF1.block g hgl (fun h => h))]; exact hcx j u hu
    obtain ⟨W2, hW2⟩ : ∃ W2, W2 = W1.setCells w.heap.size (i * 3) xc := ⟨_, rfl⟩
    have hB2 : Blk W2 w.heap.size 39 (splice ROW.toList (i * 3) xc) := by rw [hW2]; exact hBN.setCells xc _ d1
    have hX2 : ∀ j u, xs[j]? = some u → W2.cell? ⟨g, j, none⟩ = some u := fun j u hu => by
      rw [hW2, World.cell?_of_block (setCells_ne _ _ _ (show g ≠ w.heap.size by omega))]; exact hX1 j u hu
    have hcpA : ∀ ty dc, (Builtin.copy_ #[29, 29] ty #[.slice (some ⟨w.heap.size, i * 3, none⟩) (n + 1 - i) dc, .slice (some ⟨vb, 0, none⟩) 1 vc]).run Try.prog W1 = .ok (goInt (Nat.min 1 (n + 1 - i))) W2 := fun ty dc => by
      rw [hW2]
      exact run_copy_rows W1 _ _ ty 39 _ _ _ dc ⟨vb, 0, none⟩ _ vc 3 xc Try.underlying29 hsz (by rw [show Nat.min 1 (n + 1 - i) = 1 by simp only [Nat.min_def]; split <;> omega]; omega)
        (fun j u hu => by rw [Addr.add_lit, hVN.cell, Nat.zero_add]; exact hu)
        (hBN.there _ _ d1) hc1
    have hcpB : ∀ ty dc sc, (Builtin.copy_ #[29, 29] ty #[.slice (some ⟨w.heap.size, (i + 1) * 3, none⟩) (n - i) dc, .slice (some ⟨g, i * 3, none⟩) (n - i) sc]).run Try.prog W2.drew = .ok (goInt (Nat.min (n - i) (n - i))) (W2.drew.setCells w.heap.size ((i + 1) * 3) (xs.drop (i * 3))) := fun ty dc sc =>
      run_copy_rows W2.drew _ _ ty 39 _ _ _ dc ⟨g, i * 3, none⟩ _ sc 3 (xs.drop (i * 3)) Try.underlying29 hsz (by rw [show Nat.min (n - i) (n - i) = n - i by simp only [Nat.min_def]; split <;> omega, List.length_drop, hxl]; omega)
        (fun j u hu => by
          rw [Addr.add_lit]
          rw [List.getElem?_drop] at hu
          exact hX2 _ u hu)
        (hB2.drew.there _ _ (by rw [d2]; exact d3)) (fun u hu => hx1 u (List.mem_of_mem_drop hu))
    have hE : Hid (InsPost 39 3 (.slice (some ⟨g, 0, none⟩) n cap) (n + 1) (xs.take (i * 3) ++ xc ++ xs.drop (i * 3)) w (.returned (.slice (some ⟨w.heap.size, 0, none⟩) (n + 1) G)) (W2.drew.setCells w.heap.size ((i + 1) * 3) (xs.drop (i * 3)))) := by
      have hF : Fr (fun _ => False) w (W2.drew.setCells w.heap.size ((i + 1) * 3) (xs.drop (i * 3))) := by
        rw [hW2]
        exact (hF1.setCells (.inr (Nat.le_refl _)) _ _).drew.setCells (.inr (Nat.le_refl _)) _ _
      refine ⟨_, rfl, ⟨?_, .inr ⟨w.heap.size, G, (splice (splice ROW.toList (i * 3) xc) ((i + 1) * 3) (xs.drop (i * 3))).toArray, rfl, Nat.zero_le _, hB2.drew.setCells _ _ (by rw [d2]; exact d3), hGn, hGm, by simp only [List.size_toArray]; rw [d4, hRl], ?_⟩⟩, ⟨hF.os, hF.tape, hF.output, hF.size, fun k hk hne => hF.block k hk (fun h => h)⟩, fun b hb => by cases hb; exact .inr (Nat.le_refl _)⟩
      · simp only [List.length_append, List.length_take, List.length_drop, hz, hxl]; omega
      · show List.take _ (splice _ _ _) = _
        have hm1 : (n + 1) * 3 = (n + 1) * 3 := by first | rfl | exact Nat.mul_one _
        rw [hm1, d5]
    have hGi : ¬ (G = i) := by omega
    have hGim : ¬ (G = i + 1) := by omega
    have hG63 : G ≤ 9223372036854775807 := by unfold maxLen at hGm; omega
    have hb3 : (i : Int) ≤ (n : Int) := by omega
    have hb4 : (i : Int) ≤ (n : Int) + 1 := by omega
    have hb5 : (i : Int) + 1 ≤ (n : Int) + 1 := by omega
    have hw3 : IntKind.i64.wrap ((n : Int) + 1 - (i : Int)) = (n : Int) + 1 - (i : Int) := by rw [IntKind.wrap_i64]; omega
    clear hB2 hX2 hX1 hVN hBN hB hBg hg hown d1 d2 d3 d4 d5 hROW hG hRl hRt hW1 hW2 hx1 hc1 hz hxl htk hcs hold hkk hik hcx hF1
    go_enter Try.func44, Try.ntmps44
    go_wp2_with (first
      | (at_builtin; refine Lib.wpList_append_run _ rfl _ _ _ _ rfl _ _ rfl rfl _ _ (hrz _) ?_)
      | (at_builtin; refine wpList_copy_run _ rfl _ _ 29 29 rfl _ _ rfl rfl (hcpA _ _) ?_))
    go_region_law_o (refine step_copy_run rfl _ _ 29 29 rfl _ _ (by simp [Act.eval, Act.put]) (by simp [Act.eval, Act.put]) (hcpB _ _ _) ?_)
    go_wp2
    go_ret
    exact hE.out

set_option maxRecDepth 1000000 in
set_option maxHeartbeats 4000000 in
theorem ins9_any (w : World) (v : Value) (xs xc : List Value) (n i vb vc : Nat) (tA : TypeId) (hown : w.ownsRow 0 9 1 v n xs) (hx1 : ∀ u ∈ xs, u.oneCell' = true) (hB : Blk w vb tA xc) (hz : xc.length = 1) (hc1 : ∀ u ∈ xc, u.oneCell' = true) (hne : v.ownBlock ≠ some vb) (hi : i ≤ n) (hn : n ≤ 1000) :
    Calls Try.prog 47 #[v, .int .i64 (i : Int), .slice (some ⟨vb, 0, none⟩) 1 vc] w fun e w' => InsPost 9 1 v (n + 1) (xs.take (i) ++ xc ++ xs.drop (i)) w e w' := by
  obtain ⟨i0, hi0, hz0, hz1, hz2⟩ := info_parts info9
  have hsz : (Try.prog.info? 9).map (·.size) = some 1 := by rw [hi0]; simp [hz1]
  have hxl := hown.1
  rw [Nat.mul_one] at hxl
  have mixed : Try.prog.follows .mixedOrders = true := by kernel_rfl
  have hi1 : (0 : Int) ≤ (i : Int) := Int.natCast_nonneg _
  have hin : (i : Int) ≤ (n : Int) := by omega
  obtain ⟨ad, cap, rfl⟩ : ∃ ad cap, v = .slice ad n cap := own_len hown
  by_cases hin0 : i = n
  · -- at the end
    subst hin0
    obtain ⟨R, hR⟩ : ∃ R, R = xs.take (i) ++ xc ++ xs.drop (i) := ⟨_, rfl⟩
    rw [← hR]
    have hP : Hid (xs ++ xc = R) := by
      unfold Hid
      rw [hR]
      rw [List.take_of_length_le (by omega), List.drop_eq_nil_of_le (by omega), List.append_nil]
    have HO := hid hown
    have HB := hid hB
    obtain ⟨w0, hw0⟩ : ∃ w0, w0 = w := ⟨_, rfl⟩
    have hcap : i ≤ cap ∧ cap ≤ maxLen := by
      rcases hown.2 with ⟨e, h0⟩ | ⟨g, c, cur, e, _, _, h3, h4, _⟩
      · cases e; exact ⟨by omega, by simp [maxLen]⟩
      · cases e; exact ⟨h3, h4⟩
    have hca : (i : Int) ≤ (cap : Int) := by omega
    have hen : (i : Int) == (i : Int) := by simp
    clear hown hB hR
    go_enter Try.func47, Try.ntmps47
    cases ad with
    | none =>
      go_wp2_with (at_builtin; refine wpList_append_lies w rfl _ _ 30 rfl 0 9 i0 _ 1 16 Try.underlying30 hi0 hz0 hz1 hz2 rfl (by omega) _ i xs rfl HO.out ⟨vb, 0, none⟩ 1 vc xc rfl (by omega) (fun j u hu => by rw [Addr.add_lit, HB.out.cell, Nat.zero_add]; exact hu) hc1 (by omega) (by unfold maxLen; omega) (by omega) (Nat.zero_le _) _ rfl ?_; intro g1 cap1 w1 h1 h2 h3 h4)
      go_ret
      refine ⟨.slice (some ⟨g1, 0, none⟩) (i + 1) cap1, rfl, by rw [← hP.out]; exact h1, h2, fun b hb => ?_⟩
      obtain rfl : g1 = b := by simpa [Value.ownBlock] using hb
      rcases h3 with h3 | h3
      · exact .inl h3
      · exact .inr (by omega)
    | some a0 =>
      obtain ⟨ab, ao, asp⟩ := a0
      go_wp2_with (at_builtin; refine wpList_append_lies w rfl _ _ 30 rfl 0 9 i0 _ 1 16 Try.underlying30 hi0 hz0 hz1 hz2 rfl (by omega) _ i xs rfl HO.out ⟨vb, 0, none⟩ 1 vc xc rfl (by omega) (fun j u hu => by rw [Addr.add_lit, HB.out.cell, Nat.zero_add]; exact hu) hc1 (by omega) (by unfold maxLen; omega) (by omega) (Nat.zero_le _) _ rfl ?_; intro g1 cap1 w1 h1 h2 h3 h4)
      all_goals
        go_ret
        refine ⟨.slice (some ⟨g1, 0, none⟩) (i + 1) cap1, rfl, by rw [← hP.out]; exact h1, h2, fun b hb => ?_⟩
        obtain rfl : g1 = b := by simpa [Value.ownBlock] using hb
        rcases h3 with h3 | h3
        · exact .inl h3
        · exact .inr (by omega)
  have hilt : i < n := by omega
  rcases hown.2 with ⟨_, h0⟩ | ⟨g, cap2, cur, hv, _, hg, hnc, hcm, hcs, htk⟩
  · omega
  cases hv
  have hcap' : cap ≤ 9223372036854775807 := by unfold maxLen at hcm; omega
  have hz2' : ((i : Int) == (n : Int)) = false := by
    have : (i : Int) ≠ (n : Int) := by omega
    simpa using this
  have hBg : Blk w g 9 cur.toList := hg
  have hgb : vb ≠ g := fun h => hne (by rw [h]; rfl)
  have hw1 : IntKind.i64.wrap ((n : Int) + 1) = (n : Int) + 1 := by rw [IntKind.wrap_i64]; omega
  have hw2 : IntKind.i64.wrap ((i : Int) + 1) = (i : Int) + 1 := by rw [IntKind.wrap_i64]; omega
  have htn : ((i : Int) + 1).toNat = i + 1 := by omega
  have htn' : ((n : Int) + 1).toNat = n + 1 := by omega
  have hb1 : (0 : Int) ≤ (i : Int) + 1 := by omega
  have hb1' : (0 : Int) ≤ (n : Int) + 1 := by omega
  have hci : (i : Int) ≤ (cap : Int) := by omega
  have hiN : ¬ (cap = i) := by omega
  by_cases hroom : n + 1 ≤ cap
  · -- in place
    have hz3 : ¬ ((cap : Int) < (n : Int) + 1) := by omega
    have hcul : cur.toList.length = cap * 1 := by simpa using hcs
    obtain ⟨d1, d2, d3, d4, d5, d6⟩ := ins_cells cur.toList xc 1 n i hi (by rw [hcul]; exact Nat.mul_le_mul_right _ hroom) hz
    simp only [Nat.mul_one] at d1 d2 d3 d4 d5 d6
    rw [Nat.mul_one] at htk
    obtain ⟨news, hnews⟩ : ∃ news, news = (cur.toList.drop (i)).take ((n - i)) := ⟨_, rfl⟩
    simp only [← hnews] at d1 d2 d3 d4 d5 d6
    have hnx : news = xs.drop (i) := by
      have hsm : (n - i) = n - i := by first | exact Nat.sub_mul _ _ _ | rfl
      rw [hnews, ← htk, List.drop_take, hsm]
    obtain ⟨W1, hW1⟩ : ∃ W1, W1 = w.drew.setCells g ((i + 1)) news := ⟨_, rfl⟩
    have hB1 : Blk W1 g 9 (splice cur.toList ((i + 1)) news) := by rw [hW1]; exact (hBg.drew).setCells news ((i + 1)) d2
    have hV1 : Blk W1 vb tA xc := by rw [hW1]; exact (hB.drew).setCells_ne hgb _ _
    have hcp1 : ∀ ty dc sc, (Builtin.copy_ #[30, 30] ty #[.slice (some ⟨g, (i + 1), none⟩) (n - i) dc, .slice (some ⟨g, i, none⟩) (n + 1 - i) sc]).run Try.prog w.drew = .ok (goInt (Nat.min (n + 1 - i) (n - i))) W1 := fun ty dc sc => by
      rw [hW1]
      exact run_copy_rows w.drew _ _ ty 9 g _ _ dc ⟨g, i, none⟩ _ sc 1 news Try.underlying30 hsz (by rw [show Nat.min (n + 1 - i) (n - i) = n - i by simp only [Nat.min_def]; split <;> omega]; rw [Nat.mul_one]; exact d1)
        (fun j u hu => by
          rw [Addr.add_lit, hBg.drew.cell]
          rw [hnews, List.getElem?_take] at hu
          split at hu
          · rwa [List.getElem?_drop] at hu
          · cases hu)
        (hBg.drew.there _ _ d2) (fun u hu => by rw [hnx] at hu; exact hx1 u (List.mem_of_mem_drop hu))
    have hcp2 : ∀ ty dc, (Builtin.copy_ #[30, 30] ty #[.slice (some ⟨g, i, none⟩) (n + 1 - i) dc, .slice (some ⟨vb, 0, none⟩) 1 vc]).run Try.prog W1 = .ok (goInt (Nat.min 1 (n + 1 - i))) (W1.setCells g (i) xc) := fun ty dc =>
      run_copy_rows W1 _ _ ty 9 g _ _ dc ⟨vb, 0, none⟩ _ vc 1 xc Try.underlying30 hsz (by rw [show Nat.min 1 (n + 1 - i) = 1 by simp only [Nat.min_def]; split <;> omega]; omega)
        (fun j u hu => by rw [Addr.add_lit, hV1.cell, Nat.zero_add]; exact hu)
        (hB1.there _ _ (by rw [d3]; exact d4)) hc1
    have hov : ∀ lb cb, (callFunc 69 #[.slice (some ⟨vb, 0, none⟩) 1 vc, .slice (some ⟨g, (i + 1), none⟩) lb cb]).run Try.prog w = .ok (.value (.bool false)) w := fun lb cb => by
      rw [run_callFunc_extern Try.func69 (by kernel_rfl) (by kernel_rfl) (by kernel_rfl) (e := Extern.SlicesOverlaps.overlaps #[30, 30] #[4]) (by kernel_rfl),
        Lib.run_overlaps_apart w 30 4 9 Try.underlying30 1 (fun w => by simp [sizeOf, typeInfo, hi0, hz1]) ⟨vb, 0, none⟩ ⟨g, (i + 1), none⟩ 1 vc lb cb hgb tA 9 xc.length cur.toList.length (blk_shape hB) (blk_shape hBg) (by rw [hcul]; omega) (hB.frozen _) (hB.frozen _)]
      rfl
    have hE : Hid (InsPost 9 1 (.slice (some ⟨g, 0, none⟩) n cap) (n + 1) (xs.take (i) ++ xc ++ xs.drop (i)) w (.returned (.slice (some ⟨g, 0, none⟩) (n + 1) cap)) (W1.setCells g (i) xc)) := by
      have hF : Fr (fun x => x = g) w (W1.setCells g (i) xc) := by
        rw [hW1]
        exact ((Fr.refl (fun x => x = g) w).drew.setCells (.inl rfl) _ _).setCells (.inl rfl) _ _
      refine ⟨_, rfl, ⟨?_, .inr ⟨g, cap, (splice (splice cur.toList ((i + 1)) news) (i) xc).toArray, rfl, Nat.zero_le _, hB1.setCells xc _ (by rw [d3]; exact d4), hroom, hcm, by simp only [List.size_toArray]; rw [d5, hcul], ?_⟩⟩, ⟨hF.os, hF.tape, hF.output, hF.size, fun k hk hne => hF.block k hk (fun h => hne (by rw [h]; rfl))⟩, fun b hb => .inl hb⟩
      · simp only [List.length_append, List.length_take, List.length_drop, hz, hxl]; omega
      · show List.take _ (splice _ _ _) = _
        have hm1 : (n + 1) * 1 = (n + 1) := by first | rfl | exact Nat.mul_one _
        have hm2 : n * 1 = n := by first | rfl | exact Nat.mul_one _
        rw [hm1, d6]
        try rw [hm2] at htk
        rw [htk]
    have hin1 : (i : Int) ≤ (n : Int) + 1 := by omega
    have hb2 : ¬ (cap = i + 1) := by omega
    have hbl : (i : Int) + 1 ≤ (n : Int) + 1 := by omega
    clear hB1 hV1 hB hBg hg hown d1 d2 d3 d4 d5 d6 hnews hnx hW1 hx1 hc1 hz hxl htk hcs hcul
    go_enter Try.func47, Try.ntmps47
    go_wp2_with (simp only [hov])
    go_region_law_o (refine step_copy_run rfl _ _ 30 30 rfl _ _ (by simp [Act.eval, Act.put]) (by simp [Act.eval, Act.put]) (hcp1 _ _ _) ?_)
    go_wp2_with (at_builtin; refine wpList_copy_run _ rfl _ _ 30 30 rfl _ _ rfl rfl (hcp2 _ _) ?_)
    go_ret
    exact hE.out
  · -- a new row
    have hz3 : (cap : Int) < (n : Int) + 1 := by omega
    have hkk : (n : Int) + 1 - (i : Int) = ((n + 1 - i : Nat) : Int) := by omega
    have hik : i + (n + 1 - i) = n + 1 := by omega
    have hcx : ∀ j u, xs[j]? = some u → w.cell? ⟨g, j, none⟩ = some u := fun j u hu => by
      rw [hBg.cell]
      rw [← htk, List.getElem?_take] at hu
      split at hu
      · exact hu
      · cases hu
    have hold : (Builtin.firstCells i0.size i (.slice (some ⟨g, 0, none⟩) i cap)).run Try.prog w.drew = .ok (xs.take (i * 1)).toArray w.drew := by
      rw [hz1]
      exact run_firstCells_some w.drew 1 i ⟨g, 0, none⟩ i cap (xs.take (i * 1)) (by rw [List.length_take, hxl]; omega) (fun j u hj => by
        rw [Addr.add_lit, Nat.zero_add]
        rw [List.getElem?_take] at hj
        split at hj
        · exact hcx j u hj
        · cases hj)
    obtain ⟨G, hG⟩ : ∃ G, G = grownCap w (n + 1) cap 9 := ⟨_, rfl⟩
    obtain ⟨ROW, hROW⟩ : ∃ ROW : Array Value, ROW = (xs.take (i * 1)).toArray ++ Builtin.zeroCells (Value.string ⟨#[]⟩).cells (n + 1 - i) ++ Builtin.zeroCells (Value.string ⟨#[]⟩).cells (G - (n + 1)) := ⟨_, rfl⟩
    obtain ⟨W1, hW1⟩ : ∃ W1, W1 = w.drew.alloc (.cells ROW 9) := ⟨_, rfl⟩
    have hrz : ∀ ty, (Builtin.append_ #[30, 3] ty #[.slice (some ⟨g, 0, none⟩) i cap, .int .i64 ((n : Int) + 1 - (i : Int))]).run Try.prog w = .ok (.slice (some ⟨w.heap.size, 0, none⟩) (n + 1) G) W1 := fun ty => by
      have h := Lib.run_append_grow_zeros w 30 3 ty 9 i0 _ .i64 .i64 Try.underlying30 Try.underlying3 hi0 hz0 (some ⟨g, 0, none⟩) i cap (xs.take (i * 1)) hold (n + 1 - i) (by omega) (by omega) (by omega) (by omega) (by rw [hz2]; omega) (by rw [hz2, hik]; exact growslice_fits (by omega) (by omega))
      rw [hik, ← hG, ← hROW, ← hW1] at h
      rw [hkk]
      exact h
    have hGn : n + 1 ≤ G := by rw [hG]; exact grownCap_ge w _ _ _
    have hGm : G ≤ maxLen := by rw [hG]; exact grownCap_le_maxLen w (n + 1) cap 9 (by unfold maxLen; omega)
    have hzs : ((Value.string ⟨#[]⟩) : Value).cells.size = 1 := rfl
    have hRl : ROW.toList.length = G * 1 := by
      have hzc : ∀ q, (Builtin.zeroCells (Value.string ⟨#[]⟩).cells q).size = q * 1 := fun q => by simp [Builtin.zeroCells, hzs]
      rw [Array.length_toList, hROW, Array.size_append, Array.size_append, hzc, hzc, List.size_toArray, List.length_take, hxl, ← Nat.mul_one n, Nat.min_eq_left (Nat.mul_le_mul_right _ hi), ← Nat.add_mul, ← Nat.add_mul]
      congr 1
      omega
    have hRt : ROW.toList.take (i * 1) = xs.take (i * 1) := by
      rw [hROW]
      simp only [Array.toList_append, List.append_assoc]
      rw [List.take_left' (by rw [List.length_take, hxl]; omega)]
    obtain ⟨d1, d2, d3, d4, d5⟩ := ins_grow ROW.toList xs xc 1 n i hi (by rw [hxl]; exact (Nat.mul_one _).symm) (by rw [hRl]; exact Nat.mul_le_mul_right _ hGn) hRt hz
    simp only [Nat.mul_one] at d1 d2 d3 d4 d5
    have hBN : Blk W1 w.heap.size 9 ROW.toList := by rw [hW1]; exact Blk.new w.drew 9 ROW.toList
    have hVN : Blk W1 vb tA xc := by rw [hW1]; exact hB.drew.alloc _
    have hgl : g < w.heap.size := hBg.lt
    have hvl : vb < w.heap.size := hB.lt
    have hF1 : Fr (fun _ => False) w W1 := by rw [hW1]; exact (Fr.refl _ w).drew.alloc _
    have hX1 : ∀ j u, xs[j]? = some u → W1.cell? ⟨g, j, none⟩ = some u := fun j u hu => by
      rw [World.cell?_of_block (hF1.block g hgl (fun h => h))]; exact hcx j u hu
    obtain ⟨W2, hW2⟩ : ∃ W2, W2 = W1.setCells w.heap.size (i) xc := ⟨_, rfl⟩
    have hB2 : Blk W2 w.heap.size 9 (splice ROW.toList (i) xc) := by rw [hW2]; exact hBN.setCells xc _ d1
    have hX2 : ∀ j u, xs[j]? = some u → W2.cell? ⟨g, j, none⟩ = some u := fun j u hu => by
      rw [hW2, World.cell?_of_block (setCells_ne _ _ _ (show g ≠ w.heap.size by omega))]; exact hX1 j u hu
    have hcpA : ∀ ty dc, (Builtin.copy_ #[30, 30] ty #[.slice (some ⟨w.heap.size, i, none⟩) (n + 1 - i) dc, .slice (some ⟨vb, 0, none⟩) 1 vc]).run Try.prog W1 = .ok (goInt (Nat.min 1 (n + 1 - i))) W2 := fun ty dc => by
      rw [hW2]
      exact run_copy_rows W1 _ _ ty 9 _ _ _ dc ⟨vb, 0, none⟩ _ vc 1 xc Try.underlying30 hsz (by rw [show Nat.min 1 (n + 1 - i) = 1 by simp only [Nat.min_def]; split <;> omega]; omega)
        (fun j u hu => by rw [Addr.add_lit, hVN.cell, Nat.zero_add]; exact hu)
        (hBN.there _ _ d1) hc1
    have hcpB : ∀ ty dc sc, (Builtin.copy_ #[30, 30] ty #[.slice (some ⟨w.heap.size, (i + 1), none⟩) (n - i) dc, .slice (some ⟨g, i, none⟩) (n - i) sc]).run Try.prog W2.drew = .ok (goInt (Nat.min (n - i) (n - i))) (W2.drew.setCells w.heap.size ((i + 1)) (xs.drop (i))) := fun ty dc sc =>
      run_copy_rows W2.drew _ _ ty 9 _ _ _ dc ⟨g, i, none⟩ _ sc 1 (xs.drop (i)) Try.underlying30 hsz (by rw [show Nat.min (n - i) (n - i) = n - i by simp only [Nat.min_def]; split <;> omega, List.length_drop, hxl]; omega)
        (fun j u hu => by
          rw [Addr.add_lit]
          rw [List.getElem?_drop] at hu
          exact hX2 _ u hu)
        (hB2.drew.there _ _ (by rw [d2]; exact d3)) (fun u hu => hx1 u (List.mem_of_mem_drop hu))
    have hE : Hid (InsPost 9 1 (.slice (some ⟨g, 0, none⟩) n cap) (n + 1) (xs.take (i) ++ xc ++ xs.drop (i)) w (.returned (.slice (some ⟨w.heap.size, 0, none⟩) (n + 1) G)) (W2.drew.setCells w.heap.size ((i + 1)) (xs.drop (i)))) := by
      have hF : Fr (fun _ => False) w (W2.drew.setCells w.heap.size ((i + 1)) (xs.drop (i))) := by
        rw [hW2]
        exact (hF1.setCells (.inr (Nat.le_refl _)) _ _).drew.setCells (.inr (Nat.le_refl _)) _ _
      refine ⟨_, rfl, ⟨?_, .inr ⟨w.heap.size, G, (splice (splice ROW.toList (i) xc) ((i + 1)) (xs.drop (i))).toArray, rfl, Nat.zero_le _, hB2.drew.setCells _ _ (by rw [d2]; exact d3), hGn, hGm, by simp only [List.size_toArray]; rw [d4, hRl], ?_⟩⟩, ⟨hF.os, hF.tape, hF.output, hF.size, fun k hk hne => hF.block k hk (fun h => h)⟩, fun b hb => by cases hb; exact .inr (Nat.le_refl _)⟩
      · simp only [List.length_append, List.length_take, List.length_drop, hz, hxl]; omega
      · show List.take _ (splice _ _ _) = _
        have hm1 : (n + 1) * 1 = (n + 1) := by first | rfl | exact Nat.mul_one _
        rw [hm1, d5]
    have hGi : ¬ (G = i) := by omega
    have hGim : ¬ (G = i + 1) := by omega
    have hG63 : G ≤ 9223372036854775807 := by unfold maxLen at hGm; omega
    have hb3 : (i : Int) ≤ (n : Int) := by omega
    have hb4 : (i : Int) ≤ (n : Int) + 1 := by omega
    have hb5 : (i : Int) + 1 ≤ (n : Int) + 1 := by omega
    have hw3 : IntKind.i64.wrap ((n : Int) + 1 - (i : Int)) = (n : Int) + 1 - (i : Int) := by rw [IntKind.wrap_i64]; omega
    clear hB2 hX2 hX1 hVN hBN hB hBg hg hown d1 d2 d3 d4 d5 hROW hG hRl hRt hW1 hW2 hx1 hc1 hz hxl htk hcs hold hkk hik hcx hF1
    go_enter Try.func47, Try.ntmps47
    go_wp2_with (first
      | (at_builtin; refine Lib.wpList_append_run _ rfl _ _ _ _ rfl _ _ rfl rfl _ _ (hrz _) ?_)
      | (at_builtin; refine wpList_copy_run _ rfl _ _ 30 30 rfl _ _ rfl rfl (hcpA _ _) ?_))
    go_region_law_o (refine step_copy_run rfl _ _ 30 30 rfl _ _ (by simp [Act.eval, Act.put]) (by simp [Act.eval, Act.put]) (hcpB _ _ _) ?_)
    go_wp2
    go_ret
    exact hE.out
end Go.Proofs.Ytangnoicnogddaa.Tr
