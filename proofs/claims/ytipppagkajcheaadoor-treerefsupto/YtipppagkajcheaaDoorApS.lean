/- Appending texts onto a row of texts of the call's own. -/
import Derived.Test.YtipppagkajcheaaDoorApd
import Derived.Test.YtipppagkajcheaaDoorRpa
import Derived.Deep.AppendSrc
namespace Go.Proofs.YtipppagkajcheaaDoor.Tr
open Go.RowKit

/-- What an append onto a row of texts leaves. -/
structure ApS (w w' : World) (base : Nat) (v v' : Value) (n : Nat) (xs : List Value) : Prop where
  own : w'.ownsRow base 9 1 v' n xs
  grown : w.grownBy w' v.ownBlock
  row : v'.ownBlock = v.ownBlock ∨ v'.ownBlock = some w.heap.size

theorem run_append_srs {w : World} {tx ty : TypeId} {base : Nat} {v x : Value} {n m : Nat} {xs news : List Value} (hown : w.ownsRow base 9 1 v n xs) (hs : Go.Src Tryd.prog 1 tx x m news w) (hsz : n + m ≤ 8796093022207) (hbase : base ≤ w.heap.size) :
    ∃ v' w', (Builtin.append_ #[35, tx] ty #[v, x]).run Tryd.prog w = .ok v' w' ∧ ApS w w' base v v' (n + m) (xs ++ news) := by
  obtain ⟨i0, hi0, hz0, hz1, hz2⟩ := info_parts info9
  have hl := hs.newsLen
  rw [Nat.mul_one] at hl
  have hlen : (xs ++ news).length = (n + m) * 1 := by rw [List.length_append, hown.1, hl]; omega
  have h63 : n + m ≤ maxLen := by unfold maxLen; omega
  have hgrown : ∀ (old : Nat), old < n + m → ∀ (row : Option Nat),
      (w.drew.alloc (.cells ((xs ++ news).toArray ++ Builtin.zeroCells (Value.string ⟨#[]⟩).cells (grownCap w (n + m) old 9 - (n + m))) 9)).ownsRow base 9 1 (.slice (some ⟨w.heap.size, 0, none⟩) (n + m) (grownCap w (n + m) old 9)) (n + m) (xs ++ news) ∧
      w.grownBy (w.drew.alloc (.cells ((xs ++ news).toArray ++ Builtin.zeroCells (Value.string ⟨#[]⟩).cells (grownCap w (n + m) old 9 - (n + m))) 9)) row := by
    intro old ho row
    have hge := grownCap_ge w (n + m) old 9
    have hcm : grownCap w (n + m) old 9 ≤ maxLen := grownCap_le_maxLen w (n + m) old 9 h63
    refine ⟨⟨hlen, .inr ⟨w.heap.size, _, _, rfl, hbase, heap_alloc_new w.drew _, hge, hcm, ?_, ?_⟩⟩, ⟨rfl, rfl, rfl, by simp, fun k hk _ => heap_alloc_old w.drew _ hk⟩⟩
    · simp only [Array.size_append, List.size_toArray, size_zeroCells, hlen]
      have : (Value.string ⟨#[]⟩).cells.size = 1 := rfl
      rw [this]; omega
    · simp only [Array.toList_append]
      rw [← hlen]
      exact List.take_left
  have hnext : ∀ old, old < n + m → Builtin.nextslicecap (n + m) old * i0.bytes ≤ 281474976710656 := by
    intro old ho
    rw [hz2]
    have := nextslicecap_le ho
    omega
  rcases hown.2 with ⟨rfl, rfl⟩ | ⟨g, cap, cur, rfl, hbg, hg, hnc, hcm, hcs, htake⟩
  · have hx : xs = [] := List.eq_nil_of_length_eq_zero (by simpa using hown.1)
    subst hx
    by_cases hm : m = 0
    · subst hm
      have hn : news = [] := List.eq_nil_of_length_eq_zero (by simpa using hl)
      subst hn
      refine ⟨.slice none 0 0, w, ?_, World.ownsRow_nil w base 9 1, ⟨rfl, rfl, rfl, Nat.le_refl _, fun _ _ _ => rfl⟩, Or.inl rfl⟩
      have hc := hs.cells
      rcases hs.kind with ⟨e', hk⟩ | hk <;> simp [Builtin.append_, run_underlying Tryd.underlying35, run_underlying hk, sizeOf, typeInfo, hi0, hs.len, hz1, hc]
    · have hr := run_append_grow_src (P := Tryd.prog) w 35 tx ty 9 i0 (.string ⟨#[]⟩) Tryd.underlying35 hi0 hz0 none 0 0 [] (by simp [Builtin.firstCells]) x m news (by rw [hz1]; exact hs) (by omega) (by unfold maxLen at h63; omega) (hnext 0 (by omega))
      exact ⟨_, _, hr, (hgrown 0 (by omega) none).1, (hgrown 0 (by omega) _).2, Or.inr rfl⟩
  · have hB : Blk w g 9 cur.toList := by unfold Blk; rw [hg]
    by_cases hroom : n + m ≤ cap
    · have hfit : n + news.length ≤ cur.toList.length := by rw [hl, Array.length_toList, hcs]; omega
      have hr := run_append_room_src (P := Tryd.prog) w 35 tx ty 9 i0 Tryd.underlying35 hi0 g 0 n cap x m news (by rw [hz1]; exact hs) hroom
        (fun j hj => by rw [hz1, hB.cell]; rw [List.getElem?_eq_getElem (by omega)]; rfl) (fun j hj => hB.frozen _)
      rw [hz1] at hr
      simp only [Nat.zero_add, Nat.mul_one] at hr
      have hB' := Blk.setCells news n hB hfit
      obtain ⟨m1, m2, m3, m4⟩ := setCells_misc g news n w
      refine ⟨_, _, hr, ⟨hlen, .inr ⟨g, cap, _, rfl, hbg, hB', hroom, hcm, ?_, ?_⟩⟩, ⟨m1, m2, m3, by omega, fun k _ hk => Tr.setCells_ne news n w (fun e => hk (by rw [e]; rfl))⟩, Or.inl rfl⟩
      · simp [splice, Array.length_toList] at hfit ⊢; omega
      · simp only [splice, Nat.mul_one]
        have e1 : cur.toList.take n = xs := by simpa using htake
        have e2 : n + m = (xs ++ news).length := by rw [hlen]; omega
        rw [e1, e2, ← List.append_assoc]
        exact List.take_left
    · have hr := run_append_grow_src (P := Tryd.prog) w 35 tx ty 9 i0 (.string ⟨#[]⟩) Tryd.underlying35 hi0 hz0 (some ⟨g, 0, none⟩) n cap xs
        (by rw [hz1]; exact run_firstCells_some w.drew 1 n ⟨g, 0, none⟩ n cap xs (by simpa using hown.1) (fun j u hu => by
          rw [Addr.add_mid, Nat.zero_add]
          have e1 : cur.toList.take n = xs := by simpa using htake
          have := hB.drew.cell j
          rw [this, ← hu, ← e1, List.getElem?_take]
          have hjn : j < n := by
            have := (List.getElem?_eq_some_iff.1 hu).1
            have h2 := hown.1
            omega
          rw [if_pos hjn])) x m news (by rw [hz1]; exact hs) (by omega) (by unfold maxLen at h63; omega) (hnext cap (by omega))
      exact ⟨_, _, hr, (hgrown cap (by omega) none).1, (hgrown cap (by omega) _).2, Or.inr rfl⟩

theorem strs_one (L : List (List UInt8)) : ∀ u ∈ strs L, u.oneCell' = true := by
  intro u hu
  simp only [strs, List.mem_map] at hu
  obtain ⟨x, _, rfl⟩ := hu
  rfl
/-- Texts in a slice. -/
def Sts (w : World) (ad : Option Addr) (S : List (List UInt8)) : Prop := S ≠ [] → ∃ bb bo, ad = some ⟨bb, bo, none⟩ ∧ w.rangeAt bb bo (strs S)
theorem Sts.at {w : World} {ad : Option Addr} {S : List (List UInt8)} (h : Sts w ad S) (i : Nat) (hi : i < S.length) : ∃ bb bo, ad = some ⟨bb, bo, none⟩ ∧ w.cell? ⟨bb, bo + i, none⟩ = some (.string ⟨S[i].toArray⟩) := by
  obtain ⟨bb, bo, e, hr⟩ := h (fun e => by simp [e] at hi)
  exact ⟨bb, bo, e, hr i _ (by simp [strs, hi])⟩
theorem Sts.fr {w w' : World} {ad : Option Addr} {S : List (List UInt8)} (h : Sts w ad S) (f : Fr (fun _ => False) w w') : Sts w' ad S := fun hne => by
  obtain ⟨bb, bo, e, hr⟩ := h hne
  refine ⟨bb, bo, e, fun j v hv => ?_⟩
  have hc := hr j v hv
  have hlt := World.block_lt_of_cell? w ⟨bb, bo + j, none⟩ hc
  rw [World.cell?_of_block (w := w) (f.block bb hlt (fun h => h))]
  exact hc
theorem Sts.take {w : World} {ad : Option Addr} {S : List (List UInt8)} (h : Sts w ad S) (n : Nat) : Sts w ad (S.take n) := fun hne => by
  obtain ⟨bb, bo, e, hr⟩ := h (fun e => hne (by simp [e]))
  refine ⟨bb, bo, e, fun j v hv => hr j v ?_⟩
  simp only [strs, List.getElem?_map, List.getElem?_take] at hv ⊢
  split at hv
  · exact hv
  · cases hv
theorem Sts.drop {w : World} {bb bo : Nat} {S : List (List UInt8)} (h : Sts w (some ⟨bb, bo, none⟩) S) (n : Nat) : Sts w (some ⟨bb, bo + n, none⟩) (S.drop n) := fun hne => by
  obtain ⟨bb', bo', e, hr⟩ := h (fun e => hne (by simp [e]))
  cases e
  refine ⟨bb, bo + n, rfl, fun j v hv => ?_⟩
  have := hr (n + j) v (by rw [← hv]; simp [strs, List.getElem?_drop])
  rw [← Nat.add_assoc] at this
  exact this
theorem sts_own {w : World} {B n cap : Nat} {ad : Option Addr} {S : List (List UInt8)} (h : w.ownsRow B 9 1 (.slice ad n cap) S.length (strs S)) : Sts w ad S := fun hne => by
  have hp : 0 < S.length := List.length_pos_iff.2 hne
  rcases h.2 with ⟨_, h0⟩ | ⟨g, cap', cur, h0, _, hg, _, _, _, ht⟩
  · omega
  · cases h0
    refine ⟨g, 0, rfl, fun j u hu => ?_⟩
    rw [Nat.zero_add, cell_of_row w g j cur 9 (0, 0) hg]
    rw [← ht, List.getElem?_take] at hu
    split at hu
    · simpa using hu
    · cases hu
theorem srcSts {w : World} {ad : Option Addr} {S : List (List UInt8)} (h : Sts w ad S) (cap : Nat) : Go.Src Tryd.prog 1 35 (.slice ad S.length cap) S.length (strs S) w := by
  by_cases hb : S = []
  · subst hb
    cases ad with
    | none => exact Go.Src.ofNil (P := Tryd.prog) w Tryd.underlying35 cap
    | some a => exact Go.Src.ofSlice (P := Tryd.prog) w Tryd.underlying35 a 0 cap [] rfl (fun j u hu => by simp at hu) (fun u hu => by cases hu)
  · obtain ⟨bb, bo, rfl, hr⟩ := h hb
    exact Go.Src.ofSlice (P := Tryd.prog) w Tryd.underlying35 ⟨bb, bo, none⟩ S.length cap (strs S) (by rw [strs_length]; omega) (fun j u hu => by rw [Addr.add_mid]; exact hr j u hu) (strs_one S)
theorem step_append_srs {ops : Array Oper} {o : Oper} {a : Act} {K : Act → World → Prop} {Q : Exit → Act → World → Prop} {E : Prop} {w : World} (hgd : o.guard = none) (d s : Operand)
    (ho : o.op = .call { callee := .builtin .append, args := #[d, s], argTypes := #[35, 35] }) (base n m : Nat) (v x : Value) (xs news : List Value)
    (hd : a.eval d = v) (hx : a.eval s = x) (hown : w.ownsRow base 9 1 v n xs) (hs : Go.Src Tryd.prog 1 35 x m news w) (hsz : n + m ≤ 8796093022207) (hbase : base ≤ w.heap.size)
    (h : ∀ v' w', ApS w w' base v v' (n + m) (xs ++ news) → K (a.put o.dst v') w') : if Region.wanted o (yielded ops a.tmps) = true then Oper.wp Tryd.prog o a w K Q else E := by
  have hw : Region.wanted o (yielded ops a.tmps) = true := by simp [Region.wanted, hgd]
  rw [if_pos hw]
  obtain ⟨v', w', hr, h2⟩ := run_append_srs (ty := o.type) hown hs hsz hbase
  unfold Oper.wp execOp
  simp only [ho, resolve, invoke, builtin, Sem.run_bind, Sem.run_pure, Result.andThen_ok, List.map_toArray, List.map_cons, List.map_nil, hd, hx, hr]
  exact h v' w' h2

end Go.Proofs.YtipppagkajcheaaDoor.Tr
