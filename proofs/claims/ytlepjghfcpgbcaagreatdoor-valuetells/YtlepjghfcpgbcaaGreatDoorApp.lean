/- Appending bytes, a string's or a slice's, onto a row of bytes of the call's own; bytes as strings. -/
import Derived.Test.YtlepjghfcpgbcaaGreatDoorFla
import Derived.Deep.AppendSrc
import Derived.Lib.SlBytesConst
namespace Go.Proofs.YtlepjghfcpgbcaaGreatDoor.Tr
open Go.RowKit

theorem bs_at (l : List UInt8) (j : Nat) (h : j < l.length) : (bs l)[j]? = some (bv l[j]) := by
  unfold bs; rw [List.getElem?_map, List.getElem?_eq_getElem h]; rfl

theorem own_len {B : Nat} {w : World} {e : TypeId} {s : Nat} {v : Value} {n : Nat} {xs : List Value} (h : w.ownsRow B e s v n xs) : ∃ a cap, v = .slice a n cap := by
  rcases h.2 with ⟨h0, h1⟩ | ⟨g, cap, _, hv, _⟩
  · exact ⟨none, 0, by rw [h0, h1]⟩
  · exact ⟨_, cap, hv⟩


theorem info5 : (Tryz.prog.info? 5).map (fun i => (i.zero, i.size, i.bytes)) = some (some (.int .u8 0), 1, 1) := by kernel_rfl

/-- 'append(v, s...)' of bytes that may be none, onto a row of the call's own. -/
theorem wpList_append_bytes {ops : Array Oper} {rest : List Oper} {o : Oper} {a : Act} {W : World} {Q : Exit → Act → World → Prop} (hgd : o.guard = none) (d s : Operand)
    (ho : o.op = .call { callee := .builtin .append, args := #[d, s], argTypes := #[66, 66] }) (base n : Nat) (v : Value) (xs : List Value) (b : List UInt8) (ad : Option Addr) (cap : Nat)
    (hd : a.eval d = v) (hs : a.eval s = .slice ad b.length cap) (hown : W.ownsRow base 5 1 v n xs) (hbase : base ≤ W.heap.size) (hsz : n + b.length ≤ 140737488355328)
    (hsrc : b ≠ [] → ∃ bb bo, ad = some ⟨bb, bo, none⟩ ∧ W.rangeAt bb bo (bs b))
    (h : ∀ v' W', W'.ownsRow base 5 1 v' (n + b.length) (xs ++ bs b) → W.grownBy W' v.ownBlock → wpList Tryz.prog ops Q rest (a.put o.dst v') W') : wpList Tryz.prog ops Q (o :: rest) a W := by
  obtain ⟨i0, hi0, hz0, hz1, hz2⟩ := info_parts info5
  by_cases hb : b = []
  · subst hb
    have hl : ∀ (x : Addr), (loadCells x 0).run Tryz.prog W = .ok #[] W := fun x => by simpa using run_loadCells_list (P := Tryz.prog) W x [] (by simp)
    have hrun : (Builtin.append_ #[66, 66] o.type #[v, .slice ad 0 cap]).run Tryz.prog W = .ok v W := by
      rcases hown.2 with ⟨rfl, rfl⟩ | ⟨g, cap', cur, rfl, _, _, hnc, _⟩
      · cases ad <;> simp [Builtin.append_, run_underlying Tryz.underlying66, sizeOf, typeInfo, hi0, Builtin.lenOf, Builtin.firstCells, hl]
      · cases ad <;> simp [Builtin.append_, run_underlying Tryz.underlying66, sizeOf, typeInfo, hi0, Builtin.lenOf, Builtin.firstCells, hnc, storeCells, hl]
    refine wpList_plain hgd fun K hK => ?_
    unfold Oper.wp
    simp only [List.length_nil] at hs
    simp [execOp, ho, resolve, invoke, builtin, hd, hs, hrun, Result.andThen]
    exact hK _ _ (h v W (by simpa [bs] using hown) ⟨rfl, rfl, rfl, Nat.le_refl _, fun _ _ _ => rfl⟩)
  · obtain ⟨bb, bo, rfl, hr⟩ := hsrc hb
    have hpos : 0 < b.length := List.length_pos_iff.2 hb
    refine wpList_append_lies W hgd d s 66 ho base 5 i0 _ 1 1 Tryz.underlying66 hi0 hz0 hz1 hz2 rfl (by omega) v n xs hd hown ⟨bb, bo, none⟩ b.length cap (bs b) hs (by rw [bs_length]; omega) (fun j u hu => by rw [Addr.add_mid]; exact hr j u hu) (bs_one b) hpos (by unfold maxLen; omega) (by omega) hbase _ rfl ?_
    intro g cap' W' h1 h2 _ _
    exact h _ _ h1 h2

theorem owned_range {w : World} {base n : Nat} {v : Value} {b : List UInt8} (h : w.ownsRow base 5 1 v n (bs b)) (hb : b ≠ []) : ∃ g cap, v = .slice (some ⟨g, 0, none⟩) b.length cap ∧ base ≤ g ∧ g < w.heap.size ∧ w.rangeAt g 0 (bs b) := by
  have hl : b.length = n := by have := h.1; rw [bs_length] at this; omega
  subst hl
  obtain ⟨g, cap, rfl, h1, h2⟩ := h.form (List.length_pos_iff.2 hb)
  refine ⟨g, cap, rfl, h1, h2, fun j u hu => ?_⟩
  have := h.cells rfl j u hu
  rw [Addr.add_mid] at this
  exact this
theorem owned_form {w : World} {base n : Nat} {v : Value} {b : List UInt8} (h : w.ownsRow base 5 1 v n (bs b)) : ∃ ad cap, v = .slice ad b.length cap := by
  have hl : b.length = n := by have := h.1; rw [bs_length] at this; omega
  subst hl
  exact own_len h

/-- A row of the call's own, which has something. -/
theorem owned_src {w : World} {base n : Nat} {v : Value} {b : List UInt8} (h : w.ownsRow base 5 1 v n (bs b)) (hb : b ≠ []) :
    ∃ g cap cur, v = .slice (some ⟨g, 0, none⟩) b.length cap ∧ base ≤ g ∧ b.length ≤ cap ∧ cap ≤ maxLen ∧ w.heap[g]? = some (.cells cur 5 (0, 0)) ∧ cur.size = cap ∧ w.rangeAt g 0 (bs b) := by
  have hl : b.length = n := by have := h.1; rw [bs_length] at this; omega
  subst hl
  obtain ⟨g', cap', e', h1, h2, hr⟩ := owned_range h hb
  rcases h.2 with ⟨h0, h00⟩ | ⟨g, cap, cur, hv, hg, hc, hle, hm, hs, ht⟩
  · exact absurd (List.length_eq_zero_iff.1 h00) hb
  · rw [hv] at e'
    simp only [Value.slice.injEq, Option.some.injEq, Addr.mk.injEq] at e'
    obtain ⟨⟨rfl, _⟩, _, rfl⟩ := e'
    exact ⟨g, cap, cur, hv, hg, hle, hm, hc, by omega, hr⟩

theorem conv_bytes {w : World} {ad : Option Addr} {b : List UInt8} (h : Src w ad b) (cap : Nat) : (convert 66 9 (.slice ad b.length cap)).run Tryz.prog w = .ok (.string ⟨b.toArray⟩) w := by
  by_cases hb : b = []
  · subst hb
    cases ad with
    | none =>
      rw [run_convert_bytes_string w 66 9 5 none _ cap Tryz.underlying66 Tryz.underlying5 Tryz.underlying9]
      simp [Conv.bytesToString]
      rfl
    | some a => exact run_convert_bytes_back (P := Tryz.prog) w 66 9 5 a cap [] Tryz.underlying66 Tryz.underlying5 Tryz.underlying9 (fun j hj => by simp at hj)
  · obtain ⟨bb, bo, rfl, hr⟩ := h hb
    exact run_convert_bytes_back (P := Tryz.prog) w 66 9 5 ⟨bb, bo, none⟩ cap b Tryz.underlying66 Tryz.underlying5 Tryz.underlying9 (fun j hj => by
      rw [Addr.add_mid]; exact hr j _ (bs_at b j hj))

theorem src_own {w : World} {B n cap : Nat} {ad : Option Addr} {b : List UInt8} (h : w.ownsRow B 5 1 (.slice ad n cap) b.length (bs b)) : Src w ad b := fun hb => by
  obtain ⟨g, cap', hv, _, _, hr⟩ := owned_range h hb
  cases hv
  exact ⟨g, 0, rfl, hr⟩


/-- What an append onto a row of bytes leaves. -/
structure Apd (w w' : World) (base : Nat) (v v' : Value) (n : Nat) (xs : List Value) : Prop where
  own : w'.ownsRow base 5 1 v' n xs
  grown : w.grownBy w' v.ownBlock
  row : v'.ownBlock = v.ownBlock ∨ v'.ownBlock = some w.heap.size

theorem run_append_src {w : World} {tx ty : TypeId} {base : Nat} {v x : Value} {n m : Nat} {xs news : List Value} (hown : w.ownsRow base 5 1 v n xs) (hs : Go.Src Tryz.prog 1 tx x m news w) (hsz : n + m ≤ 140737488355328) (hbase : base ≤ w.heap.size) :
    ∃ v' w', (Builtin.append_ #[66, tx] ty #[v, x]).run Tryz.prog w = .ok v' w' ∧ Apd w w' base v v' (n + m) (xs ++ news) := by
  obtain ⟨i0, hi0, hz0, hz1, hz2⟩ := info_parts info5
  have hl := hs.newsLen
  rw [Nat.mul_one] at hl
  have hlen : (xs ++ news).length = (n + m) * 1 := by rw [List.length_append, hown.1, hl]; omega
  have h63 : n + m ≤ maxLen := by unfold maxLen; omega
  have hgrown : ∀ (old : Nat), old < n + m → ∀ (row : Option Nat),
      (w.drew.alloc (.cells ((xs ++ news).toArray ++ Builtin.zeroCells (Value.int .u8 0).cells (grownCap w (n + m) old 5 - (n + m))) 5)).ownsRow base 5 1 (.slice (some ⟨w.heap.size, 0, none⟩) (n + m) (grownCap w (n + m) old 5)) (n + m) (xs ++ news) ∧
      w.grownBy (w.drew.alloc (.cells ((xs ++ news).toArray ++ Builtin.zeroCells (Value.int .u8 0).cells (grownCap w (n + m) old 5 - (n + m))) 5)) row := by
    intro old ho row
    have hge := grownCap_ge w (n + m) old 5
    have hcm : grownCap w (n + m) old 5 ≤ maxLen := grownCap_le_maxLen w (n + m) old 5 h63
    refine ⟨⟨hlen, .inr ⟨w.heap.size, _, _, rfl, hbase, heap_alloc_new w.drew _, hge, hcm, ?_, ?_⟩⟩, ⟨rfl, rfl, rfl, by simp, fun k hk _ => heap_alloc_old w.drew _ hk⟩⟩
    · simp only [Array.size_append, List.size_toArray, size_zeroCells, hlen]
      have : (Value.int .u8 0).cells.size = 1 := rfl
      rw [this]; omega
    · simp only [Array.toList_append]
      rw [← hlen]
      exact List.take_left
  have hnext : ∀ old, old < n + m → Builtin.nextslicecap (n + m) old * i0.bytes ≤ 281474976710656 := by
    intro old ho
    rw [hz2, Nat.mul_one]
    have := nextslicecap_le ho
    omega
  rcases hown.2 with ⟨rfl, rfl⟩ | ⟨g, cap, cur, rfl, hbg, hg, hnc, hcm, hcs, htake⟩
  · have hx : xs = [] := List.eq_nil_of_length_eq_zero (by simpa using hown.1)
    subst hx
    by_cases hm : m = 0
    · subst hm
      have hn : news = [] := List.eq_nil_of_length_eq_zero (by simpa using hl)
      subst hn
      refine ⟨.slice none 0 0, w, ?_, World.ownsRow_nil w base 5 1, ⟨rfl, rfl, rfl, Nat.le_refl _, fun _ _ _ => rfl⟩, Or.inl rfl⟩
      have hc := hs.cells
      rcases hs.kind with ⟨e', hk⟩ | hk <;> simp [Builtin.append_, run_underlying Tryz.underlying66, run_underlying hk, sizeOf, typeInfo, hi0, hs.len, hz1, hc]
    · have hr := run_append_grow_src (P := Tryz.prog) w 66 tx ty 5 i0 (.int .u8 0) Tryz.underlying66 hi0 hz0 none 0 0 [] (by simp [Builtin.firstCells]) x m news (by rw [hz1]; exact hs) (by omega) (by unfold maxLen at h63; omega) (hnext 0 (by omega))
      exact ⟨_, _, hr, (hgrown 0 (by omega) none).1, (hgrown 0 (by omega) _).2, Or.inr rfl⟩
  · have hB : Blk w g 5 cur.toList := by unfold Blk; rw [hg]
    by_cases hroom : n + m ≤ cap
    · have hfit : n + news.length ≤ cur.toList.length := by rw [hl, Array.length_toList, hcs]; omega
      have hr := run_append_room_src (P := Tryz.prog) w 66 tx ty 5 i0 Tryz.underlying66 hi0 g 0 n cap x m news (by rw [hz1]; exact hs) hroom
        (fun j hj => by rw [hz1, hB.cell]; rw [List.getElem?_eq_getElem (by omega)]; rfl) (fun j hj => hB.frozen _)
      rw [hz1] at hr
      simp only [Nat.zero_add, Nat.mul_one] at hr
      have hB' := Blk.setCells news n hB hfit
      obtain ⟨m1, m2, m3, m4⟩ := setCells_misc g news n w
      refine ⟨_, _, hr, ⟨hlen, .inr ⟨g, cap, _, rfl, hbg, hB', hroom, hcm, ?_, ?_⟩⟩, ⟨m1, m2, m3, by omega, fun k _ hk => Tr.setCells_ne news n w (fun e => hk (by rw [e]; rfl))⟩, Or.inl rfl⟩
      · simp [splice, Array.length_toList] at hfit ⊢; omega
      · simp only [splice, Nat.mul_one]
        have e1 : cur.toList.take n = xs := by simpa using htake
        have e2 : n + m = (xs ++ news).length := by rw [hlen]; omega
        rw [e1, e2, ← List.append_assoc]
        exact List.take_left
    · have hr := run_append_grow_src (P := Tryz.prog) w 66 tx ty 5 i0 (.int .u8 0) Tryz.underlying66 hi0 hz0 (some ⟨g, 0, none⟩) n cap xs
        (by rw [hz1]; exact run_firstCells_some w.drew 1 n ⟨g, 0, none⟩ n cap xs (by simpa using hown.1) (fun j u hu => by
          rw [Addr.add_mid, Nat.zero_add]
          have e1 : cur.toList.take n = xs := by simpa using htake
          have := hB.drew.cell j
          rw [this, ← hu, ← e1, List.getElem?_take]
          have hjn : j < n := by
            have := (List.getElem?_eq_some_iff.1 hu).1
            have h2 := hown.1
            omega
          rw [if_pos hjn])) x m news (by rw [hz1]; exact hs) (by omega) (by unfold maxLen at h63; omega) (hnext cap (by omega))
      exact ⟨_, _, hr, (hgrown cap (by omega) none).1, (hgrown cap (by omega) _).2, Or.inr rfl⟩

theorem srcStr (w : World) (s : List UInt8) : Go.Src Tryz.prog 1 9 (.string ⟨s.toArray⟩) s.length (bs s) w := by
  have := Go.Src.ofString (P := Tryz.prog) w Tryz.underlying9 ⟨s.toArray⟩
  have e1 : (ByteArray.mk s.toArray).size = s.length := rfl
  rw [e1] at this
  exact this
theorem srcBytes {w : World} {ad : Option Addr} {b : List UInt8} (h : Src w ad b) (cap : Nat) : Go.Src Tryz.prog 1 66 (.slice ad b.length cap) b.length (bs b) w := by
  by_cases hb : b = []
  · subst hb
    cases ad with
    | none => exact Go.Src.ofNil (P := Tryz.prog) w Tryz.underlying66 cap
    | some a => exact Go.Src.ofSlice (P := Tryz.prog) w Tryz.underlying66 a 0 cap [] rfl (fun j u hu => by simp at hu) (fun u hu => by cases hu)
  · obtain ⟨bb, bo, rfl, hr⟩ := h hb
    exact Go.Src.ofSlice (P := Tryz.prog) w Tryz.underlying66 ⟨bb, bo, none⟩ b.length cap (bs b) (by rw [bs_length]; omega) (fun j u hu => by rw [Addr.add_mid]; exact hr j u hu) (bs_one b)

/-- At the operation. -/
theorem wp_append_src {o : Oper} {a : Act} {K : Act → World → Prop} {Q : Exit → Act → World → Prop} {w : World} (d s : Operand) (tx : TypeId)
    (ho : o.op = .call { callee := .builtin .append, args := #[d, s], argTypes := #[66, tx] }) (base n m : Nat) (v x : Value) (xs news : List Value)
    (hd : a.eval d = v) (hx : a.eval s = x) (hown : w.ownsRow base 5 1 v n xs) (hs : Go.Src Tryz.prog 1 tx x m news w) (hsz : n + m ≤ 140737488355328) (hbase : base ≤ w.heap.size)
    (h : ∀ v' w', Apd w w' base v v' (n + m) (xs ++ news) → K (a.put o.dst v') w') : o.wp Tryz.prog a w K Q := by
  obtain ⟨v', w', hr, h2⟩ := run_append_src (ty := o.type) hown hs hsz hbase
  unfold Oper.wp execOp
  simp only [ho, resolve, invoke, builtin, Sem.run_bind, Sem.run_pure, Result.andThen_ok, List.map_toArray, List.map_cons, List.map_nil, hd, hx, hr]
  exact h v' w' h2
/-- At the list of a plain region's operations. -/
theorem wpList_append_src {ops : Array Oper} {rest : List Oper} {o : Oper} {a : Act} {Q : Exit → Act → World → Prop} {w : World} (hgd : o.guard = none) (d s : Operand) (tx : TypeId)
    (ho : o.op = .call { callee := .builtin .append, args := #[d, s], argTypes := #[66, tx] }) (base n m : Nat) (v x : Value) (xs news : List Value)
    (hd : a.eval d = v) (hx : a.eval s = x) (hown : w.ownsRow base 5 1 v n xs) (hs : Go.Src Tryz.prog 1 tx x m news w) (hsz : n + m ≤ 140737488355328) (hbase : base ≤ w.heap.size)
    (h : ∀ v' w', Apd w w' base v v' (n + m) (xs ++ news) → wpList Tryz.prog ops Q rest (a.put o.dst v') w') : wpList Tryz.prog ops Q (o :: rest) a w :=
  wpList_plain hgd fun _ hK => wp_append_src d s tx ho base n m v x xs news hd hx hown hs hsz hbase (fun v' w' h2 => hK _ _ (h v' w' h2))


end Go.Proofs.YtlepjghfcpgbcaaGreatDoor.Tr
