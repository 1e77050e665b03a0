/- The contract of 'sector': the bytes that an op writes. -/
import Derived.Test.YtdempopelalafaaImage
import Derived.Test.YtdempopelalafaaArgs
namespace Go.Proofs.Ytdempopelalafaa.Dk
open Go.RowKit

def OpR.val (x : OpR) : Value := .agg #[.int .i64 x.kind, .int .i64 x.a, .slice x.ad x.bytes.length x.cap, .int .u8 x.c, .bool x.fit, .int .u64 (x.keep : Int)]
/-- The bytes that an op writes. -/
def OpR.sec (x : OpR) : List UInt8 := if x.fit then splice (fullB x.c) 0 (x.bytes.take 128) else x.bytes

/-- 'copy' into the row of 128 bytes that was made last. -/
theorem wpList_copyF {ops : Array Oper} {rest : List Oper} {o : Oper} {a : Act} {W : World} {Q : Exit → Act → World → Prop} (hgd : o.guard = none) (d s : Operand)
    (ho : o.op = .call { callee := .builtin .copy, args := #[d, s], argTypes := #[28, 28] }) (f b : List UInt8) (hf : f.length = 128)
    (ad : Option Addr) (cap Hn : Nat) (hH : W.heap.size = Hn) (hd : a.eval d = .slice (some ⟨Hn, 0, none⟩) 128 128) (hs : a.eval s = .slice ad b.length cap)
    (hsrc : b ≠ [] → ∃ bb bo, ad = some ⟨bb, bo, none⟩ ∧ W.rangeAt bb bo (bs b))
    (h : wpList Try.prog ops Q rest (a.put o.dst (goInt (Nat.min b.length 128))) (W.alloc (.cells (bs (splice f 0 (b.take 128))).toArray 5))) : wpList Try.prog ops Q (o :: rest) a (W.alloc (.cells (bs f).toArray 5)) := by
  subst hH
  by_cases hb : b = []
  · subst hb
    refine wpList_copy_nothing hgd d s 28 28 ho 5 Try.underlying28 (by kernel_rfl) _ _ 128 128 0 cap hd hs rfl ?_
    have e : splice f 0 (([] : List UInt8).take 128) = f := by simp [splice]
    rw [e] at h
    exact h
  · obtain ⟨bb, bo, rfl, hr⟩ := hsrc hb
    have hl : (bs (b.take 128)).length = Nat.min b.length 128 := by rw [bs_length, List.length_take]; exact Nat.min_comm _ _
    have hB := Blk.new W 5 (bs f)
    refine wpList_copy_own hgd d s 28 28 ho 5 Try.underlying28 (by kernel_rfl) W.heap.size 0 128 128 ⟨bb, bo, none⟩ b.length cap hd hs (bs f).toArray 5 hB (bs (b.take 128)) hl (fun j v hv => ?_) ?_ (bs_one _) ?_
    · rw [Addr.add_mid]
      refine World.rangeAt_alloc hr _ j v ?_
      have hj := (List.getElem?_eq_some_iff.1 hv).1
      rw [bs_length, List.length_take] at hj
      rw [← hv]
      simp only [bs, List.getElem?_map]
      rw [List.getElem?_take_of_lt (by omega)]
    · rw [hl]
      have : Nat.min b.length 128 ≤ 128 := Nat.min_le_right _ _
      simp [bs_length, hf]; omega
    · have e : ((bs f).toArray.toList.take 0 ++ (bs (b.take 128) ++ (bs f).toArray.toList.drop (0 + (bs (b.take 128)).length))).toArray = (bs (splice f 0 (b.take 128))).toArray := by
        rw [← bs_splice]; simp [splice]
      rw [e, World.setRow_alloc_new, hl]
      exact h

/-- 'append(v, s...)' of bytes that may be none, onto a row of the call's own. -/
theorem wpList_append_bytes {ops : Array Oper} {rest : List Oper} {o : Oper} {a : Act} {W : World} {Q : Exit → Act → World → Prop} (hgd : o.guard = none) (d s : Operand)
    (ho : o.op = .call { callee := .builtin .append, args := #[d, s], argTypes := #[28, 28] }) (base n : Nat) (v : Value) (xs : List Value) (b : List UInt8) (ad : Option Addr) (cap : Nat)
    (hd : a.eval d = v) (hs : a.eval s = .slice ad b.length cap) (hown : W.ownsRow base 5 1 v n xs) (hbase : base ≤ W.heap.size) (hsz : n + b.length ≤ 140737488355328)
    (hsrc : b ≠ [] → ∃ bb bo, ad = some ⟨bb, bo, none⟩ ∧ W.rangeAt bb bo (bs b))
    (h : ∀ v' W', W'.ownsRow base 5 1 v' (n + b.length) (xs ++ bs b) → W.grownBy W' v.ownBlock → wpList Try.prog ops Q rest (a.put o.dst v') W') : wpList Try.prog ops Q (o :: rest) a W := by
  obtain ⟨i0, hi0, hz0, hz1, hz2⟩ := info_parts info5
  by_cases hb : b = []
  · subst hb
    have hl : ∀ (x : Addr), (loadCells x 0).run Try.prog W = .ok #[] W := fun x => by simpa using run_loadCells_list (P := Try.prog) W x [] (by simp)
    have hrun : (Builtin.append_ #[28, 28] o.type #[v, .slice ad 0 cap]).run Try.prog W = .ok v W := by
      rcases hown.2 with ⟨rfl, rfl⟩ | ⟨g, cap', cur, rfl, _, _, hnc, _⟩
      · cases ad <;> simp [Builtin.append_, run_underlying Try.underlying28, sizeOf, typeInfo, hi0, Builtin.lenOf, Builtin.firstCells, hl]
      · cases ad <;> simp [Builtin.append_, run_underlying Try.underlying28, sizeOf, typeInfo, hi0, Builtin.lenOf, Builtin.firstCells, hnc, storeCells, hl]
    refine wpList_plain hgd fun K hK => ?_
    unfold Oper.wp
    simp only [List.length_nil] at hs
    simp [execOp, ho, resolve, invoke, builtin, hd, hs, hrun, Result.andThen]
    exact hK _ _ (h v W (by simpa [bs] using hown) ⟨rfl, rfl, rfl, Nat.le_refl _, fun _ _ _ => rfl⟩)
  · obtain ⟨bb, bo, rfl, hr⟩ := hsrc hb
    have hpos : 0 < b.length := List.length_pos_iff.2 hb
    refine wpList_append_lies W hgd d s 28 ho base 5 i0 _ 1 1 Try.underlying28 hi0 hz0 hz1 hz2 rfl (by omega) v n xs hd hown ⟨bb, bo, none⟩ b.length cap (bs b) hs (by rw [bs_length]; omega) (fun j u hu => by rw [Addr.add_mid]; exact hr j u hu) (bs_one b) hpos (by unfold maxLen; omega) (by omega) hbase _ rfl ?_
    intro g cap' W' h1 h2 _ _
    exact h _ _ h1 h2

theorem owned_range {w : World} {base n : Nat} {v : Value} {b : List UInt8} (h : w.ownsRow base 5 1 v n (bs b)) (hb : b ≠ []) : ∃ g cap, v = .slice (some ⟨g, 0, none⟩) b.length cap ∧ base ≤ g ∧ g < w.heap.size ∧ w.rangeAt g 0 (bs b) := by
  have hl : b.length = n := by have := h.1; rw [bs_length] at this; omega
  subst hl
  obtain ⟨g, cap, rfl, h1, h2⟩ := h.form (List.length_pos_iff.2 hb)
  refine ⟨g, cap, rfl, h1, h2, fun j u hu => ?_⟩
  have := h.cells rfl j u hu
  rw [Addr.add_mid] at this
  exact this
theorem owned_form {w : World} {base n : Nat} {v : Value} {b : List UInt8} (h : w.ownsRow base 5 1 v n (bs b)) : ∃ ad cap, v = .slice ad b.length cap := by
  have hl : b.length = n := by have := h.1; rw [bs_length] at this; omega
  subst hl
  exact own_len h

def SecPost (w : World) (l : List UInt8) (e : Ending) (w' : World) : Prop := ∃ ad' cap', e = .returned (.slice ad' l.length cap') ∧ Fr (fun _ => False) w w' ∧ (l ≠ [] → ∃ bb, ad' = some ⟨bb, 0, none⟩ ∧ w.heap.size ≤ bb ∧ bb < w'.heap.size ∧ w'.rangeAt bb 0 (bs l))

set_option maxRecDepth 100000 in
set_option maxHeartbeats 400000 in
theorem sector_any (w : World) (x : OpR) (hc : 0 ≤ x.c ∧ x.c ≤ 255) (hs : x.fit = false → x.bytes.length ≤ 140737488355328) (hsrc : x.bytes ≠ [] → ∃ bb bo, x.ad = some ⟨bb, bo, none⟩ ∧ w.rangeAt bb bo (bs x.bytes) ∧ bb < w.heap.size) :
    Calls Try.prog 26 #[x.val] w fun e w' => SecPost w x.sec e w' := by
  obtain ⟨i0, hi0, hz0, hz1, hz2⟩ := info_parts info5
  have HS := hid hsrc
  have HZ := hid hs
  clear hsrc hs
  unfold OpR.val OpR.sec
  obtain ⟨kind, a, ad, bytes, cap, c, fit, keep⟩ := x
  simp only at hc HS HZ ⊢
  cases fit
  · simp only [Bool.false_eq_true, if_false]
    have hO : Hid (((w.alloc (.cells #[.int .i64 kind, .int .i64 a, .slice ad bytes.length cap, .int .u8 c, .bool false, .int .u64 (keep : Int)] 31)).alloc (.cells #[] 5)).ownsRow w.heap.size 5 1 (.slice (some ⟨w.heap.size + 1, 0, none⟩) 0 0) 0 []) := by
      have := World.ownsRow_made (base := w.heap.size) (e := 5) (size := 1) (w.alloc (.cells #[.int .i64 kind, .int .i64 a, .slice ad bytes.length cap, .int .u8 c, .bool false, .int .u64 (keep : Int)] 31)) #[] 0 (by simp) (by unfold maxLen; omega) (by simp)
      unfold Hid; simpa using this
    go_enter Try.func26, Try.ntmps26
    go_wp2_with (at_builtin; refine wpList_append_bytes (by rfl) _ _ (by rfl) w.heap.size 0 (.slice (some ⟨w.heap.size + 1, 0, none⟩) 0 0) [] bytes ad cap (by rfl) (by rfl) (by exact hO.out) (by simp; omega) (by have := HZ.out rfl; omega) (fun hb => by obtain ⟨bb, bo, e1, e2, _⟩ := HS.out hb; exact ⟨bb, bo, e1, World.rangeAt_alloc (World.rangeAt_alloc e2 _) _⟩) ?_; intro v' W' hown hgrow)
    have HF : Hid (Fr (fun _ => False) w W') := (((Fr.refl _ w).alloc _).alloc _).grown hgrow (fun b hb => by
      have : w.heap.size + 1 = b := by simpa [Value.ownBlock] using hb
      exact .inr (by omega))
    have hown' : W'.ownsRow w.heap.size 5 1 v' (0 + bytes.length) (bs bytes) := by simpa using hown
    obtain ⟨ad', cap', rfl⟩ := owned_form hown'
    have HW := hid hown'
    clear hown hgrow hown'
    go_wp2
    go_ret
    unfold SecPost
    refine ⟨ad', cap', rfl, HF.out, fun hb => ?_⟩
    obtain ⟨g, cap2, e1, e2, e3, e4⟩ := owned_range HW.out hb
    simp only [Value.slice.injEq] at e1
    exact ⟨g, e1.1, e2, e3, e4⟩
  · have hl := fullB_length c
    have HFu := hid (full_any (w.alloc (.cells #[.int .i64 kind, .int .i64 a, .slice ad bytes.length cap, .int .u8 c, .bool true, .int .u64 (keep : Int)] 31)) c hc.1 hc.2)
    go_enter Try.func26, Try.ntmps26
    go_wp2_with fail
    refine HFu.out.mono ?_
    rintro e w1 ⟨rfl, rfl⟩
    go_wp2_with (refine wpList_copyF (by rfl) _ _ (by rfl) (fullB c) bytes (fullB_length c) ad cap (w.heap.size + 1) (by simp) (by rfl) (by rfl) (fun hb => by obtain ⟨bb, bo, e1, e2, _⟩ := HS.out hb; exact ⟨bb, bo, e1, World.rangeAt_alloc e2 _⟩) ?_)
    go_wp2
    go_ret
    unfold SecPost
    refine ⟨some ⟨w.heap.size + 1, 0, none⟩, 128, ?_, ((Fr.refl _ w).alloc _).alloc _, fun _ => ⟨w.heap.size + 1, rfl, by omega, by simp, ?_⟩⟩
    · have e : (splice (fullB c) 0 (bytes.take 128)).length = 128 := by
        rw [length_splice _ _ _ (by rw [fullB_length, List.length_take]; omega), fullB_length]
      simp [e]
    · have := (Blk.new (w.alloc (.cells #[.int .i64 kind, .int .i64 a, .slice ad bytes.length cap, .int .u8 c, .bool true, .int .u64 (keep : Int)] 31)) 5 (bs (splice (fullB c) 0 (bytes.take 128)))).range 0 (bs (splice (fullB c) 0 (bytes.take 128))) (by simp)
      simpa using this

end Go.Proofs.Ytdempopelalafaa.Dk
