/- The reference disk: Dirty, Crash, deed. -/
import Derived.Test.YtdempopelalafaaRef
namespace Go.Proofs.Ytdempopelalafaa.Dk
open Go.RowKit

theorem RRep.wcell {w : World} {q : Nat} {wv : Value} {R : RDk} (h : RRep w q wv R) {k : Nat} {x : RW} (hx : R.ws[k]? = some x) : ∃ g cap, wv = .slice (some ⟨g, 0, none⟩) R.ws.length cap ∧ g < w.heap.size ∧
    w.cell? ⟨g, k * 3, none⟩ = some (.int .i64 (x.a : Int)) ∧ w.cell? ⟨g, k * 3 + 1, none⟩ = some (.string (strB x.b)) ∧ w.cell? ⟨g, k * 3 + 2, none⟩ = some (.bool x.s) := by
  have hk := (List.getElem?_eq_some_iff.1 hx).1
  obtain ⟨g, cap, rfl, _, hg⟩ := h.hq.form (by omega)
  obtain ⟨e1, e2, e3⟩ := encR_at R.ws k x hx
  exact ⟨g, cap, rfl, hg, (h.hq.cellAt (k * 3) (by omega)).trans e1, (h.hq.cellAt (k * 3 + 1) (by omega)).trans e2, (h.hq.cellAt (k * 3 + 2) (by omega)).trans e3⟩

/-- How many of the first k are loose. -/
def cntU (ws : List RW) : Nat → Nat
  | 0 => 0
  | k + 1 => match ws[k]? with
    | some x => if x.s then cntU ws k else cntU ws k + 1
    | none => cntU ws k
theorem cntU_le (ws : List RW) : ∀ k, cntU ws k ≤ k
  | 0 => Nat.le_refl _
  | k + 1 => by
    have := cntU_le ws k
    unfold cntU
    split
    · split <;> omega
    · omega
theorem cntU_succ (ws : List RW) (k : Nat) (x : RW) (h : ws[k]? = some x) : cntU ws (k + 1) = if x.s then cntU ws k else cntU ws k + 1 := by simp only [cntU, h]

set_option maxHeartbeats 400000 in
theorem rdirty_any {w : World} {q : Nat} {wv : Value} {R : RDk} (h : RRep w q wv R) (hl : R.ws.length < 1073741824) : Calls Try.prog 22 #[pv q] w fun e w' => e = .returned (.int .i64 (cntU R.ws R.ws.length : Int)) ∧ w' = w := by
  have c1 := h.c1
  obtain ⟨la, lc, rfl⟩ := own_len h.hq
  have H := hid h
  generalize hn : R.ws.length = n at *
  have HN := hid hn
  clear h hn
  go_enter Try.func22, Try.ntmps22
  go_wp2
  go_loop [3, 4] (fun c i => ∃ k : Nat, k ≤ n ∧ i = .int .i64 (k : Int) ∧ c = .int .i64 (cntU R.ws k : Int)) (fun _ i => n - (intOf i).toNat)
  case atStart => exact ⟨0, Nat.zero_le _, rfl, rfl⟩
  case round =>
    obtain ⟨k, hk, rfl, rfl⟩ := hrel
    have hle := cntU_le R.ws k
    by_cases hlt : k < n
    · obtain ⟨x, hx⟩ : ∃ x, R.ws[k]? = some x := ⟨_, List.getElem?_eq_getElem (by rw [HN.out]; exact hlt)⟩
      obtain ⟨g, cap, hv, hg, e1, e2, e3⟩ := H.out.wcell hx
      simp only [Value.slice.injEq] at hv
      obtain ⟨rfl, hnn, rfl⟩ := hv
      clear hnn
      have hs := hid (cntU_succ R.ws k x hx)
      have hk0 : (0 : Int) ≤ (k : Int) := Int.natCast_nonneg _
      have hk1 : (k : Int) < (n : Int) := by omega
      clear e1 e2 hx
      generalize hc : cntU R.ws k = c at *
      have HC := hid hc
      clear hc
      cases hxs : x.s
      · rw [hxs] at e3
        go_wp2
        refine ⟨⟨k + 1, by omega, by go_num, ?_⟩, by simp [intOf]; omega⟩
        rw [hs.out, hxs]; simp
      · rw [hxs] at e3
        go_wp2
        refine ⟨⟨k + 1, by omega, by go_num, ?_⟩, by simp [intOf]; omega⟩
        rw [hs.out, hxs]; simp
    · obtain rfl : k = n := by omega
      go_wp2
      go_ret
      exact ⟨rfl, rfl⟩

/-- What a loss of power keeps of the first k writes, and how many of them were loose. -/
def stTo (keep : Nat) (ws : List RW) : Nat → List RW
  | 0 => []
  | k + 1 => match ws[k]? with
    | some x => if x.s then stTo keep ws k ++ [x] else if keep.testBit (cntU ws k % 64) then stTo keep ws k ++ [{ x with s := true }] else stTo keep ws k
    | none => stTo keep ws k
theorem stTo_succ (keep : Nat) (ws : List RW) (k : Nat) (x : RW) (h : ws[k]? = some x) : stTo keep ws (k + 1) = if x.s then stTo keep ws k ++ [x] else if keep.testBit (cntU ws k % 64) then stTo keep ws k ++ [{ x with s := true }] else stTo keep ws k := by simp only [stTo, h]
theorem stTo_len (keep : Nat) (ws : List RW) : ∀ k, (stTo keep ws k).length ≤ k
  | 0 => Nat.le_refl _
  | k + 1 => by
    have := stTo_len keep ws k
    unfold stTo
    split
    · split
      · simp; omega
      · split
        · simp; omega
        · omega
    · omega
theorem stTo_ok (keep : Nat) (ws : List RW) (n : Nat) (h : ∀ x ∈ ws, x.a < n ∧ x.b.length = 128) : ∀ k, ∀ x ∈ stTo keep ws k, x.a < n ∧ x.b.length = 128
  | 0, x, hx => by cases hx
  | k + 1, x, hx => by
    have ih := stTo_ok keep ws n h k
    unfold stTo at hx
    split at hx
    · rename_i y hy
      have hm := h y (List.mem_of_getElem? hy)
      split at hx
      · rcases List.mem_append.1 hx with h1 | h1
        · exact ih x h1
        · simp only [List.mem_singleton] at h1; subst h1; exact hm
      · split at hx
        · rcases List.mem_append.1 hx with h1 | h1
          · exact ih x h1
          · simp only [List.mem_singleton] at h1; subst h1; exact hm
        · exact ih x hx
    · exact ih x hx

theorem bit_mod (keep m : Nat) : (((keep : Int) / 2 ^ m) % 2 == 1) = keep.testBit m := by
  have e : ((keep : Int) / 2 ^ m) = ((keep / 2 ^ m : Nat) : Int) := by simp
  rw [e, Nat.testBit_eq_decide_div_mod_eq]
  generalize keep / 2 ^ m = z at *
  by_cases h : z % 2 = 1
  · have : (z : Int) % 2 = 1 := by omega
    simp only [this, h]; rfl
  · have : ¬ (z : Int) % 2 = 1 := by omega
    simp only [h, decide_false, beq_eq_false_iff_ne, ne_eq, this, not_false_eq_true]

theorem info65 : (Try.prog.info? 65).map (fun i => (i.zero, i.size, i.bytes)) = some (some (.agg #[.int .i64 0, .string ⟨#[]⟩, .bool false]), 3, 32) := by kernel_rfl

def RDk.crash (R : RDk) (keep : Nat) : RDk := if R.off then R else { R with ws := stTo keep R.ws R.ws.length, off := true, left := -1 }

set_option maxRecDepth 100000 in
set_option maxHeartbeats 1000000 in
theorem rcrash_any {w : World} {q : Nat} {wv : Value} {R : RDk} (h : RRep w q wv R) (keep : Nat) (hk : keep < 18446744073709551616) (hl : R.ws.length < 1073741824) :
    Calls Try.prog 39 #[pv q, .int .u64 (keep : Int)] w fun e w' => e = .returned (.tuple #[]) ∧ RDid q wv w (R.crash keep) w' := by
  have c2 := h.c2
  unfold RDk.crash
  cases hu : R.off
  · rw [hu] at c2
    simp only [Bool.false_eq_true, if_false]
    obtain ⟨i0, hi0, hz0, hz1, hz2⟩ := info_parts info65
    have c1 := h.c1
    obtain ⟨la, lc, rfl⟩ := own_len h.hq
    have H := hid h
    generalize hn : R.ws.length = n at *
    have HN := hid hn
    clear h hn
    go_enter Try.func39, Try.ntmps39
    go_wp2
    go_loopw [4, 5, 6] (fun sv c i wr => ∃ k : Nat, k ≤ n ∧ i = .int .i64 (k : Int) ∧ c = .int .i64 (cntU R.ws k : Int) ∧ wr.ownsRow w.heap.size 65 3 sv (stTo keep R.ws k).length (encR (stTo keep R.ws k)) ∧ Fr (fun _ => False) w wr) (fun _ _ i _ => n - (intOf i).toNat)
    case atStart => exact ⟨0, Nat.zero_le _, rfl, rfl, World.ownsRow_nil _ _ _ _, Fr.refl _ _⟩
    case round =>
      obtain ⟨k, hkn, rfl, rfl, hO, hF⟩ := hrel
      have HO := hid hO
      have HF := hid hF
      have hle := cntU_le R.ws k
      have hsl := stTo_len keep R.ws k
      have HR := hid (H.out.frame hF (fun _ _ h => h))
      have c1r := HR.out.c1
      clear hO hF
      by_cases hlt : k < n
      · obtain ⟨x, hx⟩ : ∃ x, R.ws[k]? = some x := ⟨_, List.getElem?_eq_getElem (by rw [HN.out]; exact hlt)⟩
        obtain ⟨g, cap, hv, hg, e1, e2, e3⟩ := HR.out.wcell hx
        simp only [Value.slice.injEq] at hv
        obtain ⟨rfl, hnn, rfl⟩ := hv
        clear hnn
        have hs := hid (cntU_succ R.ws k x hx)
        have ht := hid (stTo_succ keep R.ws k x hx)
        have hk0 : (0 : Int) ≤ (k : Int) := Int.natCast_nonneg _
        have hk1 : (k : Int) < (n : Int) := by omega
        clear hx
        cases hxs : x.s
        · rw [hxs] at e3
          cases hb : keep.testBit (cntU R.ws k % 64)
          · have hbt : (((keep : Int) / 2 ^ (cntU R.ws k % 64)).tmod 2 == 1) = false := by
              rw [Int.tmod_eq_emod_of_nonneg (Int.ediv_nonneg (by omega) (by exact_mod_cast Nat.zero_le _)), bit_mod]; exact hb
            go_wp2_with fail
            refine ⟨⟨k + 1, by omega, by go_num, ?_, ?_, HF.out.alloc _⟩, by simp [intOf]; omega⟩
            · rw [hs.out, hxs]; simp
            · rw [ht.out, hxs, hb]; simpa using HO.out.alloc _
          · have hbt : (((keep : Int) / 2 ^ (cntU R.ws k % 64)).tmod 2 == 1) = true := by
              rw [Int.tmod_eq_emod_of_nonneg (Int.ediv_nonneg (by omega) (by exact_mod_cast Nat.zero_le _)), bit_mod]; exact hb
            have hB2 : Hid (((wr.alloc (.cells #[.int .i64 (x.a : Int), .string (strB x.b), .bool false] 65)).alloc (.cells #[.int .i64 (x.a : Int), .string (strB x.b), .bool true] 65)).heap[wr.heap.size + 1]? = some (.cells #[.int .i64 (x.a : Int), .string (strB x.b), .bool true] 65)) := by
              have := heap_alloc_new (wr.alloc (.cells #[.int .i64 (x.a : Int), .string (strB x.b), .bool false] 65)) (.cells #[.int .i64 (x.a : Int), .string (strB x.b), .bool true] 65)
              unfold Hid; simpa using this
            have hsz := hid HF.out.size
            go_wp2_with (at_builtin; refine wpList_append_lies _ (by rfl) _ _ _ (by rfl) w.heap.size 65 i0 _ 3 32 Try.underlying43 hi0 hz0 hz1 hz2 rfl (by omega) u4 (stTo keep R.ws k).length (encR (stTo keep R.ws k)) (by rfl) (by exact ((HO.out.alloc _).alloc _)) ⟨wr.heap.size + 1, 0, none⟩ 1 1 [.int .i64 (x.a : Int), .string (strB x.b), .bool true] (by rfl) (by rfl) (by exact World.news_of_block (cs := #[.int .i64 (x.a : Int), .string (strB x.b), .bool true]) (t := 65) (fr := (0, 0)) hB2.out) (by simp [Value.oneCell']) (by omega) (by unfold maxLen; omega) (by omega) (by have := hsz.out; simp; omega) (wr.heap.size + 1 + 1) (by simp) ?_; intro g2 cap2 w2 hown hgrow hat hlt2)
            have HF2 : Hid (Fr (fun _ => False) w w2) := ((HF.out.alloc _).alloc _).grown hgrow (fun b hb => .inr (HO.out.lt b hb).1)
            have HO2 : Hid (w2.ownsRow w.heap.size 65 3 (.slice (some ⟨g2, 0, none⟩) ((stTo keep R.ws k).length + 1) cap2) (stTo keep R.ws (k + 1)).length (encR (stTo keep R.ws (k + 1)))) := by
              unfold Hid
              rw [ht.out, hxs]
              simp only [Bool.false_eq_true, if_false, hb, if_true]
              rw [encR_append, List.length_append]
              exact hown
            clear hown hgrow hat hlt2
            go_wp2_with fail
            refine ⟨⟨k + 1, by omega, by go_num, ?_, HO2.out, HF2.out⟩, by simp [intOf]; omega⟩
            rw [hs.out, hxs]; simp
        · rw [hxs] at e3
          have hB2 : Hid (((wr.alloc (.cells #[.int .i64 (x.a : Int), .string (strB x.b), .bool true] 65)).alloc (.cells #[.int .i64 (x.a : Int), .string (strB x.b), .bool true] 65)).heap[wr.heap.size + 1]? = some (.cells #[.int .i64 (x.a : Int), .string (strB x.b), .bool true] 65)) := by
            have := heap_alloc_new (wr.alloc (.cells #[.int .i64 (x.a : Int), .string (strB x.b), .bool true] 65)) (.cells #[.int .i64 (x.a : Int), .string (strB x.b), .bool true] 65)
            unfold Hid; simpa using this
          have hsz := hid HF.out.size
          go_wp2_with (at_builtin; refine wpList_append_lies _ (by rfl) _ _ _ (by rfl) w.heap.size 65 i0 _ 3 32 Try.underlying43 hi0 hz0 hz1 hz2 rfl (by omega) u4 (stTo keep R.ws k).length (encR (stTo keep R.ws k)) (by rfl) (by exact ((HO.out.alloc _).alloc _)) ⟨wr.heap.size + 1, 0, none⟩ 1 1 [.int .i64 (x.a : Int), .string (strB x.b), .bool true] (by rfl) (by rfl) (by exact World.news_of_block (cs := #[.int .i64 (x.a : Int), .string (strB x.b), .bool true]) (t := 65) (fr := (0, 0)) hB2.out) (by simp [Value.oneCell']) (by omega) (by unfold maxLen; omega) (by omega) (by have := hsz.out; simp; omega) (wr.heap.size + 1 + 1) (by simp) ?_; intro g2 cap2 w2 hown hgrow hat hlt2)
          have HF2 : Hid (Fr (fun _ => False) w w2) := ((HF.out.alloc _).alloc _).grown hgrow (fun b hb => .inr (HO.out.lt b hb).1)
          have HO2 : Hid (w2.ownsRow w.heap.size 65 3 (.slice (some ⟨g2, 0, none⟩) ((stTo keep R.ws k).length + 1) cap2) (stTo keep R.ws (k + 1)).length (encR (stTo keep R.ws (k + 1)))) := by
            unfold Hid
            rw [ht.out, hxs]
            simp only [if_true]
            have ex : encR [x] = [.int .i64 (x.a : Int), .string (strB x.b), .bool true] := by simp [encR, rwc, hxs]
            rw [encR_append, List.length_append, ex]
            exact hown
          clear hown hgrow hat hlt2
          go_wp2_with fail
          refine ⟨⟨k + 1, by omega, by go_num, ?_, HO2.out, HF2.out⟩, by simp [intOf]; omega⟩
          rw [hs.out, hxs]; simp
      · obtain rfl : k = n := by omega
        have c2r := HR.out.c2
        have c4r := HR.out.c4
        have fzr := HR.out.fz
        have hqs := H.out.hp.lt
        have hnq : u4.ownBlock ≠ some q := fun h => by have := (HO.out.lt q h).1; omega
        have hbs := fun k hk => (HO.out.lt k hk).1
        obtain ⟨sa, sc, rfl⟩ := own_len HO.out
        have a1 := HR.out.lists _ (stTo keep R.ws k) ⟨HO.out.1, by
          rcases HO.out.2 with h0 | ⟨g, c, cur, q1, q2, q3⟩
          · exact .inl h0
          · exact .inr ⟨g, c, cur, q1, Nat.zero_le _, q3⟩⟩ hnq (stTo_ok keep R.ws R.n HR.out.ok.q k)
        have a2 := a1.field (R' := { R with ws := stTo keep R.ws k, off := true }) 2 (.bool true) rfl rfl { a1.ok with }
        have a3 := a2.field (R' := { R with ws := stTo keep R.ws k, off := true, left := -1 }) 4 (.int .i64 (-1)) rfl rfl { a2.ok with l0 := by simp, l1 := by simp }
        have HP : Hid (RDid q (.slice la k lc) w { R with ws := stTo keep R.ws k, off := true, left := -1 } (((wr.setCell ⟨q, 1, none⟩ (.slice sa (stTo keep R.ws k).length sc)).setCell ⟨q, 2, none⟩ (.bool true)).setCell ⟨q, 4, none⟩ (.int .i64 (-1)))) :=
          ⟨_, a3, fun j hj => .inr (hbs j hj), (((HF.out.mono (fun _ h => h.elim)).setCell (.inl (.inl rfl)) _).setCell (.inl (.inl rfl)) _).setCell (.inl (.inl rfl)) _⟩
        clear a1 a2 a3 hnq hbs
        go_wp2
        go_end0
        exact ⟨rfl, HP.out⟩
  · rw [hu] at c2
    have H := hid h
    clear h hu
    go_enter Try.func39, Try.ntmps39
    go_wp2
    refine bodyPost_ret (results_none rfl _ _ _) rfl ?_
    exact ⟨rfl, wv, by simpa using H.out, fun k hk => .inl hk, Fr.refl _ _⟩

def RDk.deed (R : RDk) : RDk := if R.left = 0 then R.crash R.keep else { R with done := R.done + 1, left := if 0 < R.left then R.left - 1 else R.left }

set_option maxHeartbeats 400000 in
theorem rdeed_any {w : World} {q : Nat} {wv : Value} {R : RDk} (h : RRep w q wv R) (hl : R.ws.length < 1073741824) (hd : R.done < 1073741824) :
    Calls Try.prog 40 #[pv q] w fun e w' => e = .returned (.bool (!decide (R.left = 0))) ∧ RDid q wv w R.deed w' := by
  have c3 := h.c3
  have c4 := h.c4
  have c5 := h.c5
  have fz := h.fz
  have l0 := h.ok.l0
  have l1 := h.ok.l1
  have hk := h.ok.k
  have H := hid h
  clear h
  unfold RDk.deed
  by_cases h0 : R.left = 0
  · rw [if_pos h0]
    rw [h0] at c4
    have hb : (!decide (R.left = 0)) = false := by simp [h0]
    rw [hb]
    clear hb h0 l0 l1
    go_enter Try.func40, Try.ntmps40
    go_wp2_with fail
    refine (rcrash_any H.out R.keep hk hl).mono ?_
    rintro e w' ⟨rfl, h1⟩
    have H1 := hid h1
    clear h1
    go_wp2
    go_ret
    exact ⟨rfl, H1.out⟩
  · rw [if_neg h0]
    have hb : (!decide (R.left = 0)) = true := by simp [h0]
    rw [hb]
    have hb0 : (R.left == 0) = false := by simpa using h0
    by_cases h1 : 0 < R.left
    · rw [if_pos h1]
      have a1 : RRep (w.setCell ⟨q, 4, none⟩ (.int .i64 (R.left - 1))) q wv { R with left := R.left - 1 } := H.out.field 4 _ rfl rfl { H.out.ok with l0 := by show -1 ≤ R.left - 1; omega, l1 := by show R.left - 1 ≤ _; omega }
      have a2 := hid (a1.field (R' := { R with done := R.done + 1, left := R.left - 1 }) 3 (.int .i64 ((R.done : Int) + 1)) (by simp [RDk.head]) rfl { a1.ok with })
      have HF : Hid (Fr (rfoot q wv) w ((w.setCell ⟨q, 4, none⟩ (.int .i64 (R.left - 1))).setCell ⟨q, 3, none⟩ (.int .i64 ((R.done : Int) + 1)))) := ((Fr.refl _ _).setCell (.inl (.inl rfl)) _).setCell (.inl (.inl rfl)) _
      clear a1 hb h0
      go_enter Try.func40, Try.ntmps40
      go_wp2
      go_ret
      exact ⟨rfl, wv, a2.out, fun k hk => .inl hk, HF.out⟩
    · rw [if_neg h1]
      have a2 := hid (H.out.field (R' := { R with done := R.done + 1 }) 3 (.int .i64 ((R.done : Int) + 1)) (by simp [RDk.head]) rfl { H.out.ok with })
      have HF : Hid (Fr (rfoot q wv) w (w.setCell ⟨q, 3, none⟩ (.int .i64 ((R.done : Int) + 1)))) := (Fr.refl _ _).setCell (.inl (.inl rfl)) _
      clear hb h0
      go_enter Try.func40, Try.ntmps40
      go_wp2
      go_ret
      exact ⟨rfl, wv, a2.out, fun k hk => .inl hk, HF.out⟩

end Go.Proofs.Ytdempopelalafaa.Dk
