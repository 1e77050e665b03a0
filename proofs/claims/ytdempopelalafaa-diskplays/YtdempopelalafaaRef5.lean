/- The reference disk: Flush. -/
import Derived.Test.YtdempopelalafaaRef3
import Derived.Test.YtdempopelalafaaWrite
import Derived.BigQuiet
namespace Go.Proofs.Ytdempopelalafaa.Dk
open Go.RowKit

/-- Is sector a written again by one of the writes number i + 1 to k - 1? -/
def againTo (ws : List RW) (a i : Nat) : Nat → Bool
  | 0 => false
  | k + 1 => if k ≤ i then false else againTo ws a i k || (match ws[k]? with | some y => decide (y.a = a) | none => false)
theorem againTo_start (ws : List RW) (a i : Nat) : againTo ws a i (i + 1) = false := by simp [againTo]
theorem againTo_succ (ws : List RW) (a i k : Nat) (y : RW) (hk : i < k) (hy : ws[k]? = some y) : againTo ws a i (k + 1) = (againTo ws a i k || decide (y.a = a)) := by
  simp only [againTo, hy]; rw [if_neg (by omega)]
/-- Of the first k writes those that no later one hides, all safe. -/
def lastsTo (ws : List RW) : Nat → List RW
  | 0 => []
  | k + 1 => match ws[k]? with
    | some x => if againTo ws x.a k ws.length then lastsTo ws k else lastsTo ws k ++ [{ x with s := true }]
    | none => lastsTo ws k
theorem lastsTo_succ (ws : List RW) (k : Nat) (x : RW) (h : ws[k]? = some x) : lastsTo ws (k + 1) = if againTo ws x.a k ws.length then lastsTo ws k else lastsTo ws k ++ [{ x with s := true }] := by simp only [lastsTo, h]
theorem lastsTo_len (ws : List RW) : ∀ k, (lastsTo ws k).length ≤ k
  | 0 => Nat.le_refl _
  | k + 1 => by
    have := lastsTo_len ws k
    unfold lastsTo
    split
    · split
      · omega
      · simp; omega
    · omega
theorem lastsTo_ok (ws : List RW) (n : Nat) (h : ∀ x ∈ ws, x.a < n ∧ x.b.length = 128) : ∀ k, ∀ x ∈ lastsTo ws k, x.a < n ∧ x.b.length = 128
  | 0, x, hx => by cases hx
  | k + 1, x, hx => by
    have ih := lastsTo_ok ws n h k
    unfold lastsTo at hx
    split at hx
    · rename_i y hy
      have hm := h y (List.mem_of_getElem? hy)
      split at hx
      · exact ih x hx
      · rcases List.mem_append.1 hx with h1 | h1
        · exact ih x h1
        · simp only [List.mem_singleton] at h1; subst h1; exact hm
    · exact ih x hx

def RDk.flushed (R : RDk) : RDk := { R.deed with ws := lastsTo R.deed.ws R.deed.ws.length }
def RDk.flush (R : RDk) : RDk := if R.off then R else if R.left = 0 then R.deed else R.flushed
def RDk.flushE (R : RDk) : Int := if R.off then 40 else if R.left = 0 then 41 else 0

set_option maxRecDepth 100000 in
set_option maxHeartbeats 1000000 in
theorem rflush_ok {w : World} {q : Nat} {wv : Value} {R : RDk} (h : RRep w q wv R) (hl : R.ws.length < 1073741824) (hd : R.done < 1073741824) (hu : R.off = false) (h0 : R.left ≠ 0) :
    Calls Try.prog 37 #[pv q] w fun e w' => e = .returned (.int .i64 0) ∧ RDid q wv w R.flushed w' := by
  have c2 := h.c2
  rw [hu] at c2
  have hc := rdeed_any h hl hd
  have hb0 : (!decide (R.left = 0)) = true := by simp [h0]
  rw [hb0] at hc
  have HC := hid hc
  have hw0 : Hid (R.deed.ws = R.ws ∧ R.deed.n = R.n) := by unfold Hid RDk.deed; rw [if_neg h0]; exact ⟨rfl, rfl⟩
  have HL : Hid (R.deed.ws.length < 1073741824) := by unfold Hid; rw [hw0.out.1]; exact hl
  have hnl := HL.out
  clear hc hb0 h h0 hw0 hl HL
  unfold RDk.flushed
  generalize R.deed = T at *
  generalize hn : T.ws.length = n at *
  have HN := hid hn
  clear hn
  obtain ⟨i0, hi0, hz0, hz1, hz2⟩ := info_parts info65
  go_enter Try.func37, Try.ntmps37
  go_wp2_with fail
  refine HC.out.mono ?_
  rintro e w1 ⟨rfl, wv1, r1, s1, f1⟩
  have c1 := r1.c1
  obtain ⟨la, lc, rfl⟩ := own_len r1.hq
  rw [HN.out] at c1
  have R1 := hid r1
  have S1 := hid s1
  have F1 := hid f1
  clear r1 s1 f1 HC
  go_wp2_with fail
  go_loopw [4, 5] (fun sv i wr => ∃ k : Nat, k ≤ n ∧ i = .int .i64 (k : Int) ∧ wr.ownsRow w1.heap.size 65 3 sv (lastsTo T.ws k).length (encR (lastsTo T.ws k)) ∧ Fr (fun _ => False) w1 wr) (fun _ i _ => n - (intOf i).toNat)
  case atStart => exact ⟨0, Nat.zero_le _, rfl, World.ownsRow_nil _ _ _ _, Fr.refl _ _⟩
  case round =>
    obtain ⟨k, hkn, rfl, hO, hF⟩ := hrel
    have HO := hid hO
    have HF := hid hF
    have hsl := lastsTo_len T.ws k
    have HR := hid (R1.out.frame hF (fun _ _ h => h))
    have c1r := HR.out.c1
    rw [HN.out] at c1r
    clear hO hF
    by_cases hlt : k < n
    · obtain ⟨x, hx⟩ : ∃ x, T.ws[k]? = some x := ⟨_, List.getElem?_eq_getElem (by rw [HN.out]; exact hlt)⟩
      have ht := hid (lastsTo_succ T.ws k x hx)
      have HX := hid hx
      clear hx
      obtain ⟨wo, hwo⟩ : ∃ wo, wo = wr := ⟨_, rfl⟩
      subst hwo
      go_wp2_with fail
      go_loopw [6, 7] (fun av iv wi => ∃ m : Nat, k < m ∧ m ≤ n ∧ iv = .int .i64 (m : Int) ∧ av = .bool (againTo T.ws x.a k m) ∧ Fr (fun _ => False) wo wi) (fun _ iv _ => n - (intOf iv).toNat)
      case atStart => exact ⟨k + 1, by omega, by omega, by go_num, by rw [againTo_start], Fr.refl _ _⟩
      case round =>
        obtain ⟨m, hkm, hmn, rfl, rfl, hF2⟩ := hrel
        have HF2 := hid hF2
        have HR2 := hid (HR.out.frame hF2 (fun _ _ h => h))
        have c1i := HR2.out.c1
        rw [HN.out] at c1i
        have HO2 : Hid (wr.ownsRow w1.heap.size 65 3 u4 (lastsTo T.ws k).length (encR (lastsTo T.ws k))) := owns_of_eq HO.out (fun j hj => hF2.block j (HO.out.lt j hj).2 (fun h => h))
        clear hF2
        obtain ⟨g, cap, hv, hg, e1, e2, e3⟩ := HR2.out.wcell HX.out
        rw [HN.out] at hv
        simp only [Value.slice.injEq] at hv
        obtain ⟨rfl, hnn, rfl⟩ := hv
        clear hnn
        by_cases hml : m < n
        · obtain ⟨y, hy⟩ : ∃ y, T.ws[m]? = some y := ⟨_, List.getElem?_eq_getElem (by rw [HN.out]; exact hml)⟩
          have ha := hid (againTo_succ T.ws x.a k m y hkm hy)
          obtain ⟨g', cap', hv', hg', y1, y2, y3⟩ := HR2.out.wcell hy
          rw [HN.out] at hv'
          simp only [Value.slice.injEq] at hv'
          obtain ⟨hgg, hnn, rfl⟩ := hv'
          cases hgg
          clear hnn hy y2 y3
          have hk0 : (0 : Int) ≤ (k : Int) := Int.natCast_nonneg _
          have hk1 : (k : Int) < (n : Int) := by omega
          have hm0 : (0 : Int) ≤ (m : Int) := Int.natCast_nonneg _
          have hm1 : (m : Int) < (n : Int) := by omega
          cases hag : againTo T.ws x.a k m
          · by_cases hya : y.a = x.a
            · have hb : ((y.a : Int) == (x.a : Int)) = true := beq_iff_eq.2 (by omega)
              go_wp2_with fail
              go_quiet (fail)
              go_wp2
              refine ⟨⟨m + 1, by omega, by omega, by go_num, ?_, HF2.out.drewN _⟩, by simp [intOf]; omega⟩
              rw [ha.out, hag]; simp [hya]
            · have hb : ((y.a : Int) == (x.a : Int)) = false := beq_eq_false_iff_ne.2 (by omega)
              go_wp2_with fail
              go_quiet (fail)
              go_wp2
              refine ⟨⟨m + 1, by omega, by omega, by go_num, ?_, HF2.out.drewN _⟩, by simp [intOf]; omega⟩
              rw [ha.out, hag]; simp [hya]
          · go_wp2_with fail
            go_quiet (fail)
            go_wp2
            refine ⟨⟨m + 1, by omega, by omega, by go_num, ?_, HF2.out.drewN _⟩, by simp [intOf]; omega⟩
            rw [ha.out, hag]; simp
        · obtain rfl : m = n := by omega
          cases hag : againTo T.ws x.a k m
          · have f1 : (wr.alloc (.cells #[.int .i64 (x.a : Int), .string (strB x.b), .bool true] 65)).cell? ⟨q, 1, none⟩ = some (.slice (some ⟨g, 0, none⟩) m lc) := by have := (HR2.out.alloc (.cells #[.int .i64 (x.a : Int), .string (strB x.b), .bool true] 65)).c1; rwa [HN.out] at this
            have f2 : (wr.alloc (.cells #[.int .i64 (x.a : Int), .string (strB x.b), .bool true] 65)).cell? ⟨g, k * 3, none⟩ = some (.int .i64 (x.a : Int)) := by rw [World.cell?_of_block (w := wr) (Below.heap_alloc wr _ g hg)]; exact e1
            have f3 : (wr.alloc (.cells #[.int .i64 (x.a : Int), .string (strB x.b), .bool true] 65)).cell? ⟨g, k * 3 + 1, none⟩ = some (.string (strB x.b)) := by rw [World.cell?_of_block (w := wr) (Below.heap_alloc wr _ g hg)]; exact e2
            have hgw : g < w1.heap.size := R1.out.foot_lt g (.inr rfl)
            have hk0 : (0 : Int) ≤ (k : Int) := Int.natCast_nonneg _
            have hk1 : (k : Int) < (m : Int) := by omega
            have HFo : Hid (Fr (fun _ => False) w1 wr) := HF.out.trans HF2.out (fun _ h => h.elim)
            go_wp2_with fail
            go_region_held3 (fun w' => w'.cell? ⟨q, 1, none⟩ = some (.slice (some ⟨g, 0, none⟩) m lc) ∧ w'.cell? ⟨g, k * 3, none⟩ = some (.int .i64 (x.a : Int)) ∧ w'.cell? ⟨g, k * 3 + 1, none⟩ = some (.string (strB x.b)))
              (first
                | assumption
                | exact ⟨c1i, e1, e2⟩
                | exact ⟨f1, f2, f3⟩
                | exact ⟨k1, k2, k3⟩)
              (first
                | (refine step_append_lies _ (by rfl) _ _ _ (by rfl) w1.heap.size 65 i0 _ 3 32 Try.underlying43 hi0 hz0 hz1 hz2 rfl (by omega) u4 (lastsTo T.ws k).length (encR (lastsTo T.ws k)) (by rfl) (by exact (HO2.out.alloc _).drew) ⟨wr.heap.size, 0, none⟩ 1 1 [.int .i64 (x.a : Int), .string (strB x.b), .bool true] (by rfl) (by rfl) (by exact World.news_of_block (cs := #[.int .i64 (x.a : Int), .string (strB x.b), .bool true]) (t := 65) (fr := (0, 0)) (heap_alloc_new wr _)) (by exact encR_one [⟨x.a, x.b, true⟩]) (by omega) (by unfold maxLen; omega) (by omega) (by have := HFo.out.size; simp; omega) (wr.heap.size + 1) (by simp) ?_
                   intro g3 cap3 w3 hown hgrow hat hlt
                   have HO3 := hid hown
                   have HF3 : Hid (Fr (fun _ => False) w1 w3) := (HFo.out.alloc _).drew.grown hgrow (fun j hj => .inr (HO2.out.lt j hj).1)
                   have k1 : w3.cell? ⟨q, 1, none⟩ = some (.slice (some ⟨g, 0, none⟩) m lc) := by have := (R1.out.frame HF3.out (fun _ _ h => h)).c1; rwa [HN.out] at this
                   have k2 : w3.cell? ⟨g, k * 3, none⟩ = some (.int .i64 (x.a : Int)) := by obtain ⟨_, _, hh, _, z1, z2, z3⟩ := (R1.out.frame HF3.out (fun _ _ h => h)).wcell HX.out; cases hh; exact z1
                   have k3 : w3.cell? ⟨g, k * 3 + 1, none⟩ = some (.string (strB x.b)) := by obtain ⟨_, _, hh, _, z1, z2, z3⟩ := (R1.out.frame HF3.out (fun _ _ h => h)).wcell HX.out; cases hh; exact z2
                   clear hown hgrow hat hlt))
            go_wp2_with fail
            refine ⟨⟨k + 1, by omega, by go_num, ?_, HF3.out⟩, by simp [intOf]; omega⟩
            rw [ht.out, HN.out, hag]
            simp only [Bool.false_eq_true, if_false]
            rw [encR_append, List.length_append]
            exact HO3.out
          · go_wp2_with fail
            refine ⟨⟨k + 1, by omega, by go_num, ?_, HF.out.trans HF2.out (fun _ h => h.elim)⟩, by simp [intOf]; omega⟩
            rw [ht.out, HN.out, hag]
            exact HO2.out
    · obtain rfl : k = n := by omega
      have fzr := HR.out.fz
      have hqs := R1.out.hp.lt
      have hnq : u4.ownBlock ≠ some q := fun h => by have := (HO.out.lt q h).1; omega
      have hbs := fun k hk => (HO.out.lt k hk).1
      obtain ⟨sa, sc, rfl⟩ := own_len HO.out
      have a1 := HR.out.lists _ (lastsTo T.ws k) ⟨HO.out.1, by
        rcases HO.out.2 with h0 | ⟨g, c, cur, q1, q2, q3⟩
        · exact .inl h0
        · exact .inr ⟨g, c, cur, q1, Nat.zero_le _, q3⟩⟩ hnq (lastsTo_ok T.ws T.n HR.out.ok.q k)
      have HP : Hid (RDid q wv w { T with ws := lastsTo T.ws k } (wr.setCell ⟨q, 1, none⟩ (.slice sa (lastsTo T.ws k).length sc))) :=
        ⟨_, a1, fun j hj => .inr (Nat.le_trans F1.out.size (hbs j hj)), (F1.out.trans HF.out (fun _ h => h.elim)).setCell (.inl (.inl rfl)) _⟩
      clear a1 hnq hbs
      go_wp2
      go_ret
      exact ⟨rfl, HP.out⟩

end Go.Proofs.Ytdempopelalafaa.Dk
