/- The reference disk: Write. -/
import Derived.Test.YtdempopelalafaaRef3
import Derived.Test.YtdempopelalafaaWrite
namespace Go.Proofs.Ytdempopelalafaa.Dk
open Go.RowKit

def RDk.written (R : RDk) (i : Nat) (b : List UInt8) : RDk := { R.deed with ws := R.deed.ws ++ [⟨i, b, false⟩] }
def RDk.deedE (R : RDk) : Int := if R.left = 0 then 41 else 0
def RDk.writeE (R : RDk) (i : Int) (len : Nat) : Int := if R.reach i ≠ 0 then R.reach i else if len ≠ 128 then 44 else R.deedE
def RDk.write (R : RDk) (i : Int) (b : List UInt8) : RDk := if R.reach i ≠ 0 then R else if b.length ≠ 128 then R else if R.left = 0 then R.deed else R.written i.toNat b

/-- 'append([]Write{}, d.W...)', as one step of a region that draws. -/
theorem step_append_ws {ops : Array Oper} {o : Oper} {a : Act} {w : World} {K : Act → World → Prop} {Q : Exit → Act → World → Prop} {E : Prop} (hgd : o.guard = none) (s x : Operand)
    (ho : o.op = .call { callee := .builtin .append, args := #[s, x], argTypes := #[43, 43] }) (base g : Nat) (hs : a.eval s = .slice (some ⟨g, 0, none⟩) 0 0) (hown : w.ownsRow base 65 3 (.slice (some ⟨g, 0, none⟩) 0 0) 0 [])
    (wv : Value) (ws : List RW) (hx : a.eval x = wv) (hw : w.ownsRow 0 65 3 wv ws.length (encR ws)) (hl : ws.length < 1073741824) (hbase : base ≤ w.heap.size)
    (h : ∀ v' w', w'.ownsRow base 65 3 v' ws.length (encR ws) → w.grownBy w' (some g) → K (a.put o.dst v') w') :
    if Region.wanted o (yielded ops a.tmps) = true then Oper.wp Try.prog o a w K Q else E := by
  obtain ⟨i0, hi0, hz0, hz1, hz2⟩ := info_parts info65
  by_cases hb : ws = []
  · subst hb
    have hl : ∀ (x : Addr), (loadCells x 0).run Try.prog w = .ok #[] w := fun x => by simpa using run_loadCells_list (P := Try.prog) w x [] (by simp)
    have hrun : (Builtin.append_ #[43, 43] o.type #[.slice (some ⟨g, 0, none⟩) 0 0, wv]).run Try.prog w = .ok (.slice (some ⟨g, 0, none⟩) 0 0) w := by
      rcases hw.2 with ⟨rfl, _⟩ | ⟨g, cap', cur, rfl, _, _, hnc, _⟩ <;> simp [Builtin.append_, run_underlying Try.underlying43, sizeOf, typeInfo, hi0, Builtin.lenOf, Builtin.firstCells, storeCells, hl]
    have hwt : Region.wanted o (yielded ops a.tmps) = true := by simp [Region.wanted, hgd]
    rw [if_pos hwt]
    unfold Oper.wp
    simp [execOp, ho, resolve, invoke, builtin, hs, hx, hrun, Result.andThen]
    exact h _ w hown ⟨rfl, rfl, rfl, Nat.le_refl _, fun _ _ _ => rfl⟩
  · have hpos : 0 < ws.length := List.length_pos_iff.2 hb
    obtain ⟨gg, cap, rfl, _, hg⟩ := hw.form hpos
    have h0 : 0 + ws.length = ws.length := Nat.zero_add _
    refine step_append_lies (w := w) hgd s x 43 ho base 65 i0 _ 3 32 Try.underlying43 hi0 hz0 hz1 hz2 rfl (by omega) (.slice (some ⟨g, 0, none⟩) 0 0) 0 [] hs hown ⟨gg, 0, none⟩ ws.length cap (encR ws) hx hw.1 (fun j u hu => hw.cells rfl j u hu) (encR_one ws) hpos (by unfold maxLen; omega) (by omega) hbase _ rfl ?_
    intro g2 cap2 w' h1 h2 _ _
    rw [h0, List.nil_append] at h1
    rw [h0]
    exact h _ _ h1 h2

def blkE : Obj := .cells #[] 65
def blkC (i : Nat) (b : List UInt8) : Obj := .cells #[.int .i64 (i : Int), .string (strB b), .bool false] 65
theorem own_empty (w : World) (base : Nat) (hb : base ≤ w.heap.size) : (w.alloc (.cells #[] 65)).ownsRow base 65 3 (.slice (some ⟨w.heap.size, 0, none⟩) 0 0) 0 [] := by
  have := World.ownsRow_made (base := base) (e := 65) (size := 3) w #[] 0 hb (by unfold maxLen; omega) (by simp)
  simpa using this
theorem conv_any {w : World} {b o : Nat} (l : List UInt8) (h : w.rangeAt b o (bs l)) (cap n : Nat) (hn : l.length = n) :
    (convert 28 9 (.slice (some ⟨b, o, none⟩) n cap)).run Try.prog w = .ok (.string (strB l)) w := by
  subst hn
  refine run_convert_bytes_back (P := Try.prog) w 28 9 5 ⟨b, o, none⟩ cap l Try.underlying28 Try.underlying5 Try.underlying9 (fun j hj => ?_)
  rw [Addr.add_mid]
  exact h j _ (by simp [bs, bv, hj])
theorem range_fr {F : Nat → Prop} {w w' : World} (h : Fr F w w') {b o : Nat} {cs : List Value} (hr : w.rangeAt b o cs) (hb : b < w.heap.size) (hn : ¬ F b) : w'.rangeAt b o cs := fun j v hv => by
  rw [World.cell?_of_block (w := w) (h.block b hb hn)]; exact hr j v hv

theorem rwrite_fin {w w1 w3 : World} {q : Nat} {wv wv1 : Value} {R : RDk} {i : Nat} {b : List UInt8} {g cap : Nat} (R1 : RRep w1 q wv1 R.deed) (F1 : Fr (rfoot q wv) w w1) (F3 : Fr (fun _ => False) w1 w3)
    (ho : w3.ownsRow w1.heap.size 65 3 (.slice (some ⟨g, 0, none⟩) (R.deed.ws.length + 1) cap) (R.deed.ws.length + 1) (encR R.deed.ws ++ [.int .i64 (i : Int), .string (strB b), .bool false])) (hi : i < R.deed.n) (hb : b.length = 128) :
    RDid q wv w (R.written i b) (w3.setCell ⟨q, 1, none⟩ (.slice (some ⟨g, 0, none⟩) (R.deed.ws.length + 1) cap)) := by
  have hg : w1.heap.size ≤ g := (ho.lt g rfl).1
  have RR := R1.frame F3 (fun _ _ h => h)
  have ee : encR (R.deed.ws ++ [⟨i, b, false⟩]) = encR R.deed.ws ++ [.int .i64 (i : Int), .string (strB b), .bool false] := by rw [encR_append]; simp [encR, rwc]
  refine ⟨_, RR.lists (.slice (some ⟨g, 0, none⟩) (R.deed.ws.length + 1) cap) (R.deed.ws ++ [⟨i, b, false⟩]) ?_ ?_ ?_, fun k hk => .inr ?_, ((F1.trans F3 (fun _ h => h.elim)).setCell (.inl (.inl rfl)) _)⟩
  · rw [ee, List.length_append]
    refine ⟨ho.1, ?_⟩
    rcases ho.2 with h0 | ⟨g, c, cur, q1, q2, q3⟩
    · exact .inl h0
    · exact .inr ⟨g, c, cur, q1, Nat.zero_le _, q3⟩
  · intro e
    have : g = q := by simpa [Value.ownBlock] using e
    have := R1.hp.lt
    omega
  · intro x hx
    rcases List.mem_append.1 hx with h1 | h1
    · exact R1.ok.q x h1
    · simp only [List.mem_singleton] at h1
      subst h1
      exact ⟨hi, hb⟩
  · have e : g = k := by simpa [Value.ownBlock] using hk
    have := F1.size
    omega

set_option maxRecDepth 100000 in
set_option maxHeartbeats 1000000 in
theorem rwrite_ok {w : World} {q : Nat} {wv : Value} {R : RDk} (h : RRep w q wv R) (hl : R.ws.length < 1073741824) (hd : R.done < 1073741824)
    (i : Nat) (b : List UInt8) (ab ao cap : Nat) (hu : R.off = false) (hi : i < R.n) (hb : b.length = 128) (hsrc : w.rangeAt ab ao (bs b)) (hab : ab < w.heap.size) (hnf : ¬ rfoot q wv ab) (h0 : R.left ≠ 0) :
    Calls Try.prog 36 #[pv q, .int .i64 (i : Int), .slice (some ⟨ab, ao, none⟩) 128 cap] w fun e w' => e = .returned (.int .i64 0) ∧ RDid q wv w (R.written i b) w' := by
  have c0 := h.c0
  have c2 := h.c2
  rw [hu] at c2
  have hc := rdeed_any h hl hd
  have hb0 : (!decide (R.left = 0)) = true := by simp [h0]
  rw [hb0] at hc
  have HC := hid hc
  have hw0 : Hid (R.deed.ws = R.ws ∧ R.deed.n = R.n) := by unfold Hid RDk.deed; rw [if_neg h0]; exact ⟨rfl, rfl⟩
  have g1 : ¬ ((i : Int) < 0) := by omega
  have g2 : ¬ ((R.n : Int) ≤ (i : Int)) := by omega
  have HS := hid hsrc
  clear hc hb0 h h0 hsrc
  go_enter Try.func36, Try.ntmps36
  go_wp2_with fail
  refine HC.out.mono ?_
  rintro e w1 ⟨rfl, wv1, r1, s1, f1⟩
  have R1 := hid r1
  have S1 := hid s1
  have F1 := hid f1
  have hsrc1 : Hid (w1.rangeAt ab ao (bs b)) := fun j v hv => by
    rw [World.cell?_of_block (w := w) (f1.block ab hab hnf)]; exact HS.out j v hv
  clear r1 s1 f1 HC HS
  go_wp2_with fail
  obtain ⟨i0, hi0, hz0, hz1, hz2⟩ := info_parts info65
  have HB := hid hb
  have hab1 : Hid (ab < w1.heap.size) := Nat.lt_of_lt_of_le hab F1.out.size
  have HL : Hid (R.deed.ws.length < 1073741824) := by unfold Hid; rw [hw0.out.1]; exact hl
  have a0 := R1.out.c1
  have aE := (R1.out.alloc (.cells #[] 65)).c1
  have aC := (R1.out.alloc (.cells #[.int .i64 (i : Int), .string (strB b), .bool false] 65)).c1
  have aEC := ((R1.out.alloc (.cells #[] 65)).alloc (.cells #[.int .i64 (i : Int), .string (strB b), .bool false] 65)).c1
  have aCE := ((R1.out.alloc (.cells #[.int .i64 (i : Int), .string (strB b), .bool false] 65)).alloc (.cells #[] 65)).c1
  have cv0 := conv_any (w := w1.drew) b hsrc1.out cap 128 HB.out
  have cvE := conv_any (w := (w1.alloc (.cells #[] 65)).drew) b (World.rangeAt_alloc hsrc1.out _) cap 128 HB.out
  have hOE : Hid ((w1.alloc (.cells #[] 65)).drew.ownsRow w1.heap.size 65 3 (.slice (some ⟨w1.heap.size, 0, none⟩) 0 0) 0 []) := (own_empty w1 w1.heap.size (Nat.le_refl _)).drew
  have hWE : Hid ((w1.alloc (.cells #[] 65)).drew.ownsRow 0 65 3 wv1 R.deed.ws.length (encR R.deed.ws)) := (R1.out.alloc _).drew.hq
  have hOEC : Hid (((w1.alloc (.cells #[] 65)).alloc (.cells #[.int .i64 (i : Int), .string (strB b), .bool false] 65)).drew.ownsRow w1.heap.size 65 3 (.slice (some ⟨w1.heap.size, 0, none⟩) 0 0) 0 []) := ((own_empty w1 w1.heap.size (Nat.le_refl _)).alloc _).drew
  have hWEC : Hid (((w1.alloc (.cells #[] 65)).alloc (.cells #[.int .i64 (i : Int), .string (strB b), .bool false] 65)).drew.ownsRow 0 65 3 wv1 R.deed.ws.length (encR R.deed.ws)) := ((R1.out.alloc _).alloc _).drew.hq
  have hOCE : Hid (((w1.alloc (.cells #[.int .i64 (i : Int), .string (strB b), .bool false] 65)).alloc (.cells #[] 65)).drew.ownsRow w1.heap.size 65 3 (.slice (some ⟨w1.heap.size + 1, 0, none⟩) 0 0) 0 []) := by
    have := (own_empty (w1.alloc (.cells #[.int .i64 (i : Int), .string (strB b), .bool false] 65)) w1.heap.size (by simp)).drew
    unfold Hid; simpa using this
  have hWCE : Hid (((w1.alloc (.cells #[.int .i64 (i : Int), .string (strB b), .bool false] 65)).alloc (.cells #[] 65)).drew.ownsRow 0 65 3 wv1 R.deed.ws.length (encR R.deed.ws)) := ((R1.out.alloc _).alloc _).drew.hq
  have hCEC : Hid (((w1.alloc (.cells #[] 65)).alloc (.cells #[.int .i64 (i : Int), .string (strB b), .bool false] 65)).drew.heap[w1.heap.size + 1]? = some (.cells #[.int .i64 (i : Int), .string (strB b), .bool false] 65)) := by
    have := heap_alloc_new (w1.alloc (.cells #[] 65)) (.cells #[.int .i64 (i : Int), .string (strB b), .bool false] 65)
    unfold Hid
    show ((w1.alloc (.cells #[] 65)).alloc (.cells #[.int .i64 (i : Int), .string (strB b), .bool false] 65)).heap[w1.heap.size + 1]? = _
    simpa using this
  have hCCE : Hid (((w1.alloc (.cells #[.int .i64 (i : Int), .string (strB b), .bool false] 65)).alloc (.cells #[] 65)).drew.heap[w1.heap.size]? = some (.cells #[.int .i64 (i : Int), .string (strB b), .bool false] 65)) := by
    have h1 := heap_alloc_new w1 (.cells #[.int .i64 (i : Int), .string (strB b), .bool false] 65)
    exact (Below.heap_alloc (w1.alloc (.cells #[.int .i64 (i : Int), .string (strB b), .bool false] 65)) (.cells #[] 65) w1.heap.size (by simp)).trans h1
  have HI : Hid (i < R.deed.n) := by unfold Hid; rw [hw0.out.2]; exact hi
  clear hw0 hb hab hnf
  go_region_law (first
      | (refine step_append_ws (by rfl) _ _ (by rfl) w1.heap.size w1.heap.size (by rfl) (by exact hOE.out) wv1 R.deed.ws (by rfl) (by exact hWE.out) HL.out (by first | (simp; done) | (simp; omega)) ?_
         intro v2 w2 hown hgrow
         have HO2 := hid hown
         have HF2 : Hid (Fr (fun _ => False) w1 w2) := (Fr.drew ((Fr.refl _ w1).alloc _)).grown hgrow (fun k hk => .inr (by cases hk; first | exact Nat.le_refl _ | omega))
         have cv2 := conv_any (w := w2) b (range_fr HF2.out hsrc1.out hab1.out (fun h => h)) cap 128 HB.out
         clear hown hgrow)
      | (refine step_append_ws (by rfl) _ _ (by rfl) w1.heap.size w1.heap.size (by rfl) (by exact hOEC.out) wv1 R.deed.ws (by rfl) (by exact hWEC.out) HL.out (by first | (simp; done) | (simp; omega)) ?_
         intro v2 w2 hown hgrow
         have HO2 := hid hown
         have HF2 : Hid (Fr (fun _ => False) w1 w2) := (Fr.drew (((Fr.refl _ w1).alloc _).alloc _)).grown hgrow (fun k hk => .inr (by cases hk; first | exact Nat.le_refl _ | omega))
         have cv2 := conv_any (w := w2) b (range_fr HF2.out hsrc1.out hab1.out (fun h => h)) cap 128 HB.out
         have HC2 : Hid (w2.heap[w1.heap.size + 1]? = some (.cells #[.int .i64 (i : Int), .string (strB b), .bool false] 65)) := by
           have h1 := hgrow.block (w1.heap.size + 1) (by simp; try omega) (by simp; try omega)
           refine h1.trans ?_
           exact hCEC.out
         clear hown hgrow)
      | (refine step_append_ws (by rfl) _ _ (by rfl) w1.heap.size (w1.heap.size + 1) (by rfl) (by exact hOCE.out) wv1 R.deed.ws (by rfl) (by exact hWCE.out) HL.out (by first | (simp; done) | (simp; omega)) ?_
         intro v2 w2 hown hgrow
         have HO2 := hid hown
         have HF2 : Hid (Fr (fun _ => False) w1 w2) := (Fr.drew (((Fr.refl _ w1).alloc _).alloc _)).grown hgrow (fun k hk => .inr (by cases hk; first | exact Nat.le_refl _ | omega))
         have cv2 := conv_any (w := w2) b (range_fr HF2.out hsrc1.out hab1.out (fun h => h)) cap 128 HB.out
         have HC2 : Hid (w2.heap[w1.heap.size]? = some (.cells #[.int .i64 (i : Int), .string (strB b), .bool false] 65)) := by
           have h1 := hgrow.block (w1.heap.size) (by simp; try omega) (by simp; try omega)
           refine h1.trans ?_
           exact hCCE.out
         clear hown hgrow)
      | (refine step_append_lies (w := w2) (by rfl) _ _ _ (by rfl) w1.heap.size 65 i0 _ 3 32 Try.underlying43 hi0 hz0 hz1 hz2 rfl (by omega) v2 R.deed.ws.length (encR R.deed.ws) (by rfl) (by exact HO2.out) ⟨w1.heap.size + 1, 0, none⟩ 1 1 [.int .i64 (i : Int), .string (strB b), .bool false] (by rfl) (by rfl) (by exact World.news_of_block (cs := #[.int .i64 (i : Int), .string (strB b), .bool false]) (t := 65) (fr := (0, 0)) HC2.out) (by simp [Value.oneCell']) (by omega) (by have := HL.out; unfold maxLen; omega) (by have := HL.out; omega) (by have := HF2.out.size; simp; try omega) (w2).heap.size (by rfl) ?_
         intro g3 cap3 w3 hown hgrow hat hlt
         have HO3 := hid hown
         have HF3 : Hid (Fr (fun _ => False) w1 w3) := (HF2.out).grown hgrow (fun k hk => .inr (HO2.out.lt k hk).1)
         have c13 := (R1.out.frame HF3.out (fun _ _ h => h)).c1
         have fz3 := (R1.out.frame HF3.out (fun _ _ h => h)).fz 1
         clear hown hgrow hat hlt)
      | (refine step_append_lies (w := w2) (by rfl) _ _ _ (by rfl) w1.heap.size 65 i0 _ 3 32 Try.underlying43 hi0 hz0 hz1 hz2 rfl (by omega) v2 R.deed.ws.length (encR R.deed.ws) (by rfl) (by exact HO2.out) ⟨w1.heap.size, 0, none⟩ 1 1 [.int .i64 (i : Int), .string (strB b), .bool false] (by rfl) (by rfl) (by exact World.news_of_block (cs := #[.int .i64 (i : Int), .string (strB b), .bool false]) (t := 65) (fr := (0, 0)) HC2.out) (by simp [Value.oneCell']) (by omega) (by have := HL.out; unfold maxLen; omega) (by have := HL.out; omega) (by have := HF2.out.size; simp; try omega) (w2).heap.size (by rfl) ?_
         intro g3 cap3 w3 hown hgrow hat hlt
         have HO3 := hid hown
         have HF3 : Hid (Fr (fun _ => False) w1 w3) := (HF2.out).grown hgrow (fun k hk => .inr (HO2.out.lt k hk).1)
         have c13 := (R1.out.frame HF3.out (fun _ _ h => h)).c1
         have fz3 := (R1.out.frame HF3.out (fun _ _ h => h)).fz 1
         clear hown hgrow hat hlt)
      | (refine step_append_lies (w := w2.alloc (.cells #[.int .i64 (i : Int), .string (strB b), .bool false] 65)) (by rfl) _ _ _ (by rfl) w1.heap.size 65 i0 _ 3 32 Try.underlying43 hi0 hz0 hz1 hz2 rfl (by omega) v2 R.deed.ws.length (encR R.deed.ws) (by rfl) (by exact HO2.out.alloc _) ⟨w2.heap.size, 0, none⟩ 1 1 [.int .i64 (i : Int), .string (strB b), .bool false] (by rfl) (by rfl) (by exact World.news_of_block (cs := #[.int .i64 (i : Int), .string (strB b), .bool false]) (t := 65) (fr := (0, 0)) (heap_alloc_new w2 _)) (by simp [Value.oneCell']) (by omega) (by have := HL.out; unfold maxLen; omega) (by have := HL.out; omega) (by have := HF2.out.size; simp; try omega) (w2.alloc (.cells #[.int .i64 (i : Int), .string (strB b), .bool false] 65)).heap.size (by rfl) ?_
         intro g3 cap3 w3 hown hgrow hat hlt
         have HO3 := hid hown
         have HF3 : Hid (Fr (fun _ => False) w1 w3) := (HF2.out.alloc _).grown hgrow (fun k hk => .inr (HO2.out.lt k hk).1)
         have c13 := (R1.out.frame HF3.out (fun _ _ h => h)).c1
         have fz3 := (R1.out.frame HF3.out (fun _ _ h => h)).fz 1
         clear hown hgrow hat hlt))
  all_goals
    have HP := hid (rwrite_fin R1.out F1.out HF3.out HO3.out HI.out HB.out)
    go_wp2
    go_ret
    exact ⟨rfl, HP.out⟩

end Go.Proofs.Ytdempopelalafaa.Dk
