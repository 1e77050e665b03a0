
/- The contract of settle: the loose writes that stay are laid over what lasts. -/
import Derived.Test.YtehoiahgkbnjdaaGreatFields
import Derived.Deep.WholeRow
import Derived.WalkSmall
namespace Go.Proofs.YtehoiahgkbnjdaaGreat.Dk
open Go.RowKit

def settle1 (keep : Nat) (L : List UInt8) (i : Nat) (q : Nat × List UInt8) : List UInt8 := if keep.testBit (i % 64) then splice L (q.1 * 128) q.2 else L
def settleTo (keep : Nat) (Q : List (Nat × List UInt8)) (L : List UInt8) : Nat → List UInt8
  | 0 => L
  | k + 1 => match Q[k]? with
    | some q => settle1 keep (settleTo keep Q L k) k q
    | none => settleTo keep Q L k

theorem settle1_length (keep : Nat) (L : List UInt8) (i : Nat) (q : Nat × List UInt8) (n : Nat) (hL : L.length = n * 128) (hq : q.1 < n) (hd : q.2.length = 128) : (settle1 keep L i q).length = n * 128 := by
  unfold settle1
  split
  · rw [length_splice _ _ _ (by rw [hL, hd]; omega), hL]
  · exact hL
theorem settleTo_length (keep : Nat) (Q : List (Nat × List UInt8)) (L : List UInt8) (n : Nat) (hL : L.length = n * 128) (hQ : ∀ x ∈ Q, x.1 < n ∧ x.2.length = 128) : ∀ k, (settleTo keep Q L k).length = n * 128
  | 0 => hL
  | k + 1 => by
    unfold settleTo
    split
    · rename_i q hq
      have := hQ q (List.mem_of_getElem? hq)
      exact settle1_length _ _ _ _ _ (settleTo_length keep Q L n hL hQ k) this.1 this.2
    · exact settleTo_length keep Q L n hL hQ k

theorem enc_length (Q : List (Nat × List UInt8)) (hQ : ∀ x ∈ Q, x.2.length = 128) : (enc Q).length = Q.length * 129 := by
  induction Q with
  | nil => rfl
  | cons q r ih =>
    have := ih (fun x hx => hQ x (List.mem_cons_of_mem _ hx))
    have h := hQ q (List.mem_cons_self ..)
    simp only [enc, List.length_append, List.length_cons, bs_length, this, h]; omega
theorem enc_part (Q : List (Nat × List UInt8)) (hQ : ∀ x ∈ Q, x.2.length = 128) : ∀ (k : Nat) (q : Nat × List UInt8), Q[k]? = some q → ((enc Q).drop (k * 129)).take 129 = .int .i64 (q.1 : Int) :: bs q.2 := by
  induction Q with
  | nil => intro k q h; simp at h
  | cons x r ih =>
    intro k q h
    have hx := hQ x (List.mem_cons_self ..)
    have hl : (Value.int .i64 (x.1 : Int) :: bs x.2).length = 129 := by simp [bs_length, hx]
    cases k with
    | zero =>
      simp at h
      subst h
      rw [enc, Nat.zero_mul, List.drop_zero, List.take_append_of_le_length (by omega), List.take_of_length_le (by omega)]
    | succ k =>
      rw [enc, List.drop_append, List.drop_eq_nil_of_le (by omega), List.nil_append, hl, show (k + 1) * 129 - 129 = k * 129 by omega]
      exact ih (fun y hy => hQ y (List.mem_cons_of_mem _ hy)) k q (by simpa using h)

def zw : List Value := .int .i64 0 :: bs (List.replicate 128 0)
theorem info62 : (Tryz.prog.info? 130).map (fun i => (i.zero, i.size, i.bytes)) = some (some (.agg zw.toArray), 129, 136) := by kernel_rfl
theorem info59 : (Tryz.prog.info? 117).map (fun i => (i.zero, i.size, i.bytes)) = some (some (.agg (bs (List.replicate 128 0)).toArray), 128, 128) := by kernel_rfl
theorem size62 : (Tryz.prog.info? 130).map (·.size) = some 129 := by kernel_rfl
theorem size59 : (Tryz.prog.info? 117).map (·.size) = some 128 := by kernel_rfl
theorem zero62 : ∀ w, (zeroValue 130).run Tryz.prog w = .ok (.agg zw.toArray) w := (zero_of_info (n := 129) (by kernel_rfl)).1
theorem zero59 : ∀ w, (zeroValue 117).run Tryz.prog w = .ok (.agg (bs (List.replicate 128 0)).toArray) w := (zero_of_info (n := 128) (by kernel_rfl)).1

def wc (q : Nat × List UInt8) : List Value := .int .i64 (q.1 : Int) :: bs q.2
theorem wc_length (q : Nat × List UInt8) (h : q.2.length = 128) : (wc q).length = 129 := by simp [wc, bs_length, h]
theorem wc_one (q : Nat × List UInt8) : ∀ v ∈ wc q, v.oneCell' = true := by
  intro v hv
  rcases List.mem_cons.1 hv with rfl | hv
  · rfl
  · exact bs_one _ v hv
theorem load62 (W : World) (g o : Nat) (q : Nat × List UInt8) (hq : q.2.length = 128) (hr : W.rangeAt g o (wc q)) :
    (Instr.loadAt 130 (.pointer (some ⟨g, o, none⟩))).run Tryz.prog W = .ok (.agg (wc q).toArray) W :=
  run_loadAt_mid W g o 130 (wc q) _ hr Tryz.underlying130 rfl (by rw [size62, wc_length q hq])
theorem store62 (W : World) (q : Nat × List UInt8) (hq : q.2.length = 128) :
    (Instr.storeAt 130 (.pointer (some ⟨W.heap.size, 0, none⟩)) (.agg (wc q).toArray)).run Tryz.prog (W.alloc (.cells zw.toArray 130)) = .ok () (W.alloc (.cells (wc q).toArray 130)) :=
  run_storeAt_new W 130 _ _ (by rw [size62]; simp [wc_length q hq]) (by simp [wc_length q hq, zw, bs_length]) (all_oneCell_toArray (wc_one q))

theorem wpList_store62 {ops : Array Oper} {rest : List Oper} {op : Oper} {a : Act} {W : World} {c : Array Value} {Q : Exit → Act → World → Prop} (hgd : op.guard = none) (x y : Operand) (ho : op.op = .store 130 x y) (q : Nat × List UInt8) (hq : q.2.length = 128) (hc : c.size = 129)
    (hx : a.eval x = .pointer (some ⟨W.heap.size, 0, none⟩)) (hy : a.eval y = .agg (wc q).toArray) (h : wpList Tryz.prog ops Q rest (a.put op.dst undef) (W.alloc (.cells (wc q).toArray 130))) : wpList Tryz.prog ops Q (op :: rest) a (W.alloc (.cells c 130)) :=
  wpList_plain hgd fun K hK => by
    have hs : (Tryz.prog.info? 130).map (·.size) = some (wc q).toArray.size := by rw [size62]; simp [wc_length q hq]
    unfold Oper.wp execOp
    simp only [ho, hx, hy, run_storeAt_new W 130 c _ hs (by simp [wc_length q hq, hc]) (all_oneCell_toArray (wc_one q)), Sem.run_bind, Sem.run_pure, Result.andThen_ok]
    exact hK _ _ h
theorem zw_size : zw.toArray.size = 129 := by simp [zw, bs_length]

theorem bit_test (keep m : Nat) (hk : keep < 18446744073709551616) : (bits BinOp.and IntKind.u64 ((keep : Int) / 2 ^ m) 1 == 1) = keep.testBit m := by
  have e : ((keep : Int) / 2 ^ m) = ((keep / 2 ^ m : Nat) : Int) := by simp
  have hle : keep / 2 ^ m ≤ keep := Nat.div_le_self _ _
  rw [e, Nat.testBit_eq_decide_div_mod_eq]
  generalize keep / 2 ^ m = z at *
  rw [and_one_u64 _ (by omega) (by omega)]
  by_cases h : z % 2 = 1
  · have : (z : Int) % 2 = 1 := by omega
    simp only [this, h]; rfl
  · have : ¬ (z : Int) % 2 = 1 := by omega
    simp only [h, decide_false, beq_eq_false_iff_ne, ne_eq, this, not_false_eq_true]

/-- A sector of what lasts is stored anew. -/
theorem Rep.setL {B : Nat} {w : World} {p bl bn : Nat} {lv : Value} {D : Dsk} (h : Rep B w p bl bn lv D) (i : Nat) (s : List UInt8) (hi : i < D.n) (hs : s.length = 128) :
    Rep B (w.setCells bl (i * 128) (bs s)) p bl bn lv { D with L := splice D.L (i * 128) s } where
  hp := h.hp.setCells_ne h.pl _ _
  hl := by
    have := Blk.setCells (bs s) (i * 128) h.hl (by rw [List.length_append, bs_length, bs_length, h.ok.lL, hs]; omega)
    rw [bs_splice_app _ _ _ _ (by rw [h.ok.lL, hs]; omega)] at this
    exact this
  hn := h.hn.setCells_ne (Ne.symm h.ln) _ _
  hq := owns_of_eq h.hq (fun k hk => Dk.setCells_ne _ _ _ (fun e => h.ql (by rw [hk, e])))
  pB := h.pB
  lB := h.lB
  nB := h.nB
  pl := h.pl
  pn := h.pn
  ln := h.ln
  qp := h.qp
  ql := h.ql
  qn := h.qn
  ok := { h.ok with lL := by show (splice D.L (i * 128) s).length = _; rw [length_splice _ _ _ (by rw [h.ok.lL, hs]; omega)]; exact h.ok.lL }

/-- A sector of what is read is stored anew. -/
theorem Rep.setN {B : Nat} {w : World} {p bl bn : Nat} {lv : Value} {D : Dsk} (h : Rep B w p bl bn lv D) (i : Nat) (s : List UInt8) (hi : i < D.n) (hs : s.length = 128) :
    Rep B (w.setCells bn (i * 128) (bs s)) p bl bn lv { D with N := splice D.N (i * 128) s } where
  hp := h.hp.setCells_ne h.pn _ _
  hl := h.hl.setCells_ne h.ln _ _
  hn := by
    have := Blk.setCells (bs s) (i * 128) h.hn (by rw [List.length_append, bs_length, bs_length, h.ok.lN, hs]; omega)
    rw [bs_splice_app _ _ _ _ (by rw [h.ok.lN, hs]; omega)] at this
    exact this
  hq := owns_of_eq h.hq (fun k hk => Dk.setCells_ne _ _ _ (fun e => h.qn (by rw [hk, e])))
  pB := h.pB
  lB := h.lB
  nB := h.nB
  pl := h.pl
  pn := h.pn
  ln := h.ln
  qp := h.qp
  ql := h.ql
  qn := h.qn
  ok := { h.ok with lN := by show (splice D.N (i * 128) s).length = _; rw [length_splice _ _ _ (by rw [h.ok.lN, hs]; omega)]; exact h.ok.lN }

/-- No write is loose any more. -/
theorem Rep.emptied {B : Nat} {w : World} {p bl bn : Nat} {lv : Value} {D : Dsk} (h : Rep B w p bl bn lv D) :
    Rep B (w.setCell ⟨p, 2, none⟩ (.slice none 0 0)) p bl bn (.slice none 0 0) { D with Q := [] } where
  hp := h.hp.setCell 2 _
  hl := h.hl.setCell_ne (Ne.symm h.pl) _
  hn := h.hn.setCell_ne (Ne.symm h.pn) _
  hq := World.ownsRow_nil _ _ _ _
  pB := h.pB
  lB := h.lB
  nB := h.nB
  pl := h.pl
  pn := h.pn
  ln := h.ln
  qp := by simp [Value.ownBlock]
  ql := by simp [Value.ownBlock]
  qn := by simp [Value.ownBlock]
  ok := { h.ok with q := fun x hx => by cases hx }

theorem settleTo_succ (keep : Nat) (Q : List (Nat × List UInt8)) (L : List UInt8) (k : Nat) (q : Nat × List UInt8) (h : Q[k]? = some q) : settleTo keep Q L (k + 1) = settle1 keep (settleTo keep Q L k) k q := by
  simp only [settleTo, h]

set_option maxRecDepth 100000 in
set_option maxHeartbeats 400000 in
theorem settle_any {B : Nat} {w : World} {p bl bn : Nat} {lv : Value} {D : Dsk} (h : Rep B w p bl bn lv D) (keep : Nat) (hk : keep < 18446744073709551616) (hQ : D.Q.length < 4611686018427387904) :
    Calls Tryz.prog 88 #[pv p, .int .u64 (keep : Int)] w fun e w' => e = .returned (.tuple #[]) ∧ Rep B w' p bl bn (.slice none 0 0) { D with L := settleTo keep D.Q D.L D.Q.length, Q := [] } ∧ Fr (foot p bl bn lv) w w' := by
  have c2 := h.c2
  obtain ⟨a, cap, hv⟩ := own_len h.hq
  rw [hv] at c2
  have HV : Hid (lv = .slice a D.Q.length cap) := hv
  have H : Hid (Rep B w p bl bn lv D) := h
  clear h hv
  generalize hn : D.Q.length = n at *
  have HN : Hid (D.Q.length = n) := hn
  clear hn
  go_enter Tryz.func88, Tryz.ntmps88
  go_wp2
  go_loopw [11] (fun i wr => ∃ k : Nat, k ≤ n ∧ i = .int .i64 (k : Int) ∧ Rep B wr p bl bn lv { D with L := settleTo keep D.Q D.L k } ∧ Fr (foot p bl bn lv) w wr) (fun i _ => n - (intOf i).toNat)
  case atStart => exact ⟨0, Nat.zero_le _, rfl, H.out, Fr.refl _ _⟩
  case round =>
    obtain ⟨k, hkn, rfl, hr, hf⟩ := hrel
    have HR : Hid (Rep B wr p bl bn lv { D with L := settleTo keep D.Q D.L k }) := hr
    have HF : Hid (Fr (foot p bl bn lv) w wr) := hf
    clear hf
    by_cases hlt : k < n
    · obtain ⟨q, hq⟩ : ∃ q, D.Q[k]? = some q := ⟨_, List.getElem?_eq_getElem (by rw [HN.out]; exact hlt)⟩
      have hqm : q.1 < D.n ∧ q.2.length = 128 := hr.ok.q q (List.mem_of_getElem? hq)
      obtain ⟨g, cur, rfl, hg, hcur⟩ : ∃ g cur, a = some ⟨g, 0, none⟩ ∧ wr.heap[g]? = some (.cells cur 130 (0, 0)) ∧ cur.toList.take (n * 129) = enc D.Q := by
        rcases hr.hq.2 with ⟨h0, h1⟩ | ⟨g, cap', cur, h1, h2, h3, h4, h5, h6, h7⟩
        · have h1' : D.Q.length = 0 := h1
          rw [HN.out] at h1'; omega
        · rw [HV.out, HN.out] at h1
          simp only [Value.slice.injEq] at h1
          refine ⟨g, cur, h1.1, h3, ?_⟩
          rw [← HN.out]; exact h7
      have hrng : wr.rangeAt g (k * 129) (wc q) := by
        refine Blk.range (xs := cur.toList) (t := 130) (by simpa [Blk] using hg) _ _ ?_
        rw [wc_length q hqm.2, show wc q = _ from (enc_part D.Q (fun x hx => (hr.ok.q x hx).2) k q hq).symm, ← hcur, List.drop_take, List.take_take]
        congr 1
        omega
      have hz := zero62
      have hs62 : Hid ((Tryz.prog.info? 130).map (·.size) = some (wc q).length) := by unfold Hid; rw [size62, wc_length q hqm.2]
      have HQ : Hid (D.Q[k]? = some q) := hq
      have S1 : (wr.alloc (.cells (wc q).toArray 130)).cell? ⟨p, 0, none⟩ = some (.slice (some ⟨bl, 0, none⟩) D.n D.cl) := (hr.alloc _).c0
      have S2 : (wr.alloc (.cells (wc q).toArray 130)).cell? ⟨wr.heap.size, 0, none⟩ = some (.int .i64 (q.1 : Int)) := (Blk.new wr 130 (wc q)).cell 0
      have S3 : (wr.alloc (.cells (wc q).toArray 130)).rangeAt wr.heap.size 1 (bs q.2) := (Blk.new wr 130 (wc q)).range 1 _ (by rw [bs_length]; simp [wc, bs]; exact List.take_of_length_le (by simp))
      have S4 : (wr.alloc (.cells (wc q).toArray 130)).there bl (q.1 * 128) 128 := (hr.alloc _).hl.there _ _ (by rw [List.length_append, bs_length]; have := (hr.alloc (.cells (wc q).toArray 130)).ok.lL; have := hqm.1; simp only at *; omega)
      have HRA : Hid (Rep B (wr.alloc (.cells (wc q).toArray 130)) p bl bn lv { D with L := settleTo keep D.Q D.L k }) := hr.alloc _
      have n1 : p ≠ bl := hr.pl
      have n2 : wr.heap.size ≠ bl := Ne.symm (Nat.ne_of_lt hr.hl.lt)
      clear hr hcur hg hq
      have HRng : Hid (wr.rangeAt g (k * 129) (wc q)) := hrng
      clear hrng
      have hk0 : (0 : Int) ≤ (k : Int) := Int.natCast_nonneg _
      have hk1 : (k : Int) < (n : Int) := by omega
      have hq0 : (0 : Int) ≤ (q.1 : Int) := Int.natCast_nonneg _
      have hq1 : (q.1 : Int) < (D.n : Int) := by have := hqm.1; omega
      have hq2 : Hid (q.2.length = 128) := hqm.2
      clear hqm
      go_wp2_with (first | (refine wpList_load_mid (by rfl) 130 _ (by rfl) g (k * 129) (by rfl) (wc q) _ HRng.out Tryz.underlying130 rfl hs62.out ?_) | (refine wpList_store62 (by rfl) _ _ (by rfl) q hq2.out zw_size (by rfl) (by rfl) ?_))
      · have hb : (bits BinOp.and IntKind.u64 ((keep : Int) / 2 ^ (k % 64)) 1 == 1) = true := by assumption
        have HB : Hid (keep.testBit (k % 64) = true) := by unfold Hid; rw [← bit_test keep _ hk]; exact hb
        have hu := Tryz.underlying117
        have hl : (bs q.2).length = 128 := by rw [bs_length]; exact hq2.out
        have hi : (Tryz.prog.info? 117).map (·.size) = some (bs q.2).length := by rw [size59, hl]
        have h1 : ∀ v ∈ bs q.2, v.oneCell' = true := bs_one _
        go_region_held3 (fun w' => w'.cell? ⟨p, 0, none⟩ = some (.slice (some ⟨bl, 0, none⟩) D.n D.cl) ∧ w'.cell? ⟨wr.heap.size, 0, none⟩ = some (.int .i64 (q.1 : Int)) ∧ w'.rangeAt wr.heap.size 1 (bs q.2) ∧ w'.there bl (q.1 * 128) 128)
          (first
            | exact ⟨S1, S2, S3, S4⟩
            | (go_split_ands
               refine ⟨?_, ?_, ?_, ?_⟩
               · (rw [World.cell?_setCells_out _ _ _ _ _ (fun e _ => absurd e n1)]; assumption)
               · (rw [World.cell?_setCells_out _ _ _ _ _ (fun e _ => absurd e n2)]; assumption)
               · exact World.rangeAt_setCells_apart (by assumption) _ _ _ (.inl n2)
               · (apply World.there_setCells; assumption)))
          (fail)
        go_wp2
        go_roundw
        case rel =>
          refine ⟨k + 1, by omega, by go_num, ?_, ?_⟩
          · rw [settleTo_succ _ _ _ _ _ HQ.out, settle1, if_pos HB.out]
            exact HRA.out.drew.setL q.1 q.2 (by have := hq1; simp only; omega) hq2.out
          · exact ((HF.out.alloc _).drew).setCells (.inl (.inr (.inl rfl))) _ _
        case measure => simp [intOf]; omega
      · have hb : (bits BinOp.and IntKind.u64 ((keep : Int) / 2 ^ (k % 64)) 1 == 1) = false := by assumption
        have HB : Hid (keep.testBit (k % 64) = false) := by unfold Hid; rw [← bit_test keep _ hk]; exact hb
        refine ⟨⟨k + 1, by omega, by go_num, ?_, HF.out.alloc _⟩, by simp [intOf]; omega⟩
        rw [settleTo_succ _ _ _ _ _ HQ.out, settle1, HB.out]
        exact HRA.out
    · obtain rfl : k = n := by omega
      have c2' := hr.c2
      have fz := hr.fz
      have HFz : Hid (Rep B (wr.setCell ⟨p, 2, none⟩ (.slice none 0 0)) p bl bn (.slice none 0 0) { D with L := settleTo keep D.Q D.L k, Q := [] }) := hr.emptied
      clear hr
      go_wp2
      go_end0
      exact ⟨rfl, HFz.out, HF.out.setCell (.inl (.inl rfl)) _⟩

end Go.Proofs.YtehoiahgkbnjdaaGreat.Dk
