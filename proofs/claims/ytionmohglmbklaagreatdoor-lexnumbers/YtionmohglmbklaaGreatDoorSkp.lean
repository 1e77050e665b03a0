/- The contracts of skip, name and fault. -/
import Derived.Test.YtionmohglmbklaaGreatDoorRdr
namespace Go.Proofs.YtionmohglmbklaaGreatDoor.Tr
open Go.RowKit

def tokC (x : Tok) : List Value := [.int .i64 x.kind, .string ⟨x.text.toArray⟩, .int .i64 x.int, .float .f64 x.flt, .int .i64 (x.at_ : Int)]
def tokV (x : Tok) : Value := .agg #[.int .i64 x.kind, .string ⟨x.text.toArray⟩, .int .i64 x.int, .float .f64 x.flt, .int .i64 (x.at_ : Int)]

theorem Rd.drew {w : World} {b : Nat} {t : List UInt8} {k : Nat} (h : Rd w b t k) (m : Nat) : Fr (fun x => x = b) w (w.drewN m) ∧ Rd (w.drewN m) b t k := ⟨(Fr.refl _ _).drewN _, h.drewN _⟩
theorem Fr.same {F : Nat → Prop} {a b c : World} (h : Fr F a b) (k : Fr F b c) : Fr F a c := h.trans k (fun _ h => .inl h)

set_option maxRecDepth 100000 in
set_option maxHeartbeats 1000000 in
theorem skip_any {w : World} {b : Nat} {t : List UInt8} {k k' : Nat} (h : Rd w b t k) (hs : Skp t (upto isBlank t k) k') : Calls Tryz.prog 49 #[pv b] w fun e w' => e = .returned (.tuple #[]) ∧ Fr (· = b) w w' ∧ Rd w' b t k' := by
  have HC := hid (run_blank h)
  have HS := hid hs
  clear h hs
  go_enter Tryz.func49, Tryz.ntmps49
  go_wp2_with fail
  refine HC.out.mono ?_
  rintro e w1 ⟨rfl, f1, r1⟩
  have HR := hid (And.intro f1 r1)
  clear f1 r1 HC
  go_wp2_with fail
  go_loopw [] (fun wr => ∃ i : Nat, Rd wr b t i ∧ Skp t i k' ∧ Fr (· = b) w wr) (fun wr => t.length - curK wr b)
  case atStart => exact ⟨_, HR.out.2, HS.out, HR.out.1⟩
  case round =>
    obtain ⟨i, hR, hs, hF⟩ := hrel
    have HP := hid (peek_any hR 0 0 rfl (by omega))
    have HU := hid (And.intro hR (And.intro hs hF))
    clear hR hs hF HR HS
    rw [Nat.add_zero] at HP
    cases hc : (at0 t i == 35) with
    | false =>
      have hn : (((at0 t i).toNat : Int) == 35) = false := by
        rw [Bool.eq_false_iff] at hc ⊢
        intro h; apply hc; rw [u8n]; simp at h; simp; omega
      generalize hcc : at0 t i = c at *
      have HCC := hid hcc
      clear hcc
      go_wp2_with fail
      refine HP.out.mono ?_
      rintro e w2 ⟨rfl, m, rfl⟩
      clear HP
      go_wp2_with fail
      go_end0
      obtain ⟨hR, hs, hF⟩ := HU.out
      cases hs with
      | done _ => exact ⟨rfl, hF.drewN _, hR.drewN _⟩
      | more h _ => rw [HCC.out, hc] at h; cases h
    | true =>
      have hn : (((at0 t i).toNat : Int) == 35) = true := by
        rw [u8n] at hc; simp at hc; simp [hc]
      have HI := hid (at0_pos (by decide) hc)
      have hs2 : Skp t (upto isBlank t (upto inLine t i)) k' := by
        cases HU.out.2.1 with
        | done h => rw [hc] at h; cases h
        | more _ h => exact h
      have HS2 := hid hs2
      have HG : Hid (i < upto inLine t i) := upto_gt HI.out (by
        rw [u8n, at0_lt HI.out] at hc
        rw [line_iff, hc]; decide)
      clear hs2
      generalize at0 t i = c at *
      go_wp2_with fail
      refine HP.out.mono ?_
      rintro e w2 ⟨rfl, m, rfl⟩
      have HL := hid (run_line (HU.out.1.drewN m))
      clear HP
      go_wp2_with fail
      refine HL.out.mono ?_
      rintro e w3 ⟨rfl, f3, r3⟩
      have HF3 := hid (((HU.out.2.2.drewN m).same f3))
      have HB := hid (run_blank r3)
      clear HL f3 r3
      go_wp2_with fail
      refine HB.out.mono ?_
      rintro e w4 ⟨rfl, f4, r4⟩
      have HF4 := hid (And.intro (HF3.out.same f4) r4)
      clear HB f4 r4
      go_wp2
      refine ⟨⟨_, HF4.out.2, HS2.out, HF4.out.1⟩, ?_⟩
      rw [HF4.out.2.cur, HU.out.1.cur]
      have := upto_ge isBlank t (upto inLine t i)
      have := HG.out
      have := HI.out
      omega

def tokN (t : List UInt8) (k : Nat) : Tok := ⟨1, sub t k (upto inN t k), 0, 0, k⟩

theorem resultsT1 {fn : Func} {t1 : Tmp} (h : fn.results = #[.cell t1 37]) {tmps : Array Value} {W : World} {b1 : Nat} {x : Tok} {x1 : TypeId} (ha : tmps.getD t1 undef = .pointer (some ⟨b1, 0, none⟩)) (hb : Blk W b1 x1 (tokC x)) :
    (results fn tmps).run Tryz.prog W = .ok (tokV x) W := by
  have ha' : tmps[t1]?.getD undef = .pointer (some ⟨b1, 0, none⟩) := by simpa using ha
  have hc := hb.cell 0
  have hc1 := hb.cell 1
  have hc2 := hb.cell 2
  have hc3 := hb.cell 3
  have hc4 := hb.cell 4
  simp only [tokC, List.getElem?_cons_zero, List.getElem?_cons_succ] at hc hc1 hc2 hc3 hc4
  have hu := Tryz.underlying37
  simp [results, h, ha', asAddr, loadVar, isAgg, run_underlying hu, go_sem, hc, hc1, hc2, hc3, hc4, loadCells, loadCellsFrom, Addr.add, tokV]
theorem resultsT {fn : Func} {t1 t2 : Tmp} (h : fn.results = #[.cell t1 37, .tmp t2]) {tmps : Array Value} {W : World} {b1 : Nat} {x : Tok} {v2 : Value} {x1 : TypeId} (ha : tmps.getD t1 undef = .pointer (some ⟨b1, 0, none⟩)) (ha2 : tmps.getD t2 undef = v2) (hb : Blk W b1 x1 (tokC x)) :
    (results fn tmps).run Tryz.prog W = .ok (.tuple #[tokV x, v2]) W := by
  have ha' : tmps[t1]?.getD undef = .pointer (some ⟨b1, 0, none⟩) := by simpa using ha
  have ha2' : tmps[t2]?.getD undef = v2 := by simpa using ha2
  have hc := hb.cell 0
  have hc1 := hb.cell 1
  have hc2 := hb.cell 2
  have hc3 := hb.cell 3
  have hc4 := hb.cell 4
  simp only [tokC, List.getElem?_cons_zero, List.getElem?_cons_succ] at hc hc1 hc2 hc3 hc4
  have hu := Tryz.underlying37
  simp [results, h, ha', ha2', asAddr, loadVar, isAgg, run_underlying hu, go_sem, hc, hc1, hc2, hc3, hc4, loadCells, loadCellsFrom, Addr.add, tokV]

def zeroT : Tok := ⟨0, [], 0, 0, 0⟩
/-- The block of a token's result. -/
theorem new_tok (w : World) : Blk (w.alloc (.cells #[.int .i64 0, .string ⟨#[]⟩, .int .i64 0, .float .f64 0, .int .i64 0] 37)) w.heap.size 37 (tokC zeroT) := Blk.new w _ _
theorem sizeT : (Tryz.prog.info? 37).map (·.size) = some 5 := by kernel_rfl
theorem tokC_one (x : Tok) : ∀ v ∈ tokC x, v.oneCell' = true := by
  intro v hv
  simp only [tokC, List.mem_cons, List.not_mem_nil, or_false] at hv
  rcases hv with rfl | rfl | rfl | rfl | rfl <;> rfl
/-- Storing a token. -/
theorem wpList_storeT {ops : Array Oper} {rest : List Oper} {op : Oper} {a : Act} {W : World} {Q : Exit → Act → World → Prop} (x0 : Tok) (hgd : op.guard = none) (x y : Operand) (ho : op.op = .store 37 x y) {b : Nat} {old : Tok} (hb : Blk W b 37 (tokC old))
    (hx : a.eval x = .pointer (some ⟨b, 0, none⟩)) (hy : a.eval y = tokV x0) (h : ∀ W', Blk W' b 37 (tokC x0) → Fr (· = b) W W' → wpList Tryz.prog ops Q rest (a.put op.dst undef) W') : wpList Tryz.prog ops Q (op :: rest) a W :=
  wpList_plain hgd fun K hK => by
    have hs : (Instr.storeAt 37 (.pointer (some ⟨b, 0, none⟩)) (tokV x0)).run Tryz.prog W = .ok () (W.setCells b 0 (tokC x0)) := by
      have h := run_storeAt_mid (P := Tryz.prog) W b 0 37 (tokC x0).toArray (hb.there 0 5 (Nat.le_refl 5)) sizeT (all_oneCell_toArray (tokC_one x0))
      rw [show tokV x0 = .agg (tokC x0).toArray from rfl]; simpa using h
    have hb' : Blk (W.setCells b 0 (tokC x0)) b 37 (tokC x0) := hb.setCells (tokC x0) 0 (Nat.le_refl 5)
    have hf : Fr (· = b) W (W.setCells b 0 (tokC x0)) := (Fr.refl (· = b) W).setCells (b := b) (.inl rfl) _ _
    unfold Oper.wp execOp
    simp only [ho, hx, hy, hs, Sem.run_bind, Sem.run_pure, Result.andThen_ok]
    exact hK _ _ (h _ hb' hf)

set_option maxRecDepth 100000 in
set_option maxHeartbeats 1000000 in
theorem name_any {w : World} {b : Nat} {t : List UInt8} {k : Nat} (h : Rd w b t k) : Calls Tryz.prog 53 #[pv b] w fun e w' => e = .returned (tokV (tokN t k)) ∧ Fr (· = b) w w' ∧ Rd w' b t (upto inN t k) := by
  have HA := hid (new_tok w)
  have HF := hid ((Fr.refl (· = b) w).alloc (.cells #[.int .i64 0, .string ⟨#[]⟩, .int .i64 0, .float .f64 0, .int .i64 0] 37))
  have hR : Rd (w.alloc (.cells #[.int .i64 0, .string ⟨#[]⟩, .int .i64 0, .float .f64 0, .int .i64 0] 37)) b t k := ⟨h.blk.alloc _, h.le, h.len⟩
  have HR := hid hR
  have c1 := hR.c1
  have HB := hid h.blk.lt
  clear h hR
  go_enter Tryz.func53, Tryz.ntmps53
  generalize hn : w.heap.size = n at *
  go_wp2_with fail
  refine (run_name HR.out).mono ?_
  rintro e w2 ⟨rfl, f2, r2⟩
  have HB2 := hid (f2.blk HA.out (by have := HB.out; omega))
  have HF2 := hid (HF.out.same f2)
  have HR2 := hid r2
  have HLt := hid (hn ▸ HF2.out.size)
  clear f2 r2 HR HA HF c1
  go_wp2_with (refine wpList_storeT (tokN t k) (by rfl) _ _ (by rfl) HB2.out (by rfl) (by rfl) ?_; intro w3 b3 f3)
  have HE : Hid (Fr (· = b) w w3 ∧ Rd w3 b t (upto inN t k)) := ⟨HF2.out.trans f3 (fun i hi => .inr (by omega)), HR2.out.fr f3 (by have := HB.out; omega)⟩
  have HB3 := hid b3
  clear f3 b3
  go_wp2_with fail
  exact bodyPost_ret (resultsT1 rfl rfl HB3.out) rfl ⟨rfl, HE.out⟩

end Go.Proofs.YtionmohglmbklaaGreatDoor.Tr
