/- The walk of ValueOrders. -/
import Derived.Test.YtlepjghfcpgbcaaGreatDoorOrp
namespace Go.Proofs.YtlepjghfcpgbcaaGreatDoor.Tr
open Go.RowKit

/-- Storing a value within a row. -/
theorem wpList_storeO {ops : Array Oper} {rest : List Oper} {op : Oper} {a : Act} {W : World} {Q : Exit → Act → World → Prop} (x0 : Vv) (hgd : op.guard = none) (x y : Operand) (ho : op.op = .store 26 x y) {b o : Nat} {t : TypeId} {L : List Value} (hb : Blk W b t L) (hl : o + 6 ≤ L.length)
    (hx : a.eval x = .pointer (some ⟨b, o, none⟩)) (hy : a.eval y = x0.v) (h : ∀ W', Blk W' b t (splice L o x0.cs) → Fr (· = b) W W' → wpList Tryz.prog ops Q rest (a.put op.dst undef) W') : wpList Tryz.prog ops Q (op :: rest) a W :=
  wpList_plain hgd fun K hK => by
    have hs : (Instr.storeAt 26 (.pointer (some ⟨b, o, none⟩)) x0.v).run Tryz.prog W = .ok () (W.setCells b o x0.cs) := by
      have h := run_storeAt_mid (P := Tryz.prog) W b o 26 x0.cs.toArray (hb.there o 6 hl) sizeV (all_oneCell_toArray (vv_one x0))
      rw [show x0.v = .agg x0.cs.toArray from rfl]; simpa using h
    have hb' : Blk (W.setCells b o x0.cs) b t (splice L o x0.cs) := hb.setCells x0.cs o hl
    have hf : Fr (· = b) W (W.setCells b o x0.cs) := (Fr.refl (· = b) W).setCells (b := b) (.inl rfl) _ _
    unfold Oper.wp execOp
    simp only [ho, hx, hy, hs, Sem.run_bind, Sem.run_pure, Result.andThen_ok]
    exact hK _ _ (h _ hb' hf)

/-- The three values. -/
def arr (x y z : Vv) : List Value := x.cs ++ y.cs ++ z.cs
def qb (ks : Int) (i : Nat) : Bool := bits BinOp.and .i64 (ks / 2 ^ i) 1 == 1

theorem arr_cells {W : World} {b : Nat} {t : TypeId} {x y z : Vv} (h : Blk W b t (arr x y z)) : (W.cell? ⟨b, 0, none⟩ = some (.int .i64 x.k) ∧ W.cell? ⟨b, 1, none⟩ = some (.int .i64 x.n) ∧ W.cell? ⟨b, 2, none⟩ = some (.float .f64 x.f) ∧ W.cell? ⟨b, 3, none⟩ = some (.string ⟨x.t.toArray⟩) ∧ W.cell? ⟨b, 4, none⟩ = some (.slice x.na x.nl x.nc) ∧ W.cell? ⟨b, 5, none⟩ = some (.slice x.ia x.il x.ic)) ∧ (W.cell? ⟨b, 6, none⟩ = some (.int .i64 y.k) ∧ W.cell? ⟨b, 7, none⟩ = some (.int .i64 y.n) ∧ W.cell? ⟨b, 8, none⟩ = some (.float .f64 y.f) ∧ W.cell? ⟨b, 9, none⟩ = some (.string ⟨y.t.toArray⟩) ∧ W.cell? ⟨b, 10, none⟩ = some (.slice y.na y.nl y.nc) ∧ W.cell? ⟨b, 11, none⟩ = some (.slice y.ia y.il y.ic)) ∧ (W.cell? ⟨b, 12, none⟩ = some (.int .i64 z.k) ∧ W.cell? ⟨b, 13, none⟩ = some (.int .i64 z.n) ∧ W.cell? ⟨b, 14, none⟩ = some (.float .f64 z.f) ∧ W.cell? ⟨b, 15, none⟩ = some (.string ⟨z.t.toArray⟩) ∧ W.cell? ⟨b, 16, none⟩ = some (.slice z.na z.nl z.nc) ∧ W.cell? ⟨b, 17, none⟩ = some (.slice z.ia z.il z.ic)) :=
  ⟨⟨h.cell 0, h.cell 1, h.cell 2, h.cell 3, h.cell 4, h.cell 5⟩, ⟨h.cell 6, h.cell 7, h.cell 8, h.cell 9, h.cell 10, h.cell 11⟩, ⟨h.cell 12, h.cell 13, h.cell 14, h.cell 15, h.cell 16, h.cell 17⟩⟩

set_option maxRecDepth 100000 in
set_option maxHeartbeats 8000000 in
theorem orders_walk (w : World) (ks a b c : Int) (hk : I64 ks) (ha : I64 a) (hb : I64 b) (hc : I64 c) (hT : Tw w) : Calls Tryz.prog 8 #[.int .i64 ks, .int .i64 a, .int .i64 b, .int .i64 c] w fun e w' => e = .returned (.bool true) ∧ Fr (fun _ => False) w w' := by
  have HS := hid (shown_any w hT)
  have hffb := fun W n => ffb_any W n
  clear hT
  have HI := hid (And.intro hk (And.intro ha (And.intro hb hc)))
  clear hk ha hb hc
  have hst := fun (W : World) (a : Addr) (m : Mode) (f : Nat) => run_store Tryz.prog W a (.float .f64 f) m rfl
  go_enter Tryz.func8, Tryz.ntmps8
  go_wp2_with fail
  refine HS.out.mono ?_
  rintro e w0 ⟨rfl, f0⟩
  have F0 := hid f0
  clear f0 HS
  go_wp2_with fail
  have HB0 : Hid (Blk ((w0.alloc (.cells (arr vZ vZ vZ).toArray 54)).alloc (.cells #[.int .i64 a, .int .i64 b, .int .i64 c] 55)) w0.heap.size 54 (arr vZ vZ vZ)) := (Blk.new w0 _ _).alloc _
  have HR0 : Hid (Blk ((w0.alloc (.cells (arr vZ vZ vZ).toArray 54)).alloc (.cells #[.int .i64 a, .int .i64 b, .int .i64 c] 55)) (w0.heap.size + 1) 55 [.int .i64 a, .int .i64 b, .int .i64 c]) := by
    have h := Blk.new (w0.alloc (.cells (arr vZ vZ vZ).toArray 54)) 55 [.int .i64 a, .int .i64 b, .int .i64 c]
    rw [World.size_alloc] at h
    exact h
  have HF0 : Hid (Fr (fun _ => False) w ((w0.alloc (.cells (arr vZ vZ vZ).toArray 54)).alloc (.cells #[.int .i64 a, .int .i64 b, .int .i64 c] 55))) := (F0.out.alloc _).alloc _
  have HW := hid F0.out.size
  clear F0
  generalize w0.heap.size = n at *
  go_loopw [12] (fun iv wr => ∃ i : Nat, i ≤ 3 ∧ iv = .int .i64 (i : Int) ∧ Fr (fun _ => False) w wr ∧ Blk wr n 54 (arr (if 0 < i then mkN (qb ks 0) a else vZ) (if 1 < i then mkN (qb ks 1) b else vZ) (if 2 < i then mkN (qb ks 2) c else vZ)) ∧ Blk wr (n + 1) 55 [.int .i64 a, .int .i64 b, .int .i64 c]) (fun iv _ => 3 - (intOf iv).toNat)
  case atStart => exact ⟨0, by decide, rfl, HF0.out, HB0.out, HR0.out⟩
  case round =>
    obtain ⟨i, hi, rfl, hF, hB, hR⟩ := hrel
    clear HB0 HR0 HF0
    have HR := hid hR
    have HF := hid hF
    clear hR hF
    match i, hi with
    | 0, hi =>
      have HB : Hid (Blk wr n 54 (arr vZ vZ vZ)) := hB
      clear hB
      have c0 := HR.out.cell 0
      rw [show ([.int .i64 a, .int .i64 b, .int .i64 c] : List Value)[0]? = some (.int .i64 a) from rfl] at c0
      go_wp2_with fail
      refine (whole_any _ a).mono ?_
      rintro e w1 ⟨rfl, f1⟩
      have B1 := hid (f1.blk HB.out (fun h => h))
      have R1 := hid (f1.blk HR.out (fun h => h))
      have F1 := hid (HF.out.trans f1 (fun _ h => h.elim))
      clear f1 HB HR HF c0
      go_wp2_with (refine wpList_storeO (vI a) (by rfl) _ _ (by rfl) (o := 0) B1.out (by simp [arr]) (by rfl) (by rfl) ?_; intro w2 b2 f2; have R2 := hid (f2.blk R1.out (by omega)); have c0 := R2.out.cell 0; rw [show ([.int .i64 a, .int .i64 b, .int .i64 c] : List Value)[0]? = some (.int .i64 a) from rfl] at c0)
      · have hq : (bits BinOp.and .i64 ks 1 == 1) = true := by assumption
        have HE : Hid ((mkN (qb ks 0) a) = vF (IntKind.u64.wrap a).toNat) := by
          have e : qb ks 0 = true := by rw [← hq]; unfold qb; simp
          unfold Hid; rw [e]; rfl
        have B2 : Hid (Blk w2 n 54 (arr (vI a) vZ vZ)) := b2
        have F2 := hid (F1.out.trans f2 (fun i hi => .inr (by rw [hi]; exact HW.out)))
        clear b2 f2 B1 R1 F1 hq
        refine (real_any _ _).mono ?_
        rintro e w3 ⟨rfl, f3⟩
        have B3 := hid (f3.blk B2.out (fun h => h))
        have R3 := hid (f3.blk R2.out (fun h => h))
        have F3 := hid (F2.out.trans f3 (fun _ h => h.elim))
        clear f3 B2 R2 F2 c0
        go_wp2_with (refine wpList_storeO (vF (IntKind.u64.wrap a).toNat) (by rfl) _ _ (by rfl) (o := 0) B3.out (by simp [arr]) (by rfl) (by rfl) ?_; intro w4 b4 f4)
        have B4 : Hid (Blk w4 n 54 (arr (vF (IntKind.u64.wrap a).toNat) vZ vZ)) := b4
        have R4 := hid (f4.blk R3.out (by omega))
        have F4 := hid (F3.out.trans f4 (fun i hi => .inr (by rw [hi]; exact HW.out)))
        rw [← HE.out] at B4
        exact ⟨⟨1, by decide, rfl, F4.out, B4.out, R4.out⟩, by decide⟩
      · have hq : (bits BinOp.and .i64 ks 1 == 1) = false := by assumption
        have HE : Hid ((mkN (qb ks 0) a) = vI a) := by
          have e : qb ks 0 = false := by rw [← hq]; unfold qb; simp
          unfold Hid; rw [e]; rfl
        have B2 : Hid (Blk w2 n 54 (arr (vI a) vZ vZ)) := b2
        have F2 := hid (F1.out.trans f2 (fun i hi => .inr (by rw [hi]; exact HW.out)))
        rw [← HE.out] at B2
        exact ⟨⟨1, by decide, rfl, F2.out, B2.out, R2.out⟩, by decide⟩
    | 1, hi =>
      have HB : Hid (Blk wr n 54 (arr (mkN (qb ks 0) a) vZ vZ)) := hB
      clear hB
      have c0 := HR.out.cell 1
      rw [show ([.int .i64 a, .int .i64 b, .int .i64 c] : List Value)[1]? = some (.int .i64 b) from rfl] at c0
      go_wp2_with fail
      refine (whole_any _ b).mono ?_
      rintro e w1 ⟨rfl, f1⟩
      have B1 := hid (f1.blk HB.out (fun h => h))
      have R1 := hid (f1.blk HR.out (fun h => h))
      have F1 := hid (HF.out.trans f1 (fun _ h => h.elim))
      clear f1 HB HR HF c0
      go_wp2_with (refine wpList_storeO (vI b) (by rfl) _ _ (by rfl) (o := 6) B1.out (by simp [arr]) (by rfl) (by rfl) ?_; intro w2 b2 f2; have R2 := hid (f2.blk R1.out (by omega)); have c0 := R2.out.cell 1; rw [show ([.int .i64 a, .int .i64 b, .int .i64 c] : List Value)[1]? = some (.int .i64 b) from rfl] at c0)
      · have hq : (bits BinOp.and .i64 (ks / 2) 1 == 1) = true := by assumption
        have HE : Hid ((mkN (qb ks 1) b) = vF (IntKind.u64.wrap b).toNat) := by
          have e : qb ks 1 = true := by rw [← hq]; unfold qb; simp
          unfold Hid; rw [e]; rfl
        have B2 : Hid (Blk w2 n 54 (arr (mkN (qb ks 0) a) (vI b) vZ)) := b2
        have F2 := hid (F1.out.trans f2 (fun i hi => .inr (by rw [hi]; exact HW.out)))
        clear b2 f2 B1 R1 F1 hq
        refine (real_any _ _).mono ?_
        rintro e w3 ⟨rfl, f3⟩
        have B3 := hid (f3.blk B2.out (fun h => h))
        have R3 := hid (f3.blk R2.out (fun h => h))
        have F3 := hid (F2.out.trans f3 (fun _ h => h.elim))
        clear f3 B2 R2 F2 c0
        go_wp2_with (refine wpList_storeO (vF (IntKind.u64.wrap b).toNat) (by rfl) _ _ (by rfl) (o := 6) B3.out (by simp [arr]) (by rfl) (by rfl) ?_; intro w4 b4 f4)
        have B4 : Hid (Blk w4 n 54 (arr (mkN (qb ks 0) a) (vF (IntKind.u64.wrap b).toNat) vZ)) := b4
        have R4 := hid (f4.blk R3.out (by omega))
        have F4 := hid (F3.out.trans f4 (fun i hi => .inr (by rw [hi]; exact HW.out)))
        rw [← HE.out] at B4
        exact ⟨⟨2, by decide, rfl, F4.out, B4.out, R4.out⟩, by decide⟩
      · have hq : (bits BinOp.and .i64 (ks / 2) 1 == 1) = false := by assumption
        have HE : Hid ((mkN (qb ks 1) b) = vI b) := by
          have e : qb ks 1 = false := by rw [← hq]; unfold qb; simp
          unfold Hid; rw [e]; rfl
        have B2 : Hid (Blk w2 n 54 (arr (mkN (qb ks 0) a) (vI b) vZ)) := b2
        have F2 := hid (F1.out.trans f2 (fun i hi => .inr (by rw [hi]; exact HW.out)))
        rw [← HE.out] at B2
        exact ⟨⟨2, by decide, rfl, F2.out, B2.out, R2.out⟩, by decide⟩
    | 2, hi =>
      have HB : Hid (Blk wr n 54 (arr (mkN (qb ks 0) a) (mkN (qb ks 1) b) vZ)) := hB
      clear hB
      have c0 := HR.out.cell 2
      rw [show ([.int .i64 a, .int .i64 b, .int .i64 c] : List Value)[2]? = some (.int .i64 c) from rfl] at c0
      go_wp2_with fail
      refine (whole_any _ c).mono ?_
      rintro e w1 ⟨rfl, f1⟩
      have B1 := hid (f1.blk HB.out (fun h => h))
      have R1 := hid (f1.blk HR.out (fun h => h))
      have F1 := hid (HF.out.trans f1 (fun _ h => h.elim))
      clear f1 HB HR HF c0
      go_wp2_with (refine wpList_storeO (vI c) (by rfl) _ _ (by rfl) (o := 12) B1.out (by simp [arr]) (by rfl) (by rfl) ?_; intro w2 b2 f2; have R2 := hid (f2.blk R1.out (by omega)); have c0 := R2.out.cell 2; rw [show ([.int .i64 a, .int .i64 b, .int .i64 c] : List Value)[2]? = some (.int .i64 c) from rfl] at c0)
      · have hq : (bits BinOp.and .i64 (ks / 4) 1 == 1) = true := by assumption
        have HE : Hid ((mkN (qb ks 2) c) = vF (IntKind.u64.wrap c).toNat) := by
          have e : qb ks 2 = true := by rw [← hq]; unfold qb; simp
          unfold Hid; rw [e]; rfl
        have B2 : Hid (Blk w2 n 54 (arr (mkN (qb ks 0) a) (mkN (qb ks 1) b) (vI c))) := b2
        have F2 := hid (F1.out.trans f2 (fun i hi => .inr (by rw [hi]; exact HW.out)))
        clear b2 f2 B1 R1 F1 hq
        refine (real_any _ _).mono ?_
        rintro e w3 ⟨rfl, f3⟩
        have B3 := hid (f3.blk B2.out (fun h => h))
        have R3 := hid (f3.blk R2.out (fun h => h))
        have F3 := hid (F2.out.trans f3 (fun _ h => h.elim))
        clear f3 B2 R2 F2 c0
        go_wp2_with (refine wpList_storeO (vF (IntKind.u64.wrap c).toNat) (by rfl) _ _ (by rfl) (o := 12) B3.out (by simp [arr]) (by rfl) (by rfl) ?_; intro w4 b4 f4)
        have B4 : Hid (Blk w4 n 54 (arr (mkN (qb ks 0) a) (mkN (qb ks 1) b) (vF (IntKind.u64.wrap c).toNat))) := b4
        have R4 := hid (f4.blk R3.out (by omega))
        have F4 := hid (F3.out.trans f4 (fun i hi => .inr (by rw [hi]; exact HW.out)))
        rw [← HE.out] at B4
        exact ⟨⟨3, by decide, rfl, F4.out, B4.out, R4.out⟩, by decide⟩
      · have hq : (bits BinOp.and .i64 (ks / 4) 1 == 1) = false := by assumption
        have HE : Hid ((mkN (qb ks 2) c) = vI c) := by
          have e : qb ks 2 = false := by rw [← hq]; unfold qb; simp
          unfold Hid; rw [e]; rfl
        have B2 : Hid (Blk w2 n 54 (arr (mkN (qb ks 0) a) (mkN (qb ks 1) b) (vI c))) := b2
        have F2 := hid (F1.out.trans f2 (fun i hi => .inr (by rw [hi]; exact HW.out)))
        rw [← HE.out] at B2
        exact ⟨⟨3, by decide, rfl, F2.out, B2.out, R2.out⟩, by decide⟩
    | 3, hi =>
      have HB : Hid (Blk wr n 54 (arr (mkN (qb ks 0) a) (mkN (qb ks 1) b) (mkN (qb ks 2) c))) := hB
      clear hB HR
      have HL := hid (fun W q p r s => less_any W (mkN q r) (mkN p s) true true (mkN_right_of W q r) (mkN_right_of W p s))
      have HE : Hid (∀ W q p r s, Calls Tryz.prog 25 #[(mkN q r).v, (mkN p s).v] W fun e w' => e = .returned (.tuple #[.bool (eqN (mkN q r) (mkN p s)), .int .i64 0]) ∧ Fr (fun _ => False) W w') := fun W q p r s => by
        have h := Equal_any W (mkN q r) (mkN p s) true true (eqN (mkN q r) (mkN p s), 0) (mkN_right_of W q r) (mkN_right_of W p s) (fun _ _ W' _ => equal_num W' (mkN q r) (mkN p s) (mkN_num q r) (mkN_num p s))
        exact h
      have H01 := hid (fun W => HL.out W (qb ks 0) (qb ks 1) a b)
      have H10 := hid (fun W => HL.out W (qb ks 1) (qb ks 0) b a)
      have H12 := hid (fun W => HL.out W (qb ks 1) (qb ks 2) b c)
      have H02 := hid (fun W => HL.out W (qb ks 0) (qb ks 2) a c)
      rw [less_mk] at H01 H10 H12 H02
      have E01 := hid (fun W => HE.out W (qb ks 0) (qb ks 1) a b)
      have E10 := hid (fun W => HE.out W (qb ks 1) (qb ks 0) b a)
      rw [eqN_swap] at E10
      have H3 := hid (three_ways (qb ks 0) (qb ks 1) a b)
      have HG : Hid (∀ m : Int, m = ks % 8 → (m != 0 && m != 7) = false → ltN (mkN (qb ks 0) a) (mkN (qb ks 1) b) = true → ltN (mkN (qb ks 1) b) (mkN (qb ks 2) c) = true → ltN (mkN (qb ks 0) a) (mkN (qb ks 2) c) = true) := by
        intro m hm hmx h1 h2
        have q0 : qb ks 0 = (ks % 2 == 1) := by unfold qb; rw [and_one]; simp
        have q1 : qb ks 1 = (ks / 2 % 2 == 1) := by unfold qb; rw [and_one]; simp
        have q2 : qb ks 2 = (ks / 4 % 2 == 1) := by unfold qb; rw [and_one]; simp
        have hcase : m = 0 ∨ m = 7 := by
          by_cases h0 : m = 0
          · exact .inl h0
          · right
            simp [h0] at hmx
            exact hmx
        have hall : ∃ q, qb ks 0 = q ∧ qb ks 1 = q ∧ qb ks 2 = q := by
          rcases hcase with h | h
          · refine ⟨false, ?_, ?_, ?_⟩
            · rw [q0]; simp; omega
            · rw [q1]; simp; omega
            · rw [q2]; simp; omega
          · refine ⟨true, ?_, ?_, ?_⟩
            · rw [q0]; simp; omega
            · rw [q1]; simp; omega
            · rw [q2]; simp; omega
        obtain ⟨q, e0, e1, e2⟩ := hall
        rw [e0, e1] at h1
        rw [e1, e2] at h2
        rw [e0, e2]
        exact goes_on q a b c h1 h2
      have h7 := and_seven ks
      clear HL HE HI
      generalize hX0 : mkN (qb ks 0) a = X0 at *
      generalize hX1 : mkN (qb ks 1) b = X1 at *
      generalize hX2 : mkN (qb ks 2) c = X2 at *
      clear hX0 hX1 hX2
      generalize ltN X0 X1 = b01 at *
      generalize ltN X1 X0 = b10 at *
      generalize ltN X1 X2 = b12 at *
      generalize ltN X0 X2 = b02 at *
      generalize eqN X0 X1 = q01 at *
      obtain ⟨⟨c0, c1, c2, c3, c4, c5⟩, ⟨d0, d1, d2, d3, d4, d5⟩, ⟨g0, g1, g2, g3, g4, g5⟩⟩ := arr_cells HB.out
      go_wp2_with fail
      refine (H01.out _).mono ?_
      rintro e v1 ⟨rfl, f⟩
      have B1 := hid (f.blk HB.out (fun h => h))
      have F1 := hid (HF.out.trans f (fun _ h => h.elim))
      clear f HB HF
      clear c0 c1 c2 c3 c4 c5 d0 d1 d2 d3 d4 d5 g0 g1 g2 g3 g4 g5
      obtain ⟨⟨c0, c1, c2, c3, c4, c5⟩, ⟨d0, d1, d2, d3, d4, d5⟩, ⟨g0, g1, g2, g3, g4, g5⟩⟩ := arr_cells B1.out
      go_wp2_with fail
      refine (H10.out _).mono ?_
      rintro e v2 ⟨rfl, f⟩
      have B2 := hid (f.blk B1.out (fun h => h))
      have F2 := hid (F1.out.trans f (fun _ h => h.elim))
      clear f B1 F1
      clear c0 c1 c2 c3 c4 c5 d0 d1 d2 d3 d4 d5 g0 g1 g2 g3 g4 g5
      obtain ⟨⟨c0, c1, c2, c3, c4, c5⟩, ⟨d0, d1, d2, d3, d4, d5⟩, ⟨g0, g1, g2, g3, g4, g5⟩⟩ := arr_cells B2.out
      go_wp2_with fail
      refine (E01.out _).mono ?_
      rintro e v3 ⟨rfl, f⟩
      have B3 := hid (f.blk B2.out (fun h => h))
      have F3 := hid (F2.out.trans f (fun _ h => h.elim))
      clear f B2 F2
      clear c0 c1 c2 c3 c4 c5 d0 d1 d2 d3 d4 d5 g0 g1 g2 g3 g4 g5
      obtain ⟨⟨c0, c1, c2, c3, c4, c5⟩, ⟨d0, d1, d2, d3, d4, d5⟩, ⟨g0, g1, g2, g3, g4, g5⟩⟩ := arr_cells B3.out
      go_wp2_with fail
      refine (E10.out _).mono ?_
      rintro e v4 ⟨rfl, f⟩
      have B4 := hid (f.blk B3.out (fun h => h))
      have F4 := hid (F3.out.trans f (fun _ h => h.elim))
      clear f B3 F3
      clear c0 c1 c2 c3 c4 c5 d0 d1 d2 d3 d4 d5 g0 g1 g2 g3 g4 g5
      obtain ⟨⟨c0, c1, c2, c3, c4, c5⟩, ⟨d0, d1, d2, d3, d4, d5⟩, ⟨g0, g1, g2, g3, g4, g5⟩⟩ := arr_cells B4.out
      have hn0 : (FloatKind.f64.format.order X0.f X0.f != some Ordering.eq) = isNan X0.f := rfl
      have hn1 : (FloatKind.f64.format.order X1.f X1.f != some Ordering.eq) = isNan X1.f := rfl
      generalize isNan X0.f = n0 at *
      generalize isNan X1.f = n1 at *
      rcases H3.out with ⟨hn, rfl, rfl, rfl⟩ | ⟨hn, hw⟩
      · cases n0 with
        | true =>
          go_wp2_with fail
          go_ret
          exact ⟨rfl, F4.out⟩
        | false =>
          cases n1 with
          | true =>
            go_wp2_with fail
            go_ret
            exact ⟨rfl, F4.out⟩
          | false => cases hn
      · obtain rfl : n0 = false := by cases n0 <;> simp_all
        obtain rfl : n1 = false := by cases n1 <;> simp_all
        clear hn
        go_wp2_with fail
        refine (H12.out _).mono ?_
        rintro e v5 ⟨rfl, f⟩
        have B5 := hid (f.blk B4.out (fun h => h))
        have F5 := hid (F4.out.trans f (fun _ h => h.elim))
        clear f B4 F4
        clear c0 c1 c2 c3 c4 c5 d0 d1 d2 d3 d4 d5 g0 g1 g2 g3 g4 g5
        obtain ⟨⟨c0, c1, c2, c3, c4, c5⟩, ⟨d0, d1, d2, d3, d4, d5⟩, ⟨g0, g1, g2, g3, g4, g5⟩⟩ := arr_cells B5.out
        go_wp2_with fail
        refine (H02.out _).mono ?_
        rintro e v6 ⟨rfl, f⟩
        have B6 := hid (f.blk B5.out (fun h => h))
        have F6 := hid (F5.out.trans f (fun _ h => h.elim))
        clear f B5 F5
        clear c0 c1 c2 c3 c4 c5 d0 d1 d2 d3 d4 d5 g0 g1 g2 g3 g4 g5
        obtain ⟨⟨c0, c1, c2, c3, c4, c5⟩, ⟨d0, d1, d2, d3, d4, d5⟩, ⟨g0, g1, g2, g3, g4, g5⟩⟩ := arr_cells B6.out
        have HGo := hid (HG.out _ rfl)
        clear HG
        generalize ks % 8 = m at *
        rcases hw with ⟨rfl, rfl, rfl⟩ | ⟨rfl, rfl, rfl⟩ | ⟨rfl, rfl, rfl⟩
        · by_cases m0 : m = 0
          · subst m0
            have hg := HGo.out rfl rfl
            cases b12 with
            | false =>
              go_wp2_with fail
              go_ret
              exact ⟨rfl, F6.out⟩
            | true =>
              obtain rfl := hg rfl
              go_wp2_with fail
              go_ret
              exact ⟨rfl, F6.out⟩
          · by_cases m7 : m = 7
            · subst m7
              have hg := HGo.out rfl rfl
              cases b12 with
              | false =>
                go_wp2_with fail
                go_ret
                exact ⟨rfl, F6.out⟩
              | true =>
                obtain rfl := hg rfl
                go_wp2_with fail
                go_ret
                exact ⟨rfl, F6.out⟩
            · have e0 : (m != 0) = true := by simpa using m0
              have e7 : (m != 7) = true := by simpa using m7
              go_wp2_with fail
              go_ret
              exact ⟨rfl, F6.out⟩
        · by_cases m0 : m = 0
          · subst m0
            go_wp2_with fail
            go_ret
            exact ⟨rfl, F6.out⟩
          · have e0 : (m != 0) = true := by simpa using m0
            cases e7 : (m != 7) with
            | true =>
              go_wp2_with fail
              go_ret
              exact ⟨rfl, F6.out⟩
            | false =>
              go_wp2_with fail
              go_ret
              exact ⟨rfl, F6.out⟩
        · by_cases m0 : m = 0
          · subst m0
            go_wp2_with fail
            go_ret
            exact ⟨rfl, F6.out⟩
          · have e0 : (m != 0) = true := by simpa using m0
            cases e7 : (m != 7) with
            | true =>
              go_wp2_with fail
              go_ret
              exact ⟨rfl, F6.out⟩
            | false =>
              go_wp2_with fail
              go_ret
              exact ⟨rfl, F6.out⟩
end Go.Proofs.YtlepjghfcpgbcaaGreatDoor.Tr
