/- The contract of slices.MinFunc of definitions by their priorities. -/
import Derived.Test.YtniailfcmlongaaGreatDoorTdf
namespace Go.Proofs.YtniailfcmlongaaGreatDoor.Tr
open Go.RowKit

theorem sizeD : (Tryz.prog.info? 30).map (·.size) = some 8 := by kernel_rfl
theorem dv_one (y : Dv) : ∀ v ∈ y.cs, v.oneCell' = true := by
  intro v hv
  simp only [Dv.cs, List.mem_cons, List.not_mem_nil, or_false] at hv
  rcases hv with rfl | rfl | rfl | rfl | rfl | rfl | rfl | rfl <;> rfl
theorem resD {fn : Func} {p : Tmp} (h : fn.results = #[.cell p 30]) {a : Act} {W : World} {b : Nat} {t : TypeId} {y : Dv} (ha : a.tmps.getD p undef = .pointer (some ⟨b, 0, none⟩)) (hb : Blk W b t y.cs) :
    (results fn a.tmps).run Tryz.prog W = .ok y.v W :=
  results_cell_row h a.tmps W b t y.cs.toArray (0, 0) _ ha hb Tryz.underlying30 rfl (by kernel_rfl)

/-- Storing a definition. -/
theorem wpList_storeD {ops : Array Oper} {rest : List Oper} {op : Oper} {a : Act} {W : World} {Q : Exit → Act → World → Prop} (x0 : Dv) (hgd : op.guard = none) (x y : Operand) (ho : op.op = .store 30 x y) {b : Nat} {old : Dv} (hb : Blk W b 30 old.cs)
    (hx : a.eval x = .pointer (some ⟨b, 0, none⟩)) (hy : a.eval y = x0.v) (h : ∀ W', Blk W' b 30 x0.cs → Fr (· = b) W W' → wpList Tryz.prog ops Q rest (a.put op.dst undef) W') : wpList Tryz.prog ops Q (op :: rest) a W :=
  wpList_plain hgd fun K hK => by
    have hs : (Instr.storeAt 30 (.pointer (some ⟨b, 0, none⟩)) x0.v).run Tryz.prog W = .ok () (W.setCells b 0 x0.cs) := by
      have h := run_storeAt_mid (P := Tryz.prog) W b 0 30 x0.cs.toArray (hb.there 0 8 (Nat.le_refl 8)) sizeD (all_oneCell_toArray (dv_one x0))
      rw [show x0.v = .agg x0.cs.toArray from rfl]; simpa using h
    have hb' : Blk (W.setCells b 0 x0.cs) b 30 x0.cs := hb.setCells x0.cs 0 (Nat.le_refl 8)
    have hf : Fr (· = b) W (W.setCells b 0 x0.cs) := (Fr.refl (· = b) W).setCells (b := b) (.inl rfl) _ _
    unfold Oper.wp execOp
    simp only [ho, hx, hy, hs, Sem.run_bind, Sem.run_pure, Result.andThen_ok]
    exact hK _ _ (h _ hb' hf)
theorem byPriority_fr (w : World) (y z : Dv) : Calls Tryz.prog 50 #[y.v, z.v] w fun e w' => e = .returned (.int .i64 (Lib.compareInt y.p z.p)) ∧ Fr (fun _ => False) w w' :=
  (byPriority_any w y z).mono fun _ _ ⟨h1, h2⟩ => ⟨h1, by rw [h2]; exact ((Fr.refl _ w).alloc _).alloc _⟩

def lessP (m : Int) (d : Dt) : Int := if d.p < m then d.p else m
/-- The least priority. -/
def leastP : List Dt → Int
  | [] => 0
  | d :: r => r.foldl lessP d.p
theorem leastP_snoc (L : List Dt) (i : Nat) (h0 : 0 < i) (hi : i < L.length) : leastP (L.take (i + 1)) = lessP (leastP (L.take i)) L[i] := by
  cases L with
  | nil => simp at hi
  | cons d r =>
    obtain ⟨j, rfl⟩ : ∃ j, i = j + 1 := ⟨i - 1, by omega⟩
    have hj : j < r.length := by simpa using hi
    simp only [List.take_succ_cons, leastP, List.getElem_cons_succ]
    rw [List.take_succ_eq_append_getElem hj, List.foldl_append]
    rfl
theorem cmpInt_lt (a b : Int) : decide (Lib.compareInt a b < 0) = decide (a < b) := by
  unfold Lib.compareInt
  split
  · rename_i h; simp [h]
  · rename_i h
    split <;> simp [h]

set_option maxRecDepth 100000 in
set_option maxHeartbeats 4000000 in
theorem minFunc_any (w : World) (L : List Dt) (ad : Option Addr) (cap : Nat) (hI : DsIn w L ad) (hlim : L.length ≤ 140737488351232) (hne : L ≠ []) :
    Calls Tryz.prog 49 #[.slice ad L.length cap, .func (.func 50) #[] #[]] w fun e w' => (∃ y : Dv, e = .returned y.v ∧ y.p = leastP L) ∧ Fr (fun _ => False) w w' := by
  have hst := fun (W : World) (a : Addr) (m : Mode) (f : Nat) => run_store Tryz.prog W a (.float .f64 f) m rfl
  have hpos : 0 < L.length := List.length_pos_iff.2 hne
  have HI := hid hI
  obtain ⟨bb, bo, y, rfl, y1, y2⟩ := hI.at 0 hpos
  have h1' : decide (((L.length : Nat) : Int) < 1) = false := by simpa using (show (1 : Int) ≤ ((L.length : Nat) : Int) by omega)
  have hy : y.p = leastP (L.take 1) := by
    rw [y2.2.1]
    cases L with
    | nil => exact absurd rfl hne
    | cons d r => rfl
  have HY := hid hy
  have HF0 : Hid (Fr (fun _ => False) w (dBox (dBox w default) y)) := ((Fr.refl _ w).alloc _).alloc _
  have HB0 : Hid (Blk (dBox (dBox w default) y) w.heap.size 30 (default : Dv).cs) := (dBlk w default).alloc _
  have HB1 : Hid (Blk (dBox (dBox w default) y) (w.heap.size + 1) 30 y.cs) := by
    have := dBlk (dBox w default) y
    rw [World.size_alloc] at this
    exact this
  obtain ⟨k0, k1, k2, k3, k4, k5, k6, k7⟩ := eight_env y1 (Env.alloc w (.cells #[.int .i64 0, .int .i64 0, .float .f64 0, .string ⟨#[]⟩, .slice none 0 0, .slice none 0 0, .int .i64 0, .int .i64 0] 30))
  clear hI y1 y2 hne hy
  simp only [Nat.zero_mul, Nat.add_zero] at k0 k1 k2 k3 k4 k5 k6 k7
  obtain ⟨⟨k, n, f, t, na, nl, nc, ia, il, ic⟩, p, o⟩ := y
  go_enter Tryz.func49, Tryz.ntmps49
  go_wp2_with fail
  go_loopw [6] (fun iv wr => ∃ (i : Nat) (m : Dv), 0 < i ∧ i ≤ L.length ∧ iv = .int .i64 (i : Int) ∧ m.p = leastP (L.take i) ∧ Fr (fun _ => False) w wr ∧ Blk wr w.heap.size 30 (default : Dv).cs ∧ Blk wr (w.heap.size + 1) 30 m.cs) (fun iv _ => L.length - (intOf iv).toNat)
  case atStart => exact ⟨1, _, by omega, by omega, rfl, HY.out, HF0.out, HB0.out, HB1.out⟩
  case round =>
    obtain ⟨i, m, hi0, hi, rfl, hm, hF, hB, hBm⟩ := hrel
    clear HF0 HB0 HB1 k0 k1 k2 k3 k4 k5 k6 k7 HY
    have HM := hid hm
    have HF := hid hF
    have HB := hid hB
    have HBm := hid hBm
    clear hm hF hB hBm
    by_cases hlt : i < L.length
    · have hlt' : (i : Int) < ((L.length : Nat) : Int) := by omega
      obtain ⟨bb', bo', y, e1, y1, y2⟩ := HI.out.at i hlt
      simp only [Option.some.injEq, Addr.mk.injEq, and_true] at e1
      obtain ⟨rfl, rfl⟩ := e1
      have HC := hid (fun W => byPriority_fr W y m)
      have hcl := cmpInt_lt y.p m.p
      have HS : Hid (∀ W, Fr (fun _ => False) wr W → eight W bb (bo + i * 8) y ∧ eightB W (w.heap.size + 1) m) := fun W f => ⟨eight_env (eight_env y1 (Env.of HF.out)) (Env.of f), (f.blk HBm.out (fun h => h)).eight⟩
      have HL : Hid (leastP (L.take (i + 1)) = if y.p < m.p then y.p else m.p) := by
        unfold Hid; rw [leastP_snoc L i hi0 hlt, lessP, ← HM.out, y2.2.1]
      clear y1 y2
      go_wp2_with fail
      go_region_held3 (fun W => eight W bb (bo + i * 8) y ∧ eightB W (w.heap.size + 1) m)
        (first | exact HS.out _ (Fr.refl _ _).drew | exact HS.out _ F1.out)
        (first | (refine (HC.out _).mono ?_; rintro e w2 ⟨rfl, f2⟩; have F1 : Hid (Fr (fun _ => False) wr w2) := (Fr.refl _ wr).drew.trans f2 (fun _ h => h.elim)) | fail)
      have HF2 := hid (HF.out.trans F1.out (fun _ h => h.elim))
      have HB2 := hid (F1.out.blk HB.out (fun h => h))
      have HBm2 := hid (F1.out.blk HBm.out (fun h => h))
      obtain ⟨k0, k1, k2, k3, k4, k5, k6, k7⟩ := (HS.out _ F1.out).1
      by_cases hlp : y.p < m.p
      · have hlp' : decide (y.p < m.p) = true := by simpa using hlp
        have HL2 : Hid (y.p = leastP (L.take (i + 1))) := by unfold Hid; rw [HL.out, if_pos hlp]
        clear hst
        go_wp2_with (refine wpList_storeD y (by rfl) _ _ (by rfl) HBm2.out (by rfl) (by rfl) ?_; intro w3 b3 f3)
        have HB3 := hid (f3.blk HB2.out (by omega))
        have HBm3 := hid b3
        have HF3 : Hid (Fr (fun _ => False) w w3) := HF2.out.trans f3 (fun j hj => .inr (by omega))
        clear b3 f3
        go_wp2_with fail
        exact ⟨⟨i + 1, y, by omega, by omega, by first | rfl | (congr 1), HL2.out, HF3.out, HB3.out, HBm3.out⟩, by simp [intOf]; omega⟩
      · have hlp' : decide (y.p < m.p) = false := by simpa using hlp
        have HL2 : Hid (m.p = leastP (L.take (i + 1))) := by unfold Hid; rw [HL.out, if_neg hlp]
        go_wp2_with fail
        exact ⟨⟨i + 1, m, by omega, by omega, by first | rfl | (congr 1), HL2.out, HF2.out, HB2.out, HBm2.out⟩, by simp [intOf]; omega⟩
    · have hlt' : ¬ (i : Int) < ((L.length : Nat) : Int) := by omega
      have HM2 : Hid (m.p = leastP L) := by
        unfold Hid; rw [HM.out, List.take_of_length_le (by omega)]
      obtain ⟨k0, k1, k2, k3, k4, k5, k6, k7⟩ := HBm.out.eight
      clear hst
      go_wp2_with (refine wpList_storeD m (by rfl) _ _ (by rfl) HB.out (by rfl) (by rfl) ?_; intro w3 b3 f3)
      have HF3 : Hid (Fr (fun _ => False) w w3) := HF.out.trans f3 (fun j hj => .inr (by omega))
      exact bodyPost_ret (resD rfl rfl b3) rfl ⟨⟨m, rfl, HM2.out⟩, HF3.out⟩
end Go.Proofs.YtniailfcmlongaaGreatDoor.Tr
