import Derived.Test.YtniailfcmlongaaGreatDoorTdfM
import Derived.Shelf.SlGeneric
import Derived.Shelf.SlSortCmp.InsertionK
/- The contract of slices.MinFunc of definitions by their priorities. -/
namespace Go.Proofs.YtniailfcmlongaaGreatDoor.Tr
open Go.RowKit

theorem sizeD : (Tryz.prog.info? 30).map (·.size) = some 8 := by kernel_rfl
theorem dv_one (y : Dv) : ∀ v ∈ y.cs, v.oneCell' = true := by
  intro v hv
  simp only [Dv.cs, List.mem_cons, List.not_mem_nil, or_false] at hv
  rcases hv with rfl | rfl | rfl | rfl | rfl | rfl | rfl | rfl <;> rfl
theorem resD {fn : Func} {p : Tmp} (h : fn.results = #[.cell p 30]) {a : Act} {W : World} {b : Nat} {t : TypeId} {y : Dv} (ha : a.tmps.getD p undef = .pointer (some ⟨b, 0, none⟩)) (hb : Blk W b t y.cs) :
    (results fn a.tmps).run Tryz.prog W = .ok y.v W :=
  results_cell_row h a.tmps W b t y.cs.toArray (0, 0) _ ha hb Tryz.underlying30 rfl (by kernel_rfl)

/-- Storing a definition. -/
theorem wpList_storeD {ops : Array Oper} {rest : List Oper} {op : Oper} {a : Act} {W : World} {Q : Exit → Act → World → Prop} (x0 : Dv) (hgd : op.guard = none) (x y : Operand) (ho : op.op = .store 30 x y) {b : Nat} {old : Dv} (hb : Blk W b 30 old.cs)
    (hx : a.eval x = .pointer (some ⟨b, 0, none⟩)) (hy : a.eval y = x0.v) (h : ∀ W', Blk W' b 30 x0.cs → Fr (· = b) W W' → wpList Tryz.prog ops Q rest (a.put op.dst undef) W') : wpList Tryz.prog ops Q (op :: rest) a W :=
  wpList_plain hgd fun K hK => by
    have hs : (Instr.storeAt 30 (.pointer (some ⟨b, 0, none⟩)) x0.v).run Tryz.prog W = .ok () (W.setCells b 0 x0.cs) := by
      have h := run_storeAt_mid (P := Tryz.prog) W b 0 30 x0.cs.toArray (hb.there 0 8 (Nat.le_refl 8)) sizeD (all_oneCell_toArray (dv_one x0))
      rw [show x0.v = .agg x0.cs.toArray from rfl]; simpa using h
    have hb' : Blk (W.setCells b 0 x0.cs) b 30 x0.cs := hb.setCells x0.cs 0 (Nat.le_refl 8)
    have hf : Fr (· = b) W (W.setCells b 0 x0.cs) := (Fr.refl (· = b) W).setCells (b := b) (.inl rfl) _ _
    unfold Oper.wp execOp
    simp only [ho, hx, hy, hs, Sem.run_bind, Sem.run_pure, Result.andThen_ok]
    exact hK _ _ (h _ hb' hf)
theorem byPriority_fr (w : World) (y z : Dv) : Calls Tryz.prog 50 #[y.v, z.v] w fun e w' => e = .returned (.int .i64 (Lib.compareInt y.p z.p)) ∧ Fr (fun _ => False) w w' :=
  (byPriority_any w y z).mono fun _ _ ⟨h1, h2⟩ => ⟨h1, by rw [h2]; exact ((Fr.refl _ w).alloc _).alloc _⟩

def lessP (m : Int) (d : Dt) : Int := if d.p < m then d.p else m
/-- The least priority. -/
def leastP : List Dt → Int
  | [] => 0
  | d :: r => r.foldl lessP d.p
theorem leastP_snoc (L : List Dt) (i : Nat) (h0 : 0 < i) (hi : i < L.length) : leastP (L.take (i + 1)) = lessP (leastP (L.take i)) L[i] := by
  cases L with
  | nil => simp at hi
  | cons d r =>
    obtain ⟨j, rfl⟩ : ∃ j, i = j + 1 := ⟨i - 1, by omega⟩
    have hj : j < r.length := by simpa using hi
    simp only [List.take_succ_cons, leastP, List.getElem_cons_succ]
    rw [List.take_succ_eq_append_getElem hj, List.foldl_append]
    rfl
theorem cmpInt_lt (a b : Int) : decide (Lib.compareInt a b < 0) = decide (a < b) := by
  unfold Lib.compareInt
  split
  · rename_i h; simp [h]
  · rename_i h
    split <;> simp [h]

set_option maxRecDepth 100000 in
set_option maxHeartbeats 4000000 in
theorem minFunc_any (w : World) (L : List Dt) (ad : Option Addr) (cap : Nat) (hI : DsIn w L ad) (hlim : L.length ≤ 140737488351232) (hne : L ≠ []) :
    Calls Tryz.prog 49 #[.slice ad L.length cap, .func (.func 50) #[] #[]] w fun e w' => (∃ y : Dv, e = .returned y.v ∧ y.p = leastP L) ∧ Fr (fun _ => False) w w' := by
  have hst := fun (W : World) (a : Addr) (m : Mode) (f : Nat) => run_store Tryz.prog W a (.float .f64 f) m rfl
  have hpos : 0 < L.length := List.length_pos_iff.2 hne
  have HI := hid hI
  obtain ⟨bb, bo, y, rfl, y1, y2⟩ := hI.at 0 hpos
  have h1' : decide (((L.length : Nat) : Int) < 1) = false := by simpa using (show (1 : Int) ≤ ((L.length : Nat) : Int) by omega)
  have hy : y.p = leastP (L.take 1) := by
    rw [y2.2.1]
    cases L with
    | nil => exact absurd rfl hne
    | cons d r => rfl
  have HY := hid hy
  have HF0 : Hid (Fr (fun _ => False) w (dBox (dBox w default) y)) := ((Fr.refl _ w).alloc _).alloc _
  have HB0 : Hid (Blk (dBox (dBox w default) y) w.heap.size 30 (default : Dv).cs) := (dBlk w default).alloc _
  have HB1 : Hid (Blk (dBox (dBox w default) y) (w.heap.size + 1) 30 y.cs) := by
    have := dBlk (dBox w default) y
    rw [World.size_alloc] at this
    exact this
  obtain ⟨k0, k1, k2, k3, k4, k5, k6, k7⟩ := eight_env y1 (Env.alloc w (.cells #[.int .i64 0, .int .i64 0, .float .f64 0, .string ⟨#[]⟩, .slice none 0 0, .slice none 0 0, .int .i64 0, .int .i64 0] 30))
  clear hI y1 y2 hne hy
  simp only [Nat.zero_mul, Nat.add_zero] at k0 k1 k2 k3 k4 k5 k6 k7
  obtain ⟨⟨k, n, f, t, na, nl, nc, ia, il, ic⟩, p, o⟩ := y
  go_enter Tryz.func49, Tryz.ntmps49
  go_wp2_with fail
  go_loopw [6] (fun iv wr => ∃ (i : Nat) (m : Dv), 0 < i ∧ i ≤ L.length ∧ iv = .int .i64 (i : Int) ∧ m.p = leastP (L.take i) ∧ Fr (fun _ => False) w wr ∧ Blk wr w.heap.size 30 (default : Dv).cs ∧ Blk wr (w.heap.size + 1) 30 m.cs) (fun iv _ => L.length - (intOf iv).toNat)
  case atStart => exact ⟨1, _, by omega, by omega, rfl, HY.out, HF0.out, HB0.out, HB1.out⟩
  case round =>
    obtain ⟨i, m, hi0, hi, rfl, hm, hF, hB, hBm⟩ := hrel
    clear HF0 HB0 HB1 k0 k1 k2 k3 k4 k5 k6 k7 HY
    have HM := hid hm
    have HF := hid hF
    have HB := hid hB
    have HBm := hid hBm
    clear hm hF hB hBm
    by_cases hlt : i < L.length
    · have hlt' : (i : Int) < ((L.length : Nat) : Int) := by omega
      obtain ⟨bb', bo', y, e1, y1, y2⟩ := HI.out.at i hlt
      simp only [Option.some.injEq, Addr.mk.injEq, and_true] at e1
      obtain ⟨rfl, rfl⟩ := e1
      have HC := hid (fun W => byPriority_fr W y m)
      have hcl := cmpInt_lt y.p m.p
      have HS : Hid (∀ W, Fr (fun _ => False) wr W → eight W bb (bo + i * 8) y ∧ eightB W (w.heap.size + 1) m) := fun W f => ⟨eight_env (eight_env y1 (Env.of HF.out)) (Env.of f), (f.blk HBm.out (fun h => h)).eight⟩
      have HL : Hid (leastP (L.take (i + 1)) = if y.p < m.p then y.p else m.p) := by
        unfold Hid; rw [leastP_snoc L i hi0 hlt, lessP, ← HM.out, y2.2.1]
      clear y1 y2
      go_wp2_with fail
      go_region_held3 (fun W => eight W bb (bo + i * 8) y ∧ eightB W (w.heap.size + 1) m)
        (first | exact HS.out _ (Fr.refl _ _).drew | exact HS.out _ F1.out)
        (first | (refine (HC.out _).mono ?_; rintro e w2 ⟨rfl, f2⟩; have F1 : Hid (Fr (fun _ => False) wr w2) := (Fr.refl _ wr).drew.trans f2 (fun _ h => h.elim)) | fail)
      have HF2 := hid (HF.out.trans F1.out (fun _ h => h.elim))
      have HB2 := hid (F1.out.blk HB.out (fun h => h))
      have HBm2 := hid (F1.out.blk HBm.out (fun h => h))
      obtain ⟨k0, k1, k2, k3, k4, k5, k6, k7⟩ := (HS.out _ F1.out).1
      by_cases hlp : y.p < m.p
      · have hlp' : decide (y.p < m.p) = true := by simpa using hlp
        have HL2 : Hid (y.p = leastP (L.take (i + 1))) := by unfold Hid; rw [HL.out, if_pos hlp]
        clear hst
        go_wp2_with (refine wpList_storeD y (by rfl) _ _ (by rfl) HBm2.out (by rfl) (by rfl) ?_; intro w3 b3 f3)
        have HB3 := hid (f3.blk HB2.out (by omega))
        have HBm3 := hid b3
        have HF3 : Hid (Fr (fun _ => False) w w3) := HF2.out.trans f3 (fun j hj => .inr (by omega))
        clear b3 f3
        go_wp2_with fail
        exact ⟨⟨i + 1, y, by omega, by omega, by first | rfl | (congr 1), HL2.out, HF3.out, HB3.out, HBm3.out⟩, by simp [intOf]; omega⟩
      · have hlp' : decide (y.p < m.p) = false := by simpa using hlp
        have HL2 : Hid (m.p = leastP (L.take (i + 1))) := by unfold Hid; rw [HL.out, if_neg hlp]
        go_wp2_with fail
        exact ⟨⟨i + 1, m, by omega, by omega, by first | rfl | (congr 1), HL2.out, HF2.out, HB2.out, HBm2.out⟩, by simp [intOf]; omega⟩
    · have hlt' : ¬ (i : Int) < ((L.length : Nat) : Int) := by omega
      have HM2 : Hid (m.p = leastP L) := by
        unfold Hid; rw [HM.out, List.take_of_length_le (by omega)]
      obtain ⟨k0, k1, k2, k3, k4, k5, k6, k7⟩ := HBm.out.eight
      clear hst
      go_wp2_with (refine wpList_storeD m (by rfl) _ _ (by rfl) HB.out (by rfl) (by rfl) ?_; intro w3 b3 f3)
      have HF3 : Hid (Fr (fun _ => False) w w3) := HF.out.trans f3 (fun j hj => .inr (by omega))
      exact bodyPost_ret (resD rfl rfl b3) rfl ⟨⟨m, rfl, HM2.out⟩, HF3.out⟩
end Go.Proofs.YtniailfcmlongaaGreatDoor.Tr
/- The contract of slices.SortStableFunc of twenty definitions or fewer, by their orders. -/
namespace Go.Proofs
open Go.Shelf
def Tryz.laysIns_ren : Go.Shelf.Ren := ⟨fun | 20 => 91 | n => n, fun | 24 => 30 | 22 => 31 | 3 => 3 | 25 => 75 | 4 => 4 | 0 => 0 | n => n, fun | n => n⟩
theorem Tryz.laysIns : Go.Proofs.SlLaysF0.n20 Tryz.prog Tryz.laysIns_ren := {
  mixed := by kernel_rfl
  f20 := ⟨Tryz.f91.name, by decide, Tryz.func91.trans (congrArg some (by kernel_rfl))⟩
  t0 := Tryz.underlying0
  a0 := Tryz.isAgg0
  z0 := Tryz.sizeOf0
  v0 := Tryz.zeroValue0
  t3 := Tryz.underlying3
  a3 := Tryz.isAgg3
  z3 := Tryz.sizeOf3
  v3 := Tryz.zeroValue3
  t4 := Tryz.underlying4
  a4 := Tryz.isAgg4
  z4 := Tryz.sizeOf4
  v4 := Tryz.zeroValue4
  t22 := Tryz.underlying31
  a22 := Tryz.isAgg31
  z22 := Tryz.sizeOf31
  v22 := Tryz.zeroValue31
  t25 := Tryz.underlying75
  a25 := Tryz.isAgg75
  z25 := Tryz.sizeOf75
  v25 := Tryz.zeroValue75 }
end Go.Proofs
namespace Go.Proofs.YtniailfcmlongaaGreatDoor.Tr
open Go.RowKit Go.Sort

/-- A definition and its cells. -/
abbrev Dz := Dt × Dv
instance : Inhabited Vt := ⟨.mk 0 0 0 [] [] []⟩
instance : Inhabited Dt := ⟨⟨default, 0, 0⟩⟩
def encZ (z : Dz) : List Value := z.2.cs
def cfZ (a b : Dz) : Int := Lib.compareInt a.2.o b.2.o
theorem encZ_len (z : Dz) : (encZ z).length = 8 := rfl
theorem encZ_one (z : Dz) : ∀ v ∈ encZ z, v.oneCell' = true := dv_one z.2

theorem box2 (W : World) (y z : Dv) : ∃ os, dBox (dBox W y) z = grow (W.drewN 0) os := ⟨_, by
  show (W.alloc _).alloc _ = _
  rw [alloc_eq_grow, alloc_eq_grow, grow_grow]; rfl⟩
theorem cmpLays (blk off size : Nat) (w : World) : CmpLays Tryz.prog 52 #[] encZ 8 cfZ blk off size w := fun m os dk _ a b => by
  refine (byOrder_any (sortWorldK encZ 8 w blk off m dk os) a.2 b.2).mono ?_
  rintro e w' ⟨rfl, rfl⟩
  obtain ⟨os', h⟩ := box2 (sortWorldK encZ 8 w blk off m dk os) a.2 b.2
  exact ⟨rfl, 0, os', h⟩

/-- Sorted. -/
def insZ (D : Array Dz) : Array Dz := Sort.insertionSort (ltOf cfZ) D 0 D.size

theorem ins_any (w : World) (blk off cap a b : Nat) (D : Array Dz) (hH : HoldsK encZ 8 w blk off D) (hblk : blk < w.heap.size) (hab : a ≤ b) (hb : b ≤ D.size) (hs : D.size ≤ 1000) :
    Calls Tryz.prog 91 #[.slice (some ⟨blk, off, none⟩) D.size cap, .int .i64 a, .int .i64 b, .func (.func 52) #[] #[]] w fun e w' => e = .returned (.tuple #[]) ∧ ∃ n os, w' = sortWorldK encZ 8 w blk off n (Sort.insertionSort (ltOf cfZ) D a b) os :=
  AnyQ.insertionSortCmpFunc Tryz.laysIns 8 Tryz.isAgg30 Tryz.sizeOf30 encZ encZ_len encZ_one cfZ 52 #[] blk off cap a b D w (enters_of Tryz.func52 (by kernel_rfl) rfl) (cmpLays blk off D.size w) hH hblk hab hb (by omega)

theorem sort_fr (w : World) (blk off n : Nat) (D : Array Dz) (os : Array Obj) : Fr (· = blk) w (sortWorldK encZ 8 w blk off n D os) := by
  refine ⟨rfl, rfl, rfl, size_sortWorldK_c encZ 8 w blk off n D os, fun k hk hn => ?_⟩
  unfold sortWorldK
  rw [heap_grow_old _ _ (by rw [size_putRowK]; exact hk)]
  unfold putRowK putRow mapBlock
  show ((Sort.ahead w n).heap.modify blk _)[k]? = _
  rw [Array.getElem?_modify, if_neg (fun e => hn e.symm)]
  rfl

theorem cmp_trans (a b c : Int) (h : decide (Lib.compareInt a b < 0) = true) (g : decide (Lib.compareInt b c < 0) = true) : decide (Lib.compareInt a c < 0) = true := by
  rw [cmpInt_lt] at *
  simp only [decide_eq_true_eq] at *
  omega
theorem swoZ : SWO (ltOf cfZ) where
  irrefl := fun x => by unfold ltOf cfZ; rw [cmpInt_lt]; simp
  trans := fun x y z h g => cmp_trans _ _ _ h g
  ntrans := fun x y z h g => by
    unfold ltOf cfZ at *
    rw [cmpInt_lt] at *
    simp only [decide_eq_false_iff_not] at *
    omega
theorem ins_perm (D : Array Dz) (a b : Nat) (hab : a ≤ b) (hb : b ≤ D.size) : PermIn a b D (Sort.insertionSort (ltOf cfZ) D a b) := (insertionSort_holds swoZ D a b hab hb).1
theorem insZ_size (D : Array Dz) : (insZ D).size = D.size := (ins_perm D 0 D.size (Nat.zero_le _) (Nat.le_refl _)).1
theorem insZ_mem (D : Array Dz) : (insZ D).toList.Perm D.toList := by
  have h := (ins_perm D 0 D.size (Nat.zero_le _) (Nat.le_refl _)).2.2
  have e1 : (insZ D).extract 0 D.size = insZ D := by rw [← insZ_size D]; exact Array.extract_size
  have e2 : D.extract 0 D.size = D := Array.extract_size
  unfold insZ at e1 ⊢
  rw [e1, e2] at h
  exact h

theorem ins_fr (w : World) (blk off cap a b : Nat) (D : Array Dz) (hH : HoldsK encZ 8 w blk off D) (hblk : blk < w.heap.size) (hab : a ≤ b) (hb : b ≤ D.size) (hs : D.size ≤ 1000) :
    Calls Tryz.prog 91 #[.slice (some ⟨blk, off, none⟩) D.size cap, .int .i64 a, .int .i64 b, .func (.func 52) #[] #[]] w fun e w' => e = .returned (.tuple #[]) ∧ Fr (· = blk) w w' ∧ HoldsK encZ 8 w' blk off (Sort.insertionSort (ltOf cfZ) D a b) :=
  (ins_any w blk off cap a b D hH hblk hab hb hs).mono fun _ _ ⟨h1, n, os, h2⟩ => ⟨h1, by rw [h2]; exact sort_fr w blk off n _ os, by rw [h2]; exact holdsK_sortWorldK_c encZ 8 w blk off D _ n os hH hblk (ins_perm D a b hab hb).1⟩

set_option maxRecDepth 100000 in
set_option maxHeartbeats 4000000 in
theorem stable_few (w : World) (blk off cap : Nat) (D : Array Dz) (hH : HoldsK encZ 8 w blk off D) (hblk : blk < w.heap.size) (hs : D.size ≤ 20) :
    Calls Tryz.prog 74 #[.slice (some ⟨blk, off, none⟩) D.size cap, .int .i64 (D.size : Int), .func (.func 52) #[] #[]] w fun e w' => e = .returned (.tuple #[]) ∧ Fr (· = blk) w w' ∧ HoldsK encZ 8 w' blk off (insZ D) := by
  have HC := hid (ins_fr w blk off cap 0 D.size D hH hblk (Nat.zero_le _) (Nat.le_refl _) (by omega))
  have HC2 : Hid (∀ W, blk < W.heap.size → HoldsK encZ 8 W blk off (insZ D) → Calls Tryz.prog 91 #[.slice (some ⟨blk, off, none⟩) D.size cap, .int .i64 (D.size : Int), .int .i64 (D.size : Int), .func (.func 52) #[] #[]] W fun e w' => e = .returned (.tuple #[]) ∧ Fr (· = blk) W w' ∧ HoldsK encZ 8 w' blk off (insZ D)) := fun W hb h => by
    have := ins_fr W blk off cap D.size D.size (insZ D) h hb (Nat.le_refl _) (by rw [insZ_size]; exact Nat.le_refl _) (by rw [insZ_size]; omega)
    have e : Sort.insertionSort (ltOf cfZ) (insZ D) D.size D.size = insZ D := by
      unfold Sort.insertionSort
      rw [Sort.insOuter, if_neg (by omega)]
    rw [e, insZ_size] at this
    exact this
  have hs2 : decide ((20 : Int) < ((D.size : Nat) : Int)) = false := by simpa using (show ((D.size : Nat) : Int) ≤ 20 by omega)
  have e0 : Sort.insertionSort (ltOf cfZ) D 0 D.size = insZ D := rfl
  rw [e0] at HC
  generalize insZ D = D' at *
  have HFin : Hid (∀ W : World, Fr (· = blk) w W → HoldsK encZ 8 W blk off D' → Ending.returned (Value.tuple #[]) = .returned (.tuple #[]) ∧ Fr (· = blk) w W ∧ HoldsK encZ 8 W blk off D') := fun W h1 h2 => ⟨rfl, h1, h2⟩
  clear hH e0
  generalize D.size = N at *
  by_cases h20 : N = 20
  · subst h20
    go_enter Tryz.func74, Tryz.ntmps74
    go_wp2_with fail
    go_loopw [7, 8] (fun av bv wr => (av = .int .i64 0 ∧ bv = .int .i64 20 ∧ w = wr) ∨ (av = .int .i64 20 ∧ bv = .int .i64 40 ∧ Fr (· = blk) w wr ∧ HoldsK encZ 8 wr blk off D')) (fun _ bv _ => 40 - (intOf bv).toNat)
    case atStart => exact .inl ⟨rfl, rfl, rfl⟩
    case round =>
      rcases hrel with ⟨rfl, rfl, rfl⟩ | ⟨rfl, rfl, hF, hH⟩
      · go_wp2_with fail
        refine HC.out.mono ?_
        rintro e w1 ⟨rfl, hF, hH⟩
        have HF := hid hF
        have HH := hid hH
        clear hF hH
        go_wp2_with fail
        exact ⟨.inr ⟨rfl, rfl, HF.out, HH.out⟩, by decide⟩
      · have HF := hid hF
        have HH := hid hH
        have hb2 : blk < wr.heap.size := Nat.lt_of_lt_of_le hblk hF.size
        have HC3 := hid (HC2.out wr hb2 hH)
        clear hF hH
        go_wp2_with fail
        refine HC3.out.mono ?_
        rintro e w1 ⟨rfl, hF1, hH1⟩
        have HF1 := hid (HF.out.trans hF1 (fun j hj => .inl hj))
        have HH1 := hid hH1
        clear hF1 hH1
        go_wp2_with fail
        go_loopw [6, 7, 8, 9] (fun nv _ _ _ wr => nv = .int .i64 20 ∧ Fr (· = blk) w wr ∧ HoldsK encZ 8 wr blk off D') (fun _ _ _ _ _ => 0)
        case atStart => exact ⟨rfl, HF1.out, HH1.out⟩
        case round =>
          obtain ⟨rfl, hF2, hH2⟩ := hrel
          have HF2 := hid hF2
          have HH2 := hid hH2
          clear hF2 hH2
          go_wp2_with fail
          go_end0
          exact ⟨rfl, HF2.out, HH2.out⟩
  · have h20' : decide ((20 : Int) ≤ ((N : Nat) : Int)) = false := by simpa using (show ((N : Nat) : Int) < 20 by omega)
    have h20n : ¬ 20 ≤ N := by omega
    go_enter Tryz.func74, Tryz.ntmps74
    go_wp2_with fail
    go_loopw [7, 8] (fun av bv wr => av = .int .i64 0 ∧ bv = .int .i64 20 ∧ w = wr) (fun _ _ _ => 0)
    case atStart => exact ⟨rfl, rfl, rfl⟩
    case round =>
      obtain ⟨rfl, rfl, rfl⟩ := hrel
      go_wp2_with fail
      refine HC.out.mono ?_
      rintro e w1 ⟨rfl, hF, hH⟩
      have HF := hid hF
      have HH := hid hH
      clear hF hH
      go_wp2_with fail
      go_loopw [6, 7, 8, 9] (fun nv _ _ _ wr => nv = .int .i64 20 ∧ Fr (· = blk) w wr ∧ HoldsK encZ 8 wr blk off D') (fun _ _ _ _ _ => 0)
      case atStart => exact ⟨rfl, HF.out, HH.out⟩
      case round =>
        obtain ⟨rfl, hF2, hH2⟩ := hrel
        have HF2 := hid hF2
        have HH2 := hid hH2
        clear hF2 hH2
        go_wp2_with fail
        go_end0
        exact ⟨rfl, HF2.out, HH2.out⟩

set_option maxRecDepth 100000 in
set_option maxHeartbeats 4000000 in
theorem sort_few (w : World) (blk off cap : Nat) (D : Array Dz) (hH : HoldsK encZ 8 w blk off D) (hblk : blk < w.heap.size) (hs : D.size ≤ 20) :
    Calls Tryz.prog 51 #[.slice (some ⟨blk, off, none⟩) D.size cap, .func (.func 52) #[] #[]] w fun e w' => e = .returned (.tuple #[]) ∧ Fr (· = blk) w w' ∧ HoldsK encZ 8 w' blk off (insZ D) := by
  have HC := hid (stable_few w blk off cap D hH hblk hs)
  generalize insZ D = D' at *
  clear hH
  generalize D.size = N at *
  go_enter Tryz.func51, Tryz.ntmps51
  go_wp2_with fail
  refine HC.out.mono ?_
  rintro e w1 ⟨rfl, hF, hH⟩
  have HF := hid hF
  have HH := hid hH
  clear hF hH
  go_wp2_with fail
  go_end0
  exact ⟨rfl, HF.out, HH.out⟩
end Go.Proofs.YtniailfcmlongaaGreatDoor.Tr
