/- The contract of slices.SortStableFunc of twenty definitions or fewer, by their orders. -/
import Derived.Test.YtniailfcmlongaaGreatDoorTmn
import Derived.Shelf.SlGeneric
import Derived.Shelf.SlSortCmp.InsertionK
namespace Go.Proofs
open Go.Shelf
def Tryz.laysIns_ren : Go.Shelf.Ren := ⟨fun | 20 => 91 | n => n, fun | 24 => 30 | 22 => 31 | 3 => 3 | 25 => 75 | 4 => 4 | 0 => 0 | n => n, fun | n => n⟩
theorem Tryz.laysIns : Go.Proofs.SlLaysF0.n20 Tryz.prog Tryz.laysIns_ren := {
  mixed := by kernel_rfl
  f20 := ⟨Tryz.f91.name, by decide, Tryz.func91.trans (congrArg some (by kernel_rfl))⟩
  t0 := Tryz.underlying0
  a0 := Tryz.isAgg0
  z0 := Tryz.sizeOf0
  v0 := Tryz.zeroValue0
  t3 := Tryz.underlying3
  a3 := Tryz.isAgg3
  z3 := Tryz.sizeOf3
  v3 := Tryz.zeroValue3
  t4 := Tryz.underlying4
  a4 := Tryz.isAgg4
  z4 := Tryz.sizeOf4
  v4 := Tryz.zeroValue4
  t22 := Tryz.underlying31
  a22 := Tryz.isAgg31
  z22 := Tryz.sizeOf31
  v22 := Tryz.zeroValue31
  t25 := Tryz.underlying75
  a25 := Tryz.isAgg75
  z25 := Tryz.sizeOf75
  v25 := Tryz.zeroValue75 }
end Go.Proofs
namespace Go.Proofs.YtniailfcmlongaaGreatDoor.Tr
open Go.RowKit Go.Sort

/-- A definition and its cells. -/
abbrev Dz := Dt × Dv
instance : Inhabited Vt := ⟨.mk 0 0 0 [] [] []⟩
instance : Inhabited Dt := ⟨⟨default, 0, 0⟩⟩
def encZ (z : Dz) : List Value := z.2.cs
def cfZ (a b : Dz) : Int := Lib.compareInt a.2.o b.2.o
theorem encZ_len (z : Dz) : (encZ z).length = 8 := rfl
theorem encZ_one (z : Dz) : ∀ v ∈ encZ z, v.oneCell' = true := dv_one z.2

theorem box2 (W : World) (y z : Dv) : ∃ os, dBox (dBox W y) z = grow (W.drewN 0) os := ⟨_, by
  show (W.alloc _).alloc _ = _
  rw [alloc_eq_grow, alloc_eq_grow, grow_grow]; rfl⟩
theorem cmpLays (blk off size : Nat) (w : World) : CmpLays Tryz.prog 52 #[] encZ 8 cfZ blk off size w := fun m os dk _ a b => by
  refine (byOrder_any (sortWorldK encZ 8 w blk off m dk os) a.2 b.2).mono ?_
  rintro e w' ⟨rfl, rfl⟩
  obtain ⟨os', h⟩ := box2 (sortWorldK encZ 8 w blk off m dk os) a.2 b.2
  exact ⟨rfl, 0, os', h⟩

/-- Sorted. -/
def insZ (D : Array Dz) : Array Dz := Sort.insertionSort (ltOf cfZ) D 0 D.size

theorem ins_any (w : World) (blk off cap a b : Nat) (D : Array Dz) (hH : HoldsK encZ 8 w blk off D) (hblk : blk < w.heap.size) (hab : a ≤ b) (hb : b ≤ D.size) (hs : D.size ≤ 1000) :
    Calls Tryz.prog 91 #[.slice (some ⟨blk, off, none⟩) D.size cap, .int .i64 a, .int .i64 b, .func (.func 52) #[] #[]] w fun e w' => e = .returned (.tuple #[]) ∧ ∃ n os, w' = sortWorldK encZ 8 w blk off n (Sort.insertionSort (ltOf cfZ) D a b) os :=
  AnyQ.insertionSortCmpFunc Tryz.laysIns 8 Tryz.isAgg30 Tryz.sizeOf30 encZ encZ_len encZ_one cfZ 52 #[] blk off cap a b D w (enters_of Tryz.func52 (by kernel_rfl) rfl) (cmpLays blk off D.size w) hH hblk hab hb (by omega)

theorem sort_fr (w : World) (blk off n : Nat) (D : Array Dz) (os : Array Obj) : Fr (· = blk) w (sortWorldK encZ 8 w blk off n D os) := by
  refine ⟨rfl, rfl, rfl, size_sortWorldK_c encZ 8 w blk off n D os, fun k hk hn => ?_⟩
  unfold sortWorldK
  rw [heap_grow_old _ _ (by rw [size_putRowK]; exact hk)]
  unfold putRowK putRow mapBlock
  show ((Sort.ahead w n).heap.modify blk _)[k]? = _
  rw [Array.getElem?_modify, if_neg (fun e => hn e.symm)]
  rfl

theorem cmp_trans (a b c : Int) (h : decide (Lib.compareInt a b < 0) = true) (g : decide (Lib.compareInt b c < 0) = true) : decide (Lib.compareInt a c < 0) = true := by
  rw [cmpInt_lt] at *
  simp only [decide_eq_true_eq] at *
  omega
theorem swoZ : SWO (ltOf cfZ) where
  irrefl := fun x => by unfold ltOf cfZ; rw [cmpInt_lt]; simp
  trans := fun x y z h g => cmp_trans _ _ _ h g
  ntrans := fun x y z h g => by
    unfold ltOf cfZ at *
    rw [cmpInt_lt] at *
    simp only [decide_eq_false_iff_not] at *
    omega
theorem ins_perm (D : Array Dz) (a b : Nat) (hab : a ≤ b) (hb : b ≤ D.size) : PermIn a b D (Sort.insertionSort (ltOf cfZ) D a b) := (insertionSort_holds swoZ D a b hab hb).1
theorem insZ_size (D : Array Dz) : (insZ D).size = D.size := (ins_perm D 0 D.size (Nat.zero_le _) (Nat.le_refl _)).1
theorem insZ_mem (D : Array Dz) : (insZ D).toList.Perm D.toList := by
  have h := (ins_perm D 0 D.size (Nat.zero_le _) (Nat.le_refl _)).2.2
  have e1 : (insZ D).extract 0 D.size = insZ D := by rw [← insZ_size D]; exact Array.extract_size
  have e2 : D.extract 0 D.size = D := Array.extract_size
  unfold insZ at e1 ⊢
  rw [e1, e2] at h
  exact h

theorem ins_fr (w : World) (blk off cap a b : Nat) (D : Array Dz) (hH : HoldsK encZ 8 w blk off D) (hblk : blk < w.heap.size) (hab : a ≤ b) (hb : b ≤ D.size) (hs : D.size ≤ 1000) :
    Calls Tryz.prog 91 #[.slice (some ⟨blk, off, none⟩) D.size cap, .int .i64 a, .int .i64 b, .func (.func 52) #[] #[]] w fun e w' => e = .returned (.tuple #[]) ∧ Fr (· = blk) w w' ∧ HoldsK encZ 8 w' blk off (Sort.insertionSort (ltOf cfZ) D a b) :=
  (ins_any w blk off cap a b D hH hblk hab hb hs).mono fun _ _ ⟨h1, n, os, h2⟩ => ⟨h1, by rw [h2]; exact sort_fr w blk off n _ os, by rw [h2]; exact holdsK_sortWorldK_c encZ 8 w blk off D _ n os hH hblk (ins_perm D a b hab hb).1⟩

set_option maxRecDepth 100000 in
set_option maxHeartbeats 4000000 in
theorem stable_few (w : World) (blk off cap : Nat) (D : Array Dz) (hH : HoldsK encZ 8 w blk off D) (hblk : blk < w.heap.size) (hs : D.size ≤ 20) :
    Calls Tryz.prog 74 #[.slice (some ⟨blk, off, none⟩) D.size cap, .int .i64 (D.size : Int), .func (.func 52) #[] #[]] w fun e w' => e = .returned (.tuple #[]) ∧ Fr (· = blk) w w' ∧ HoldsK encZ 8 w' blk off (insZ D) := by
  have HC := hid (ins_fr w blk off cap 0 D.size D hH hblk (Nat.zero_le _) (Nat.le_refl _) (by omega))
  have HC2 : Hid (∀ W, blk < W.heap.size → HoldsK encZ 8 W blk off (insZ D) → Calls Tryz.prog 91 #[.slice (some ⟨blk, off, none⟩) D.size cap, .int .i64 (D.size : Int), .int .i64 (D.size : Int), .func (.func 52) #[] #[]] W fun e w' => e = .returned (.tuple #[]) ∧ Fr (· = blk) W w' ∧ HoldsK encZ 8 w' blk off (insZ D)) := fun W hb h => by
    have := ins_fr W blk off cap D.size D.size (insZ D) h hb (Nat.le_refl _) (by rw [insZ_size]; exact Nat.le_refl _) (by rw [insZ_size]; omega)
    have e : Sort.insertionSort (ltOf cfZ) (insZ D) D.size D.size = insZ D := by
      unfold Sort.insertionSort
      rw [Sort.insOuter, if_neg (by omega)]
    rw [e, insZ_size] at this
    exact this
  have hs2 : decide ((20 : Int) < ((D.size : Nat) : Int)) = false := by simpa using (show ((D.size : Nat) : Int) ≤ 20 by omega)
  have e0 : Sort.insertionSort (ltOf cfZ) D 0 D.size = insZ D := rfl
  rw [e0] at HC
  generalize insZ D = D' at *
  have HFin : Hid (∀ W : World, Fr (· = blk) w W → HoldsK encZ 8 W blk off D' → Ending.returned (Value.tuple #[]) = .returned (.tuple #[]) ∧ Fr (· = blk) w W ∧ HoldsK encZ 8 W blk off D') := fun W h1 h2 => ⟨rfl, h1, h2⟩
  clear hH e0
  generalize D.size = N at *
  by_cases h20 : N = 20
  · subst h20
    go_enter Tryz.func74, Tryz.ntmps74
    go_wp2_with fail
    go_loopw [7, 8] (fun av bv wr => (av = .int .i64 0 ∧ bv = .int .i64 20 ∧ w = wr) ∨ (av = .int .i64 20 ∧ bv = .int .i64 40 ∧ Fr (· = blk) w wr ∧ HoldsK encZ 8 wr blk off D')) (fun _ bv _ => 40 - (intOf bv).toNat)
    case atStart => exact .inl ⟨rfl, rfl, rfl⟩
    case round =>
      rcases hrel with ⟨rfl, rfl, rfl⟩ | ⟨rfl, rfl, hF, hH⟩
      · go_wp2_with fail
        refine HC.out.mono ?_
        rintro e w1 ⟨rfl, hF, hH⟩
        have HF := hid hF
        have HH := hid hH
        clear hF hH
        go_wp2_with fail
        exact ⟨.inr ⟨rfl, rfl, HF.out, HH.out⟩, by decide⟩
      · have HF := hid hF
        have HH := hid hH
        have hb2 : blk < wr.heap.size := Nat.lt_of_lt_of_le hblk hF.size
        have HC3 := hid (HC2.out wr hb2 hH)
        clear hF hH
        go_wp2_with fail
        refine HC3.out.mono ?_
        rintro e w1 ⟨rfl, hF1, hH1⟩
        have HF1 := hid (HF.out.trans hF1 (fun j hj => .inl hj))
        have HH1 := hid hH1
        clear hF1 hH1
        go_wp2_with fail
        go_loopw [6, 7, 8, 9] (fun nv _ _ _ wr => nv = .int .i64 20 ∧ Fr (· = blk) w wr ∧ HoldsK encZ 8 wr blk off D') (fun _ _ _ _ _ => 0)
        case atStart => exact ⟨rfl, HF1.out, HH1.out⟩
        case round =>
          obtain ⟨rfl, hF2, hH2⟩ := hrel
          have HF2 := hid hF2
          have HH2 := hid hH2
          clear hF2 hH2
          go_wp2_with fail
          go_end0
          exact ⟨rfl, HF2.out, HH2.out⟩
  · have h20' : decide ((20 : Int) ≤ ((N : Nat) : Int)) = false := by simpa using (show ((N : Nat) : Int) < 20 by omega)
    have h20n : ¬ 20 ≤ N := by omega
    go_enter Tryz.func74, Tryz.ntmps74
    go_wp2_with fail
    go_loopw [7, 8] (fun av bv wr => av = .int .i64 0 ∧ bv = .int .i64 20 ∧ w = wr) (fun _ _ _ => 0)
    case atStart => exact ⟨rfl, rfl, rfl⟩
    case round =>
      obtain ⟨rfl, rfl, rfl⟩ := hrel
      go_wp2_with fail
      refine HC.out.mono ?_
      rintro e w1 ⟨rfl, hF, hH⟩
      have HF := hid hF
      have HH := hid hH
      clear hF hH
      go_wp2_with fail
      go_loopw [6, 7, 8, 9] (fun nv _ _ _ wr => nv = .int .i64 20 ∧ Fr (· = blk) w wr ∧ HoldsK encZ 8 wr blk off D') (fun _ _ _ _ _ => 0)
      case atStart => exact ⟨rfl, HF.out, HH.out⟩
      case round =>
        obtain ⟨rfl, hF2, hH2⟩ := hrel
        have HF2 := hid hF2
        have HH2 := hid hH2
        clear hF2 hH2
        go_wp2_with fail
        go_end0
        exact ⟨rfl, HF2.out, HH2.out⟩

set_option maxRecDepth 100000 in
set_option maxHeartbeats 4000000 in
theorem sort_few (w : World) (blk off cap : Nat) (D : Array Dz) (hH : HoldsK encZ 8 w blk off D) (hblk : blk < w.heap.size) (hs : D.size ≤ 20) :
    Calls Tryz.prog 51 #[.slice (some ⟨blk, off, none⟩) D.size cap, .func (.func 52) #[] #[]] w fun e w' => e = .returned (.tuple #[]) ∧ Fr (· = blk) w w' ∧ HoldsK encZ 8 w' blk off (insZ D) := by
  have HC := hid (stable_few w blk off cap D hH hblk hs)
  generalize insZ D = D' at *
  clear hH
  generalize D.size = N at *
  go_enter Tryz.func51, Tryz.ntmps51
  go_wp2_with fail
  refine HC.out.mono ?_
  rintro e w1 ⟨rfl, hF, hH⟩
  have HF := hid hF
  have HH := hid hH
  clear hF hH
  go_wp2_with fail
  go_end0
  exact ⟨rfl, HF.out, HH.out⟩
end Go.Proofs.YtniailfcmlongaaGreatDoor.Tr
