import Derived.Test.YtniailfcmlongaaGreatDoorTsoM
/- slices.swapRangeCmpFunc of definitions: over any program that bears it, then at this one. -/
namespace Go.Proofs.YtniailfcmlongaaGreatDoor.Tr
open Go.RowKit Go.Sort Go.Lib

/-- Two ranges exchanged: the first i of n. -/
def swr (D : Array Dz) (a b : Nat) : Nat → Array Dz
  | 0 => D
  | n + 1 => swp (swr D a b n) (a + n) (b + n)
theorem swr_size (D : Array Dz) (a b : Nat) : ∀ n, (swr D a b n).size = D.size
  | 0 => rfl
  | n + 1 => by rw [swr, size_swp, swr_size D a b n]

/-- What is asked of a program: the types that the sorts' bodies name. -/
structure LyD (P : Program) (k : Nat) : Prop where
  mixed : P.follows .mixedOrders = true
  t0 : P.underlying 0 = some (TypeDesc.tuple #[])
  a0 : ∀ w, (isAgg 0).run P w = .ok false w
  z0 : ∀ w, (Go.sizeOf 0).run P w = .ok 1 w
  v0 : ∀ w, (zeroValue 0).run P w = .ok (Value.tuple #[]) w
  t3 : P.underlying 3 = some (TypeDesc.int IntKind.i64)
  a3 : ∀ w, (isAgg 3).run P w = .ok false w
  z3 : ∀ w, (Go.sizeOf 3).run P w = .ok 1 w
  v3 : ∀ w, (zeroValue 3).run P w = .ok (Value.int IntKind.i64 0) w
  t4 : P.underlying 4 = some (TypeDesc.bool)
  a4 : ∀ w, (isAgg 4).run P w = .ok false w
  z4 : ∀ w, (Go.sizeOf 4).run P w = .ok 1 w
  v4 : ∀ w, (zeroValue 4).run P w = .ok (Value.bool false) w
  tS : P.underlying 31 = some (TypeDesc.slice 30)
  aS : ∀ w, (isAgg 31).run P w = .ok false w
  zS : ∀ w, (Go.sizeOf 31).run P w = .ok 1 w
  vS : ∀ w, (zeroValue 31).run P w = .ok (Value.slice none 0 0) w
  tF : P.underlying 75 = some (TypeDesc.func #[30, 30] #[3] false)
  aF : ∀ w, (isAgg 75).run P w = .ok false w
  zF : ∀ w, (Go.sizeOf 75).run P w = .ok 1 w
  vF : ∀ w, (zeroValue 75).run P w = .ok (Value.nilFunc) w
  tU : P.underlying 125 = some (TypeDesc.int IntKind.u64)
  aU : ∀ w, (isAgg 125).run P w = .ok false w
  zU : ∀ w, (Go.sizeOf 125).run P w = .ok 1 w
  vU : ∀ w, (zeroValue 125).run P w = .ok (Value.int IntKind.u64 0) w
  aE : ∀ w, (isAgg 30).run P w = .ok true w
  zE : ∀ w, (Go.sizeOf 30).run P w = .ok k w
theorem lyD : LyD Tryz.prog 8 := ⟨by kernel_rfl, Tryz.underlying0, Tryz.isAgg0, Tryz.sizeOf0, Tryz.zeroValue0, Tryz.underlying3, Tryz.isAgg3, Tryz.sizeOf3, Tryz.zeroValue3, Tryz.underlying4, Tryz.isAgg4, Tryz.sizeOf4, Tryz.zeroValue4, Tryz.underlying31, Tryz.isAgg31, Tryz.sizeOf31, Tryz.zeroValue31, Tryz.underlying75, Tryz.isAgg75, Tryz.sizeOf75, Tryz.zeroValue75, Tryz.underlying125, Tryz.isAgg125, Tryz.sizeOf125, Tryz.zeroValue125, Tryz.isAgg30, Tryz.sizeOf30⟩
theorem sortK_fr (k : Nat) (w : World) (blk off n : Nat) (D : Array Dz) (os : Array Obj) : Fr (· = blk) w (sortWorldK encZ k w blk off n D os) := by
  refine ⟨rfl, rfl, rfl, size_sortWorldK_c encZ k w blk off n D os, fun q hk hn => ?_⟩
  unfold sortWorldK
  rw [heap_grow_old _ _ (by rw [size_putRowK]; exact hk)]
  unfold putRowK putRow mapBlock
  show ((Sort.ahead w n).heap.modify blk _)[q]? = _
  rw [Array.getElem?_modify, if_neg (fun e => hn e.symm)]
  rfl
/-- One exchange. -/
theorem swap_one (k : Nat) (hk : ∀ x, (encZ x).length = k) (w : World) (blk off : Nat) (X : Array Dz) (hH : HoldsK encZ k w blk off X) (hblk : blk < w.heap.size) (i j : Nat) (hi : i < X.size) (hj : j < X.size) :
    Fr (· = blk) w ((w.drew.setCells blk (off + i * k) (encZ X[j]!)).setCells blk (off + j * k) (encZ X[i]!)) ∧ HoldsK encZ k ((w.drew.setCells blk (off + i * k) (encZ X[j]!)).setCells blk (off + j * k) (encZ X[i]!)) blk off (swp X i j) := by
  have e : w = sortWorldK encZ k w blk off 0 X #[] := by unfold sortWorldK; rw [grow_empty]; exact (putRowK_self encZ k w blk off X hH).symm
  have h := sortWorldK_swp_c encZ k w blk off hk 0 X #[] hblk i j hi hj
  rw [← e] at h
  rw [h]
  exact ⟨sortK_fr k w blk off _ _ _, holdsK_sortWorldK_c encZ k w blk off X _ _ _ hH hblk (size_swp _ _ _)⟩

set_option maxRecDepth 1000000 in
set_option maxHeartbeats 4000000 in
theorem swapRange_gen {P : Program} {k : Nat} (L : LyD P k) (hF : P.funcs[128]? = some Tryz.f128) (hk : ∀ x, (encZ x).length = k) (w : World) (blk off cap a b n : Nat) (cv : Value) (D : Array Dz) (hH : HoldsK encZ k w blk off D) (hblk : blk < w.heap.size) (ha : a + n ≤ D.size) (hb : b + n ≤ D.size) (hs : D.size ≤ 1000) :
    Calls P 128 #[.slice (some ⟨blk, off, none⟩) D.size cap, .int .i64 a, .int .i64 b, .int .i64 n, cv] w fun e w' => e = .returned (.tuple #[]) ∧ Fr (· = blk) w w' ∧ HoldsK encZ k w' blk off (swr D a b n) := by
  have mixed := L.mixed; have t0 := L.t0; have a0 := L.a0; have z0 := L.z0; have v0 := L.v0; have t3 := L.t3; have a3 := L.a3; have z3 := L.z3; have v3 := L.v3; have t4 := L.t4; have a4 := L.a4; have z4 := L.z4; have v4 := L.v4; have tS := L.tS; have aS := L.aS; have zS := L.zS; have vS := L.vS; have tF := L.tF; have aF := L.aF; have zF := L.zF; have vF := L.vF; have aE := L.aE; have zE := L.zE
  have uS := run_underlying L.tS
  have HH := hid hH
  have HK : Hid (∀ x, (encZ x).length = k) := hk
  clear hH hk L
  go_enter hF, Tryz.ntmps128
  go_wp2_with fail
  go_loopw [10] (fun iv wr => ∃ i : Nat, i ≤ n ∧ iv = .int .i64 (i : Int) ∧ Fr (· = blk) w wr ∧ HoldsK encZ k wr blk off (swr D a b i)) (fun iv _ => n - (intOf iv).toNat)
  case atStart => exact ⟨0, Nat.zero_le _, rfl, Fr.refl _ _, HH.out⟩
  case round =>
    obtain ⟨i, hi, rfl, hFr, hX⟩ := hrel
    have HF := hid hFr
    have HX := hid hX
    clear hFr hX
    rename World => wr
    by_cases hlt : i < n
    · have hlt' : (i : Int) < (n : Int) := by omega
      have h1 : (a : Int) + (i : Int) < ((D.size : Nat) : Int) := by omega
      have h2 : (b : Int) + (i : Int) < ((D.size : Nat) : Int) := by omega
      have e1 : ((a : Int) + (i : Int)).toNat = a + i := by omega
      have e2 : ((b : Int) + (i : Int)).toNat = b + i := by omega
      have hsz := swr_size D a b i
      have HN : Hid (∀ W, W = (wr.drew.setCells blk (off + (a + i) * k) (encZ (swr D a b i)[b + i]!)).setCells blk (off + (b + i) * k) (encZ (swr D a b i)[a + i]!) → Fr (· = blk) w W ∧ HoldsK encZ k W blk off (swr D a b (i + 1))) := fun W e => by
        have h := swap_one k HK.out wr blk off _ HX.out (by have := HF.out.size; omega) (a + i) (b + i) (by omega) (by omega)
        rw [← e] at h
        exact ⟨HF.out.trans h.1 (fun _ h => .inl h), h.2⟩
      have hHd : HoldsK encZ k wr.drew blk off (swr D a b i) := HX.out
      have bnd : ∀ x, x < (swr D a b i).size → x * k + k ≤ (swr D a b i).size * k := fun x hx => by
        have := Nat.mul_le_mul_right k (show x + 1 ≤ (swr D a b i).size from hx); rwa [Nat.add_mul, Nat.one_mul] at this
      generalize swr D a b i = X at *
      obtain ⟨xa, hxa⟩ : ∃ x, X[a + i]! = x := ⟨_, rfl⟩
      obtain ⟨xb, hxb⟩ : ∃ x, X[b + i]! = x := ⟨_, rfl⟩
      have l1 : Sem.run P (loadCellsFrom ⟨blk, off + (a + i) * k, none⟩ 0 k #[]) wr.drew = .ok (encZ xa).toArray wr.drew := by rw [← hxa]; exact run_loadCellsFrom_list P _ _ _ k (HK.out _) (HoldsK.cells hHd HK.out (by omega))
      have l2 : Sem.run P (loadCellsFrom ⟨blk, off + (b + i) * k, none⟩ 0 k #[]) wr.drew = .ok (encZ xb).toArray wr.drew := by rw [← hxb]; exact run_loadCellsFrom_list P _ _ _ k (HK.out _) (HoldsK.cells hHd HK.out (by omega))
      have s1 : Sem.run P (storeCells ⟨blk, off + (a + i) * k, none⟩ (encZ xb) 0) wr.drew = .ok () (wr.drew.setCells blk (off + (a + i) * k) (encZ xb)) := stores_of_holds P hHd ((a + i) * k) _ (by rw [HK.out, size_flatK]; exact bnd (a + i) (by omega)) (encZ_one _)
      have s2 : Sem.run P (storeCells ⟨blk, off + (b + i) * k, none⟩ (encZ xa) 0) (wr.drew.setCells blk (off + (a + i) * k) (encZ xb)) = .ok () ((wr.drew.setCells blk (off + (a + i) * k) (encZ xb)).setCells blk (off + (b + i) * k) (encZ xa)) :=
        stores_of_holds P (holds_setCells_c hHd ((a + i) * k) _ (by rw [HK.out, size_flatK]; exact bnd (a + i) (by omega))) ((b + i) * k) _ (by rw [HK.out, size_setMany, size_flatK]; exact bnd (b + i) (by omega)) (encZ_one _)
      have hsA : (encZ xa).length = k := HK.out _
      have hsB : (encZ xb).length = k := HK.out _
      rw [hxa, hxb] at HN
      clear hHd bnd hxa hxb hsz HX HH
      generalize encZ xa = cA at *
      generalize encZ xb = cB at *
      go_wp2_with fail
      go_big_region_o
      all_goals go_wp2
      exact ⟨⟨i + 1, by omega, by first | rfl | (congr 1), (HN.out _ rfl).1, (HN.out _ rfl).2⟩, by simp [intOf]; omega⟩
    · have hlt' : ¬ (i : Int) < (n : Int) := by omega
      obtain rfl : i = n := by omega
      go_wp2_with fail
      go_end0
      exact ⟨rfl, HF.out, HX.out⟩
end Go.Proofs.YtniailfcmlongaaGreatDoor.Tr
/- slices.rotateCmpFunc of definitions. -/
namespace Go.Proofs.YtniailfcmlongaaGreatDoor.Tr
open Go.RowKit Go.Sort Go.Lib

/-- Turned about m: i elements ahead of it, j behind it; f is more than the rounds. -/
def rotF (m : Nat) : Nat → Nat → Nat → Array Dz → Array Dz
  | 0, _, _, D => D
  | f + 1, i, j, D => if i = j then swr D (m - i) m i else if j < i then rotF m f (i - j) j (swr D (m - i) m j) else rotF m f i (j - i) (swr D (m - i) (m + j - i) i)
theorem rotF_size (m : Nat) : ∀ f i j D, (rotF m f i j D).size = D.size
  | 0, _, _, _ => rfl
  | f + 1, i, j, D => by
    rw [rotF]
    split
    · exact swr_size _ _ _ _
    · split
      · rw [rotF_size m f, swr_size]
      · rw [rotF_size m f, swr_size]
theorem rotF_more (m : Nat) : ∀ f g i j D, 0 < i → 0 < j → i + j ≤ f → i + j ≤ g → rotF m f i j D = rotF m g i j D
  | 0, _, i, j, _, hi, _, hf, _ => by omega
  | f + 1, 0, i, j, _, hi, _, _, hg => by omega
  | f + 1, g + 1, i, j, D, hi, hj, hf, hg => by
    rw [rotF, rotF]
    split
    · rfl
    · split
      · exact rotF_more m f g _ _ _ (by omega) hj (by omega) (by omega)
      · exact rotF_more m f g _ _ _ hi (by omega) (by omega) (by omega)
def rot (D : Array Dz) (a m b : Nat) : Array Dz := rotF m (b - a) (m - a) (b - m) D

set_option maxRecDepth 1000000 in
set_option maxHeartbeats 4000000 in
theorem rotate_gen {P : Program} {k : Nat} (L : LyD P k) (hF1 : P.funcs[128]? = some Tryz.f128) (hF : P.funcs[109]? = some Tryz.f109) (eS : ∀ args w, (callFunc 128 args).run P w = .ok (.enter 128 args) w) (hk : ∀ x, (encZ x).length = k) (w : World) (blk off cap a m b : Nat) (cv : Value) (D : Array Dz) (hH : HoldsK encZ k w blk off D) (hblk : blk < w.heap.size) (ha : a < m) (hm : m < b) (hb : b ≤ D.size) (hs : D.size ≤ 1000) :
    Calls P 109 #[.slice (some ⟨blk, off, none⟩) D.size cap, .int .i64 a, .int .i64 m, .int .i64 b, cv] w fun e w' => e = .returned (.tuple #[]) ∧ Fr (· = blk) w w' ∧ HoldsK encZ k w' blk off (rot D a m b) := by
  have HC : Hid (∀ (W : World) (X : Array Dz) (p q n : Nat) (pi qi ni : Int), pi = p → qi = q → ni = n → X.size = D.size → HoldsK encZ k W blk off X → Fr (· = blk) w W → p + n ≤ D.size → q + n ≤ D.size → Calls P 128 #[.slice (some ⟨blk, off, none⟩) D.size cap, .int .i64 pi, .int .i64 qi, .int .i64 ni, cv] W fun e w' => e = .returned (.tuple #[]) ∧ Fr (· = blk) w w' ∧ HoldsK encZ k w' blk off (swr X p q n)) := fun W X p q n pi qi ni ep eq en e h f h1 h2 => by
    subst ep eq en
    have := swapRange_gen L hF1 hk W blk off cap p q n cv X h (by have := f.size; omega) (by omega) (by omega) (by omega)
    rw [e] at this
    exact this.mono fun _ _ ⟨g1, g2, g3⟩ => ⟨g1, f.trans g2 (fun _ h => .inl h), g3⟩
  have mixed := L.mixed; have t0 := L.t0; have a0 := L.a0; have z0 := L.z0; have v0 := L.v0; have t3 := L.t3; have a3 := L.a3; have z3 := L.z3; have v3 := L.v3; have t4 := L.t4; have a4 := L.a4; have z4 := L.z4; have v4 := L.v4; have tS := L.tS; have aS := L.aS; have zS := L.zS; have vS := L.vS; have tF := L.tF; have aF := L.aF; have zF := L.zF; have vF := L.vF
  have HH := hid hH
  clear hH hk L hF1
  have HR : Hid (rot D a m b = rotF m (b - a) (m - a) (b - m) D) := rfl
  generalize rot D a m b = R at *
  go_enter hF, Tryz.ntmps109
  go_wp2_with fail
  go_loopw [10, 11] (fun iv jv wr => ∃ (i j : Nat) (X : Array Dz), 0 < i ∧ 0 < j ∧ i ≤ m ∧ m + j ≤ D.size ∧ X.size = D.size ∧ iv = .int .i64 (i : Int) ∧ jv = .int .i64 (j : Int) ∧ rotF m (i + j) i j X = R ∧ Fr (· = blk) w wr ∧ HoldsK encZ k wr blk off X) (fun iv jv _ => (intOf iv).toNat + (intOf jv).toNat)
  case atStart => exact ⟨m - a, b - m, D, by omega, by omega, by omega, by omega, rfl, by congr 1; omega, by congr 1; omega, by rw [HR.out]; exact rotF_more m _ _ _ _ _ (by omega) (by omega) (by omega) (by omega), Fr.refl _ _, HH.out⟩
  case round =>
    obtain ⟨i, j, X, hi, hj, him, hjm, hXs, rfl, rfl, hRR, hFr, hX⟩ := hrel
    have HRR := hid hRR
    have HF := hid hFr
    have HX := hid hX
    clear hRR hFr hX
    rename World => wr
    by_cases hij : i = j
    · subst hij
      have HRe : Hid (swr X (m - i) m i = R) := by
        unfold Hid
        rw [← HRR.out]
        obtain ⟨f, hf⟩ : ∃ f, i + i = f + 1 := ⟨i + i - 1, by omega⟩
        rw [hf, rotF, if_pos rfl]
      have hne : ((i : Int) != (i : Int)) = false := by simp
      go_wp2_with fail
      refine (HC.out wr X (m - i) m i _ _ _ (by omega) rfl rfl hXs HX.out HF.out (by omega) (by omega)).mono ?_
      rintro e w1 ⟨rfl, f1, h1⟩
      rw [HRe.out] at h1
      have HF1 := hid f1
      have HH1 := hid h1
      clear f1 h1
      go_wp2_with fail
      go_end0
      exact ⟨rfl, HF1.out, HH1.out⟩
    · have hne : ((i : Int) != (j : Int)) = true := by simp; omega
      by_cases hlt : j < i
      · have hgt : decide ((j : Int) < (i : Int)) = true := by simp; omega
        have HRe : Hid (rotF m (i - j + j) (i - j) j (swr X (m - i) m j) = R) := by
          unfold Hid
          rw [← HRR.out]
          obtain ⟨f, hf⟩ : ∃ f, i + j = f + 1 := ⟨i + j - 1, by omega⟩
          rw [hf, rotF.eq_2 m i j X f, if_neg hij, if_pos hlt]
          exact rotF_more m _ _ _ _ _ (by omega) hj (by omega) (by omega)
        go_wp2_with fail
        refine (HC.out wr X (m - i) m j _ _ _ (by omega) rfl rfl hXs HX.out HF.out (by omega) (by omega)).mono ?_
        rintro e w1 ⟨rfl, f1, h1⟩
        have HF1 := hid f1
        have HH1 := hid h1
        clear f1 h1
        go_wp2_with fail
        exact ⟨⟨i - j, j, swr X (m - i) m j, by omega, hj, by omega, hjm, by rw [swr_size, hXs], by congr 1; omega, rfl, HRe.out, HF1.out, HH1.out⟩, by simp [intOf]; omega⟩
      · have hgt : decide ((j : Int) < (i : Int)) = false := by simp; omega
        have HRe : Hid (rotF m (i + (j - i)) i (j - i) (swr X (m - i) (m + j - i) i) = R) := by
          unfold Hid
          rw [← HRR.out]
          obtain ⟨f, hf⟩ : ∃ f, i + j = f + 1 := ⟨i + j - 1, by omega⟩
          rw [hf, rotF.eq_2 m i j X f, if_neg hij, if_neg hlt]
          exact rotF_more m _ _ _ _ _ hi (by omega) (by omega) (by omega)
        go_wp2_with fail
        refine (HC.out wr X (m - i) (m + j - i) i _ _ _ (by omega) (by omega) rfl hXs HX.out HF.out (by omega) (by omega)).mono ?_
        rintro e w1 ⟨rfl, f1, h1⟩
        have HF1 := hid f1
        have HH1 := hid h1
        clear f1 h1
        go_wp2_with fail
        exact ⟨⟨i, j - i, swr X (m - i) (m + j - i) i, hi, by omega, him, by omega, by rw [swr_size, hXs], rfl, by congr 1; omega, HRe.out, HF1.out, HH1.out⟩, by simp [intOf]; omega⟩
end Go.Proofs.YtniailfcmlongaaGreatDoor.Tr
/- slices.symMergeCmpFunc of definitions, in plain words; where one side is one element. -/
namespace Go.Proofs.YtniailfcmlongaaGreatDoor.Tr
open Go.RowKit Go.Sort Go.Lib

/-- The binary search: the first place from i to j at which p does not hold. -/
def bsF (p : Nat → Bool) : Nat → Nat → Nat → Nat
  | 0, i, _ => i
  | f + 1, i, j => if i < j then (if p ((i + j) / 2) = true then bsF p f ((i + j) / 2 + 1) j else bsF p f i ((i + j) / 2)) else i
theorem bsF_more (p : Nat → Bool) : ∀ f g i j, j ≤ i + f → j ≤ i + g → bsF p f i j = bsF p g i j
  | 0, 0, _, _, _, _ => rfl
  | 0, g + 1, i, j, h, _ => by rw [bsF, bsF, if_neg (by omega)]
  | f + 1, 0, i, j, _, h => by rw [bsF, bsF, if_neg (by omega)]
  | f + 1, g + 1, i, j, hf, hg => by
    rw [bsF, bsF]
    split
    · split
      · exact bsF_more p f g _ _ (by omega) (by omega)
      · exact bsF_more p f g _ _ (by omega) (by omega)
    · rfl
def bsc (p : Nat → Bool) (i j : Nat) : Nat := bsF p (j - i) i j
theorem bs_end (p : Nat → Bool) {i j : Nat} (h : ¬ i < j) : bsc p i j = i := by
  unfold bsc
  rw [show j - i = 0 by omega]; rfl
theorem bs_up (p : Nat → Bool) {i j : Nat} (h : i < j) (hp : p ((i + j) / 2) = true) : bsc p ((i + j) / 2 + 1) j = bsc p i j := by
  unfold bsc
  obtain ⟨f, hf⟩ : ∃ f, j - i = f + 1 := ⟨j - i - 1, by omega⟩
  rw [hf, bsF.eq_2 p i j f, if_pos h, if_pos hp]
  exact bsF_more p _ _ _ _ (by omega) (by omega)
theorem bs_down (p : Nat → Bool) {i j : Nat} (h : i < j) (hp : p ((i + j) / 2) = false) : bsc p i ((i + j) / 2) = bsc p i j := by
  unfold bsc
  obtain ⟨f, hf⟩ : ∃ f, j - i = f + 1 := ⟨j - i - 1, by omega⟩
  rw [hf, bsF.eq_2 p i j f, if_pos h, if_neg (by rw [hp]; simp)]
  exact bsF_more p _ _ _ _ (by omega) (by omega)
theorem bsF_in (p : Nat → Bool) : ∀ f i j, i ≤ j → i ≤ bsF p f i j ∧ bsF p f i j ≤ j
  | 0, i, j, h => ⟨Nat.le_refl _, h⟩
  | f + 1, i, j, h => by
    rw [bsF]
    split
    · split
      · have := bsF_in p f ((i + j) / 2 + 1) j (by omega); omega
      · have := bsF_in p f i ((i + j) / 2) (by omega); omega
    · exact ⟨Nat.le_refl _, h⟩
theorem bs_in (p : Nat → Bool) {i j : Nat} (h : i ≤ j) : i ≤ bsc p i j ∧ bsc p i j ≤ j := bsF_in p _ i j h
/-- One element moved behind the n next ones, ahead of the n ones before it. -/
def mvU (D : Array Dz) (k : Nat) : Nat → Array Dz
  | 0 => D
  | n + 1 => mvU (swp D k (k + 1)) (k + 1) n
def mvD (D : Array Dz) (k : Nat) : Nat → Array Dz
  | 0 => D
  | n + 1 => mvD (swp D k (k - 1)) (k - 1) n
theorem mvU_size (D : Array Dz) (k : Nat) : ∀ n, (mvU D k n).size = D.size := fun n => by
  induction n generalizing D k with
  | zero => rfl
  | succ n ih => rw [mvU, ih, size_swp]
theorem mvD_size (D : Array Dz) (k : Nat) : ∀ n, (mvD D k n).size = D.size := fun n => by
  induction n generalizing D k with
  | zero => rfl
  | succ n ih => rw [mvD, ih, size_swp]
abbrev ltZ : Dz → Dz → Bool := ltOf cfZ
def symF : Nat → Nat → Nat → Nat → Array Dz → Array Dz
  | 0, _, _, _, D => D
  | f + 1, a, m, b, D =>
    if m - a = 1 then mvU D a (bsc (fun h => ltZ D[h]! D[a]!) m b - 1 - a)
    else if b - m = 1 then mvD D m (m - bsc (fun h => !(ltZ D[m]! D[h]!)) a m)
    else
      let mid := (a + b) / 2
      let n := mid + m
      let start := bsc (fun c => !(ltZ D[n - 1 - c]! D[c]!)) (if mid < m then n - b else a) (if mid < m then mid else m)
      let D1 := if start < m ∧ m < n - start then rot D start m (n - start) else D
      let D2 := if a < start ∧ start < mid then symF f a start mid D1 else D1
      if mid < n - start ∧ n - start < b then symF f mid (n - start) b D2 else D2

/-- What is asked of the comparing function. -/
def CmpD (P : Program) (g : Nat) : Prop := ∀ (W : World) (x y : Dz), Calls P g (#[.agg (encZ x).toArray, .agg (encZ y).toArray] ++ #[]) W fun e w' => e = .returned (.int .i64 (cfZ x y)) ∧ ∃ q os', w' = grow (W.drewN q) os'

theorem frg {w : World} (q : Nat) (os : Array Obj) : Fr (fun _ => False) w (grow (w.drewN q) os) := by
  refine ⟨rfl, rfl, rfl, ?_, fun j hj _ => ?_⟩
  · rw [size_grow]; exact Nat.le_add_right _ _
  · exact heap_grow_old _ _ hj
theorem holds_grown {k : Nat} {W : World} {blk off : Nat} {X : Array Dz} (h : HoldsK encZ k W blk off X) (hblk : blk < W.heap.size) (q : Nat) (os : Array Obj) : HoldsK encZ k (grow (W.drewN q) os) blk off X := holdsK_grow encZ k _ os blk off X hblk h
theorem ld_grown (P : Program) {k : Nat} (hk : ∀ x, (encZ x).length = k) {W : World} {blk off : Nat} {X : Array Dz} (h : HoldsK encZ k W blk off X) (hblk : blk < W.heap.size) (x : Nat) (hx : x < X.size) (q : Nat) (os : Array Obj) : Sem.run P (loadCellsFrom ⟨blk, off + x * k, none⟩ 0 k #[]) (grow (W.drewN q) os) = .ok (encZ X[x]!).toArray (grow (W.drewN q) os) :=
  run_loadCellsFrom_list P _ _ _ k (hk _) (HoldsK.cells (holds_grown h hblk q os) hk hx)

set_option maxRecDepth 1000000 in
set_option maxHeartbeats 4000000 in
theorem sym_one {P : Program} {k g : Nat} (L : LyD P k) (hF : P.funcs[92]? = some Tryz.f92) (eg : ∀ args w, (callFunc g args).run P w = .ok (.enter g args) w) (hC : CmpD P g) (hk : ∀ x, (encZ x).length = k) (w : World) (blk off cap a m b : Nat) (D : Array Dz) (hH : HoldsK encZ k w blk off D) (hblk : blk < w.heap.size) (ha : m = a + 1) (hm : m < b) (hb : b ≤ D.size) (hs : D.size ≤ 1000) :
    Calls P 92 #[.slice (some ⟨blk, off, none⟩) D.size cap, .int .i64 a, .int .i64 m, .int .i64 b, .func (.func g) #[] #[]] w fun e w' => e = .returned (.tuple #[]) ∧ Fr (· = blk) w w' ∧ HoldsK encZ k w' blk off (mvU D a (bsc (fun h => ltZ D[h]! D[a]!) m b - 1 - a)) := by
  have mixed := L.mixed; have t0 := L.t0; have a0 := L.a0; have z0 := L.z0; have v0 := L.v0; have t3 := L.t3; have a3 := L.a3; have z3 := L.z3; have v3 := L.v3; have t4 := L.t4; have a4 := L.a4; have z4 := L.z4; have v4 := L.v4; have tS := L.tS; have aS := L.aS; have zS := L.zS; have vS := L.vS; have tF := L.tF; have aF := L.aF; have zF := L.zF; have vF := L.vF; have aE := L.aE; have zE := L.zE; have tU := L.tU; have aU := L.aU; have zU := L.zU; have vU := L.vU
  have uS := run_underlying L.tS
  have HC : Aside _ := hC
  have HH := hid hH
  have HK : Hid (∀ x, (encZ x).length = k) := hk
  clear hH hk L hC
  have h1 : ((m : Int) - (a : Int) == 1) = true := by simp; omega
  have hma : a < m := by omega
  clear ha
  obtain ⟨I, hI⟩ : ∃ I, I = bsc (fun h => ltZ D[h]! D[a]!) m b := ⟨_, rfl⟩
  have HI := hid hI
  have hIn : m ≤ I ∧ I ≤ b := by rw [hI]; exact bs_in _ (by omega)
  rw [← hI]
  clear hI
  go_enter hF, Tryz.ntmps92
  go_wp2_with fail
  go_loopw [10, 11, 12] (fun iv jv _ wr => ∃ i j : Nat, m ≤ i ∧ i ≤ j ∧ j ≤ b ∧ iv = .int .i64 (i : Int) ∧ jv = .int .i64 (j : Int) ∧ bsc (fun h => ltZ D[h]! D[a]!) i j = I ∧ Fr (fun _ => False) w wr ∧ HoldsK encZ k wr blk off D) (fun iv jv _ _ => (intOf jv).toNat - (intOf iv).toNat)
  case atStart => exact ⟨m, b, Nat.le_refl _, by omega, Nat.le_refl _, rfl, rfl, HI.out.symm, Fr.refl _ _, HH.out⟩
  case round =>
    obtain ⟨i, j, hmi, hij, hjb, rfl, rfl, hbs, hFr, hX⟩ := hrel
    have HBs := hid hbs
    have HF := hid hFr
    have HX := hid hX
    clear hbs hFr hX
    rename World => wr
    by_cases hlt : i < j
    · have hlt' : (i : Int) < (j : Int) := by omega
      obtain ⟨h, hh⟩ : ∃ h, h = (i + j) / 2 := ⟨_, rfl⟩
      have ez : ((i : Int) + (j : Int)) / 2 = (h : Int) := by omega
      have hz : (h : Int) < ((D.size : Nat) : Int) := by omega
      have az : (a : Int) < ((D.size : Nat) : Int) := by omega
      have HN1 : Hid (ltZ D[h]! D[a]! = true → bsc (fun h => ltZ D[h]! D[a]!) (h + 1) j = I) := fun hp => by
        rw [← HBs.out, hh]; exact bs_up _ hlt (by rw [← hh]; exact hp)
      have HN2 : Hid (ltZ D[h]! D[a]! = false → bsc (fun h => ltZ D[h]! D[a]!) i h = I) := fun hp => by
        rw [← HBs.out, hh]; exact bs_down _ hlt (by rw [← hh]; exact hp)
      have hb1 : i ≤ h ∧ h < j := by omega
      have lh := ld_grown P HK.out HX.out (by have := HF.out.size; omega) h (by omega)
      have la := ld_grown P HK.out HX.out (by have := HF.out.size; omega) a (by omega)
      have hcg := fun q os => HC.out (grow (wr.drewN q) os) D[h]! D[a]!
      have HL : Hid (ltZ D[h]! D[a]! = decide (cfZ D[h]! D[a]! < 0)) := rfl
      generalize D[h]! = xh at *
      generalize D[a]! = xa at *
      by_cases hlv : cfZ xh xa < 0
      · have HB2 := hid (HN1.out (by rw [HL.out]; exact decide_eq_true hlv))
        clear hh
        go_wp2_with fail
        go_quiet_grown (first | (go_at_fn g; refine Calls.grown_of (hcg _ _)))
        have HF2 : Hid (Fr (fun _ => False) w (grow (wr.drewN nq) osq)) := HF.out.trans (frg nq osq) (fun _ h => h.elim)
        have HX2 := hid (holds_grown HX.out (by have := HF.out.size; omega) nq osq)
        go_wp2_with fail
        exact ⟨⟨h + 1, j, by omega, by omega, hjb, by first | rfl | (congr 1), rfl, HB2.out, HF2.out, HX2.out⟩, by simp [intOf]; omega⟩
      · have HB2 := hid (HN2.out (by rw [HL.out]; exact decide_eq_false hlv))
        clear hh
        go_wp2_with fail
        go_quiet_grown (first | (go_at_fn g; refine Calls.grown_of (hcg _ _)))
        have HF2 : Hid (Fr (fun _ => False) w (grow (wr.drewN nq) osq)) := HF.out.trans (frg nq osq) (fun _ h => h.elim)
        have HX2 := hid (holds_grown HX.out (by have := HF.out.size; omega) nq osq)
        go_wp2_with fail
        exact ⟨⟨i, h, by omega, by omega, by omega, rfl, by first | rfl | (congr 1), HB2.out, HF2.out, HX2.out⟩, by simp [intOf]; omega⟩
    · have hlt' : ¬ (i : Int) < (j : Int) := by omega
      obtain rfl : i = I := by rw [← HBs.out]; exact (bs_end _ hlt).symm
      obtain ⟨R, hR0⟩ : ∃ R, mvU D a (i - 1 - a) = R := ⟨_, rfl⟩
      have HR := hid hR0
      clear hR0
      have HFe : Hid (Fr (· = blk) w wr) := HF.out.mono (fun _ h => h.elim)
      go_wp2_with fail
      go_loopw [13] (fun qv wq => ∃ (q : Nat) (X : Array Dz), a ≤ q ∧ q ≤ i - 1 ∧ X.size = D.size ∧ qv = .int .i64 (q : Int) ∧ mvU X q (i - 1 - q) = R ∧ Fr (· = blk) w wq ∧ HoldsK encZ k wq blk off X) (fun qv _ => i - (intOf qv).toNat)
      case atStart => exact ⟨a, D, Nat.le_refl _, by omega, rfl, rfl, HR.out, HFe.out, HX.out⟩
      case round =>
        obtain ⟨q, X, haq, hqi, hXs, rfl, hR, hFq, hXq⟩ := hrel
        have HRq := hid hR
        have HFq := hid hFq
        have HXq := hid hXq
        clear hR hFq hXq
        rename World => wq
        by_cases hqlt : q < i - 1
        · have hq' : (q : Int) < (i : Int) - 1 := by omega
          have h1' : (q : Int) < ((D.size : Nat) : Int) := by omega
          have h2' : (q : Int) + 1 < ((D.size : Nat) : Int) := by omega
          have e2 : ((q : Int) + 1).toNat = q + 1 := by omega
          have HN : Hid (∀ W, W = (wq.drew.setCells blk (off + q * k) (encZ X[q + 1]!)).setCells blk (off + (q + 1) * k) (encZ X[q]!) → Fr (· = blk) w W ∧ HoldsK encZ k W blk off (swp X q (q + 1))) := fun W e => by
            have h := swap_one k HK.out wq blk off _ HXq.out (by have := HFq.out.size; omega) q (q + 1) (by omega) (by omega)
            rw [← e] at h
            exact ⟨HFq.out.trans h.1 (fun _ h => .inl h), h.2⟩
          have HR2 : Hid (mvU (swp X q (q + 1)) (q + 1) (i - 1 - (q + 1)) = R) := by
            unfold Hid
            rw [← HRq.out]
            obtain ⟨f, hf⟩ : ∃ f, i - 1 - q = f + 1 := ⟨i - 1 - q - 1, by omega⟩
            rw [hf, mvU, show i - 1 - (q + 1) = f by omega]
          have hHd : HoldsK encZ k wq.drew blk off X := HXq.out
          have bnd : ∀ x, x < X.size → x * k + k ≤ X.size * k := fun x hx => by
            have := Nat.mul_le_mul_right k (show x + 1 ≤ X.size from hx); rwa [Nat.add_mul, Nat.one_mul] at this
          obtain ⟨xa, hxa⟩ : ∃ x, X[q]! = x := ⟨_, rfl⟩
          obtain ⟨xb, hxb⟩ : ∃ x, X[q + 1]! = x := ⟨_, rfl⟩
          have l1 : Sem.run P (loadCellsFrom ⟨blk, off + q * k, none⟩ 0 k #[]) wq.drew = .ok (encZ xa).toArray wq.drew := by rw [← hxa]; exact run_loadCellsFrom_list P _ _ _ k (HK.out _) (HoldsK.cells hHd HK.out (by omega))
          have l2 : Sem.run P (loadCellsFrom ⟨blk, off + (q + 1) * k, none⟩ 0 k #[]) wq.drew = .ok (encZ xb).toArray wq.drew := by rw [← hxb]; exact run_loadCellsFrom_list P _ _ _ k (HK.out _) (HoldsK.cells hHd HK.out (by omega))
          have s1 : Sem.run P (storeCells ⟨blk, off + q * k, none⟩ (encZ xb) 0) wq.drew = .ok () (wq.drew.setCells blk (off + q * k) (encZ xb)) := stores_of_holds P hHd (q * k) _ (by rw [HK.out, size_flatK]; exact bnd q (by omega)) (encZ_one _)
          have s2 : Sem.run P (storeCells ⟨blk, off + (q + 1) * k, none⟩ (encZ xa) 0) (wq.drew.setCells blk (off + q * k) (encZ xb)) = .ok () ((wq.drew.setCells blk (off + q * k) (encZ xb)).setCells blk (off + (q + 1) * k) (encZ xa)) :=
            stores_of_holds P (holds_setCells_c hHd (q * k) _ (by rw [HK.out, size_flatK]; exact bnd q (by omega))) ((q + 1) * k) _ (by rw [HK.out, size_setMany, size_flatK]; exact bnd (q + 1) (by omega)) (encZ_one _)
          have hsA : (encZ xa).length = k := HK.out _
          have hsB : (encZ xb).length = k := HK.out _
          rw [hxa, hxb] at HN
          clear hHd bnd hxa hxb
          generalize encZ xa = cA at *
          generalize encZ xb = cB at *
          go_wp2_with fail
          go_big_region_o
          all_goals go_wp2
          exact ⟨⟨q + 1, swp X q (q + 1), by omega, by omega, by rw [size_swp]; exact hXs, by first | rfl | (congr 1), HR2.out, (HN.out _ rfl).1, (HN.out _ rfl).2⟩, by simp [intOf]; omega⟩
        · have hq' : ¬ (q : Int) < (i : Int) - 1 := by omega
          have HE : Hid (X = R) := by
            unfold Hid
            rw [← HRq.out, show i - 1 - q = 0 by omega]; rfl
          have HXe : Hid (HoldsK encZ k wq blk off R) := by unfold Hid; rw [← HE.out]; exact HXq.out
          go_wp2_with fail
          refine bodyPost_ret (results_none rfl _ _ _) rfl ?_
          exact ⟨rfl, HFq.out, HR.out ▸ HXe.out⟩
end Go.Proofs.YtniailfcmlongaaGreatDoor.Tr
