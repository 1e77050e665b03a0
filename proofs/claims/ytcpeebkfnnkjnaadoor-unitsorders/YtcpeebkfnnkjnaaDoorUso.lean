/- The contract of slices.SortFunc of units, by their names; of slices.Equal of names; of TrailingZeros32. -/
import Derived.Test.YtcpeebkfnnkjnaaDoorShf
import Derived.Test.YtcpeebkfnnkjnaaDoorUap
namespace Go.Proofs.YtcpeebkfnnkjnaaDoor.Tr
open Go.RowKit Go.Sort Go.Shelf

theorem cmp_lt : ∀ (a b : Nm), Lib.compareBytes a b < 0 ↔ a < b
  | [], [] => by simp [Lib.compareBytes]
  | [], _ :: _ => by simp [Lib.compareBytes]
  | _ :: _, [] => by simp [Lib.compareBytes]
  | x :: a, y :: b => by
    unfold Lib.compareBytes
    rw [List.cons_lt_cons_iff]
    by_cases h1 : x < y
    · simp [h1]
    · rw [if_neg h1]
      by_cases h2 : y < x
      · rw [if_pos h2]
        have h3 : x ≠ y := fun e => by subst e; exact h1 h2
        simp [h1, h3]
      · rw [if_neg h2]
        have h3 : x = y := UInt8.le_antisymm (UInt8.not_lt.1 h2) (UInt8.not_lt.1 h1)
        simp [h3, cmp_lt a b]
/-- A unit and its cells. -/
abbrev Uz := Ut × Uv
def encZ (z : Uz) : List Value := z.2.cs
def cfZ (a b : Uz) : Int := Lib.compareBytes a.2.n b.2.n
theorem encZ_len (z : Uz) : (encZ z).length = 4 := rfl
theorem encZ_one (z : Uz) : ∀ v ∈ encZ z, v.oneCell' = true := uv_one z.2
theorem ltZ (a b : Uz) : ltOf cfZ a b = decide (a.2.n < b.2.n) := by
  unfold ltOf cfZ
  rw [decide_eq_decide]
  exact cmp_lt _ _
theorem swoZ : SWO (ltOf cfZ) where
  irrefl := fun x => by rw [ltZ]; exact decide_eq_false (List.lt_irrefl _)
  trans := fun x y z h g => by
    rw [ltZ] at *
    simp only [decide_eq_true_eq] at *
    exact List.lt_trans h g
  ntrans := fun x y z h g => by
    rw [ltZ] at *
    simp only [decide_eq_false_iff_not, List.not_lt] at *
    exact List.le_trans g h

set_option maxRecDepth 100000 in
set_option maxHeartbeats 1000000 in
theorem byName_any (W : World) (x y : Uv) : Calls Tryd.prog 23 #[x.v, y.v] W fun e w' => e = .returned (.int .i64 (Lib.compareBytes x.n y.n)) ∧ w' = uBox (uBox W x) y := by
  have HC := hid (fun W' => Any.strings_Compare (P := Tryd.prog) Tryd.lays106 ⟨x.n.toArray⟩ ⟨y.n.toArray⟩ W')
  have HB := hid (two_blk W x y)
  simp only [Uv.v] at *
  obtain ⟨c0, _, _, _⟩ := HB.out.1.fourU
  obtain ⟨d0, _, _, _⟩ := HB.out.2.fourU
  obtain ⟨n, s, ra, rl, rc, aa, al, ac⟩ := x
  obtain ⟨n', s', ra', rl', rc', aa', al', ac'⟩ := y
  simp only at HC
  generalize Lib.compareBytes n n' = r at *
  go_enter Tryd.func23, Tryd.ntmps23
  go_wp2_with fail
  refine (HC.out _).mono ?_
  rintro e w' ⟨rfl, rfl⟩
  go_wp2_with fail
  go_ret
  exact ⟨rfl, rfl⟩
theorem box2 (W : World) (y z : Uv) : ∃ os, uBox (uBox W y) z = grow (W.drewN 0) os := ⟨_, by
  show (W.alloc _).alloc _ = _
  rw [alloc_eq_grow, alloc_eq_grow, grow_grow]; rfl⟩
theorem cmpLays (blk off size : Nat) (w : World) : CmpLays Tryd.prog 23 #[] encZ 4 cfZ blk off size w := fun m os dk _ a b => by
  refine (byName_any (sortWorldK encZ 4 w blk off m dk os) a.2 b.2).mono ?_
  rintro e w' ⟨rfl, rfl⟩
  obtain ⟨os', h⟩ := box2 (sortWorldK encZ 4 w blk off m dk os) a.2 b.2
  exact ⟨rfl, 0, os', h⟩
theorem sort_fr (w : World) (blk off n : Nat) (D : Array Uz) (os : Array Obj) : Fr (· = blk) w (sortWorldK encZ 4 w blk off n D os) := by
  refine ⟨rfl, rfl, rfl, size_sortWorldK_c encZ 4 w blk off n D os, fun k hk hn => ?_⟩
  unfold sortWorldK
  rw [heap_grow_old _ _ (by rw [size_putRowK]; exact hk)]
  unfold putRowK putRow mapBlock
  show ((Sort.ahead w n).heap.modify blk _)[k]? = _
  rw [Array.getElem?_modify, if_neg (fun e => hn e.symm)]
  rfl
theorem own_holds {w : World} {g : Nat} {cur : Array Value} (F : List Uz) (hg : w.heap[g]? = some (.cells cur 32 (0, 0))) (ht : cur.toList.take (F.length * 4) = flatU (F.map (·.2))) : HoldsK encZ 4 w g 0 F.toArray := by
  intro j hj
  rw [size_flatK] at hj
  have hj' : j < F.length * 4 := by simpa using hj
  have hi : j / 4 < F.length := by omega
  have hc : cur[j]? = (flatU (F.map (·.2)))[j]? := by
    rw [← ht, List.getElem?_take, if_pos hj']
    simp
  refine ⟨?_, ?_⟩
  · rw [cell_of_row w g (0 + j) _ _ (0, 0) hg, Nat.zero_add, hc, show j = j / 4 * 4 + j % 4 by omega, flatU_at (F.map (·.2)) (j / 4) (j % 4) (by simpa using hi) (by omega), show j / 4 * 4 + j % 4 = j by omega, get_flatK encZ 4 F.toArray j hj]
    have e1 : F.toArray[j / 4]! = F[j / 4] := by
      rw [getElem!_pos _ _ (by simpa using hi)]; simp
    rw [e1]
    have hl : j % 4 < (encZ F[j / 4]).length := by rw [encZ_len]; omega
    rw [List.getElem_map]
    show (encZ F[j / 4])[j % 4]? = _
    rw [List.getElem?_eq_getElem hl, getElem!_pos (encZ F[j / 4]) (j % 4) hl]; rfl
  · simp [World.frozen?, hg]
theorem holds_four {w : World} {g : Nat} {D : Array Uz} (h : HoldsK encZ 4 w g 0 D) (i : Nat) (hi : i < D.size) : four w g (0 + i * 4) (D[i]).2 := by
  intro j v hv
  have hj : j < 4 := (List.getElem?_eq_some_iff.1 hv).1
  have h1 := (h (i * 4 + j) (by rw [size_flatK]; omega)).1
  rw [Nat.zero_add, get_flatK encZ 4 D _ (by omega), show (i * 4 + j) / 4 = i by omega, show (i * 4 + j) % 4 = j by omega, getElem!_pos D i hi] at h1
  rw [Nat.zero_add, h1]
  have hl : j < (encZ D[i]).length := by rw [encZ_len]; exact hj
  rw [← hv]
  show _ = (encZ D[i])[j]?
  rw [List.getElem?_eq_getElem hl, getElem!_pos (encZ D[i]) j hl]; rfl

/-- By rising names. -/
def Rising (U : List Ut) : Prop := U.Pairwise (fun a b => ¬ b.n < a.n)
def SortPost (w0 w : World) (U : List Ut) (ad : Option Addr) (e : Ending) (w' : World) : Prop :=
  e = .returned (.tuple #[]) ∧ Fr (fun k => ∃ o, ad = some ⟨k, o, none⟩) w w' ∧ ∃ U' : List Ut, U'.Perm U ∧ Rising U' ∧ Us w0 w' U' ad

theorem sort_some (w0 w : World) (U : List Ut) (X : List Uv) (B g cap : Nat) (hO : w.ownsRow B 32 4 (.slice (some ⟨g, 0, none⟩) X.length cap) X.length (flatU X)) (hR : RowIs w0 U X) (hl : U.length ≤ 1000000) :
    Calls Tryd.prog 22 #[.slice (some ⟨g, 0, none⟩) X.length cap, .func (.func 23) #[] #[]] w fun e w' => SortPost w0 w U (some ⟨g, 0, none⟩) e w' := by
  have hlt := (own_lt hO g rfl).2
  have hz : (U.zip X).length = X.length := by rw [List.length_zip, hR.1]; omega
  have hm : (U.zip X).map (·.2) = X := List.map_snd_zip (by rw [hR.1]; exact Nat.le_refl _)
  have hm1 : (U.zip X).map (·.1) = U := List.map_fst_zip (by rw [hR.1]; exact Nat.le_refl _)
  have hH : HoldsK encZ 4 w g 0 (U.zip X).toArray := by
    rcases hO.2 with ⟨h0, _⟩ | ⟨g', c, cur, hv, _, hg, _, _, _, ht⟩
    · cases h0
    · cases hv
      exact own_holds (U.zip X) hg (by rw [hz, hm]; exact ht)
  have hall : ∀ z ∈ U.zip X, UIn w0 z.1 z.2 := fun z hz' => by
    obtain ⟨i, hi, rfl⟩ := List.getElem_of_mem hz'
    rw [List.getElem_zip]
    exact hR.2 i (by rw [List.length_zip] at hi; omega) (by rw [List.length_zip] at hi; omega)
  have key := AnyQ.slices_SortFunc (P := Tryd.prog) Tryd.laysSort 4 Tryd.isAgg32 Tryd.sizeOf32 encZ encZ_len encZ_one cfZ swoZ 23 #[] g 0 cap (U.zip X).toArray w (enters_of Tryd.func23 (by kernel_rfl) rfl) (cmpLays g 0 _ w) hH hlt (by simp only [List.size_toArray]; rw [hz, hR.1]; omega)
  rw [List.size_toArray, hz] at key
  refine key.mono ?_
  rintro e w' ⟨rfl, d', n, os, hp, hs, rfl⟩
  have hsz : d'.size = X.length := by rw [hp.1, List.size_toArray, hz]
  have hperm : d'.toList.Perm (U.zip X) := by
    have h := hp.2.2
    have e1 : d'.extract 0 X.length = d' := by rw [← hsz]; exact Array.extract_size
    have e2 : (U.zip X).toArray.extract 0 X.length = (U.zip X).toArray := by
      have : X.length = (U.zip X).toArray.size := by simp only [List.size_toArray]; exact hz.symm
      rw [this]; exact Array.extract_size
    rw [e1, e2] at h
    exact h
  have hH' := holdsK_sortWorldK_c encZ 4 w g 0 (U.zip X).toArray d' n os hH hlt (by rw [hsz, List.size_toArray, hz])
  have hin : ∀ i (h : i < d'.size), UIn w0 d'[i].1 d'[i].2 := fun i h => hall _ (hperm.mem_iff.1 (by simp))
  refine ⟨rfl, (sort_fr w g 0 n d' os).mono (fun k hk => ⟨0, by rw [hk]⟩), d'.toList.map (·.1), ?_, ?_, fun _ => ⟨g, 0, rfl, fun i hi => ?_⟩⟩
  · have := hperm.map (·.1)
    rw [hm1] at this
    exact this
  · refine List.pairwise_iff_getElem.2 (fun i j hi hj hij => ?_)
    have hi' : i < d'.size := by simpa using hi
    have hj' : j < d'.size := by simpa using hj
    have h := hs i j (Nat.zero_le _) hij (by rw [← hsz]; exact hj')
    rw [getElem!_pos d' i hi', getElem!_pos d' j hj', ltZ, decide_eq_false_iff_not, (hin i hi').n, (hin j hj').n] at h
    simpa using h
  · have hi' : i < d'.size := by simpa using hi
    refine ⟨d'[i].2, holds_four hH' i hi', ?_⟩
    have := hin i hi'
    simpa using this

set_option maxRecDepth 100000 in
set_option maxHeartbeats 1000000 in
theorem ins_none (w : World) : Calls Tryd.prog 42 #[.slice none 0 0, .int .i64 0, .int .i64 0, .func (.func 23) #[] #[]] w fun e w' => e = .returned (.tuple #[]) ∧ w' = w := by
  go_enter Tryd.func42, Tryd.ntmps42
  go_wp2_with fail
  go_loopw [8] (fun iv wr => iv = .int .i64 1 ∧ w = wr) (fun _ _ => 0)
  case atStart => exact ⟨rfl, rfl⟩
  case round =>
    obtain ⟨rfl, hw⟩ := hrel
    have HW := hid hw
    clear hw
    go_wp2_with fail
    go_end0
    exact ⟨rfl, HW.out.symm⟩
theorem bits0 (w : World) : Calls Tryd.prog 33 #[.int .u64 0] w fun e w' => e = .returned (.int .i64 0) ∧ w' = w := by
  have h := Any.bits_Len (SlLaysF0.n15.bits (P := Tryd.prog) (ρ := Tryd.laysSort_ren) { Tryd.laysSort with }) 0 w (by omega) (by omega)
  exact h
set_option maxRecDepth 100000 in
set_option maxHeartbeats 2000000 in
theorem pdq_none (w : World) : Calls Tryd.prog 32 #[.slice none 0 0, .int .i64 0, .int .i64 0, .int .i64 0, .func (.func 23) #[] #[]] w fun e w' => e = .returned (.tuple #[]) ∧ w' = w := by
  have HC := hid (fun W => ins_none W)
  go_enter Tryd.func32, Tryd.ntmps32
  go_wp2_with fail
  go_loopw [1, 2, 3, 10, 11] (fun av bv lv _ _ wr => av = .int .i64 0 ∧ bv = .int .i64 0 ∧ lv = .int .i64 0 ∧ w = wr) (fun _ _ _ _ _ _ => 0)
  case atStart => exact ⟨rfl, rfl, rfl, rfl⟩
  case round =>
    obtain ⟨rfl, rfl, rfl, hw⟩ := hrel
    have HW := hid hw
    clear hw
    go_wp2_with fail
    refine (HC.out _).mono ?_
    rintro e w1 ⟨rfl, rfl⟩
    go_wp2_with fail
    refine bodyPost_ret (results_none rfl _ _ _) rfl ?_
    exact ⟨rfl, HW.out.symm⟩
set_option maxRecDepth 100000 in
set_option maxHeartbeats 1000000 in
theorem sort_none (w : World) : Calls Tryd.prog 22 #[.slice none 0 0, .func (.func 23) #[] #[]] w fun e w' => e = .returned (.tuple #[]) ∧ w' = w := by
  have HC := hid (fun W => pdq_none W)
  have HD := hid (fun W => bits0 W)
  go_enter Tryd.func22, Tryd.ntmps22
  go_wp2_with fail
  refine (HD.out _).mono ?_
  rintro e w1 ⟨rfl, rfl⟩
  go_wp2_with fail
  refine (HC.out _).mono ?_
  rintro e w1 ⟨rfl, rfl⟩
  go_wp2_with fail
  go_end0
  exact ⟨rfl, rfl⟩
theorem sort_any (w0 w : World) (U : List Ut) (X : List Uv) (B : Nat) (ad : Option Addr) (cap : Nat) (hO : w.ownsRow B 32 4 (.slice ad X.length cap) X.length (flatU X)) (hR : RowIs w0 U X) (hl : U.length ≤ 1000000) :
    Calls Tryd.prog 22 #[.slice ad X.length cap, .func (.func 23) #[] #[]] w fun e w' => SortPost w0 w U ad e w' := by
  rcases hO.2 with ⟨h0, h1⟩ | ⟨g, c, cur, hv, _⟩
  · simp only [Value.slice.injEq] at h0
    obtain ⟨rfl, h2, rfl⟩ := h0
    have hU : U = [] := List.eq_nil_of_length_eq_zero (by rw [← hR.1]; exact h1)
    subst hU
    rw [h2]
    refine (sort_none w).mono ?_
    rintro e w' ⟨rfl, rfl⟩
    exact ⟨rfl, Fr.refl _ _, [], List.Perm.refl _, List.Pairwise.nil, fun h => absurd rfl h⟩
  · cases hv
    exact sort_some w0 w U X B g cap hO hR hl

/-- slices.Equal of two rows of texts. -/
theorem eqStrs (w : World) (a1 a2 : Option Addr) (c d : Nat) (xs ys : List Nm) (hx : Strs w a1 xs) (hy : Strs w a2 ys) (hl : xs.length ≤ lim) (hm : ys.length ≤ lim) : Calls Tryd.prog 56 #[.slice a1 xs.length c, .slice a2 ys.length d] w fun e w' => e = .returned (.bool (decide (xs = ys))) ∧ Fr (fun _ => False) w w' := by
  have e0 : lim = 140737488351232 := rfl
  by_cases hxe : xs = []
  · subst hxe
    refine (Any.slices_Equal_string_empty (P := Tryd.prog) Tryd.lays193 a1 a2 c ys.length d w (by omega)).mono fun e w' h => ⟨?_, by rw [h.2]; exact Fr.refl _ _⟩
    rw [h.1]
    have : decide (ys.length = 0) = decide (([] : List Nm) = ys) := by
      cases ys <;> simp
    rw [this]
  by_cases hlen : xs.length = ys.length
  · have hye : ys ≠ [] := fun h => by rw [h] at hlen; exact hxe (List.eq_nil_of_length_eq_zero (by simpa using hlen))
    obtain ⟨b1, o1, rfl, h1⟩ := hx hxe
    obtain ⟨b2, o2, rfl, h2⟩ := hy hye
    have key := Any.slices_Equal_string (P := Tryd.prog) Tryd.lays193 b1 o1 xs.length c b2 o2 ys.length d (xs.map fun s => ⟨s.toArray⟩) (ys.map fun s => ⟨s.toArray⟩) w (by simp) (by simp) (by omega) (by omega)
      (fun j hj => by
        have hj' : j < xs.length := by simpa using hj
        rw [h1 j hj', List.getD_eq_getElem?_getD, List.getElem?_map, List.getElem?_eq_getElem hj']; rfl)
      (fun j hj => by
        have hj' : j < ys.length := by simpa using hj
        rw [h2 j hj', List.getD_eq_getElem?_getD, List.getElem?_map, List.getElem?_eq_getElem hj']; rfl)
    refine key.mono fun e w' h => ⟨?_, by obtain ⟨q, rfl⟩ := h.2; exact (Fr.refl _ _).drewN q⟩
    rw [h.1, List.take_of_length_le (by simp), List.take_of_length_le (by simp)]
    congr 2
    have inj : ∀ s t : List UInt8, (ByteArray.mk s.toArray = ByteArray.mk t.toArray) → s = t := fun s t h => by
      have := congrArg ByteArray.data h
      simpa using this
    have : (xs.map (fun s => ByteArray.mk s.toArray) = ys.map (fun s => ByteArray.mk s.toArray)) ↔ xs = ys :=
      ⟨fun h => List.map_inj_right (f := fun s : List UInt8 => ByteArray.mk s.toArray) (fun s t h => inj s t h) |>.1 h, fun h => by rw [h]⟩
    exact decide_eq_decide.2 this
  · refine (Any.slices_Equal_string_lens (P := Tryd.prog) Tryd.lays193 a1 a2 xs.length c ys.length d w hlen).mono fun e w' h => ⟨?_, by rw [h.2]; exact Fr.refl _ _⟩
    rw [h.1, decide_eq_false (fun h => hlen (by rw [h]))]
theorem tz_any (x : Nat) (hx : x < 4294967296) (w : World) (hT : x ≠ 0 → TabAt 1 Lib.deBruijn32tab w) :
    Calls Tryd.prog 54 #[.int .u32 x] w fun e w' => e = .returned (.int .i64 (Lib.ctz 32 x)) ∧ w' = w := Any7.bits_TrailingZeros32 (P := Tryd.prog) Tryd.lays728 x hx w hT
end Go.Proofs.YtcpeebkfnnkjnaaDoor.Tr
