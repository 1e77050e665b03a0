import Derived.Test.YtehoiahgkbnjdaaGreatHasM
import Derived.Laws.BitsAllLaws
import Derived.ProofKit
import Derived.OpenShut
import Derived.ShutString
import Derived.ChangeOld
import Derived.Deep.Slices
/- 'shown' answers true. -/
namespace Go.Proofs.YtehoiahgkbnjdaaGreat.Al
open Go.RowKit Go.Shelf Dk Wl

def mB (x : UInt8) : Sec := x :: List.replicate 127 0
theorem mB_length (x : UInt8) : (mB x).length = 128 := by simp [mB]
def S1 : SMap := [(17, mB 1), (23, zeros)]
def S2 : SMap := [(17, mB 3), (23, zeros), (24, zeros)]
def S3 : SMap := [(17, mB 2), (23, zeros), (24, zeros)]
theorem r1 : runB stepC 64 zeros 0 = (zeros, 41, false) := by decide +kernel
theorem r2 : runI stepC 64 node1 0 = (node1, 15, false) := by decide +kernel
theorem r3 : runB stepG 64 zeros 0 = (mB 1, ((23 : Nat) : Int), true) := by decide +kernel
theorem r4 : runB stepG 64 (mB 1) 0 = (mB 3, ((24 : Nat) : Int), true) := by decide +kernel
theorem r5 : brun stepT (lay 64).da 1 ((23 : Nat) : Int) (mB 3) false false = (mB 2, true, true) := by decide +kernel
theorem r6 : runB stepG 64 (mB 2) 0 = (mB 3, ((23 : Nat) : Int), true) := by decide +kernel
theorem r7 : runI stepG 64 node1 0 = (mB 3, ((1 : Nat) : Int), true) := by decide +kernel
theorem q1 : over [] (T0 64) (lay 64).mp = zeros ∧ over [] (T0 64) (lay 64).nd = node1 := by decide +kernel
theorem q3 : over S1 (T0 64) (lay 64).mp = mB 1 ∧ ins 23 zeros (ins (lay 64).mp (mB 1) []) = S1 ∧ cost (([] : SMap).length + 2) ≤ (lay 64).ll - 1 := by decide +kernel
theorem q4 : over S2 (T0 64) (lay 64).mp = mB 3 ∧ ins 24 zeros (ins (lay 64).mp (mB 3) S1) = S2 ∧ cost (S1.length + 2) ≤ (lay 64).ll - 1 := by decide +kernel
theorem q5 : over S3 (T0 64) (lay 64).mp = mB 2 ∧ ins (lay 64).mp (mB 2) S2 = S3 ∧ cost (S2.length + 1) ≤ (lay 64).ll - 1 := by decide +kernel
theorem q6 : over S2 (T0 64) (lay 64).nd = node1 ∧ ins 23 zeros (ins (lay 64).mp (mB 3) S3) = S2 ∧ cost (S3.length + 2) ≤ (lay 64).ll - 1 := by decide +kernel
theorem q7 : over (ins (lay 64).nd (mB 3) S2) (T0 64) ((lay 64).tb + 1 / 4) = zeros ∧ cost (S2.length + 2) ≤ (lay 64).ll - 1 := by decide +kernel
theorem lay64 : (lay 64).da = 23 ∧ (lay 64).no = 16 := by decide +kernel

set_option maxRecDepth 100000 in
set_option maxHeartbeats 4000000 in
theorem shown_al (G : Nat → Prop) (w : World) (hG : ∀ k, G k → k < w.heap.size) : Calls Tryz.prog 6 #[] w fun x w' => x = .returned (.bool true) ∧ Kp G w w' := by
  have HM := hid (made_al G w hG 64 (by omega) (by omega))
  have hl := hid lay64
  go_enter Tryz.func6, Tryz.ntmps6
  go_wp2_with fail
  refine HM.out.mono ?_
  rintro x w1 ⟨p, l, sp, bl, bt, D, L, rfl, o1, b1, hsp, k1, a1, t1⟩
  have HS : Hid (Spc (fun k => G k ∨ k = sp) w1 sp l (lay 64)) := ⟨b1, .inr rfl⟩
  have HO := hid o1
  have HA := hid a1
  have HT := hid t1
  have HK := hid k1
  have HC := hid (Blocks_ai o1 HS.out a1 (by omega) (by omega) zeros (by rw [t1]; exact q1.1) 41 zeros r1)
  clear HM o1 b1 hsp k1 a1 t1
  go_wp2_with fail
  refine HC.out.mono ?_
  rintro x w2 ⟨rfl, o2, k2⟩
  have HS2 := hid (HS.out.kp k2)
  have HK2 := hid (Kp.trans HK.out (Kp.less k2 (fun _ hk => .inl hk)))
  have HC2 := hid (Inodes_ai o2 HS2.out HA.out (by omega) (by omega) node1 (by rw [HT.out]; exact q1.2) 15 node1 r2)
  clear HC o2 k2 HS HK HO
  go_wp2_with fail
  refine HC2.out.mono ?_
  rintro x w3 ⟨rfl, o3, k3⟩
  have HS3 := hid (HS2.out.kp k3)
  have HK3 := hid (Kp.trans HK2.out (Kp.less k3 (fun _ hk => .inl hk)))
  obtain ⟨L3, c3, a3, t3⟩ := Block_ai o3 HS3.out HA.out (by omega) (by omega) zeros (by rw [HT.out]; exact q1.1) (mB 1) (mB_length 1) 23 (by rw [hl.out.1]; omega) (by omega) r3 (by rw [HT.out]; exact q3.2.2)
  rw [HT.out, q3.2.1] at t3
  have HC3 := hid c3
  have HA3 := hid a3
  have HT3 := hid t3
  clear HC2 o3 k3 HS2 HK2 HA HT c3 a3 t3
  go_wp2_with fail
  refine HC3.out.mono ?_
  rintro x w4 ⟨rfl, o4, k4⟩
  have HS4 := hid (HS3.out.kp k4)
  have HK4 := hid (Kp.trans HK3.out (Kp.less k4 (fun _ hk => .inl hk)))
  obtain ⟨L4, c4, a4, t4⟩ := Block_ai o4 HS4.out HA3.out (by omega) (by omega) (mB 1) (by rw [HT3.out]; exact q3.1) (mB 3) (mB_length 3) 24 (by rw [hl.out.1]; omega) (by omega) r4 (by rw [HT3.out]; exact q4.2.2)
  rw [HT3.out, q4.2.1] at t4
  have HC4 := hid c4
  have HA4 := hid a4
  have HT4 := hid t4
  clear HC3 o4 k4 HS3 HK3 HA3 HT3 c4 a4 t4
  go_wp2_with fail
  refine HC4.out.mono ?_
  rintro x w5 ⟨rfl, o5, k5⟩
  have HS5 := hid (HS4.out.kp k5)
  have HK5 := hid (Kp.trans HK4.out (Kp.less k5 (fun _ hk => .inl hk)))
  obtain ⟨L5, c5, a5, t5⟩ := Free_ai o5 HS5.out HA4.out (by omega) (by omega) 23 (by rw [hl.out.1]; omega) (by omega) (mB 3) (by rw [HT4.out]; exact q4.1) (mB 2) (mB_length 2) r5 (by rw [HT4.out]; exact q5.2.2)
  rw [HT4.out, q5.2.1] at t5
  have HC5 := hid c5
  have HA5 := hid a5
  have HT5 := hid t5
  clear HC4 o5 k5 HS4 HK4 HA4 HT4 c5 a5 t5
  go_wp2_with fail
  refine HC5.out.mono ?_
  rintro x w6 ⟨rfl, o6, k6⟩
  have HS6 := hid (HS5.out.kp k6)
  have HK6 := hid (Kp.trans HK5.out (Kp.less k6 (fun _ hk => .inl hk)))
  obtain ⟨L6, c6, a6, t6⟩ := Block_ai o6 HS6.out HA5.out (by omega) (by omega) (mB 2) (by rw [HT5.out]; exact q5.1) (mB 3) (mB_length 3) 23 (by rw [hl.out.1]; omega) (by omega) r6 (by rw [HT5.out]; exact q6.2.2)
  rw [HT5.out, q6.2.1] at t6
  have HC6 := hid c6
  have HA6 := hid a6
  have HT6 := hid t6
  clear HC5 o6 k6 HS5 HK5 HA5 HT5 c6 a6 t6
  go_wp2_with fail
  refine HC6.out.mono ?_
  rintro x w7 ⟨rfl, o7, k7⟩
  have HS7 := hid (HS6.out.kp k7)
  have HK7 := hid (Kp.trans HK6.out (Kp.less k7 (fun _ hk => .inl hk)))
  obtain ⟨L7, c7, a7, t7⟩ := Inode_ai o7 HS7.out HA6.out (by omega) (by omega) node1 (by rw [HT6.out]; exact q6.1) (mB 3) (mB_length 3) 1 (by omega) (by rw [hl.out.2]; omega) r7 (by rw [HT6.out]; exact q7.2) zeros zeros_length (by rw [HT6.out]; exact q7.1)
  have HC7 := hid c7
  clear HC6 o7 k7 HS6 HK6 HA6 HT6 c7 a7 t7
  go_wp2_with fail
  refine HC7.out.mono ?_
  rintro x w8 ⟨rfl, o8, k8⟩
  have HS8 := hid (HS7.out.kp k8)
  have HK8 := hid (Kp.trans HK7.out (Kp.less k8 (fun _ hk => .inl hk)))
  have HC8 := hid (FreeInode_none HS8.out (by omega) (by omega) 0 (.inl (by omega)))
  clear HC7 o8 k8 HS7 HK7
  go_wp2_with fail
  refine HC8.out.mono ?_
  rintro x w9 ⟨rfl, f9⟩
  have HK9 := hid (Kp.trans HK8.out f9.kp)
  clear HC8 f9 HS8 HK8
  go_wp2
  go_ret
  exact ⟨rfl, HK9.out⟩

end Go.Proofs.YtehoiahgkbnjdaaGreat.Al
/- The law's own: size, picture; a row that one appends to, beside a log in hand. -/
namespace Go.Proofs.YtehoiahgkbnjdaaGreat.Al
open Go.RowKit Go.Shelf Dk Wl

def sizeN (a : Int) : Nat := 64 + (if a < 0 then -(a + 1) else a).toNat % 140
theorem size_b (a : Int) : 64 ≤ sizeN a ∧ sizeN a ≤ 203 := by unfold sizeN; omega

set_option maxRecDepth 100000 in
set_option maxHeartbeats 400000 in
theorem size_any (w : World) (a : Int) (h0 : -9223372036854775808 ≤ a) (h1 : a ≤ 9223372036854775807) :
    Calls Tryz.prog 7 #[.int .i64 a] w fun x w' => x = .returned (.int .i64 ((sizeN a : Nat) : Int)) ∧ w' = w := by
  by_cases ha : a < 0
  · obtain ⟨k, hk⟩ := Int.eq_ofNat_of_zero_le (show 0 ≤ -(a + 1) by omega)
    obtain rfl : a = -(k : Int) - 1 := by omega
    have e1 : IntKind.i64.wrap (-(k : Int) - 1 + 1) = -(k : Int) := by simp [IntKind.wrap, IntKind.bits, IntKind.signed]; omega
    have e2 : IntKind.i64.wrap (- -(k : Int)) = (k : Int) := by simp [IntKind.wrap, IntKind.bits, IntKind.signed]; omega
    have HE : Hid (((sizeN (-(k : Int) - 1) : Nat) : Int) = 64 + (k : Int) % 140) := by
      unfold Hid sizeN
      rw [if_pos ha, hk]
      omega
    clear hk
    go_enter Tryz.func7, Tryz.ntmps7
    go_wp2
    go_ret
    exact ⟨by rw [HE.out]; rfl, rfl⟩
  · obtain ⟨k, rfl⟩ := Int.eq_ofNat_of_zero_le (show 0 ≤ a by omega)
    have HE : Hid (((sizeN (k : Int) : Nat) : Int) = 64 + (k : Int) % 140) := by
      unfold Hid sizeN
      rw [if_neg ha]
      omega
    go_enter Tryz.func7, Tryz.ntmps7
    go_wp2
    go_ret
    exact ⟨by rw [HE.out]; rfl, rfl⟩

theorem ownL_grew {G : Nat → Prop} {w w' : World} {l p bl bt : Nat} {D : Dsk} {L : Lg} {ob : Option Nat} {g : Nat} (h : OwnL (fun k => G k ∨ ob = some k) w l p bl bt D L) (hg : w.grownBy w' ob) (hat : ob = some g ∨ g = w.heap.size) (hlt : g < w'.heap.size) : OwnL (fun k => G k ∨ some g = some k) w' l p bl bt D L := by
  have same : ∀ k, k < w.heap.size → ob ≠ some k → w'.heap[k]? = w.heap[k]? := fun k hk hn => hg.block k hk (fun e => hn e.symm)
  have nl : ∀ k, ob = some k → k ≠ l ∧ k ≠ bl ∧ k ≠ bt := fun k hk => h.g k (.inr hk)
  refine ⟨h.r.of_same (same l h.r.hl.lt (fun e => (nl l e).1 rfl)) (same bl h.r.ml.lt (fun e => (nl bl e).2.1 rfl)) (same bt h.r.mt.lt (fun e => (nl bt e).2.2 rfl)), ?_, ?_, h.n⟩
  · obtain ⟨a1, a2, lv, r, f⟩ := h.d
    refine ⟨a1, a2, lv, r.of_same (fun k hk => same k (r.foot_lt k hk) (fun e => (f k (.inl (.inr e))).2 hk)), fun k hk => ?_⟩
    rcases hk with (hk | hk) | hk
    · exact ⟨Nat.lt_of_lt_of_le (f k (.inl (.inl hk))).1 hg.size, (f k (.inl (.inl hk))).2⟩
    · obtain rfl : g = k := by simpa using hk
      refine ⟨hlt, fun hf => ?_⟩
      rcases hat with e | e
      · exact (f g (.inl (.inr e))).2 hf
      · have := r.foot_lt _ hf; omega
    · exact ⟨Nat.lt_of_lt_of_le (f k (.inr hk)).1 hg.size, (f k (.inr hk)).2⟩
  · intro k hk
    rcases hk with hk | hk
    · exact h.g k (.inl hk)
    · obtain rfl : g = k := by simpa using hk
      rcases hat with e | e
      · exact nl g e
      · have := h.r.hl.lt; have := h.r.ml.lt; have := h.r.mt.lt; omega
theorem kp_grew {G : Nat → Prop} {w w1 w2 : World} {ob : Option Nat} (h : Kp G w w1) (hg : w1.grownBy w2 ob) (hr : ∀ k, ob = some k → w.heap.size ≤ k) : Kp G w w2 := h.grown hg (fun k e => .inr (hr k e))

theorem conv_owned {w : World} {B g cap n : Nat} (l : Sec) (h : w.ownsRow B 5 1 (.slice (some ⟨g, 0, none⟩) n cap) n (bs l)) :
    (convert 49 9 (.slice (some ⟨g, 0, none⟩) n cap)).run Tryz.prog w = .ok (.string (strB l)) w := by
  have hl : l.length = n := by have := h.1; rw [bs_length] at this; omega
  subst hl
  refine run_convert_bytes_back (P := Tryz.prog) w 49 9 5 ⟨g, 0, none⟩ cap l Tryz.underlying49 Tryz.underlying5 Tryz.underlying9 (fun j hj => ?_)
  exact h.cells rfl j _ (by simp [bs, bv, hj])

def picC (n : Nat) (mp nd : Sec) (k : Nat) : Sec := (if hasB n mp (k : Int) then 98 else 46) :: (if hasI n nd (k : Int) then [105] else [])
def pic (n : Nat) (mp nd : Sec) (k : Nat) : Sec := (List.range k).flatMap (picC n mp nd)
theorem pic_succ (n : Nat) (mp nd : Sec) (k : Nat) : pic n mp nd (k + 1) = pic n mp nd k ++ picC n mp nd k := by simp [pic, List.range_succ]
theorem pic_len (n : Nat) (mp nd : Sec) : ∀ k, k ≤ (pic n mp nd k).length ∧ (pic n mp nd k).length ≤ 2 * k
  | 0 => ⟨Nat.le_refl _, Nat.le_refl _⟩
  | k + 1 => by
    have := pic_len n mp nd k
    have h : 1 ≤ (picC n mp nd k).length ∧ (picC n mp nd k).length ≤ 2 := by unfold picC; split <;> split <;> simp
    rw [pic_succ, List.length_append]
    omega

/-- A row of its own, in mid-way. -/
structure PicMid (G : Nat → Prop) (w wr : World) (l p bl bt : Nat) (D : Dsk) (L : Lg) (av : Value) (A : Sec) : Prop where
  r : wr.ownsRow w.heap.size 5 1 av A.length (bs A)
  o : OwnL (fun k => G k ∨ av.ownBlock = some k) wr l p bl bt D L
  kp : Kp G w wr
section
variable {G : Nat → Prop} {w wr w1 w2 : World} {l p bl bt : Nat} {D : Dsk} {L : Lg} {av : Value} {A : Sec}
theorem PicMid.size (h : PicMid G w wr l p bl bt D L av A) : w.heap.size ≤ wr.heap.size := h.kp.size
theorem PicMid.past (h : PicMid G w wr l p bl bt D L av A) (o1 : OwnL (fun k => G k ∨ av.ownBlock = some k) w1 l p bl bt D L) (k1 : Kp (fun k => G k ∨ av.ownBlock = some k) wr w1) : PicMid G w w1 l p bl bt D L av A :=
  ⟨owns_of_eq h.r (fun b hb => k1.block b (h.r.lt b hb).2 (fun hn => hn (.inr hb))), o1, Kp.trans h.kp (Kp.less k1 (fun _ hk => .inl hk))⟩
theorem new1 (W : World) (c : Int) : ∀ j u, [Value.int .u8 c][j]? = some u → (W.alloc (.cells #[.int .u8 c] 5)).cell? ((⟨W.heap.size, 0, none⟩ : Addr).add j) = some u :=
  World.news_of_block (cs := #[.int .u8 c]) (heap_alloc_new W _)
theorem PicMid.next (h : PicMid G w wr l p bl bt D L av A) {n : Nat} (hn : A.length = n) (x : UInt8) (c : Int) (hc : c = (x.toNat : Int)) {g cap2 : Nat} {ob : Obj}
    (hown : w2.ownsRow w.heap.size 5 1 (.slice (some ⟨g, 0, none⟩) (n + 1) cap2) (n + 1) (bs A ++ [.int .u8 c])) (hgrow : (wr.alloc ob).grownBy w2 av.ownBlock) (hat : av.ownBlock = some g ∨ g = wr.heap.size + 1) (hlt : g < w2.heap.size) :
    PicMid G w w2 l p bl bt D L (.slice (some ⟨g, 0, none⟩) (n + 1) cap2) (A ++ [x]) := by
  subst hc
  subst hn
  refine ⟨?_, ?_, ?_⟩
  · have e : bs (A ++ [x]) = bs A ++ [.int .u8 (x.toNat : Int)] := by simp [bs, bv]
    rw [e, List.length_append]
    exact hown
  · exact ownL_grew (h.o.alloc ob) hgrow (hat.imp id (fun e => by rw [e]; simp)) hlt
  · exact kp_grew (Kp.trans h.kp ((Fr.refl _ wr).alloc ob)) hgrow (fun k hk => (h.r.lt k hk).1)
end

set_option maxRecDepth 100000 in
set_option maxHeartbeats 4000000 in
theorem picture_any {G : Nat → Prop} {w : World} {l p bl bt sp n m : Nat} {T : Nat → Sec} {D : Dsk} {L : Lg} (h : OwnL G w l p bl bt D L) (hs : Spc G w sp l (lay n)) (a : AI n m T D L) (h1 : 64 ≤ n) (h2 : n ≤ 1024) :
    Calls Tryz.prog 24 #[pv sp, .int .i64 (n : Int)] w fun e w' => e = .returned (.string (strB (pic n (over L.st T (lay n).mp) (over L.st T (lay n).nd) n))) ∧ OwnL G w' l p bl bt D L ∧ Kp G w w' := by
  obtain ⟨i0, hi0, hz0, hz1, hz2⟩ := info_parts Dk.info5
  have HS := hid hs
  have HHas := hid (fun (G' : Nat → Prop) W (o : OwnL G' W l p bl bt D L) (s : Spc G' W sp l (lay n)) (k : Int) => Has_ai o s a h1 h2 k)
  have HHin := hid (fun (G' : Nat → Prop) W (o : OwnL G' W l p bl bt D L) (s : Spc G' W sp l (lay n)) (k : Int) => HasInode_ai o s a h1 h2 k)
  have HM0 : Hid (PicMid G w w l p bl bt D L (.slice none 0 0) []) := ⟨World.ownsRow_nil w w.heap.size 5 1, h.less (fun k hk => hk.elim id (fun e => by cases e)), Fr.refl _ _⟩
  clear h hs a
  generalize over L.st T (lay n).mp = mp at *
  generalize over L.st T (lay n).nd = nd at *
  go_enter Tryz.func24, Tryz.ntmps24
  go_wp2_with fail
  go_loopw [5, 6] (fun av i wr => ∃ k : Nat, k ≤ n ∧ i = .int .i64 (k : Int) ∧ PicMid G w wr l p bl bt D L av (pic n mp nd k)) (fun _ i _ => n - (intOf i).toNat)
  case atStart => exact ⟨0, Nat.zero_le _, rfl, HM0.out⟩
  case round =>
    obtain ⟨k, hkn, rfl, hM⟩ := hrel
    have HM := hid hM
    clear hM HM0
    by_cases hlt : k < n
    · have hk1 : (k : Int) < (n : Int) := by omega
      have HC1 := hid (HHas.out _ _ HM.out.o ⟨(HS.out.kp HM.out.kp).b, .inl HS.out.g⟩ (k : Int))
      have HN2 := hid (fun (G' : Nat → Prop) W (o : OwnL G' W l p bl bt D L) s => HHin.out G' W o s (k : Int))
      have HP : Hid (pic n mp nd (k + 1) = (pic n mp nd k ++ [if hasB n mp (k : Int) then 98 else 46]) ++ (if hasI n nd (k : Int) then [105] else [])) := by
        unfold Hid; rw [pic_succ]; simp [picC]
      have hle := (pic_len n mp nd k).2
      generalize hA1 : pic n mp nd (k + 1) = A1 at *
      have HA1 := hid hA1
      generalize pic n mp nd k = A at *
      generalize hasB n mp (k : Int) = u at *
      generalize hasI n nd (k : Int) = v at *
      clear hA1
      cases u <;> cases v
      all_goals
        go_wp2_with fail
        refine HC1.out.mono ?_
        rintro e w1 ⟨rfl, o1, k1⟩
        have HM1 := hid (HM.out.past o1 k1)
        have HC2 := hid (HN2.out _ _ HM1.out.o ⟨(HS.out.kp HM1.out.kp).b, .inl HS.out.g⟩)
        clear o1 k1 HC1
        go_wp2_with fail
        refine HC2.out.mono ?_
        rintro e w2 ⟨rfl, o2, k2⟩
        have HM2 := hid (HM1.out.past o2 k2)
        have hsz := hid HM2.out.size
        clear o2 k2 HC2 HM1
      · go_wp2_with (at_builtin; refine wpList_append_lies _ (by rfl) _ _ _ (by rfl) w.heap.size 5 i0 _ 1 1 Tryz.underlying49 hi0 hz0 hz1 hz2 rfl (by omega) _ A.length (bs A) (by rfl) (by exact HM2.out.r.alloc _) ⟨w2.heap.size, 0, none⟩ 1 1 [.int .u8 46] (by rfl) rfl (by exact new1 w2 46) (by simp [Value.oneCell']) (by omega) (by unfold maxLen; omega) (by omega) (by have := HM2.out.size; simp; omega) (w2.heap.size + 1) (by simp) ?_; intro g cap2 w3 hown hgrow hat hlt2)
        have HM3 := hid (HM2.out.next rfl 46 46 rfl hown hgrow hat hlt2)
        clear hown hgrow hat hlt2 HM2
        exact ⟨⟨k + 1, by omega, by go_num, by rw [HA1.out, HP.out]; simpa using HM3.out⟩, by simp [intOf]; omega⟩
      · go_wp2_with (first
          | (at_builtin; refine wpList_append_lies _ (by rfl) _ _ _ (by rfl) w.heap.size 5 i0 _ 1 1 Tryz.underlying49 hi0 hz0 hz1 hz2 rfl (by omega) _ A.length (bs A) (by rfl) (by exact HM2.out.r.alloc _) ⟨w2.heap.size, 0, none⟩ 1 1 [.int .u8 46] (by rfl) rfl (by exact new1 w2 46) (by simp [Value.oneCell']) (by omega) (by unfold maxLen; omega) (by omega) (by have := HM2.out.size; simp; omega) (w2.heap.size + 1) (by simp) ?_; intro g cap2 w3 hown hgrow hat hlt2; have HM3 := hid (HM2.out.next rfl 46 46 rfl hown hgrow hat hlt2); clear hown hgrow hat hlt2 HM2; obtain ⟨A2, hA2⟩ : ∃ A2, A ++ [46] = A2 := ⟨_, rfl⟩; rw [hA2] at HM3; have HA2 := hid hA2; have Hl2 : Hid (A2.length = A.length + 1) := (by unfold Hid; rw [← hA2]; simp); have HR3 := hid HM3.out.r; rw [Hl2.out] at HR3; clear hA2)
          | (at_builtin; refine wpList_append_lies _ (by rfl) _ _ _ (by rfl) w.heap.size 5 i0 _ 1 1 Tryz.underlying49 hi0 hz0 hz1 hz2 rfl (by omega) _ (A.length + 1) (bs A2) (by rfl) (by exact HR3.out.alloc _) ⟨w3.heap.size, 0, none⟩ 1 1 [.int .u8 105] (by rfl) rfl (by exact new1 w3 105) (by simp [Value.oneCell']) (by omega) (by unfold maxLen; omega) (by omega) (by have := HM3.out.size; simp; omega) (w3.heap.size + 1) (by simp) ?_; intro g cap2 w4 hown hgrow hat hlt2; have HM4 := hid (HM3.out.next Hl2.out 105 105 rfl hown hgrow hat hlt2); clear hown hgrow hat hlt2 HM3 HR3))
        exact ⟨⟨k + 1, by omega, by go_num, by rw [HA1.out, HP.out]; simp only [Bool.false_eq_true, if_false, if_true, HA2.out]; exact HM4.out⟩, by simp [intOf]; omega⟩
      · go_wp2_with (at_builtin; refine wpList_append_lies _ (by rfl) _ _ _ (by rfl) w.heap.size 5 i0 _ 1 1 Tryz.underlying49 hi0 hz0 hz1 hz2 rfl (by omega) _ A.length (bs A) (by rfl) (by exact HM2.out.r.alloc _) ⟨w2.heap.size, 0, none⟩ 1 1 [.int .u8 98] (by rfl) rfl (by exact new1 w2 98) (by simp [Value.oneCell']) (by omega) (by unfold maxLen; omega) (by omega) (by have := HM2.out.size; simp; omega) (w2.heap.size + 1) (by simp) ?_; intro g cap2 w3 hown hgrow hat hlt2)
        have HM3 := hid (HM2.out.next rfl 98 98 rfl hown hgrow hat hlt2)
        clear hown hgrow hat hlt2 HM2
        exact ⟨⟨k + 1, by omega, by go_num, by rw [HA1.out, HP.out]; simpa using HM3.out⟩, by simp [intOf]; omega⟩
      · go_wp2_with (first
          | (at_builtin; refine wpList_append_lies _ (by rfl) _ _ _ (by rfl) w.heap.size 5 i0 _ 1 1 Tryz.underlying49 hi0 hz0 hz1 hz2 rfl (by omega) _ A.length (bs A) (by rfl) (by exact HM2.out.r.alloc _) ⟨w2.heap.size, 0, none⟩ 1 1 [.int .u8 98] (by rfl) rfl (by exact new1 w2 98) (by simp [Value.oneCell']) (by omega) (by unfold maxLen; omega) (by omega) (by have := HM2.out.size; simp; omega) (w2.heap.size + 1) (by simp) ?_; intro g cap2 w3 hown hgrow hat hlt2; have HM3 := hid (HM2.out.next rfl 98 98 rfl hown hgrow hat hlt2); clear hown hgrow hat hlt2 HM2; obtain ⟨A2, hA2⟩ : ∃ A2, A ++ [98] = A2 := ⟨_, rfl⟩; rw [hA2] at HM3; have HA2 := hid hA2; have Hl2 : Hid (A2.length = A.length + 1) := (by unfold Hid; rw [← hA2]; simp); have HR3 := hid HM3.out.r; rw [Hl2.out] at HR3; clear hA2)
          | (at_builtin; refine wpList_append_lies _ (by rfl) _ _ _ (by rfl) w.heap.size 5 i0 _ 1 1 Tryz.underlying49 hi0 hz0 hz1 hz2 rfl (by omega) _ (A.length + 1) (bs A2) (by rfl) (by exact HR3.out.alloc _) ⟨w3.heap.size, 0, none⟩ 1 1 [.int .u8 105] (by rfl) rfl (by exact new1 w3 105) (by simp [Value.oneCell']) (by omega) (by unfold maxLen; omega) (by omega) (by have := HM3.out.size; simp; omega) (w3.heap.size + 1) (by simp) ?_; intro g cap2 w4 hown hgrow hat hlt2; have HM4 := hid (HM3.out.next Hl2.out 105 105 rfl hown hgrow hat hlt2); clear hown hgrow hat hlt2 HM3 HR3))
        exact ⟨⟨k + 1, by omega, by go_num, by rw [HA1.out, HP.out]; simp only [if_true, HA2.out]; exact HM4.out⟩, by simp [intOf]; omega⟩
    · obtain rfl : k = n := by omega
      have hle := (pic_len k mp nd k).1
      obtain ⟨g, cap2, rfl, _, _⟩ := HM.out.r.form (by omega)
      have hcv := conv_owned _ HM.out.r
      generalize hS : strB (pic k mp nd k) = S at *
      have HSS := hid hS
      generalize (pic k mp nd k).length = len at *
      have hnl : ¬ (k : Int) < (k : Int) := by omega
      have HF := hid (show OwnL G wr l p bl bt D L ∧ Kp G w wr from ⟨HM.out.o.less (fun _ hk => .inl hk), HM.out.kp⟩)
      clear HM hS
      go_wp2
      go_ret
      exact ⟨by rw [HSS.out]; rfl, HF.out⟩

end Go.Proofs.YtehoiahgkbnjdaaGreat.Al
/- What an argument '[]Op' is: its cells, read off the row's own reading. -/
namespace Go.Proofs.YtehoiahgkbnjdaaGreat.Al
open Go.ChangeShapes Go.WideShapes Go.ChangeAt Go.RowKit Go.Deep Dk Wl

structure OpR where
  kind : Int
  n : Int

structure OpAt (w : World) (lb o : Nat) (x : OpR) : Prop where
  lt : lb < w.heap.size
  kind : w.cell? ⟨lb, o, none⟩ = some (.int .i64 x.kind)
  n : w.cell? ⟨lb, o + 1, none⟩ = some (.int .i64 x.n)
  kind0 : -9223372036854775808 ≤ x.kind ∧ x.kind ≤ 9223372036854775807
  n0 : -9223372036854775808 ≤ x.n ∧ x.n ≤ 9223372036854775807

/-- The blocks of an argument are some that are kept. -/
def ArgOps (G : Nat → Prop) (w : World) (ad : Option Addr) (len : Nat) : Prop := ∀ k, k < len → ∃ lb lo x, ad = some ⟨lb, lo, none⟩ ∧ OpAt w lb (lo + k * 2) x ∧ G lb
theorem OpAt.kp {G : Nat → Prop} {w w' : World} {lb o : Nat} {x : OpR} (h : OpAt w lb o x) (k : Kp G w w') (hg : G lb) : OpAt w' lb o x := by
  have e : ∀ j, w'.cell? ⟨lb, j, none⟩ = w.cell? ⟨lb, j, none⟩ := fun j => by
    have := k.block lb h.lt (fun hn => hn hg)
    simp only [World.cell?, this]
  exact ⟨Nat.lt_of_lt_of_le h.lt k.size, by rw [e]; exact h.kind, by rw [e]; exact h.n, h.kind0, h.n0⟩
theorem ArgOps.kp {G : Nat → Prop} {w w' : World} {ad : Option Addr} {len : Nat} (h : ArgOps G w ad len) (k : Kp G w w') : ArgOps G w' ad len := fun j hj => by
  obtain ⟨lb, lo, x, e, o, g⟩ := h j hj
  exact ⟨lb, lo, x, e, o.kp k g, g⟩

theorem cells36 : Tryz.prog.cellsOf 36 = 2 := by kernel_rfl
theorem cells3 : Tryz.prog.cellsOf 3 = 1 := by kernel_rfl

set_option maxRecDepth 100000 in
theorem open_ops {H : Type} {enc : TypeId × Value → H} {W : World} {ad : Option Addr} {len cap : Nat} {d : DataW H} {ps : List MemPlace}
    (h : DataW.Trod enc Tryz.prog W 0 (fun _ => true) true 22 (.slice ad len cap) d ps) : ArgOps (fun k => k < W.heap.size) W ad len ∧ len ≤ 9223372036854775807 := by
  obtain ⟨fuel, hf⟩ := h
  rcases open_slice Tryz.underlying22 hf with ⟨hcs, _⟩ | ⟨a, l, c, m, n, D, Pl, hcs, hb, hl, hm, hmm, hx, hall⟩
  · simp [Value.cells] at hcs
    obtain ⟨rfl, rfl, rfl⟩ := hcs
    exact ⟨fun k hk => by omega, by omega⟩
  · simp [Value.cells] at hcs
    obtain ⟨rfl, rfl, rfl⟩ := hcs
    refine ⟨fun k hk => ?_, by unfold maxLen at hm; omega⟩
    obtain ⟨cs, h1, h2⟩ := hall k (by simp at hmm; omega)
    rw [cells36] at h1
    obtain ⟨_, hlen, hc⟩ := World.cells?_some h1
    obtain ⟨xs, n', _, _, _, hxl, hf⟩ := DataW.trod_struct Tryz.underlying36 h2
    match cs, hlen with
    | [u0, u1], _ =>
      have f0 := hf 0 _ rfl
      have f1 := hf 1 _ rfl
      match xs, hxl with
      | [y0, y1], _ =>
        simp [cells3] at f0 f1
        obtain ⟨x0, e0, _, b0⟩ := DataW.trod_int Tryz.underlying3 f0
        obtain ⟨x1, e1, _, b1⟩ := DataW.trod_int Tryz.underlying3 f1
        simp only [List.cons.injEq, and_true] at e0 e1
        subst e0 e1
        obtain ⟨lb, lo, spot⟩ := a
        have hspot : spot = none := by
          obtain ⟨cs0, g1, _⟩ := hall 0 (by simp at hmm; omega)
          rw [cells36] at g1
          obtain ⟨_, hlen0, hc0⟩ := World.cells?_some g1
          have hg := hc0 0 (by omega)
          rw [List.getElem?_eq_getElem (show 0 < cs0.length by omega)] at hg
          have := World.cell?_spot hg
          simpa [Addr.add] using this
        subst hspot
        simp only [Addr.add_mid] at hc
        have hlt : lb < W.heap.size := World.block_lt_of_cell? W ⟨lb, lo + k * 2 + 0, none⟩ (hc 0 (by omega))
        exact ⟨lb, lo, ⟨x0, x1⟩, rfl, ⟨hlt, hc 0 (by omega), hc 1 (by omega), bounds_i64 b0, bounds_i64 b1⟩, hlt⟩

end Go.Proofs.YtehoiahgkbnjdaaGreat.Al
