/- The law's own: size, picture; a row that one appends to, beside a log in hand. -/
import Derived.Test.YtehoiahgkbnjdaaGreatHas
import Derived.Test.YtehoiahgkbnjdaaGreatShw
import Derived.Laws.BitsAllLaws
namespace Go.Proofs.YtehoiahgkbnjdaaGreat.Al
open Go.RowKit Go.Shelf Dk Wl

def sizeN (a : Int) : Nat := 64 + (if a < 0 then -(a + 1) else a).toNat % 140
theorem size_b (a : Int) : 64 ≤ sizeN a ∧ sizeN a ≤ 203 := by unfold sizeN; omega

set_option maxRecDepth 100000 in
set_option maxHeartbeats 400000 in
theorem size_any (w : World) (a : Int) (h0 : -9223372036854775808 ≤ a) (h1 : a ≤ 9223372036854775807) :
    Calls Tryz.prog 7 #[.int .i64 a] w fun x w' => x = .returned (.int .i64 ((sizeN a : Nat) : Int)) ∧ w' = w := by
  by_cases ha : a < 0
  · obtain ⟨k, hk⟩ := Int.eq_ofNat_of_zero_le (show 0 ≤ -(a + 1) by omega)
    obtain rfl : a = -(k : Int) - 1 := by omega
    have e1 : IntKind.i64.wrap (-(k : Int) - 1 + 1) = -(k : Int) := by simp [IntKind.wrap, IntKind.bits, IntKind.signed]; omega
    have e2 : IntKind.i64.wrap (- -(k : Int)) = (k : Int) := by simp [IntKind.wrap, IntKind.bits, IntKind.signed]; omega
    have HE : Hid (((sizeN (-(k : Int) - 1) : Nat) : Int) = 64 + (k : Int) % 140) := by
      unfold Hid sizeN
      rw [if_pos ha, hk]
      omega
    clear hk
    go_enter Tryz.func7, Tryz.ntmps7
    go_wp2
    go_ret
    exact ⟨by rw [HE.out]; rfl, rfl⟩
  · obtain ⟨k, rfl⟩ := Int.eq_ofNat_of_zero_le (show 0 ≤ a by omega)
    have HE : Hid (((sizeN (k : Int) : Nat) : Int) = 64 + (k : Int) % 140) := by
      unfold Hid sizeN
      rw [if_neg ha]
      omega
    go_enter Tryz.func7, Tryz.ntmps7
    go_wp2
    go_ret
    exact ⟨by rw [HE.out]; rfl, rfl⟩

theorem ownL_grew {G : Nat → Prop} {w w' : World} {l p bl bt : Nat} {D : Dsk} {L : Lg} {ob : Option Nat} {g : Nat} (h : OwnL (fun k => G k ∨ ob = some k) w l p bl bt D L) (hg : w.grownBy w' ob) (hat : ob = some g ∨ g = w.heap.size) (hlt : g < w'.heap.size) : OwnL (fun k => G k ∨ some g = some k) w' l p bl bt D L := by
  have same : ∀ k, k < w.heap.size → ob ≠ some k → w'.heap[k]? = w.heap[k]? := fun k hk hn => hg.block k hk (fun e => hn e.symm)
  have nl : ∀ k, ob = some k → k ≠ l ∧ k ≠ bl ∧ k ≠ bt := fun k hk => h.g k (.inr hk)
  refine ⟨h.r.of_same (same l h.r.hl.lt (fun e => (nl l e).1 rfl)) (same bl h.r.ml.lt (fun e => (nl bl e).2.1 rfl)) (same bt h.r.mt.lt (fun e => (nl bt e).2.2 rfl)), ?_, ?_, h.n⟩
  · obtain ⟨a1, a2, lv, r, f⟩ := h.d
    refine ⟨a1, a2, lv, r.of_same (fun k hk => same k (r.foot_lt k hk) (fun e => (f k (.inl (.inr e))).2 hk)), fun k hk => ?_⟩
    rcases hk with (hk | hk) | hk
    · exact ⟨Nat.lt_of_lt_of_le (f k (.inl (.inl hk))).1 hg.size, (f k (.inl (.inl hk))).2⟩
    · obtain rfl : g = k := by simpa using hk
      refine ⟨hlt, fun hf => ?_⟩
      rcases hat with e | e
      · exact (f g (.inl (.inr e))).2 hf
      · have := r.foot_lt _ hf; omega
    · exact ⟨Nat.lt_of_lt_of_le (f k (.inr hk)).1 hg.size, (f k (.inr hk)).2⟩
  · intro k hk
    rcases hk with hk | hk
    · exact h.g k (.inl hk)
    · obtain rfl : g = k := by simpa using hk
      rcases hat with e | e
      · exact nl g e
      · have := h.r.hl.lt; have := h.r.ml.lt; have := h.r.mt.lt; omega
theorem kp_grew {G : Nat → Prop} {w w1 w2 : World} {ob : Option Nat} (h : Kp G w w1) (hg : w1.grownBy w2 ob) (hr : ∀ k, ob = some k → w.heap.size ≤ k) : Kp G w w2 := h.grown hg (fun k e => .inr (hr k e))

theorem conv_owned {w : World} {B g cap n : Nat} (l : Sec) (h : w.ownsRow B 5 1 (.slice (some ⟨g, 0, none⟩) n cap) n (bs l)) :
    (convert 49 9 (.slice (some ⟨g, 0, none⟩) n cap)).run Tryz.prog w = .ok (.string (strB l)) w := by
  have hl : l.length = n := by have := h.1; rw [bs_length] at this; omega
  subst hl
  refine run_convert_bytes_back (P := Tryz.prog) w 49 9 5 ⟨g, 0, none⟩ cap l Tryz.underlying49 Tryz.underlying5 Tryz.underlying9 (fun j hj => ?_)
  exact h.cells rfl j _ (by simp [bs, bv, hj])

def picC (n : Nat) (mp nd : Sec) (k : Nat) : Sec := (if hasB n mp (k : Int) then 98 else 46) :: (if hasI n nd (k : Int) then [105] else [])
def pic (n : Nat) (mp nd : Sec) (k : Nat) : Sec := (List.range k).flatMap (picC n mp nd)
theorem pic_succ (n : Nat) (mp nd : Sec) (k : Nat) : pic n mp nd (k + 1) = pic n mp nd k ++ picC n mp nd k := by simp [pic, List.range_succ]
theorem pic_len (n : Nat) (mp nd : Sec) : ∀ k, k ≤ (pic n mp nd k).length ∧ (pic n mp nd k).length ≤ 2 * k
  | 0 => ⟨Nat.le_refl _, Nat.le_refl _⟩
  | k + 1 => by
    have := pic_len n mp nd k
    have h : 1 ≤ (picC n mp nd k).length ∧ (picC n mp nd k).length ≤ 2 := by unfold picC; split <;> split <;> simp
    rw [pic_succ, List.length_append]
    omega

/-- A row of its own, in mid-way. -/
structure PicMid (G : Nat → Prop) (w wr : World) (l p bl bt : Nat) (D : Dsk) (L : Lg) (av : Value) (A : Sec) : Prop where
  r : wr.ownsRow w.heap.size 5 1 av A.length (bs A)
  o : OwnL (fun k => G k ∨ av.ownBlock = some k) wr l p bl bt D L
  kp : Kp G w wr
section
variable {G : Nat → Prop} {w wr w1 w2 : World} {l p bl bt : Nat} {D : Dsk} {L : Lg} {av : Value} {A : Sec}
theorem PicMid.size (h : PicMid G w wr l p bl bt D L av A) : w.heap.size ≤ wr.heap.size := h.kp.size
theorem PicMid.past (h : PicMid G w wr l p bl bt D L av A) (o1 : OwnL (fun k => G k ∨ av.ownBlock = some k) w1 l p bl bt D L) (k1 : Kp (fun k => G k ∨ av.ownBlock = some k) wr w1) : PicMid G w w1 l p bl bt D L av A :=
  ⟨owns_of_eq h.r (fun b hb => k1.block b (h.r.lt b hb).2 (fun hn => hn (.inr hb))), o1, Kp.trans h.kp (Kp.less k1 (fun _ hk => .inl hk))⟩
theorem new1 (W : World) (c : Int) : ∀ j u, [Value.int .u8 c][j]? = some u → (W.alloc (.cells #[.int .u8 c] 5)).cell? ((⟨W.heap.size, 0, none⟩ : Addr).add j) = some u :=
  World.news_of_block (cs := #[.int .u8 c]) (heap_alloc_new W _)
theorem PicMid.next (h : PicMid G w wr l p bl bt D L av A) {n : Nat} (hn : A.length = n) (x : UInt8) (c : Int) (hc : c = (x.toNat : Int)) {g cap2 : Nat} {ob : Obj}
    (hown : w2.ownsRow w.heap.size 5 1 (.slice (some ⟨g, 0, none⟩) (n + 1) cap2) (n + 1) (bs A ++ [.int .u8 c])) (hgrow : (wr.alloc ob).grownBy w2 av.ownBlock) (hat : av.ownBlock = some g ∨ g = wr.heap.size + 1) (hlt : g < w2.heap.size) :
    PicMid G w w2 l p bl bt D L (.slice (some ⟨g, 0, none⟩) (n + 1) cap2) (A ++ [x]) := by
  subst hc
  subst hn
  refine ⟨?_, ?_, ?_⟩
  · have e : bs (A ++ [x]) = bs A ++ [.int .u8 (x.toNat : Int)] := by simp [bs, bv]
    rw [e, List.length_append]
    exact hown
  · exact ownL_grew (h.o.alloc ob) hgrow (hat.imp id (fun e => by rw [e]; simp)) hlt
  · exact kp_grew (Kp.trans h.kp ((Fr.refl _ wr).alloc ob)) hgrow (fun k hk => (h.r.lt k hk).1)
end

set_option maxRecDepth 100000 in
set_option maxHeartbeats 4000000 in
theorem picture_any {G : Nat → Prop} {w : World} {l p bl bt sp n m : Nat} {T : Nat → Sec} {D : Dsk} {L : Lg} (h : OwnL G w l p bl bt D L) (hs : Spc G w sp l (lay n)) (a : AI n m T D L) (h1 : 64 ≤ n) (h2 : n ≤ 1024) :
    Calls Tryz.prog 24 #[pv sp, .int .i64 (n : Int)] w fun e w' => e = .returned (.string (strB (pic n (over L.st T (lay n).mp) (over L.st T (lay n).nd) n))) ∧ OwnL G w' l p bl bt D L ∧ Kp G w w' := by
  obtain ⟨i0, hi0, hz0, hz1, hz2⟩ := info_parts Dk.info5
  have HS := hid hs
  have HHas := hid (fun (G' : Nat → Prop) W (o : OwnL G' W l p bl bt D L) (s : Spc G' W sp l (lay n)) (k : Int) => Has_ai o s a h1 h2 k)
  have HHin := hid (fun (G' : Nat → Prop) W (o : OwnL G' W l p bl bt D L) (s : Spc G' W sp l (lay n)) (k : Int) => HasInode_ai o s a h1 h2 k)
  have HM0 : Hid (PicMid G w w l p bl bt D L (.slice none 0 0) []) := ⟨World.ownsRow_nil w w.heap.size 5 1, h.less (fun k hk => hk.elim id (fun e => by cases e)), Fr.refl _ _⟩
  clear h hs a
  generalize over L.st T (lay n).mp = mp at *
  generalize over L.st T (lay n).nd = nd at *
  go_enter Tryz.func24, Tryz.ntmps24
  go_wp2_with fail
  go_loopw [5, 6] (fun av i wr => ∃ k : Nat, k ≤ n ∧ i = .int .i64 (k : Int) ∧ PicMid G w wr l p bl bt D L av (pic n mp nd k)) (fun _ i _ => n - (intOf i).toNat)
  case atStart => exact ⟨0, Nat.zero_le _, rfl, HM0.out⟩
  case round =>
    obtain ⟨k, hkn, rfl, hM⟩ := hrel
    have HM := hid hM
    clear hM HM0
    by_cases hlt : k < n
    · have hk1 : (k : Int) < (n : Int) := by omega
      have HC1 := hid (HHas.out _ _ HM.out.o ⟨(HS.out.kp HM.out.kp).b, .inl HS.out.g⟩ (k : Int))
      have HN2 := hid (fun (G' : Nat → Prop) W (o : OwnL G' W l p bl bt D L) s => HHin.out G' W o s (k : Int))
      have HP : Hid (pic n mp nd (k + 1) = (pic n mp nd k ++ [if hasB n mp (k : Int) then 98 else 46]) ++ (if hasI n nd (k : Int) then [105] else [])) := by
        unfold Hid; rw [pic_succ]; simp [picC]
      have hle := (pic_len n mp nd k).2
      generalize hA1 : pic n mp nd (k + 1) = A1 at *
      have HA1 := hid hA1
      generalize pic n mp nd k = A at *
      generalize hasB n mp (k : Int) = u at *
      generalize hasI n nd (k : Int) = v at *
      clear hA1
      cases u <;> cases v
      all_goals
        go_wp2_with fail
        refine HC1.out.mono ?_
        rintro e w1 ⟨rfl, o1, k1⟩
        have HM1 := hid (HM.out.past o1 k1)
        have HC2 := hid (HN2.out _ _ HM1.out.o ⟨(HS.out.kp HM1.out.kp).b, .inl HS.out.g⟩)
        clear o1 k1 HC1
        go_wp2_with fail
        refine HC2.out.mono ?_
        rintro e w2 ⟨rfl, o2, k2⟩
        have HM2 := hid (HM1.out.past o2 k2)
        have hsz := hid HM2.out.size
        clear o2 k2 HC2 HM1
      · go_wp2_with (at_builtin; refine wpList_append_lies _ (by rfl) _ _ _ (by rfl) w.heap.size 5 i0 _ 1 1 Tryz.underlying49 hi0 hz0 hz1 hz2 rfl (by omega) _ A.length (bs A) (by rfl) (by exact HM2.out.r.alloc _) ⟨w2.heap.size, 0, none⟩ 1 1 [.int .u8 46] (by rfl) rfl (by exact new1 w2 46) (by simp [Value.oneCell']) (by omega) (by unfold maxLen; omega) (by omega) (by have := HM2.out.size; simp; omega) (w2.heap.size + 1) (by simp) ?_; intro g cap2 w3 hown hgrow hat hlt2)
        have HM3 := hid (HM2.out.next rfl 46 46 rfl hown hgrow hat hlt2)
        clear hown hgrow hat hlt2 HM2
        exact ⟨⟨k + 1, by omega, by go_num, by rw [HA1.out, HP.out]; simpa using HM3.out⟩, by simp [intOf]; omega⟩
      · go_wp2_with (first
          | (at_builtin; refine wpList_append_lies _ (by rfl) _ _ _ (by rfl) w.heap.size 5 i0 _ 1 1 Tryz.underlying49 hi0 hz0 hz1 hz2 rfl (by omega) _ A.length (bs A) (by rfl) (by exact HM2.out.r.alloc _) ⟨w2.heap.size, 0, none⟩ 1 1 [.int .u8 46] (by rfl) rfl (by exact new1 w2 46) (by simp [Value.oneCell']) (by omega) (by unfold maxLen; omega) (by omega) (by have := HM2.out.size; simp; omega) (w2.heap.size + 1) (by simp) ?_; intro g cap2 w3 hown hgrow hat hlt2; have HM3 := hid (HM2.out.next rfl 46 46 rfl hown hgrow hat hlt2); clear hown hgrow hat hlt2 HM2; obtain ⟨A2, hA2⟩ : ∃ A2, A ++ [46] = A2 := ⟨_, rfl⟩; rw [hA2] at HM3; have HA2 := hid hA2; have Hl2 : Hid (A2.length = A.length + 1) := (by unfold Hid; rw [← hA2]; simp); have HR3 := hid HM3.out.r; rw [Hl2.out] at HR3; clear hA2)
          | (at_builtin; refine wpList_append_lies _ (by rfl) _ _ _ (by rfl) w.heap.size 5 i0 _ 1 1 Tryz.underlying49 hi0 hz0 hz1 hz2 rfl (by omega) _ (A.length + 1) (bs A2) (by rfl) (by exact HR3.out.alloc _) ⟨w3.heap.size, 0, none⟩ 1 1 [.int .u8 105] (by rfl) rfl (by exact new1 w3 105) (by simp [Value.oneCell']) (by omega) (by unfold maxLen; omega) (by omega) (by have := HM3.out.size; simp; omega) (w3.heap.size + 1) (by simp) ?_; intro g cap2 w4 hown hgrow hat hlt2; have HM4 := hid (HM3.out.next Hl2.out 105 105 rfl hown hgrow hat hlt2); clear hown hgrow hat hlt2 HM3 HR3))
        exact ⟨⟨k + 1, by omega, by go_num, by rw [HA1.out, HP.out]; simp only [Bool.false_eq_true, if_false, if_true, HA2.out]; exact HM4.out⟩, by simp [intOf]; omega⟩
      · go_wp2_with (at_builtin; refine wpList_append_lies _ (by rfl) _ _ _ (by rfl) w.heap.size 5 i0 _ 1 1 Tryz.underlying49 hi0 hz0 hz1 hz2 rfl (by omega) _ A.length (bs A) (by rfl) (by exact HM2.out.r.alloc _) ⟨w2.heap.size, 0, none⟩ 1 1 [.int .u8 98] (by rfl) rfl (by exact new1 w2 98) (by simp [Value.oneCell']) (by omega) (by unfold maxLen; omega) (by omega) (by have := HM2.out.size; simp; omega) (w2.heap.size + 1) (by simp) ?_; intro g cap2 w3 hown hgrow hat hlt2)
        have HM3 := hid (HM2.out.next rfl 98 98 rfl hown hgrow hat hlt2)
        clear hown hgrow hat hlt2 HM2
        exact ⟨⟨k + 1, by omega, by go_num, by rw [HA1.out, HP.out]; simpa using HM3.out⟩, by simp [intOf]; omega⟩
      · go_wp2_with (first
          | (at_builtin; refine wpList_append_lies _ (by rfl) _ _ _ (by rfl) w.heap.size 5 i0 _ 1 1 Tryz.underlying49 hi0 hz0 hz1 hz2 rfl (by omega) _ A.length (bs A) (by rfl) (by exact HM2.out.r.alloc _) ⟨w2.heap.size, 0, none⟩ 1 1 [.int .u8 98] (by rfl) rfl (by exact new1 w2 98) (by simp [Value.oneCell']) (by omega) (by unfold maxLen; omega) (by omega) (by have := HM2.out.size; simp; omega) (w2.heap.size + 1) (by simp) ?_; intro g cap2 w3 hown hgrow hat hlt2; have HM3 := hid (HM2.out.next rfl 98 98 rfl hown hgrow hat hlt2); clear hown hgrow hat hlt2 HM2; obtain ⟨A2, hA2⟩ : ∃ A2, A ++ [98] = A2 := ⟨_, rfl⟩; rw [hA2] at HM3; have HA2 := hid hA2; have Hl2 : Hid (A2.length = A.length + 1) := (by unfold Hid; rw [← hA2]; simp); have HR3 := hid HM3.out.r; rw [Hl2.out] at HR3; clear hA2)
          | (at_builtin; refine wpList_append_lies _ (by rfl) _ _ _ (by rfl) w.heap.size 5 i0 _ 1 1 Tryz.underlying49 hi0 hz0 hz1 hz2 rfl (by omega) _ (A.length + 1) (bs A2) (by rfl) (by exact HR3.out.alloc _) ⟨w3.heap.size, 0, none⟩ 1 1 [.int .u8 105] (by rfl) rfl (by exact new1 w3 105) (by simp [Value.oneCell']) (by omega) (by unfold maxLen; omega) (by omega) (by have := HM3.out.size; simp; omega) (w3.heap.size + 1) (by simp) ?_; intro g cap2 w4 hown hgrow hat hlt2; have HM4 := hid (HM3.out.next Hl2.out 105 105 rfl hown hgrow hat hlt2); clear hown hgrow hat hlt2 HM3 HR3))
        exact ⟨⟨k + 1, by omega, by go_num, by rw [HA1.out, HP.out]; simp only [if_true, HA2.out]; exact HM4.out⟩, by simp [intOf]; omega⟩
    · obtain rfl : k = n := by omega
      have hle := (pic_len k mp nd k).1
      obtain ⟨g, cap2, rfl, _, _⟩ := HM.out.r.form (by omega)
      have hcv := conv_owned _ HM.out.r
      generalize hS : strB (pic k mp nd k) = S at *
      have HSS := hid hS
      generalize (pic k mp nd k).length = len at *
      have hnl : ¬ (k : Int) < (k : Int) := by omega
      have HF := hid (show OwnL G wr l p bl bt D L ∧ Kp G w wr from ⟨HM.out.o.less (fun _ hk => .inl hk), HM.out.kp⟩)
      clear HM hS
      go_wp2
      go_ret
      exact ⟨by rw [HSS.out]; rfl, HF.out⟩

end Go.Proofs.YtehoiahgkbnjdaaGreat.Al
