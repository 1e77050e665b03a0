/- The contract of add: a text into a rising row. -/
import Derived.Test.YtipppagkajcheaaDoorApS
import Derived.Test.YtipppagkajcheaaDoorBld
import Derived.Test.YtipppagkajcheaaDoorRefs
import Derived.Deep.RegionLaw
namespace Go.Proofs.YtipppagkajcheaaDoor.Tr
open Go.RowKit

/-- A row of texts, made since w. -/
structure Mid (w W : World) (T : List (List UInt8)) (v : Value) : Prop where
  fr : Fr (fun _ => False) w W
  own : W.ownsRow w.heap.size 9 1 v T.length (strs T)
theorem mid_start {w W : World} (f : Fr (fun _ => False) w W) : Mid w (W.alloc (.cells #[] 9)) [] (.slice (some ⟨W.heap.size, 0, none⟩) 0 0) :=
  ⟨f.alloc _, ⟨rfl, .inr ⟨W.heap.size, 0, #[], rfl, f.size, heap_alloc_new W _, Nat.le_refl _, by decide, rfl, rfl⟩⟩⟩
theorem Mid.alloc {w W : World} {T : List (List UInt8)} {v : Value} (h : Mid w W T v) (o : Obj) : Mid w (W.alloc o) T v := ⟨h.fr.alloc o, h.own.alloc o⟩
theorem strs_append (A B : List (List UInt8)) : strs (A ++ B) = strs A ++ strs B := by simp [strs]
theorem Mid.put {w W W' : World} {T N : List (List UInt8)} {v v' : Value} (h : Mid w W T v) (ha : ApS W W' w.heap.size v v' (T.length + N.length) (strs T ++ strs N)) : Mid w W' (T ++ N) v' :=
  ⟨h.fr.grown ha.grown (fun k hk => .inr (h.own.lt k hk).1), by rw [List.length_append, strs_append]; exact ha.own⟩
theorem Sts.new (W : World) (s : List UInt8) : Sts (W.alloc (.cells #[.string ⟨s.toArray⟩] 9)) (some ⟨W.heap.size, 0, none⟩) [s] := fun _ => ⟨_, 0, rfl, fun j u hu => by
  have := (Blk.new W 9 [.string ⟨s.toArray⟩]).cell (0 + j)
  rw [Nat.zero_add] at this ⊢
  exact this.trans hu⟩
theorem Sts.newAt (W : World) (s : List UInt8) {k : Nat} (hk : W.heap.size = k) : Sts (W.alloc (.cells #[.string ⟨s.toArray⟩] 9)) (some ⟨k, 0, none⟩) [s] := by subst hk; exact Sts.new W s
theorem mid_startAt {w W : World} (f : Fr (fun _ => False) w W) {k : Nat} (hk : W.heap.size = k) : Mid w (W.alloc (.cells #[] 9)) [] (.slice (some ⟨k, 0, none⟩) 0 0) := by subst hk; exact mid_start f
theorem Sts.block {W W' : World} {k o : Nat} {N : List (List UInt8)} (h : Sts W (some ⟨k, o, none⟩) N) (he : W'.heap[k]? = W.heap[k]?) : Sts W' (some ⟨k, o, none⟩) N := fun hne => by
  obtain ⟨bb, bo, e, hr⟩ := h hne
  cases e
  refine ⟨k, o, rfl, fun j v hv => ?_⟩
  rw [World.cell?_of_block (w := W) he]
  exact hr j v hv
theorem step_mid {ops : Array Oper} {o : Oper} {a : Act} {K : Act → World → Prop} {Q : Exit → Act → World → Prop} {E : Prop} {w : World} (hgd : o.guard = none) (d s : Operand)
    (ho : o.op = .call { callee := .builtin .append, args := #[d, s], argTypes := #[35, 35] }) (w0 : World) (m cap : Nat) (ad : Option Addr) (T N : List (List UInt8)) (v : Value)
    (hd : a.eval d = v) (hx : a.eval s = .slice ad m cap) (hm : N.length = m) (hM : Mid w0 w T v) (hs : Sts w ad N) (hsz : T.length + m ≤ 8796093022207)
    (h : ∀ v' w', Mid w0 w' (T ++ N) v' → w.grownBy w' v.ownBlock → K (a.put o.dst v') w') : if Region.wanted o (yielded ops a.tmps) = true then Oper.wp Tryd.prog o a w K Q else E := by
  subst hm
  exact step_append_srs hgd d s ho w0.heap.size T.length N.length v _ (strs T) (strs N) hd hx hM.own (srcSts hs cap) hsz hM.fr.size (fun v' w' ha => h v' w' (hM.put ha) ha.grown)

theorem addL_skip : ∀ (S : List (List UInt8)) (s : List UInt8) (i : Nat), (∀ j (hj : j < S.length), j < i → Op.bytesLess S[j] s = true) → addL S s = S.take i ++ addL (S.drop i) s
  | S, s, 0, _ => by simp
  | [], s, i + 1, _ => by simp
  | x :: r, s, i + 1, h => by
    have h0 : Op.bytesLess x s = true := h 0 (by simp) (by omega)
    rw [addL, if_pos h0, List.take_succ_cons, List.drop_succ_cons, List.cons_append, ← addL_skip r s i (fun j hj hji => h (j + 1) (by simpa using hj) (by omega))]
theorem addL_here (S : List (List UInt8)) (s : List UInt8) (i : Nat) (hi : i < S.length) (h : ∀ j (hj : j < S.length), j < i → Op.bytesLess S[j] s = true) (hn : Op.bytesLess S[i] s = false) (he : S[i] = s) : addL S s = S := by
  rw [addL_skip S s i h, List.drop_eq_getElem_cons hi, addL, if_neg (by rw [hn]; simp), if_pos he, ← List.drop_eq_getElem_cons hi, List.take_append_drop]
theorem addL_put (S : List (List UInt8)) (s : List UInt8) (i : Nat) (hi : i < S.length) (h : ∀ j (hj : j < S.length), j < i → Op.bytesLess S[j] s = true) (hn : Op.bytesLess S[i] s = false) (he : S[i] ≠ s) : addL S s = S.take i ++ [s] ++ S.drop i := by
  rw [addL_skip S s i h, List.drop_eq_getElem_cons hi, addL, if_neg (by rw [hn]; simp), if_neg he]; simp
theorem addL_last (S : List (List UInt8)) (s : List UInt8) (h : ∀ j (hj : j < S.length), j < S.length → Op.bytesLess S[j] s = true) : addL S s = S ++ [s] := by
  rw [addL_skip S s S.length h, List.drop_length, List.take_length]; rfl

def AddPost (w : World) (B : Nat) (S : List (List UInt8)) (s : List UInt8) (e : Ending) (w' : World) : Prop := ∃ v', e = .returned v' ∧ w'.ownsRow B 9 1 v' (addL S s).length (strs (addL S s)) ∧ Fr (fun _ => False) w w'

set_option maxRecDepth 100000 in
set_option maxHeartbeats 2000000 in
theorem add_any (w : World) (B : Nat) (v : Value) (S : List (List UInt8)) (s : List UInt8) (hO : w.ownsRow B 9 1 v S.length (strs S)) (hB : B ≤ w.heap.size) (hn : S.length ≤ 8796093022206) :
    Calls Tryd.prog 35 #[v, .string ⟨s.toArray⟩] w (AddPost w B S s) := by
  have hO' := hO.2
  have HO := hid hO
  have HBl := hid hB
  clear hO hB
  rcases hO' with ⟨rfl, h0⟩ | ⟨g, cap, cur, rfl, hbg, hg, hnc, hcm, hcs, htake⟩
  · obtain rfl : S = [] := List.eq_nil_of_length_eq_zero h0
    clear h0 HO
    have HF0 : Hid (Fr (fun _ => False) w w.drew) := (Fr.refl _ w).drewN 1
    have HE : Hid (∀ W v', Mid w W ([] ++ [] ++ [s] ++ []) v' → AddPost w B [] s (.returned v') W) := fun W v' hM => ⟨v', rfl, owns_base hM.own HBl.out, hM.fr⟩
    go_enter Tryd.func35, Tryd.ntmps35
    go_wp2_with fail
    go_loopw [5] (fun iv wr => iv = .int .i64 0 ∧ wr = w) (fun _ _ => 0)
    case atStart => exact ⟨rfl, rfl⟩
    case round =>
      obtain ⟨rfl, rfl⟩ := hrel
      go_wp2_with fail
      go_region_law (first
        | (refine step_mid (by rfl) _ _ (by rfl) wr 0 0 none [] [] (.slice (some ⟨_, 0, none⟩) 0 0) (by rfl) (by rfl) rfl (by first | exact mid_start HF0.out | exact (mid_start HF0.out).alloc _ | exact mid_startAt (HF0.out.alloc _) (by simp)) (fun h => absurd rfl h) (by simp) ?_; intro v1 W1 M1 g1)
        | (refine step_mid (by rfl) _ _ (by rfl) wr 1 1 _ ([] ++ []) [s] _ (by rfl) (by rfl) rfl (by first | exact M1 | exact M1.alloc _) (by first | exact Sts.new _ s | exact (Sts.newAt _ s (by simp)).block (g1.block _ (by simp) (by simp [Value.ownBlock])) | exact (Sts.newAt _ s (by simp)).block ((g1.block _ (by simp; omega) (by simp [Value.ownBlock])).trans (heap_alloc_old _ _ (by simp)))) (by simp) ?_; intro v2 W2 M2 g2)
        | (refine step_mid (by rfl) _ _ (by rfl) wr 0 0 none ([] ++ [] ++ [s]) [] _ (by rfl) (by rfl) rfl M2 (fun h => absurd rfl h) (by simp) ?_; intro v3 W3 M3 g3)
              | fail)
      all_goals
        go_wp2
        go_ret
        exact HE.out _ _ M3
  · have HO1 := hid (sts_own HO.out)
    clear hbg hg hcs htake
    go_enter Tryd.func35, Tryd.ntmps35
    go_wp2_with fail
    go_loopw [5] (fun iv wr => ∃ i : Nat, i ≤ S.length ∧ iv = .int .i64 (i : Int) ∧ (∀ j (hj : j < S.length), j < i → Op.bytesLess S[j] s = true) ∧ wr = w) (fun iv _ => S.length - (intOf iv).toNat)
    case atStart => exact ⟨0, Nat.zero_le _, rfl, fun j _ hj => absurd hj (by omega), rfl⟩
    case round =>
      obtain ⟨i, hi, rfl, hle, rfl⟩ := hrel
      have HLe := hid hle
      clear hle
      have HF0 : Hid (Fr (fun _ => False) wr wr.drew) := (Fr.refl _ wr).drewN 1
      have HE : Hid (addL S s = S.take i ++ [s] ++ S.drop i → ∀ W v', Mid wr W ([] ++ S.take i ++ [s] ++ S.drop i) v' → AddPost wr B S s (.returned v') W) := fun he W v' hM => ⟨v', rfl, by rw [he]; exact owns_base hM.own HBl.out, hM.fr⟩
      have eT : (S.take i).length = i := by rw [List.length_take]; omega
      have eD : (S.drop i).length = S.length - i := List.length_drop ..
      have hi0 : (0 : Int) ≤ (i : Int) := Int.natCast_nonneg _
      have hi2 : (i : Int) ≤ ((S.length : Nat) : Int) := by omega
      have hi3 : (i : Int) ≤ ((cap : Nat) : Int) := by omega
      have hnc' : ((S.length : Nat) : Int) ≤ ((cap : Nat) : Int) := by omega
      by_cases hlt : i < S.length
      · have hi1 : (i : Int) < ((S.length : Nat) : Int) := by omega
        obtain ⟨bb, bo, e0, c0⟩ := HO1.out.at i hlt
        cases e0
        rw [Nat.zero_add] at c0
        cases hq : Op.bytesLess S[i] s with
        | true =>
          have HLe' : Hid (∀ j (hj : j < S.length), j < i + 1 → Op.bytesLess S[j] s = true) := fun j hj hji => by
            rcases Nat.lt_or_ge j i with h | h
            · exact HLe.out j hj h
            · obtain rfl : j = i := by omega
              exact hq
          clear HE
          go_wp2
          exact ⟨⟨i + 1, by omega, by go_num, HLe'.out, trivial⟩, by simp [intOf]; omega⟩
        | false =>
          by_cases hs : S[i] = s
          · have HA := hid (addL_here S s i hlt HLe.out hq hs)
            clear HE
            generalize S[i] = x at *
            subst hs
            go_wp2
            go_ret
            exact ⟨_, rfl, by rw [HA.out]; exact HO.out, Fr.refl _ _⟩
          · have HA := hid (HE.out (addL_put S s i hlt HLe.out hq hs))
            have hs' : (S[i] == s) = false := by simpa using hs
            clear HE
            have hdk : ¬ cap = i := by omega
            generalize S[i] = x at *
            go_wp2_with fail
            go_region_law (first
              | (refine step_mid (by rfl) _ _ (by rfl) wr i cap _ [] (S.take i) (.slice (some ⟨_, 0, none⟩) 0 0) (by rfl) (by rfl) eT (by first | exact mid_start HF0.out | exact (mid_start HF0.out).alloc _ | exact mid_startAt (HF0.out.alloc _) (by simp)) ((HO1.out.take i).fr (by first | exact (HF0.out.alloc _) | exact (HF0.out.alloc _).alloc _)) (by simp; omega) ?_; intro v1 W1 M1 g1)
              | (refine step_mid (by rfl) _ _ (by rfl) wr 1 1 _ ([] ++ S.take i) [s] _ (by rfl) (by rfl) rfl (by first | exact M1 | exact M1.alloc _) (by first | exact Sts.new _ s | exact (Sts.newAt _ s (by simp)).block (g1.block _ (by simp) (by simp [Value.ownBlock])) | exact (Sts.newAt _ s (by simp)).block ((g1.block _ (by simp; omega) (by simp [Value.ownBlock])).trans (heap_alloc_old _ _ (by simp)))) (by simp; omega) ?_; intro v2 W2 M2 g2)
              | (refine step_mid (by rfl) _ _ (by rfl) wr (S.length - i) (cap - i) _ ([] ++ S.take i ++ [s]) (S.drop i) _ (by rfl) (by rfl) eD M2 (by have h := (HO1.out.drop i).fr M2.fr; rw [Nat.zero_add] at h; exact h) (by simp; omega) ?_; intro v3 W3 M3 g3)
              | fail)
            all_goals
              go_wp2
              go_ret
              exact HA.out _ _ M3
      · obtain rfl : i = S.length := by omega
        have hkn : ¬ ((S.length : Nat) : Int) < ((S.length : Nat) : Int) := by omega
        have HA := hid (HE.out (by rw [List.take_length, List.drop_length, List.append_nil]; exact addL_last S s HLe.out))
        clear HE
        by_cases hdk : cap = S.length
        · go_wp2_with fail
          go_region_law (first
              | (refine step_mid (by rfl) _ _ (by rfl) wr S.length _ _ [] (S.take S.length) (.slice (some ⟨_, 0, none⟩) 0 0) (by rfl) (by rfl) eT (by first | exact mid_start HF0.out | exact (mid_start HF0.out).alloc _ | exact mid_startAt (HF0.out.alloc _) (by simp)) ((HO1.out.take S.length).fr (by first | exact (HF0.out.alloc _) | exact (HF0.out.alloc _).alloc _)) (by simp; omega) ?_; intro v1 W1 M1 g1)
              | (refine step_mid (by rfl) _ _ (by rfl) wr 1 1 _ ([] ++ S.take S.length) [s] _ (by rfl) (by rfl) rfl (by first | exact M1 | exact M1.alloc _) (by first | exact Sts.new _ s | exact (Sts.newAt _ s (by simp)).block (g1.block _ (by simp) (by simp [Value.ownBlock])) | exact (Sts.newAt _ s (by simp)).block ((g1.block _ (by simp; omega) (by simp [Value.ownBlock])).trans (heap_alloc_old _ _ (by simp)))) (by simp; omega) ?_; intro v2 W2 M2 g2)
              | (refine step_mid (by rfl) _ _ (by rfl) wr 0 _ _ ([] ++ S.take S.length ++ [s]) (S.drop S.length) _ (by rfl) (by rfl) (by simp) M2 (fun h => absurd (List.drop_length ..) h) (by simp; omega) ?_; intro v3 W3 M3 g3)
              | fail)
          all_goals
            go_wp2
            go_ret
            exact HA.out _ _ M3
        · go_wp2_with fail
          go_region_law (first
              | (refine step_mid (by rfl) _ _ (by rfl) wr S.length _ _ [] (S.take S.length) (.slice (some ⟨_, 0, none⟩) 0 0) (by rfl) (by rfl) eT (by first | exact mid_start HF0.out | exact (mid_start HF0.out).alloc _ | exact mid_startAt (HF0.out.alloc _) (by simp)) ((HO1.out.take S.length).fr (by first | exact (HF0.out.alloc _) | exact (HF0.out.alloc _).alloc _)) (by simp; omega) ?_; intro v1 W1 M1 g1)
              | (refine step_mid (by rfl) _ _ (by rfl) wr 1 1 _ ([] ++ S.take S.length) [s] _ (by rfl) (by rfl) rfl (by first | exact M1 | exact M1.alloc _) (by first | exact Sts.new _ s | exact (Sts.newAt _ s (by simp)).block (g1.block _ (by simp) (by simp [Value.ownBlock])) | exact (Sts.newAt _ s (by simp)).block ((g1.block _ (by simp; omega) (by simp [Value.ownBlock])).trans (heap_alloc_old _ _ (by simp)))) (by simp; omega) ?_; intro v2 W2 M2 g2)
              | (refine step_mid (by rfl) _ _ (by rfl) wr 0 _ _ ([] ++ S.take S.length ++ [s]) (S.drop S.length) _ (by rfl) (by rfl) (by simp) M2 (fun h => absurd (List.drop_length ..) h) (by simp; omega) ?_; intro v3 W3 M3 g3)
              | fail)
          all_goals
            go_wp2
            go_ret
            exact HA.out _ _ M3

end Go.Proofs.YtipppagkajcheaaDoor.Tr
