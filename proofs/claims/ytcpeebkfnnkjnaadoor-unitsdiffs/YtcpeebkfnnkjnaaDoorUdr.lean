/- The contract of the document's Diff. (Written by gen/genudr.py.) -/
import Derived.Test.YtcpeebkfnnkjnaaDoorUds
namespace Go.Proofs.YtcpeebkfnnkjnaaDoor.Tr
open Go.RowKit Go.Maps

theorem mk_bools (w : World) (m : Nat) (hm : m ≤ 1000000) : (Instr.makeSlice 40 (.int .i64 (m : Int)) (.int .i64 (m : Int))).run Tryd.prog w = .ok (.slice (some ⟨w.heap.size, 0, none⟩) m m) (w.alloc (.cells (boC m (fun _ => false)).toArray 4)) := by
  obtain ⟨i, hi⟩ := Option.isSome_iff_exists.1 (by kernel_rfl : (Tryd.prog.info? 4).isSome = true)
  have hz : (Tryd.prog.info? 4).bind (·.zero) = some (.bool false) := by kernel_rfl
  have hs : (Tryd.prog.info? 4).map (·.size) = some 1 := by kernel_rfl
  have hb : (Tryd.prog.info? 4).map (·.bytes) = some 1 := by kernel_rfl
  rw [hi] at hz hs hb
  simp only [Option.bind_some, Option.map_some, Option.some.injEq] at hz hs hb
  have h := run_make (P := Tryd.prog) w 40 4 i (.bool false) Tryd.underlying40 hi hz .i64 .i64 m m (by omega) (Int.le_refl _) (by rw [hb]; omega) (by omega)
  rw [h, hs]
  simp only [Int.toNat_natCast, Nat.mul_one]
  have e : madeCells (Value.bool false).cells m = (boC m (fun _ => false)).toArray := by
    apply Array.toList_inj.1
    have e2 := toList_madeCells_one (.bool false) m
    refine Eq.trans e2 ?_
    simp only [boC]
    exact (List.eq_replicate_iff.2 ⟨by simp, fun b hb => by
      obtain ⟨_, _, h⟩ := List.mem_map.1 hb
      exact h.symm⟩).symm
  rw [e]
theorem updB_at (B : Nat → Bool) (i : Nat) (v : Bool) : updB B i v i = v := by unfold updB; rw [if_pos rfl]
theorem updB_ne (B : Nat → Bool) {i q : Nat} (h : q ≠ i) (v : Bool) : updB B i v q = B q := by unfold updB; rw [if_neg h]
/-- A word is stored. -/
theorem bo_store {W : World} {lb n i : Nat} {B : Nat → Bool} (h : Blk W lb 4 (boC n B)) (v : Bool) : Blk (W.setCell ⟨lb, i, none⟩ (.bool v)) lb 4 (boC n (updB B i v)) := by
  have := h.setCell i (.bool v)
  rwa [boC_set] at this
theorem s0_next {O F : List Ut} {B : Nat → Bool} {i : Nat} {v : Bool} (h : ∀ q, q < i → B q = s0B O F q) (hv : v = s0B O F i) : ∀ q, q < i + 1 → updB B i v q = s0B O F q := fun q hq => by
  by_cases e : q = i
  · rw [e, updB_at, hv]
  · rw [updB_ne B e, h q (by omega)]

def FixB (O F : List Ut) (B : Nat → Bool) : Prop := ∀ q, q < F.length → B q = true → ∀ y ∈ (atU F q).r, gdB O F B y = true
def okAt (O F : List Ut) (B : Nat → Bool) (q : Nat) : Prop := B q = true → ∀ y ∈ (atU F q).r, gdB O F B y = true
/-- What has become of the words in this round. -/
def Rnd (F : List Ut) (B B' : Nat → Bool) (mb : Bool) (X : Prop) : Prop := (mb = true → cntB F.length B' < cntB F.length B) ∧ (mb = false → B' = B ∧ X)
theorem rnd_drop {F : List Ut} {B B' : Nat → Bool} {mb : Bool} {X Y : Prop} {i : Nat} (h : Rnd F B B' mb X) (hi : i < F.length) (hb : B' i = true) : Rnd F B (updB B' i false) true Y := by
  refine ⟨fun _ => ?_, fun h => by cases h⟩
  have h1 := cnt_upd hi hb
  cases mb with
  | true => have := h.1 rfl; omega
  | false => rw [(h.2 rfl).1] at h1 ⊢; exact h1
theorem rnd_on {F : List Ut} {B B' : Nat → Bool} {mb : Bool} {X Y : Prop} (h : Rnd F B B' mb X) (hy : B' = B → X → Y) : Rnd F B B' mb Y :=
  ⟨h.1, fun e => ⟨(h.2 e).1, hy (h.2 e).1 (h.2 e).2⟩⟩
theorem take_all {α : Type} {l : List α} {P : α → Prop} {k : Nat} (h : k < l.length) (h1 : ∀ y ∈ l.take k, P y) (h2 : P l[k]) : ∀ y ∈ l.take (k + 1), P y := fun y hy => by
  rw [List.take_succ_eq_append_getElem h, List.mem_append] at hy
  rcases hy with hy | hy
  · exact h1 y hy
  · rw [List.mem_singleton.1 hy]; exact h2

theorem bhd_take {O : List Ut} {i k : Nat} (h : i + 1 + k = O.length) : (bhd O).take (k + 1) = (bhd O).take k ++ [(i, (atU O i).n)] := by
  have hk : k < (bhd O).length := by simp [bhd]; omega
  rw [List.take_succ_eq_append_getElem hk]
  have e : (bhd O)[k] = (i, (atU O i).n) := by
    simp only [bhd, List.getElem_map, List.getElem_reverse, List.getElem_range, List.length_range]
    rw [show O.length - 1 - k = i by omega]
    rfl
  rw [e]
theorem bhd_all (O : List Ut) : (bhd O).take O.length = bhd O := List.take_of_length_le (by simp [bhd])
theorem stp_yes {O : List Ut} {G : List Nm} {i k : Nat} (h : i + 1 + k = O.length) (hf : fi O (atU O i).n = some i) (hm : (atU O i).n ∈ G) : stp O G ((bhd O).take (k + 1)) = stp O G ((bhd O).take k) ++ [(atU O i).n] := by
  rw [bhd_take h, stp_snoc, if_pos ⟨by rw [hf]; rfl, hm⟩]
theorem stp_no {O : List Ut} {G : List Nm} {i k j : Nat} (h : i + 1 + k = O.length) (hf : fi O (atU O i).n = some j) (hm : ¬ (j = i ∧ (atU O i).n ∈ G)) : stp O G ((bhd O).take (k + 1)) = stp O G ((bhd O).take k) := by
  rw [bhd_take h, stp_snoc, if_neg, List.append_nil]
  rintro ⟨h1, h2⟩
  rw [hf] at h1
  exact hm ⟨by have h3 : (j : Int) = (i : Int) := h1
               omega, h2⟩
theorem gone_new {O F : List Ut} {x : Nm} {i : Nat} (ho : fi O x = some i) (hf : fi F x = none) : x ∈ gl O F :=
  (mem_gl x).2 (.base (by unfold knB; rw [ho]; rfl) (by unfold smB; rw [ho, hf]))
/-- What stands while the old units are gone through from behind. -/
structure Ev (w : World) (n : Nat) (B : Nat → Bool) (S : List Nm) (v : Value) (wr : World) : Prop where
  o : wr.ownsRow (w.heap.size + 1) 9 1 v S.length (strC S)
  bl : Blk wr w.heap.size 4 (boC n B)
  fr : Fr (fun _ => False) w wr
theorem Ev.one {w wr w1 w' : World} {n : Nat} {B : Nat → Bool} {S : List Nm} {v v' : Value} {x : Nm} (h : Ev w n B S v wr) (f : Fr (fun _ => False) wr w1) (ho : w'.ownsRow (w.heap.size + 1) 9 1 v' (S ++ [x]).length (strC (S ++ [x]))) (hg : w1.grownBy w' v.ownBlock) : Ev w n B (S ++ [x]) v' w' := by
  have h1 := own_fr h.o f (fun _ _ h => h)
  have hf : Fr (fun k => v.ownBlock = some k) w1 w' := (Fr.refl _ w1).grown hg (fun k hk => .inl hk)
  exact ⟨ho, hf.blk (f.blk h.bl (fun h => h)) (fun e => by have := (own_lt h1 _ e).1; omega), (h.fr.trans f (fun _ h => h.elim)).trans hf (fun k hk => .inr (by have := (own_lt h1 k hk).1; omega))⟩

set_option maxRecDepth 100000 in
set_option maxHeartbeats 16000000 in
theorem rdiff_any (w0 w : World) (e0 : Env w0 w) (O F : List Ut) (ad bd : Option Addr) (co cf : Nat) (hO : Us w0 w O ad) (hF : Us w0 w F bd) (hOl : O.length ≤ 2000) (hFl : F.length ≤ 2000) :
    Calls Tryd.prog 15 #[.slice ad O.length co, .slice bd F.length cf] w fun e w' => DfPost w O F e w' := by
  have hmk := mk_bools w F.length (by omega)
  have HO := hid hO
  have HF := hid hF
  have HE0 := hid e0
  have HFo := hid (fun (W : World) (f : Fr (fun _ => False) w W) (nm : Nm) => find_any w0 W O ad co nm (hO.env (Env.of f)) (by unfold lim; omega))
  have HFf := hid (fun (W : World) (f : Fr (fun _ => False) w W) (nm : Nm) => find_any w0 W F bd cf nm (hF.env (Env.of f)) (by unfold lim; omega))
  have HB0 := hid (Blk.new w 4 (boC F.length (fun _ => false)))
  have HF0 := hid ((Fr.refl (fun _ => False) w).alloc (.cells (boC F.length (fun _ => false)).toArray 4))
  generalize w.alloc (.cells (boC F.length (fun _ => false)).toArray 4) = W1 at *
  clear hO hF e0
  go_enter Tryd.func15, Tryd.ntmps15
  go_wp2_with fail
  clear hmk
  go_loopw [8] (fun iv wr => ∃ (i : Nat) (B : Nat → Bool), i ≤ F.length ∧ iv = .int .i64 (i : Int) ∧ Blk wr w.heap.size 4 (boC F.length B) ∧ (∀ q, q < i → B q = s0B O F q) ∧ Fr (fun _ => False) w wr) (fun iv _ => F.length - (intOf iv).toNat)
  case atStart => exact ⟨0, _, Nat.zero_le _, rfl, HB0.out, fun q h => by omega, HF0.out⟩
  case round =>
    obtain ⟨i, B, hi, rfl, hB, hs, hF⟩ := hrel
    have HB := hid hB
    have HS := hid hs
    have HFr := hid hF
    clear hB hs hF HB0 HF0
    by_cases hlt : i < F.length
    · have hi1 : (i : Int) < ((F.length : Nat) : Int) := by omega
      have hi0 : (0 : Int) ≤ (i : Int) := Int.natCast_nonneg _
      obtain ⟨fb, fo, rfl⟩ := HF.out.some hlt
      obtain ⟨y, y1, y2⟩ := HF.out.get i hlt
      have HKF : Hid (∀ W', Fr (fun _ => False) w W' → fourB W' fb (fo + i * 4) y) := fun W' f => (y1.env (Env.of f)).all
      obtain ⟨k0, _, _, _⟩ := HKF.out wr HFr.out
      have HYn : Hid (y.n = (atU F i).n) := by unfold Hid; rw [y2.n, atU_lt hlt]
      obtain ⟨j, hj⟩ := fi_of_mem hlt
      have HJy : Hid (fi F y.n = some j) := by unfold Hid; rw [y2.n]; exact hj
      have HC1 := hid (HFo.out wr HFr.out y.n)
      have HC2 := hid (HFf.out wr.drew HFr.out.drew y.n)
      rw [fiI_some HJy.out] at HC2
      have q0 := HB.out.cell i
      rw [boC_at _ hlt] at q0
      have z0 := HB.out.frozen i
      have HY2 := hid y2
      clear y1 y2 hj
      by_cases hji : j = i
      · subst hji
        have HI1 : Hid (fi F (atU F j).n = some j) := by unfold Hid; rw [← HYn.out]; exact HJy.out
        have g0 : ((j : Int) == (j : Int)) = true := by simp
        cases hfo : fi O y.n with
        | none =>
          have HV : Hid (false = s0B O F j) := by
            unfold Hid s0B
            rw [← HYn.out, smB_none hfo]
            simp
          rw [fiI_none hfo] at HC1
          have hm1 : decide ((0 : Int) ≤ -1) = false := by decide
          have hm2 : decide ((-1 : Int) ≥ 0) = false := by decide
          clear hfo
          go_wp2_with fail
          refine HC1.out.mono ?_
          rintro e wa ⟨rfl, hwa⟩
          subst hwa
          clear HC1
          go_wp2_with fail
          refine wp_region_noPanic ?_
          refine wp_region_held_drew (S := fun W' => fourB W' fb (fo + j * 4) y) (by kernel_rfl) (HKF.out _ HFr.out.drew) (fun _ => ?_)
          refine takeH (i := 0) (d := some 37) (.slice (some ⟨w.heap.size, 0, none⟩) F.length F.length) rfl (by kernel_rfl) (by kernel_rfl) (by kernel_rfl) (fun _ _ _ _ h => h) (HKF.out _ HFr.out.drew) (fun o ho => by cases ho; exact .inl ⟨by rfl, fun w hSw => by (obtain ⟨hs1, hs2, hs3, hs4⟩ := hSw; go_simp)⟩) ?_
          simp only [Act.put, List.setIfInBounds_toArray, List.set_cons_zero, List.set_cons_succ]
          refine takeH (i := 1) (d := some 38) (.int .i64 (j : Int)) rfl (by kernel_rfl) (by kernel_rfl) (by kernel_rfl) (fun _ _ _ _ h => h) (HKF.out _ HFr.out.drew) (fun o ho => by cases ho; exact .inl ⟨by rfl, fun w hSw => by (obtain ⟨hs1, hs2, hs3, hs4⟩ := hSw; go_simp)⟩) ?_
          simp only [Act.put, List.setIfInBounds_toArray, List.set_cons_zero, List.set_cons_succ]
          refine takeH (i := 2) (d := some 39) (.slice (some ⟨fb, fo, none⟩) F.length cf) rfl (by kernel_rfl) (by kernel_rfl) (by kernel_rfl) (fun _ _ _ _ h => h) (HKF.out _ HFr.out.drew) (fun o ho => by cases ho; exact .inl ⟨by rfl, fun w hSw => by (obtain ⟨hs1, hs2, hs3, hs4⟩ := hSw; go_simp)⟩) ?_
          simp only [Act.put, List.setIfInBounds_toArray, List.set_cons_zero, List.set_cons_succ]
          refine takeH (i := 3) (d := some 40) (.slice (some ⟨fb, fo, none⟩) F.length cf) rfl (by kernel_rfl) (by kernel_rfl) (by kernel_rfl) (fun _ _ _ _ h => h) (HKF.out _ HFr.out.drew) (fun o ho => by cases ho; exact .inl ⟨by rfl, fun w hSw => by (obtain ⟨hs1, hs2, hs3, hs4⟩ := hSw; go_simp)⟩) ?_
          simp only [Act.put, List.setIfInBounds_toArray, List.set_cons_zero, List.set_cons_succ]
          refine takeH (i := 4) (d := some 41) (.int .i64 (j : Int)) rfl (by kernel_rfl) (by kernel_rfl) (by kernel_rfl) (fun _ _ _ _ h => h) (HKF.out _ HFr.out.drew) (fun o ho => by cases ho; exact .inl ⟨by rfl, fun w hSw => by (obtain ⟨hs1, hs2, hs3, hs4⟩ := hSw; go_simp)⟩) ?_
          simp only [Act.put, List.setIfInBounds_toArray, List.set_cons_zero, List.set_cons_succ]
          refine takeH (i := 5) (d := some 42) (.pointer (some ⟨fb, fo + j * 4, none⟩)) rfl (by kernel_rfl) (by kernel_rfl) (by kernel_rfl) (fun _ _ _ _ h => h) (HKF.out _ HFr.out.drew) (fun o ho => by cases ho; exact .inl ⟨by rfl, fun w hSw => by (obtain ⟨hs1, hs2, hs3, hs4⟩ := hSw; go_simp)⟩) ?_
          simp only [Act.put, List.setIfInBounds_toArray, List.set_cons_zero, List.set_cons_succ]
          refine takeH (i := 6) (d := some 43) (.pointer (some ⟨fb, fo + j * 4, none⟩)) rfl (by kernel_rfl) (by kernel_rfl) (by kernel_rfl) (fun _ _ _ _ h => h) (HKF.out _ HFr.out.drew) (fun o ho => by cases ho; exact .inl ⟨by rfl, fun w hSw => by (obtain ⟨hs1, hs2, hs3, hs4⟩ := hSw; go_simp)⟩) ?_
          simp only [Act.put, List.setIfInBounds_toArray, List.set_cons_zero, List.set_cons_succ]
          refine takeH (i := 7) (d := some 44) (.string ⟨y.n.toArray⟩) rfl (by kernel_rfl) (by kernel_rfl) (by kernel_rfl) (fun _ _ _ _ h => h) (HKF.out _ HFr.out.drew) (fun o ho => by cases ho; exact .inl ⟨by rfl, fun w hSw => by (obtain ⟨hs1, hs2, hs3, hs4⟩ := hSw; go_simp)⟩) ?_
          simp only [Act.put, List.setIfInBounds_toArray, List.set_cons_zero, List.set_cons_succ]
          refine takeH (i := 9) (d := some 46) (.int .i64 (j : Int)) rfl (by kernel_rfl) (by kernel_rfl) (by kernel_rfl) (fun _ _ _ _ h => h) (HKF.out _ HFr.out.drew) (fun o ho => by cases ho; exact .inl ⟨by rfl, fun w hSw => by (obtain ⟨hs1, hs2, hs3, hs4⟩ := hSw; go_simp)⟩) ?_
          simp only [Act.put, List.setIfInBounds_toArray, List.set_cons_zero, List.set_cons_succ]
          refine oneH (i := 8) (by kernel_rfl) (fun o ho K' hK => ?_) (by decide)
          cases ho
          rw [if_pos (by rfl)]
          go_simp
          refine HC2.out.mono ?_
          rintro e wa ⟨rfl, hwa⟩
          subst hwa
          refine hK.out _ _ (HKF.out _ HFr.out.drew) ?_
          clear hK K'
          try simp only [Act.put, List.setIfInBounds_toArray, List.set_cons_zero, List.set_cons_succ]
          refine takeH (i := 10) (d := some 47) (.bool true) rfl (by kernel_rfl) (by kernel_rfl) (by kernel_rfl) (fun _ _ _ _ h => h) (HKF.out _ HFr.out.drew) (fun o ho => by cases ho; exact .inl ⟨by rfl, fun w hSw => by (obtain ⟨hs1, hs2, hs3, hs4⟩ := hSw; go_simp)⟩) ?_
          simp only [Act.put, List.setIfInBounds_toArray, List.set_cons_zero, List.set_cons_succ]
          refine takeH (i := 11) (d := some 48) (.bool true) rfl (by kernel_rfl) (by kernel_rfl) (by kernel_rfl) (fun _ _ _ _ h => h) (HKF.out _ HFr.out.drew) (fun o ho => by cases ho; exact .inl ⟨by rfl, fun w hSw => by (obtain ⟨hs1, hs2, hs3, hs4⟩ := hSw; go_simp)⟩) ?_
          simp only [Act.put, List.setIfInBounds_toArray, List.set_cons_zero, List.set_cons_succ]
          refine takeH (i := 12) (d := some 49) (.int .i64 (-1)) rfl (by kernel_rfl) (by kernel_rfl) (by kernel_rfl) (fun _ _ _ _ h => h) (HKF.out _ HFr.out.drew) (fun o ho => by cases ho; exact .inl ⟨by rfl, fun w hSw => by (obtain ⟨hs1, hs2, hs3, hs4⟩ := hSw; go_simp)⟩) ?_
          simp only [Act.put, List.setIfInBounds_toArray, List.set_cons_zero, List.set_cons_succ]
          refine takeH (i := 13) (d := some 50) (.bool false) rfl (by kernel_rfl) (by kernel_rfl) (by kernel_rfl) (fun _ _ _ _ h => h) (HKF.out _ HFr.out.drew) (fun o ho => by cases ho; exact .inl ⟨by rfl, fun w hSw => by (obtain ⟨hs1, hs2, hs3, hs4⟩ := hSw; go_simp)⟩) ?_
          simp only [Act.put, List.setIfInBounds_toArray, List.set_cons_zero, List.set_cons_succ]
          refine takeH (i := 14) (d := some 51) (.bool false) rfl (by kernel_rfl) (by kernel_rfl) (by kernel_rfl) (fun _ _ _ _ h => h) (HKF.out _ HFr.out.drew) (fun o ho => by cases ho; exact .inl ⟨by rfl, fun w hSw => by (obtain ⟨hs1, hs2, hs3, hs4⟩ := hSw; go_simp)⟩) ?_
          simp only [Act.put, List.setIfInBounds_toArray, List.set_cons_zero, List.set_cons_succ]
          refine takeH (i := 15) (d := some 52) (.bool false) rfl (by kernel_rfl) (by kernel_rfl) (by kernel_rfl) (fun _ _ _ _ h => h) (HKF.out _ HFr.out.drew) (fun o ho => by cases ho; exact .inl ⟨by rfl, fun w hSw => by (obtain ⟨hs1, hs2, hs3, hs4⟩ := hSw; go_simp)⟩) ?_
          simp only [Act.put, List.setIfInBounds_toArray, List.set_cons_zero, List.set_cons_succ]
          refine takeH (i := 16) (d := some 53) undef rfl (by kernel_rfl) (by kernel_rfl) (by kernel_rfl) (fun _ _ _ _ h => h) (HKF.out _ HFr.out.drew) (fun o ho => by cases ho; exact .inr ⟨by rfl, rfl⟩) ?_
          simp only [Act.put, List.setIfInBounds_toArray, List.set_cons_zero, List.set_cons_succ]
          refine takeH (i := 17) (d := some 54) undef rfl (by kernel_rfl) (by kernel_rfl) (by kernel_rfl) (fun _ _ _ _ h => h) (HKF.out _ HFr.out.drew) (fun o ho => by cases ho; exact .inr ⟨by rfl, rfl⟩) ?_
          simp only [Act.put, List.setIfInBounds_toArray, List.set_cons_zero, List.set_cons_succ]
          refine takeH (i := 18) (d := some 55) undef rfl (by kernel_rfl) (by kernel_rfl) (by kernel_rfl) (fun _ _ _ _ h => h) (HKF.out _ HFr.out.drew) (fun o ho => by cases ho; exact .inr ⟨by rfl, rfl⟩) ?_
          simp only [Act.put, List.setIfInBounds_toArray, List.set_cons_zero, List.set_cons_succ]
          refine takeH (i := 19) (d := some 56) undef rfl (by kernel_rfl) (by kernel_rfl) (by kernel_rfl) (fun _ _ _ _ h => h) (HKF.out _ HFr.out.drew) (fun o ho => by cases ho; exact .inr ⟨by rfl, rfl⟩) ?_
          simp only [Act.put, List.setIfInBounds_toArray, List.set_cons_zero, List.set_cons_succ]
          refine takeH (i := 20) (d := some 57) undef rfl (by kernel_rfl) (by kernel_rfl) (by kernel_rfl) (fun _ _ _ _ h => h) (HKF.out _ HFr.out.drew) (fun o ho => by cases ho; exact .inr ⟨by rfl, rfl⟩) ?_
          simp only [Act.put, List.setIfInBounds_toArray, List.set_cons_zero, List.set_cons_succ]
          refine takeH (i := 21) (d := some 58) undef rfl (by kernel_rfl) (by kernel_rfl) (by kernel_rfl) (fun _ _ _ _ h => h) (HKF.out _ HFr.out.drew) (fun o ho => by cases ho; exact .inr ⟨by rfl, rfl⟩) ?_
          simp only [Act.put, List.setIfInBounds_toArray, List.set_cons_zero, List.set_cons_succ]
          refine takeH (i := 22) (d := some 59) undef rfl (by kernel_rfl) (by kernel_rfl) (by kernel_rfl) (fun _ _ _ _ h => h) (HKF.out _ HFr.out.drew) (fun o ho => by cases ho; exact .inr ⟨by rfl, rfl⟩) ?_
          simp only [Act.put, List.setIfInBounds_toArray, List.set_cons_zero, List.set_cons_succ]
          refine takeH (i := 23) (d := some 60) undef rfl (by kernel_rfl) (by kernel_rfl) (by kernel_rfl) (fun _ _ _ _ h => h) (HKF.out _ HFr.out.drew) (fun o ho => by cases ho; exact .inr ⟨by rfl, rfl⟩) ?_
          simp only [Act.put, List.setIfInBounds_toArray, List.set_cons_zero, List.set_cons_succ]
          refine takeH (i := 24) (d := some 61) undef rfl (by kernel_rfl) (by kernel_rfl) (by kernel_rfl) (fun _ _ _ _ h => h) (HKF.out _ HFr.out.drew) (fun o ho => by cases ho; exact .inr ⟨by rfl, rfl⟩) ?_
          simp only [Act.put, List.setIfInBounds_toArray, List.set_cons_zero, List.set_cons_succ]
          refine takeH (i := 25) (d := some 62) (.bool false) rfl (by kernel_rfl) (by kernel_rfl) (by kernel_rfl) (fun _ _ _ _ h => h) (HKF.out _ HFr.out.drew) (fun o ho => by cases ho; exact .inl ⟨by rfl, fun w hSw => by (obtain ⟨hs1, hs2, hs3, hs4⟩ := hSw; go_simp)⟩) ?_
          simp only [Act.put, List.setIfInBounds_toArray, List.set_cons_zero, List.set_cons_succ]
          refine takeH (i := 26) (d := some 63) (.pointer (some ⟨w.heap.size, j, none⟩)) rfl (by kernel_rfl) (by kernel_rfl) (by kernel_rfl) (fun _ _ _ _ h => h) (HKF.out _ HFr.out.drew) (fun o ho => by cases ho; exact .inl ⟨by rfl, fun w hSw => by (obtain ⟨hs1, hs2, hs3, hs4⟩ := hSw; go_simp)⟩) ?_
          simp only [Act.put, List.setIfInBounds_toArray, List.set_cons_zero, List.set_cons_succ]
          refine oneH (i := 27) (by kernel_rfl) (fun o ho K' hK => ?_) (by decide)
          cases ho
          rw [if_pos (by rfl)]
          go_simp
          refine hK.out _ _ (HKF.out _ (HFr.out.drew.setCell (.inr (Nat.le_refl _)) _)) ?_
          clear hK K'
          try simp only [Act.put, List.setIfInBounds_toArray, List.set_cons_zero, List.set_cons_succ]
          refine wpAnyH_done (by kernel_rfl) (NoPanic.normal ?_) _
          have HB2 : Hid (Blk (wr.setCell ⟨w.heap.size, j, none⟩ (.bool false)).drew w.heap.size 4 (boC F.length (updB B j false))) := (bo_store HB.out false).drew
          have HF2 : Hid (Fr (fun _ => False) w (wr.setCell ⟨w.heap.size, j, none⟩ (.bool false)).drew) := (HFr.out.setCell (p := ⟨w.heap.size, j, none⟩) (.inr (Nat.le_refl _)) _).drew
          have HS2 := hid (s0_next HS.out HV.out)
          clear HB HS HFr k0 q0 z0
          generalize (wr.setCell ⟨w.heap.size, j, none⟩ (.bool false)).drew = W4 at *
          go_wp2_with fail
          exact ⟨⟨j + 1, _, by omega, by go_num, HB2.out, HS2.out, HF2.out⟩, by simp [intOf]; omega⟩
        | some k =>
          have hkl := fi_lt hfo
          have hk1 : (k : Int) < ((O.length : Nat) : Int) := by omega
          have hk0 : (0 : Int) ≤ (k : Int) := Int.natCast_nonneg _
          have hm1 : decide ((0 : Int) ≤ (k : Int)) = true := decide_eq_true hk0
          obtain ⟨ob, oo, rfl⟩ := HO.out.some hkl
          obtain ⟨z, z1, z2⟩ := HO.out.get k hkl
          have HKO : Hid (∀ W', Fr (fun _ => False) w W' → fourB W' ob (oo + k * 4) z) := fun W' f => (z1.env (Env.of f)).all
          have HSm := hid (same_any wr.drew O[k] F[j] z y (z2.env (HE0.out.trans (Env.of HFr.out.drew))) (HY2.out.env (HE0.out.trans (Env.of HFr.out.drew))))
          have HV : Hid (decide (O[k] = F[j]) = s0B O F j) := by
            unfold Hid s0B smB
            rw [← HYn.out, hfo, HJy.out]
            simp only [atU_lt hkl, atU_lt hlt]
            simp
          rw [fiI_some hfo] at HC1
          clear hfo z1 z2
          generalize decide (O[k] = F[j]) = vb at *
          go_wp2_with fail
          refine HC1.out.mono ?_
          rintro e wa ⟨rfl, hwa⟩
          subst hwa
          clear HC1
          go_wp2_with fail
          go_region_held3 (fun W' => fourB W' fb (fo + j * 4) y ∧ fourB W' ob (oo + k * 4) z)
            ((refine (fun f => ⟨HKF.out _ f, HKO.out _ f⟩ : Fr (fun _ => False) w _ → _) ?_; repeat (first | exact HFr.out | exact HF8.out | refine Fr.drew ?_ | refine Fr.setCell ?_ (.inr (Nat.le_refl _)) _)))
            ((first
              | (go_at_call 17; refine HC2.out.mono ?_; rintro e wa ⟨rfl, hwa⟩; subst hwa)
              | (go_at_call 18; refine HSm.out.mono ?_; rintro e w8 ⟨rfl, f8⟩; have HF8 : Hid (Fr (fun _ => False) w w8) := HFr.out.drew.trans f8 (fun _ h => h.elim); have HB8 := hid (f8.blk HB.out.drew (fun h => h)); have q8 := HB8.out.cell j; rw [boC_at _ hlt] at q8; have z8 := HB8.out.frozen j)))
          have HB2 : Hid (Blk (w8.setCell ⟨w.heap.size, j, none⟩ (.bool vb)) w.heap.size 4 (boC F.length (updB B j vb))) := bo_store HB8.out vb
          have HF2 : Hid (Fr (fun _ => False) w (w8.setCell ⟨w.heap.size, j, none⟩ (.bool vb))) := HF8.out.setCell (.inr (Nat.le_refl _)) _
          have HS2 := hid (s0_next HS.out HV.out)
          rename_i hHd
          clear hHd f8 HB HS HFr k0 q0 z0 q8 z8 HB8 HF8
          generalize w8.setCell ⟨w.heap.size, j, none⟩ (.bool vb) = W4 at *
          go_wp2_with fail
          exact ⟨⟨j + 1, _, by omega, by go_num, HB2.out, HS2.out, HF2.out⟩, by simp [intOf]; omega⟩
      · have g0 : ((j : Int) == (i : Int)) = false := by simpa using fun h => hji (by omega)
        have HV : Hid (false = s0B O F i) := by
          unfold Hid s0B
          rw [← HYn.out, HJy.out]
          simp [hji]
        clear hji
        go_wp2_with fail
        refine HC1.out.mono ?_
        rintro e wa ⟨rfl, hwa⟩
        subst hwa
        clear HC1
        go_wp2_with fail
        refine wp_region_noPanic ?_
        refine wp_region_held_drew (S := fun W' => fourB W' fb (fo + i * 4) y) (by kernel_rfl) (HKF.out _ HFr.out.drew) (fun _ => ?_)
        refine takeH (i := 0) (d := some 37) (.slice (some ⟨w.heap.size, 0, none⟩) F.length F.length) rfl (by kernel_rfl) (by kernel_rfl) (by kernel_rfl) (fun _ _ _ _ h => h) (HKF.out _ HFr.out.drew) (fun o ho => by cases ho; exact .inl ⟨by rfl, fun w hSw => by (obtain ⟨hs1, hs2, hs3, hs4⟩ := hSw; go_simp)⟩) ?_
        simp only [Act.put, List.setIfInBounds_toArray, List.set_cons_zero, List.set_cons_succ]
        refine takeH (i := 1) (d := some 38) (.int .i64 (i : Int)) rfl (by kernel_rfl) (by kernel_rfl) (by kernel_rfl) (fun _ _ _ _ h => h) (HKF.out _ HFr.out.drew) (fun o ho => by cases ho; exact .inl ⟨by rfl, fun w hSw => by (obtain ⟨hs1, hs2, hs3, hs4⟩ := hSw; go_simp)⟩) ?_
        simp only [Act.put, List.setIfInBounds_toArray, List.set_cons_zero, List.set_cons_succ]
        refine takeH (i := 2) (d := some 39) (.slice (some ⟨fb, fo, none⟩) F.length cf) rfl (by kernel_rfl) (by kernel_rfl) (by kernel_rfl) (fun _ _ _ _ h => h) (HKF.out _ HFr.out.drew) (fun o ho => by cases ho; exact .inl ⟨by rfl, fun w hSw => by (obtain ⟨hs1, hs2, hs3, hs4⟩ := hSw; go_simp)⟩) ?_
        simp only [Act.put, List.setIfInBounds_toArray, List.set_cons_zero, List.set_cons_succ]
        refine takeH (i := 3) (d := some 40) (.slice (some ⟨fb, fo, none⟩) F.length cf) rfl (by kernel_rfl) (by kernel_rfl) (by kernel_rfl) (fun _ _ _ _ h => h) (HKF.out _ HFr.out.drew) (fun o ho => by cases ho; exact .inl ⟨by rfl, fun w hSw => by (obtain ⟨hs1, hs2, hs3, hs4⟩ := hSw; go_simp)⟩) ?_
        simp only [Act.put, List.setIfInBounds_toArray, List.set_cons_zero, List.set_cons_succ]
        refine takeH (i := 4) (d := some 41) (.int .i64 (i : Int)) rfl (by kernel_rfl) (by kernel_rfl) (by kernel_rfl) (fun _ _ _ _ h => h) (HKF.out _ HFr.out.drew) (fun o ho => by cases ho; exact .inl ⟨by rfl, fun w hSw => by (obtain ⟨hs1, hs2, hs3, hs4⟩ := hSw; go_simp)⟩) ?_
        simp only [Act.put, List.setIfInBounds_toArray, List.set_cons_zero, List.set_cons_succ]
        refine takeH (i := 5) (d := some 42) (.pointer (some ⟨fb, fo + i * 4, none⟩)) rfl (by kernel_rfl) (by kernel_rfl) (by kernel_rfl) (fun _ _ _ _ h => h) (HKF.out _ HFr.out.drew) (fun o ho => by cases ho; exact .inl ⟨by rfl, fun w hSw => by (obtain ⟨hs1, hs2, hs3, hs4⟩ := hSw; go_simp)⟩) ?_
        simp only [Act.put, List.setIfInBounds_toArray, List.set_cons_zero, List.set_cons_succ]
        refine takeH (i := 6) (d := some 43) (.pointer (some ⟨fb, fo + i * 4, none⟩)) rfl (by kernel_rfl) (by kernel_rfl) (by kernel_rfl) (fun _ _ _ _ h => h) (HKF.out _ HFr.out.drew) (fun o ho => by cases ho; exact .inl ⟨by rfl, fun w hSw => by (obtain ⟨hs1, hs2, hs3, hs4⟩ := hSw; go_simp)⟩) ?_
        simp only [Act.put, List.setIfInBounds_toArray, List.set_cons_zero, List.set_cons_succ]
        refine takeH (i := 7) (d := some 44) (.string ⟨y.n.toArray⟩) rfl (by kernel_rfl) (by kernel_rfl) (by kernel_rfl) (fun _ _ _ _ h => h) (HKF.out _ HFr.out.drew) (fun o ho => by cases ho; exact .inl ⟨by rfl, fun w hSw => by (obtain ⟨hs1, hs2, hs3, hs4⟩ := hSw; go_simp)⟩) ?_
        simp only [Act.put, List.setIfInBounds_toArray, List.set_cons_zero, List.set_cons_succ]
        refine takeH (i := 9) (d := some 46) (.int .i64 (i : Int)) rfl (by kernel_rfl) (by kernel_rfl) (by kernel_rfl) (fun _ _ _ _ h => h) (HKF.out _ HFr.out.drew) (fun o ho => by cases ho; exact .inl ⟨by rfl, fun w hSw => by (obtain ⟨hs1, hs2, hs3, hs4⟩ := hSw; go_simp)⟩) ?_
        simp only [Act.put, List.setIfInBounds_toArray, List.set_cons_zero, List.set_cons_succ]
        refine oneH (i := 8) (by kernel_rfl) (fun o ho K' hK => ?_) (by decide)
        cases ho
        rw [if_pos (by rfl)]
        go_simp
        refine HC2.out.mono ?_
        rintro e wa ⟨rfl, hwa⟩
        subst hwa
        refine hK.out _ _ (HKF.out _ HFr.out.drew) ?_
        clear hK K'
        try simp only [Act.put, List.setIfInBounds_toArray, List.set_cons_zero, List.set_cons_succ]
        refine takeH (i := 10) (d := some 47) (.bool false) rfl (by kernel_rfl) (by kernel_rfl) (by kernel_rfl) (fun _ _ _ _ h => h) (HKF.out _ HFr.out.drew) (fun o ho => by cases ho; exact .inl ⟨by rfl, fun w hSw => by (obtain ⟨hs1, hs2, hs3, hs4⟩ := hSw; go_simp)⟩) ?_
        simp only [Act.put, List.setIfInBounds_toArray, List.set_cons_zero, List.set_cons_succ]
        refine takeH (i := 11) (d := some 48) (.bool false) rfl (by kernel_rfl) (by kernel_rfl) (by kernel_rfl) (fun _ _ _ _ h => h) (HKF.out _ HFr.out.drew) (fun o ho => by cases ho; exact .inl ⟨by rfl, fun w hSw => by (obtain ⟨hs1, hs2, hs3, hs4⟩ := hSw; go_simp)⟩) ?_
        simp only [Act.put, List.setIfInBounds_toArray, List.set_cons_zero, List.set_cons_succ]
        refine takeH (i := 12) (d := some 49) undef rfl (by kernel_rfl) (by kernel_rfl) (by kernel_rfl) (fun _ _ _ _ h => h) (HKF.out _ HFr.out.drew) (fun o ho => by cases ho; exact .inr ⟨by rfl, rfl⟩) ?_
        simp only [Act.put, List.setIfInBounds_toArray, List.set_cons_zero, List.set_cons_succ]
        refine takeH (i := 13) (d := some 50) undef rfl (by kernel_rfl) (by kernel_rfl) (by kernel_rfl) (fun _ _ _ _ h => h) (HKF.out _ HFr.out.drew) (fun o ho => by cases ho; exact .inr ⟨by rfl, rfl⟩) ?_
        simp only [Act.put, List.setIfInBounds_toArray, List.set_cons_zero, List.set_cons_succ]
        refine takeH (i := 14) (d := some 51) (.bool false) rfl (by kernel_rfl) (by kernel_rfl) (by kernel_rfl) (fun _ _ _ _ h => h) (HKF.out _ HFr.out.drew) (fun o ho => by cases ho; exact .inl ⟨by rfl, fun w hSw => by (obtain ⟨hs1, hs2, hs3, hs4⟩ := hSw; go_simp)⟩) ?_
        simp only [Act.put, List.setIfInBounds_toArray, List.set_cons_zero, List.set_cons_succ]
        refine takeH (i := 15) (d := some 52) (.bool false) rfl (by kernel_rfl) (by kernel_rfl) (by kernel_rfl) (fun _ _ _ _ h => h) (HKF.out _ HFr.out.drew) (fun o ho => by cases ho; exact .inl ⟨by rfl, fun w hSw => by (obtain ⟨hs1, hs2, hs3, hs4⟩ := hSw; go_simp)⟩) ?_
        simp only [Act.put, List.setIfInBounds_toArray, List.set_cons_zero, List.set_cons_succ]
        refine takeH (i := 16) (d := some 53) undef rfl (by kernel_rfl) (by kernel_rfl) (by kernel_rfl) (fun _ _ _ _ h => h) (HKF.out _ HFr.out.drew) (fun o ho => by cases ho; exact .inr ⟨by rfl, rfl⟩) ?_
        simp only [Act.put, List.setIfInBounds_toArray, List.set_cons_zero, List.set_cons_succ]
        refine takeH (i := 17) (d := some 54) undef rfl (by kernel_rfl) (by kernel_rfl) (by kernel_rfl) (fun _ _ _ _ h => h) (HKF.out _ HFr.out.drew) (fun o ho => by cases ho; exact .inr ⟨by rfl, rfl⟩) ?_
        simp only [Act.put, List.setIfInBounds_toArray, List.set_cons_zero, List.set_cons_succ]
        refine takeH (i := 18) (d := some 55) undef rfl (by kernel_rfl) (by kernel_rfl) (by kernel_rfl) (fun _ _ _ _ h => h) (HKF.out _ HFr.out.drew) (fun o ho => by cases ho; exact .inr ⟨by rfl, rfl⟩) ?_
        simp only [Act.put, List.setIfInBounds_toArray, List.set_cons_zero, List.set_cons_succ]
        refine takeH (i := 19) (d := some 56) undef rfl (by kernel_rfl) (by kernel_rfl) (by kernel_rfl) (fun _ _ _ _ h => h) (HKF.out _ HFr.out.drew) (fun o ho => by cases ho; exact .inr ⟨by rfl, rfl⟩) ?_
        simp only [Act.put, List.setIfInBounds_toArray, List.set_cons_zero, List.set_cons_succ]
        refine takeH (i := 20) (d := some 57) undef rfl (by kernel_rfl) (by kernel_rfl) (by kernel_rfl) (fun _ _ _ _ h => h) (HKF.out _ HFr.out.drew) (fun o ho => by cases ho; exact .inr ⟨by rfl, rfl⟩) ?_
        simp only [Act.put, List.setIfInBounds_toArray, List.set_cons_zero, List.set_cons_succ]
        refine takeH (i := 21) (d := some 58) undef rfl (by kernel_rfl) (by kernel_rfl) (by kernel_rfl) (fun _ _ _ _ h => h) (HKF.out _ HFr.out.drew) (fun o ho => by cases ho; exact .inr ⟨by rfl, rfl⟩) ?_
        simp only [Act.put, List.setIfInBounds_toArray, List.set_cons_zero, List.set_cons_succ]
        refine takeH (i := 22) (d := some 59) undef rfl (by kernel_rfl) (by kernel_rfl) (by kernel_rfl) (fun _ _ _ _ h => h) (HKF.out _ HFr.out.drew) (fun o ho => by cases ho; exact .inr ⟨by rfl, rfl⟩) ?_
        simp only [Act.put, List.setIfInBounds_toArray, List.set_cons_zero, List.set_cons_succ]
        refine takeH (i := 23) (d := some 60) undef rfl (by kernel_rfl) (by kernel_rfl) (by kernel_rfl) (fun _ _ _ _ h => h) (HKF.out _ HFr.out.drew) (fun o ho => by cases ho; exact .inr ⟨by rfl, rfl⟩) ?_
        simp only [Act.put, List.setIfInBounds_toArray, List.set_cons_zero, List.set_cons_succ]
        refine takeH (i := 24) (d := some 61) undef rfl (by kernel_rfl) (by kernel_rfl) (by kernel_rfl) (fun _ _ _ _ h => h) (HKF.out _ HFr.out.drew) (fun o ho => by cases ho; exact .inr ⟨by rfl, rfl⟩) ?_
        simp only [Act.put, List.setIfInBounds_toArray, List.set_cons_zero, List.set_cons_succ]
        refine takeH (i := 25) (d := some 62) (.bool false) rfl (by kernel_rfl) (by kernel_rfl) (by kernel_rfl) (fun _ _ _ _ h => h) (HKF.out _ HFr.out.drew) (fun o ho => by cases ho; exact .inl ⟨by rfl, fun w hSw => by (obtain ⟨hs1, hs2, hs3, hs4⟩ := hSw; go_simp)⟩) ?_
        simp only [Act.put, List.setIfInBounds_toArray, List.set_cons_zero, List.set_cons_succ]
        refine takeH (i := 26) (d := some 63) (.pointer (some ⟨w.heap.size, i, none⟩)) rfl (by kernel_rfl) (by kernel_rfl) (by kernel_rfl) (fun _ _ _ _ h => h) (HKF.out _ HFr.out.drew) (fun o ho => by cases ho; exact .inl ⟨by rfl, fun w hSw => by (obtain ⟨hs1, hs2, hs3, hs4⟩ := hSw; go_simp)⟩) ?_
        simp only [Act.put, List.setIfInBounds_toArray, List.set_cons_zero, List.set_cons_succ]
        refine oneH (i := 27) (by kernel_rfl) (fun o ho K' hK => ?_) (by decide)
        cases ho
        rw [if_pos (by rfl)]
        go_simp
        refine hK.out _ _ (HKF.out _ (HFr.out.drew.setCell (.inr (Nat.le_refl _)) _)) ?_
        clear hK K'
        try simp only [Act.put, List.setIfInBounds_toArray, List.set_cons_zero, List.set_cons_succ]
        refine wpAnyH_done (by kernel_rfl) (NoPanic.normal ?_) _
        have HB2 : Hid (Blk (wr.setCell ⟨w.heap.size, i, none⟩ (.bool false)).drew w.heap.size 4 (boC F.length (updB B i false))) := (bo_store HB.out false).drew
        have HF2 : Hid (Fr (fun _ => False) w (wr.setCell ⟨w.heap.size, i, none⟩ (.bool false)).drew) := (HFr.out.setCell (p := ⟨w.heap.size, i, none⟩) (.inr (Nat.le_refl _)) _).drew
        have HS2 := hid (s0_next HS.out HV.out)
        clear HB HS HFr k0 q0 z0
        generalize (wr.setCell ⟨w.heap.size, i, none⟩ (.bool false)).drew = W4 at *
        go_wp2_with fail
        exact ⟨⟨i + 1, _, by omega, by go_num, HB2.out, HS2.out, HF2.out⟩, by simp [intOf]; omega⟩
    · have hi1 : ¬ ((i : Int) < ((F.length : Nat) : Int)) := by omega
      have HJ := hid (Jv.start (O := O) (fun q hq => HS.out q (by omega)))
      clear HS
      obtain ⟨m0, hm0⟩ : ∃ m, m = cntB F.length B + 1 := ⟨_, rfl⟩
      have HM0 := hid hm0
      clear hm0
      go_wp2_with fail
      go_loopg [10] m0 (fun m bv wr => ∃ (B : Nat → Bool) (bb : Bool), bv = .bool bb ∧ Blk wr w.heap.size 4 (boC F.length B) ∧ Jv O F B ∧ Fr (fun _ => False) w wr ∧ (bb = true → m = cntB F.length B + 1) ∧ (bb = false → m = 0 ∧ FixB O F B))
      case atStart => exact ⟨B, true, rfl, HB.out, HJ.out, HFr.out, fun _ => HM0.out, fun h => by cases h⟩
      case round =>
        obtain ⟨B, bb, rfl, hB, hJ, hFr, hm1, hm2⟩ := hrel
        have HB := hid hB
        have HJ := hid hJ
        have HFr := hid hFr
        clear hB hJ hFr
        cases bb with
        | false =>
          obtain ⟨-, hfx⟩ := hm2 rfl
          have HBf : Hid (∀ q, q < F.length → B q = (decide (fi F (atU F q).n = some q) && decide ((atU F q).n ∉ gl O F))) := fun q hq => HJ.out.done hfx hq
          clear hm1 hm2 hfx HJ HM0
          go_wp2_with fail
          go_loopw [15, 18] (fun sv iv wx => (∃ i k : Nat, i + 1 + k = O.length ∧ iv = .int .i64 (i : Int) ∧ Ev w F.length B (stp O (gl O F) ((bhd O).take k)) sv wx) ∨ (iv = .int .i64 (-1) ∧ Ev w F.length B (stp O (gl O F) (bhd O)) sv wx)) (fun _ iv _ => (intOf iv + 1).toNat)
          case atStart =>
            have h0 : Ev w F.length B [] (.slice none 0 0) wr := ⟨World.ownsRow_nil _ _ _ _, HB.out, HFr.out⟩
            rcases Nat.eq_zero_or_pos O.length with hz | hz
            · refine .inr ⟨by rw [hz]; rfl, ?_⟩
              have hb : bhd O = [] := by rw [List.eq_nil_of_length_eq_zero hz]; rfl
              rw [hb]
              exact h0
            · refine .inl ⟨O.length - 1, 0, by omega, by congr 1; omega, ?_⟩
              rw [List.take_zero]
              exact h0
          case round =>
            rcases hrel with ⟨i, k, hik, rfl, hE⟩ | ⟨rfl, hE⟩
            · obtain ⟨sa, sc, hv⟩ := own_len hE.o
              subst hv
              have hlt : i < O.length := by omega
              have hi0 : (0 : Int) ≤ (i : Int) := Int.natCast_nonneg _
              have hi1 : (i : Int) < ((O.length : Nat) : Int) := by omega
              obtain ⟨ob, oo, rfl⟩ := HO.out.some hlt
              obtain ⟨y, y1, y2⟩ := HO.out.get i hlt
              obtain ⟨k0, _, _, _⟩ := (y1.env (Env.of hE.fr)).all
              have hyn : y.n = (atU O i).n := by rw [y2.n, atU_lt hlt]
              obtain ⟨j, hj0⟩ := fi_of_mem hlt
              have hj : fi O (atU O i).n = some j := by rw [atU_lt hlt]; exact hj0
              have HC1 := hid (HFf.out wr hE.fr y.n)
              have HC2 := hid (HFo.out wr hE.fr y.n)
              rw [fiI_some (by rw [hyn]; exact hj)] at HC2
              have HYes : Hid (j = i ∧ y.n ∈ gl O F → stp O (gl O F) ((bhd O).take (k + 1)) = stp O (gl O F) ((bhd O).take k) ++ [y.n]) := by
                rintro ⟨h1, h2⟩
                rw [hyn] at h2 ⊢
                exact stp_yes hik (by rw [hj, h1]) h2
              have HNo : Hid (¬ (j = i ∧ y.n ∈ gl O F) → stp O (gl O F) ((bhd O).take (k + 1)) = stp O (gl O F) ((bhd O).take k)) := fun h => stp_no hik hj (by rw [← hyn]; exact h)
              have hSl : (stp O (gl O F) ((bhd O).take k)).length ≤ 2000 := by have := stp_len O (gl O F) ((bhd O).take k); have h2 := List.length_take_le k (bhd O); omega
              have HE := hid hE
              have HIk := hid hik
              have HJ : Hid (fi O y.n = some j) := by unfold Hid; rw [hyn]; exact hj
              have HBc := hid (fun a (h : a < F.length) => (show wr.cell? ⟨w.heap.size, a, none⟩ = some (.bool (B a)) by rw [hE.bl.cell a, boC_at _ h]))
              clear hE hik hj hj0 hyn y1 y2 HB HFr
              generalize y.n = n at *
              generalize stp O (gl O F) ((bhd O).take k) = S at *
              by_cases hji : j = i
              · have g0 : ((j : Int) == (i : Int)) = true := by rw [hji]; simp
                cases hff : fi F n with
                | none =>
                  have HG : Hid (j = i ∧ n ∈ gl O F) := ⟨hji, gone_new HJ.out hff⟩
                  rw [fiI_none hff] at HC1
                  have hn2 : decide ((-1 : Int) < 0) = true := by decide
                  clear hff hji HJ HBc
                  go_wp2_with fail
                  refine HC1.out.mono ?_
                  rintro e wa ⟨rfl, hwa⟩
                  subst hwa
                  clear HC1
                  go_wp2_with fail
                  refine HC2.out.mono ?_
                  rintro e wa ⟨rfl, hwa⟩
                  subst hwa
                  clear HC2
                  have HOa := hid (own_alloc HE.out.o (.cells #[.string ⟨n.toArray⟩] 9))
                  have HSn := hid (strs_new (W := wr) (x := n))
                  have hbase2 : w.heap.size + 1 ≤ (wr.alloc (.cells #[.string ⟨n.toArray⟩] 9)).heap.size := by have := HE.out.bl.lt; simp; omega
                  go_wp2_with (at_builtin; refine Hid.out ?_)
                  refine wpList_app_S (by rfl) _ _ (by rfl) (w.heap.size + 1) _ S [n] (some ⟨wr.heap.size, 0, none⟩) 1 (by rfl) (by rfl) HOa.out HSn.out hbase2 (by simp only [List.length_singleton]; omega) ?_
                  intro v' W' ho hg hl
                  have HEv : Hid (Ev w F.length B (stp O (gl O F) ((bhd O).take (k + 1))) v' W') := by
                    unfold Hid
                    rw [HYes.out HG.out]
                    exact HE.out.one ((Fr.refl _ _).alloc _) ho hg
                  clear ho hg hl HOa HSn hbase2 HE HYes HNo HG
                  go_wp2_with fail
                  cases i with
                  | zero => exact ⟨.inr ⟨by first | rfl | go_num, by have := HEv.out; rwa [show k + 1 = O.length by have := HIk.out; omega, bhd_all] at this⟩, by simp [intOf]⟩
                  | succ i' => exact ⟨.inl ⟨i', k + 1, by have := HIk.out; omega, by go_num, HEv.out⟩, by simp [intOf]; omega⟩
                | some a =>
                  obtain ⟨hal, han⟩ := fi_at hff
                  have hba := HBf.out a hal
                  rw [han, hff] at hba
                  have ha1 : (a : Int) < ((F.length : Nat) : Int) := by omega
                  have ha0 : (0 : Int) ≤ (a : Int) := Int.natCast_nonneg _
                  have ha3 : decide ((a : Int) < 0) = false := decide_eq_false (by omega)
                  have qa := HBc.out a hal
                  rw [fiI_some hff] at HC1
                  by_cases hm : n ∈ gl O F
                  · have HG : Hid (j = i ∧ n ∈ gl O F) := ⟨hji, hm⟩
                    rw [show B a = false by rw [hba]; simp [hm]] at qa
                    clear hff hji HJ HBc hba hm han
                    go_wp2_with fail
                    refine HC1.out.mono ?_
                    rintro e wa ⟨rfl, hwa⟩
                    subst hwa
                    clear HC1
                    go_wp2_with fail
                    refine HC2.out.mono ?_
                    rintro e wa ⟨rfl, hwa⟩
                    subst hwa
                    clear HC2
                    have HOa := hid (own_alloc HE.out.o (.cells #[.string ⟨n.toArray⟩] 9))
                    have HSn := hid (strs_new (W := wr) (x := n))
                    have hbase2 : w.heap.size + 1 ≤ (wr.alloc (.cells #[.string ⟨n.toArray⟩] 9)).heap.size := by have := HE.out.bl.lt; simp; omega
                    go_wp2_with (at_builtin; refine Hid.out ?_)
                    refine wpList_app_S (by rfl) _ _ (by rfl) (w.heap.size + 1) _ S [n] (some ⟨wr.heap.size, 0, none⟩) 1 (by rfl) (by rfl) HOa.out HSn.out hbase2 (by simp only [List.length_singleton]; omega) ?_
                    intro v' W' ho hg hl
                    have HEv : Hid (Ev w F.length B (stp O (gl O F) ((bhd O).take (k + 1))) v' W') := by
                      unfold Hid
                      rw [HYes.out HG.out]
                      exact HE.out.one ((Fr.refl _ _).alloc _) ho hg
                    clear ho hg hl HOa HSn hbase2 HE HYes HNo HG
                    go_wp2_with fail
                    cases i with
                    | zero => exact ⟨.inr ⟨by first | rfl | go_num, by have := HEv.out; rwa [show k + 1 = O.length by have := HIk.out; omega, bhd_all] at this⟩, by simp [intOf]⟩
                    | succ i' => exact ⟨.inl ⟨i', k + 1, by have := HIk.out; omega, by go_num, HEv.out⟩, by simp [intOf]; omega⟩
                  · have HG : Hid (¬ (j = i ∧ n ∈ gl O F)) := fun h => hm h.2
                    rw [show B a = true by rw [hba]; simp [hm]] at qa
                    clear hff hji HJ HBc hba hm han
                    go_wp2_with fail
                    refine HC1.out.mono ?_
                    rintro e wa ⟨rfl, hwa⟩
                    subst hwa
                    clear HC1
                    go_wp2_with fail
                    refine HC2.out.mono ?_
                    rintro e wa ⟨rfl, hwa⟩
                    subst hwa
                    clear HC2
                    have HEv : Hid (Ev w F.length B (stp O (gl O F) ((bhd O).take (k + 1))) (.slice sa S.length sc) wr) := by
                      unfold Hid
                      rw [HNo.out HG.out]
                      exact HE.out
                    clear HE HYes HNo HG
                    go_wp2_with fail
                    cases i with
                    | zero => exact ⟨.inr ⟨by first | rfl | go_num, by have := HEv.out; rwa [show k + 1 = O.length by have := HIk.out; omega, bhd_all] at this⟩, by simp [intOf]⟩
                    | succ i' => exact ⟨.inl ⟨i', k + 1, by have := HIk.out; omega, by go_num, HEv.out⟩, by simp [intOf]; omega⟩
              · have g0 : ((j : Int) == (i : Int)) = false := by simpa using fun h => hji (by omega)
                have HG : Hid (¬ (j = i ∧ n ∈ gl O F)) := fun h => hji h.1
                generalize fiI F n = fn' at *
                clear hji HJ HBc
                go_wp2_with fail
                refine HC1.out.mono ?_
                rintro e wa ⟨rfl, hwa⟩
                subst hwa
                clear HC1
                go_wp2_with fail
                refine HC2.out.mono ?_
                rintro e wa ⟨rfl, hwa⟩
                subst hwa
                clear HC2
                have HEv : Hid (Ev w F.length B (stp O (gl O F) ((bhd O).take (k + 1))) (.slice sa S.length sc) wr) := by
                  unfold Hid
                  rw [HNo.out HG.out]
                  exact HE.out
                clear HE HYes HNo HG
                go_wp2_with fail
                cases i with
                | zero => exact ⟨.inr ⟨by first | rfl | go_num, by have := HEv.out; rwa [show k + 1 = O.length by have := HIk.out; omega, bhd_all] at this⟩, by simp [intOf]⟩
                | succ i' => exact ⟨.inl ⟨i', k + 1, by have := HIk.out; omega, by go_num, HEv.out⟩, by simp [intOf]; omega⟩
            · obtain ⟨W2, hW2⟩ : ∃ W2, W2 = wr := ⟨_, rfl⟩
              subst hW2
              obtain ⟨s0, sc0, hv⟩ := own_len hE.o
              subst hv
              have HEv := hid hE
              clear hE HB HFr
              generalize hst : stp O (gl O F) (bhd O) = St at *
              have HSt := hid hst
              clear hst
              go_wp2_with fail
              go_loopw [16, 17, 20] (fun v1 v2 iv wx => ∃ i : Nat, i ≤ F.length ∧ iv = .int .i64 (i : Int) ∧ KSt W2 (kp F (gl O F) i) (sa F (gl O F) i) v1 v2 wx) (fun _ _ iv _ => F.length - (intOf iv).toNat)
              case atStart => exact ⟨0, Nat.zero_le _, rfl, World.ownsRow_nil _ _ _ _, World.ownsRow_nil _ _ _ _, fun k hk => (by cases hk), Fr.refl _ _⟩
              case round =>
                obtain ⟨i, hi, rfl, hS⟩ := hrel
                obtain ⟨a1, c1, hv1⟩ := own_len hS.o1
                obtain ⟨a2, c2, hv2⟩ := own_len hS.o2
                subst hv1 hv2
                have hFw := HEv.out.fr.trans hS.fr (fun _ h => h.elim)
                have hK1 := kp_len F (gl O F) i
                have hK2 := sa_len F (gl O F) i
                by_cases hlt : i < F.length
                · have hi1 : (i : Int) < ((F.length : Nat) : Int) := by omega
                  have hi0 : (0 : Int) ≤ (i : Int) := Int.natCast_nonneg _
                  obtain ⟨fb, fo, rfl⟩ := HF.out.some hlt
                  obtain ⟨y, y1, y2⟩ := HF.out.get i hlt
                  obtain ⟨k0, _, _, _⟩ := (y1.env (Env.of hFw)).all
                  have hyn : y.n = (atU F i).n := by rw [y2.n, atU_lt hlt]
                  obtain ⟨j, hj0⟩ := fi_of_mem hlt
                  have hj : fi F (atU F i).n = some j := by rw [atU_lt hlt]; exact hj0
                  have HC2 := hid (HFf.out wr hFw y.n)
                  rw [fiI_some (by rw [hyn]; exact hj)] at HC2
                  have hB := hS.fr.blk HEv.out.bl (fun h => h)
                  have q0 := hB.cell i
                  rw [boC_at _ hlt, HBf.out i hlt, ← hyn, show fi F y.n = some j by rw [hyn]; exact hj] at q0
                  have HKS : Hid ((j = i ∧ y.n ∉ gl O F → kp F (gl O F) (i + 1) = kp F (gl O F) i ++ [y.n] ∧ sa F (gl O F) (i + 1) = sa F (gl O F) i) ∧ (j = i ∧ y.n ∈ gl O F → kp F (gl O F) (i + 1) = kp F (gl O F) i ∧ sa F (gl O F) (i + 1) = sa F (gl O F) i ++ [y.n]) ∧ (j ≠ i → kp F (gl O F) (i + 1) = kp F (gl O F) i ∧ sa F (gl O F) (i + 1) = sa F (gl O F) i)) := by
                    unfold Hid
                    rw [kp_succ, sa_succ]
                    unfold kpAt saAt
                    rw [← hyn, show fi F y.n = some j by rw [hyn]; exact hj]
                    refine ⟨?_, ?_, ?_⟩
                    · rintro ⟨h1, h⟩
                      rw [if_pos ⟨by rw [h1], h⟩, if_neg (fun h2 => h h2.2)]
                      exact ⟨rfl, by simp⟩
                    · rintro ⟨h1, h⟩
                      rw [if_neg (fun h2 => h2.2 h), if_pos ⟨by rw [h1], h⟩]
                      exact ⟨by simp, rfl⟩
                    · intro h
                      rw [if_neg (fun h2 => h (by injection h2.1)), if_neg (fun h2 => h (by injection h2.1))]
                      exact ⟨by simp, by simp⟩
                  have HS := hid hS
                  clear hS hj hj0 hyn y1 y2 hB hFw
                  generalize y.n = n at *
                  by_cases hji : j = i
                  · have hs1 : ((j : Int) != (i : Int)) = false := by rw [hji]; simp
                    by_cases hm : n ∈ gl O F
                    · have HG : Hid (j = i ∧ n ∈ gl O F) := ⟨hji, hm⟩
                      rw [show (decide (some j = some i) && decide (n ∉ gl O F)) = false by simp [hm]] at q0
                      clear hji hm
                      go_wp2_with fail
                      refine HC2.out.mono ?_
                      rintro e wa ⟨rfl, hwa⟩
                      subst hwa
                      clear HC2
                      have HOa := hid (own_alloc HS.out.o2 (.cells #[.string ⟨n.toArray⟩] 9))
                      have HSn := hid (strs_new (W := wr) (x := n))
                      have hbase2 : W2.heap.size ≤ (wr.alloc (.cells #[.string ⟨n.toArray⟩] 9)).heap.size := by have := HS.out.fr.size; simp; omega
                      go_wp2_with (at_builtin; refine Hid.out ?_)
                      refine wpList_app_S (by rfl) _ _ (by rfl) W2.heap.size _ (sa F (gl O F) i) [n] (some ⟨wr.heap.size, 0, none⟩) 1 (by rfl) (by rfl) HOa.out HSn.out hbase2 (by simp only [List.length_singleton]; omega) ?_
                      intro v' W' ho hg hl
                      have HS9 : Hid (KSt W2 (kp F (gl O F) (i + 1)) (sa F (gl O F) (i + 1)) (.slice a1 (kp F (gl O F) i).length c1) v' W') := by
                        unfold Hid
                        rw [(HKS.out.2.1 HG.out).1, (HKS.out.2.1 HG.out).2]
                        exact HS.out.two ((Fr.refl _ _).alloc _) ho hg hl
                      clear ho hg hl HOa HSn hbase2 HS HKS HG
                      go_wp2_with fail
                      exact ⟨⟨i + 1, by omega, by go_num, HS9.out⟩, by simp [intOf]; omega⟩
                    · have HG : Hid (j = i ∧ n ∉ gl O F) := ⟨hji, hm⟩
                      rw [show (decide (some j = some i) && decide (n ∉ gl O F)) = true by simp [hm, hji]] at q0
                      clear hji hm
                      go_wp2_with fail
                      refine HC2.out.mono ?_
                      rintro e wa ⟨rfl, hwa⟩
                      subst hwa
                      clear HC2
                      have HOa := hid (own_alloc HS.out.o1 (.cells #[.string ⟨n.toArray⟩] 9))
                      have HSn := hid (strs_new (W := wr) (x := n))
                      have hbase2 : W2.heap.size ≤ (wr.alloc (.cells #[.string ⟨n.toArray⟩] 9)).heap.size := by have := HS.out.fr.size; simp; omega
                      go_wp2_with (at_builtin; refine Hid.out ?_)
                      refine wpList_app_S (by rfl) _ _ (by rfl) W2.heap.size _ (kp F (gl O F) i) [n] (some ⟨wr.heap.size, 0, none⟩) 1 (by rfl) (by rfl) HOa.out HSn.out hbase2 (by simp only [List.length_singleton]; omega) ?_
                      intro v' W' ho hg hl
                      have HS9 : Hid (KSt W2 (kp F (gl O F) (i + 1)) (sa F (gl O F) (i + 1)) v' (.slice a2 (sa F (gl O F) i).length c2) W') := by
                        unfold Hid
                        rw [(HKS.out.1 HG.out).1, (HKS.out.1 HG.out).2]
                        exact HS.out.one ((Fr.refl _ _).alloc _) ho hg hl
                      clear ho hg hl HOa HSn hbase2 HS HKS HG
                      go_wp2_with fail
                      exact ⟨⟨i + 1, by omega, by go_num, HS9.out⟩, by simp [intOf]; omega⟩
                  · have hs1 : ((j : Int) != (i : Int)) = true := by simpa using fun h => hji (by omega)
                    have HS9 : Hid (KSt W2 (kp F (gl O F) (i + 1)) (sa F (gl O F) (i + 1)) (.slice a1 (kp F (gl O F) i).length c1) (.slice a2 (sa F (gl O F) i).length c2) wr) := by
                      unfold Hid
                      rw [(HKS.out.2.2 hji).1, (HKS.out.2.2 hji).2]
                      exact HS.out
                    clear hji HS HKS
                    go_wp2_with fail
                    refine HC2.out.mono ?_
                    rintro e wa ⟨rfl, hwa⟩
                    subst hwa
                    clear HC2
                    go_wp2_with fail
                    exact ⟨⟨i + 1, by omega, by go_num, HS9.out⟩, by simp [intOf]; omega⟩
                · have hi1 : ¬ ((i : Int) < ((F.length : Nat) : Int)) := by omega
                  obtain rfl : i = F.length := by omega
                  have HEnd : Hid (DfPost w O F (.returned (.tuple #[.slice s0 St.length sc0, .slice a1 (kp F (gl O F) F.length).length c1, .slice a2 (sa F (gl O F) F.length).length c2])) wr) := by
                    refine ⟨hFw, gl O F, mem_gl, s0, sc0, a1, c1, a2, c2, ?_, ?_, strs_own hS.o1, strs_own hS.o2⟩
                    · rw [HSt.out]
                    · rw [HSt.out]; exact strs_own (own_fr HEv.out.o hS.fr (fun _ _ h => h))
                  clear hS hFw
                  generalize kp F (gl O F) F.length = K at *
                  generalize sa F (gl O F) F.length = S at *
                  go_wp2_with fail
                  go_ret3
                  exact HEnd.out
        | true =>
          have HM : Hid (gk = cntB F.length B + 1) := hm1 rfl
          clear hm1 hm2
          go_wp2_with fail
          go_loopw [10, 11] (fun mv iv wr => ∃ (i : Nat) (B' : Nat → Bool) (mb : Bool), i ≤ F.length ∧ iv = .int .i64 (i : Int) ∧ mv = .bool mb ∧ Blk wr w.heap.size 4 (boC F.length B') ∧ Jv O F B' ∧ Fr (fun _ => False) w wr ∧ Rnd F B B' mb (∀ q, q < i → okAt O F B q)) (fun _ iv _ => F.length - (intOf iv).toNat)
          case atStart => exact ⟨0, B, false, Nat.zero_le _, rfl, rfl, HB.out, HJ.out, HFr.out, fun h => (by cases h), fun _ => ⟨rfl, fun q h => by omega⟩⟩
          case round =>
            obtain ⟨i, B', mb, hi, rfl, rfl, hB, hJ, hFr, hR⟩ := hrel
            have HB2 := hid hB
            have HJ2 := hid hJ
            have HFr2 := hid hFr
            have HR := hid hR
            clear hB hJ hFr hR HB HJ HFr
            by_cases hlt : i < F.length
            · have hi1 : (i : Int) < ((F.length : Nat) : Int) := by omega
              have hi0 : (0 : Int) ≤ (i : Int) := Int.natCast_nonneg _
              obtain ⟨fb, fo, rfl⟩ := HF.out.some hlt
              obtain ⟨y, y1, y2⟩ := HF.out.get i hlt
              have HK : Hid (∀ W', Fr (fun _ => False) w W' → W'.cell? ⟨fb, fo + i * 4 + 2, none⟩ = some (.slice y.ra y.rl y.rc)) := fun W' f => (y1.env (Env.of f)).all.2.2.1
              have HSr := hid y2.r
              have HRl := hid y2.rl
              have hrlim : F[i].r.length ≤ 140737488351232 := y2.ok.r
              have HAt : Hid ((atU F i).r = F[i].r) := by unfold Hid; rw [atU_lt hlt]
              clear y1 y2
              generalize F[i].r = rs at *
              obtain ⟨n, s, ra, rl, rc, aa, al, ac⟩ := y
              have hrl := HRl.out
              clear HRl
              simp only at hrl HK HSr
              subst hrl
              go_wp2_with fail
              go_loopw [10, 12] (fun mv kv wr => ∃ (k : Nat) (B' : Nat → Bool) (mb : Bool), k ≤ rs.length ∧ kv = .int .i64 (k : Int) ∧ mv = .bool mb ∧ Blk wr w.heap.size 4 (boC F.length B') ∧ Jv O F B' ∧ Fr (fun _ => False) w wr ∧ Rnd F B B' mb ((∀ q, q < i → okAt O F B q) ∧ ∀ y ∈ rs.take k, gdB O F B y = true)) (fun _ kv _ => rs.length - (intOf kv).toNat)
              case atStart => exact ⟨0, B', mb, Nat.zero_le _, rfl, rfl, HB2.out, HJ2.out, HFr2.out, rnd_on HR.out (fun _ h => ⟨h, fun y hy => by simp at hy⟩)⟩
              case round =>
                obtain ⟨k, B3, mb3, hk, rfl, rfl, hB, hJ, hFr, hR⟩ := hrel
                have HB3 := hid hB
                have HJ3 := hid hJ
                have HFr3 := hid hFr
                have HR3 := hid hR
                have kz := HK.out _ hFr
                clear hB hJ hFr hR HB2 HJ2 HFr2 HR
                by_cases hkl : k < rs.length
                · have hkl' : (k : Int) < ((rs.length : Nat) : Int) := by omega
                  have hk0 : (0 : Int) ≤ (k : Int) := Int.natCast_nonneg _
                  have hkd : decide ((k : Int) < ((rs.length : Nat) : Int)) = true := decide_eq_true hkl'
                  have q0 := HB3.out.cell i
                  rw [boC_at _ hlt] at q0
                  have z0 := HB3.out.frozen i
                  cases hbi : B3 i with
                  | false =>
                    rw [hbi] at q0
                    have HR4 : Hid (Rnd F B B3 mb3 (∀ q, q < i + 1 → okAt O F B q)) := rnd_on HR3.out (fun e h q hq => by
                      rcases Nat.lt_or_eq_of_le (Nat.le_of_lt_succ hq) with h1 | h1
                      · exact h.1 q h1
                      · intro hb; rw [h1, ← e, hbi] at hb; cases hb)
                    clear hbi
                    go_wp2_with fail
                    exact ⟨⟨i + 1, B3, mb3, by omega, by go_num, rfl, HB3.out, HJ3.out, HFr3.out, HR4.out⟩, by simp [intOf]; omega⟩
                  | true =>
                    rw [hbi] at q0
                    obtain ⟨nb, no, rfl, kn⟩ := (HSr.out.env (HE0.out.trans (Env.of HFr3.out))).at k hkl
                    have HC1 := hid (HFf.out wr HFr3.out rs[k])
                    have HC2 := hid (HFo.out wr HFr3.out rs[k])
                    have HDr : Hid (gdB O F B3 rs[k] = false → Blk (wr.setCell ⟨w.heap.size, i, none⟩ (.bool false)) w.heap.size 4 (boC F.length (updB B3 i false)) ∧ Jv O F (updB B3 i false) ∧ Fr (fun _ => False) w (wr.setCell ⟨w.heap.size, i, none⟩ (.bool false)) ∧ Rnd F B (updB B3 i false) true ((∀ q, q < i → okAt O F B q) ∧ ∀ y ∈ rs.take (k + 1), gdB O F B y = true)) := fun hg =>
                      ⟨bo_store HB3.out false, HJ3.out.drop hlt hbi (by rw [HAt.out]; exact List.getElem_mem hkl) hg, HFr3.out.setCell (.inr (Nat.le_refl _)) _, rnd_drop HR3.out hlt hbi⟩
                    have HYs : Hid (gdB O F B3 rs[k] = true → Rnd F B B3 mb3 ((∀ q, q < i → okAt O F B q) ∧ ∀ y ∈ rs.take (k + 1), gdB O F B y = true)) := fun hg => rnd_on HR3.out (fun e h => ⟨h.1, take_all hkl h.2 (by rw [← e]; exact hg)⟩)
                    clear HR3 hbi
                    have HBc := hid (fun a (h : a < F.length) => (show wr.cell? ⟨w.heap.size, a, none⟩ = some (.bool (B3 a)) by rw [HB3.out.cell a, boC_at _ h]))
                    generalize rs[k] = nm at *
                    have hn1 : decide ((0 : Int) ≤ -1) = false := by decide
                    have hn2 : decide ((-1 : Int) < 0) = true := by decide
                    cases hff : fi F nm with
                    | none =>
                      rw [fiI_none hff] at HC1
                      cases hfo : fi O nm with
                      | none =>
                        have HY := hid (HYs.out (by unfold gdB knB; rw [hff, hfo]; rfl))
                        rw [fiI_none hfo] at HC2
                        clear HDr HYs hff hfo
                        go_wp2_with fail
                        refine HC1.out.mono ?_
                        rintro e wa ⟨rfl, hwa⟩
                        subst hwa
                        go_wp2_with fail
                        refine HC2.out.mono ?_
                        rintro e wa ⟨rfl, hwa⟩
                        subst hwa
                        clear HC1 HC2
                        go_wp2_with fail
                        exact ⟨⟨k + 1, B3, mb3, by omega, by go_num, rfl, HB3.out, HJ3.out, HFr3.out, HY.out⟩, by simp [intOf]; omega⟩
                      | some b =>
                        have HD := hid (HDr.out (by unfold gdB knB; rw [hff, hfo]; rfl))
                        rw [fiI_some hfo] at HC2
                        have hb1 : decide ((0 : Int) ≤ (b : Int)) = true := decide_eq_true (Int.natCast_nonneg _)
                        clear HDr HYs hff hfo
                        go_wp2_with fail
                        refine HC1.out.mono ?_
                        rintro e wa ⟨rfl, hwa⟩
                        subst hwa
                        go_wp2_with fail
                        refine HC2.out.mono ?_
                        rintro e wa ⟨rfl, hwa⟩
                        subst hwa
                        clear HC1 HC2
                        go_wp2_with fail
                        exact ⟨⟨k + 1, _, true, by omega, by go_num, rfl, HD.out.1, HD.out.2.1, HD.out.2.2.1, HD.out.2.2.2⟩, by simp [intOf]; omega⟩
                    | some a =>
                      have hal := fi_lt hff
                      have ha1 : (a : Int) < ((F.length : Nat) : Int) := by omega
                      have ha0 : (0 : Int) ≤ (a : Int) := Int.natCast_nonneg _
                      have ha2 : decide ((0 : Int) ≤ (a : Int)) = true := decide_eq_true ha0
                      have ha3 : decide ((a : Int) < 0) = false := decide_eq_false (by omega)
                      have qa := HBc.out a hal
                      rw [fiI_some hff] at HC1
                      have HGv : Hid (gdB O F B3 nm = B3 a) := by unfold Hid gdB knB; rw [hff]; simp
                      clear hff
                      generalize fiI O nm = fo' at *
                      cases hba : B3 a with
                      | true =>
                        have HY := hid (HYs.out (by rw [HGv.out, hba]))
                        rw [hba] at qa
                        clear HDr HYs HGv hba HBc
                        go_wp2_with fail
                        refine HC1.out.mono ?_
                        rintro e wa ⟨rfl, hwa⟩
                        subst hwa
                        go_wp2_with fail
                        refine HC2.out.mono ?_
                        rintro e wa ⟨rfl, hwa⟩
                        subst hwa
                        clear HC1 HC2
                        go_wp2_with fail
                        exact ⟨⟨k + 1, B3, mb3, by omega, by go_num, rfl, HB3.out, HJ3.out, HFr3.out, HY.out⟩, by simp [intOf]; omega⟩
                      | false =>
                        have HD := hid (HDr.out (by rw [HGv.out, hba]))
                        rw [hba] at qa
                        clear HDr HYs HGv hba HBc
                        go_wp2_with fail
                        refine HC1.out.mono ?_
                        rintro e wa ⟨rfl, hwa⟩
                        subst hwa
                        go_wp2_with fail
                        refine HC2.out.mono ?_
                        rintro e wa ⟨rfl, hwa⟩
                        subst hwa
                        clear HC1 HC2
                        go_wp2_with fail
                        exact ⟨⟨k + 1, _, true, by omega, by go_num, rfl, HD.out.1, HD.out.2.1, HD.out.2.2.1, HD.out.2.2.2⟩, by simp [intOf]; omega⟩
                · have hkl' : ¬ ((k : Int) < ((rs.length : Nat) : Int)) := by omega
                  have hkd : decide ((k : Int) < ((rs.length : Nat) : Int)) = false := decide_eq_false hkl'
                  have HR4 : Hid (Rnd F B B3 mb3 (∀ q, q < i + 1 → okAt O F B q)) := rnd_on HR3.out (fun _ h q hq => by
                    rcases Nat.lt_or_eq_of_le (Nat.le_of_lt_succ hq) with h1 | h1
                    · exact h.1 q h1
                    · intro _ y hy
                      rw [h1, HAt.out] at hy
                      exact h.2 y (by rw [List.take_of_length_le (by omega)]; exact hy))
                  go_wp2_with fail
                  exact ⟨⟨i + 1, B3, mb3, by omega, by go_num, rfl, HB3.out, HJ3.out, HFr3.out, HR4.out⟩, by simp [intOf]; omega⟩
            · have hi1 : ¬ ((i : Int) < ((F.length : Nat) : Int)) := by omega
              obtain rfl : i = F.length := by omega
              go_wp2_with fail
              cases mb with
              | true =>
                go_roundg (cntB F.length B' + 1)
                case measure => have h1 := HR.out.1 rfl; have h2 := HM.out; omega
                case rel => exact ⟨B', true, rfl, HB2.out, HJ2.out, HFr2.out, fun _ => rfl, fun h => by cases h⟩
              | false =>
                obtain ⟨h1, h2⟩ := HR.out.2 rfl
                go_roundg 0
                case measure => have h2 := HM.out; omega
                case rel => exact ⟨B', false, rfl, HB2.out, HJ2.out, HFr2.out, fun h => (by cases h), fun _ => ⟨rfl, by rw [h1]; exact h2⟩⟩
end Go.Proofs.YtcpeebkfnnkjnaaDoor.Tr
