import Derived.Test.YtehoiahgkbnjdaaGreatOplM
import Derived.BigQuiet
/- AllocPlays: step where how many are not in use is asked. -/
namespace Go.Proofs.YtehoiahgkbnjdaaGreat.Al
open Go.RowKit Go.Shelf Dk Wl

def StQ (X : Nat → Prop) (w : World) (l p bl bt : Nat) (D : Dsk) (L : Lg) (w' : World) : Prop := OwnL X w' l p bl bt D L ∧ Kp X w w'

set_option maxRecDepth 100000 in
set_option maxHeartbeats 4000000 in
theorem step_count {X : Nat → Prop} {w : World} {l p bl bt sp q rp n m : Nat} {T : Nat → Sec} {D : Dsk} {L : Lg} {bv iv sv : Value} {R : Rs} (h : OwnL X w l p bl bt D L) (hs : Spc X w sp l (lay n)) (a : AI n m T D L) (h1 : 64 ≤ n) (h2 : n ≤ 1024) (s : Sim n T L.st R) (r : RRep w rp n bv iv sv R) (hX : ∀ k, rfoot rp bv iv sv k → X k) (K N : Int) (hK : K < 0 ∨ 6 < K) :
    Calls Tryz.prog 11 #[pv l, pv sp, pv rp, pv q, .agg #[.int .i64 K, .int .i64 N]] w fun e w' => e = .returned (.bool true) ∧ StQ X w l p bl bt D L w' := by
  have hy := lay_b n h1 h2
  have lb := r.lb
  have li := r.li
  have f0 : Nw w (w.alloc (.cells #[.int .i64 K, .int .i64 N] 36)) := (Fr.refl _ w).alloc _
  have HB := hid (Blocks_sim (h.nw f0) (hs.kp f0.kp) a h1 h2 s)
  have HI := hid (fun W (o : OwnL X W l p bl bt D L) (k : Kp X w W) => Inodes_sim o (hs.kp k) a h1 h2 s)
  have HR : Hid (∀ W, Kp X w W → RRep W rp n bv iv sv R) := fun W k => r.of_same (fun j hj => k.block j (r.lt j hj) (fun hn => hn (hX j hj)))
  have HCb := hid (fun W (x : RRep W rp n bv iv sv R) => rcount_any x.b (by omega) (by omega))
  have HCi := hid (fun W (x : RRep W rp n bv iv sv R) => rcount_any x.i (by omega) (by omega))
  have HF0 := hid f0
  have e0 : (K == 0) = false := by simp; omega
  have e1 : (K == 1) = false := by simp; omega
  have e2 : (K == 2) = false := by simp; omega
  have e3 : (K == 3) = false := by simp; omega
  have e4 : (K == 4) = false := by simp; omega
  have e5 : (K == 5) = false := by simp; omega
  have e6 : (K == 6) = false := by simp; omega
  clear h hs a h1 h2 s r hX f0 hy lb li hK
  generalize (falses R.blk : Int) = cb at *
  generalize (falses R.ino : Int) = ci at *
  go_enter Tryz.func11, Tryz.ntmps11
  go_wp2_with fail
  refine HB.out.mono ?_
  rintro x w2 ⟨rfl, o2, k2⟩
  have HO2 := hid o2
  have HK2 := hid (Kp.trans HF0.out.kp k2)
  have r2 := HR.out _ HK2.out
  have c7 : w2.cell? ⟨rp, 7, none⟩ = some bv := r2.h.cell 7
  have HC2 := hid (HCb.out _ r2)
  have HI2 := hid (HI.out _ HO2.out HK2.out)
  clear HB o2 k2 HF0 HCb HI r2
  go_wp2_with fail
  refine HC2.out.mono ?_
  rintro x w3 ⟨rfl, rfl⟩
  clear HC2
  go_wp2_with fail
  refine HI2.out.mono ?_
  rintro x w4 ⟨rfl, o4, k4⟩
  have HO4 := hid o4
  have HK4 := hid (Kp.trans HK2.out k4)
  have r4 := HR.out _ HK4.out
  have c8 : w4.cell? ⟨rp, 8, none⟩ = some iv := r4.h.cell 8
  have HC4 := hid (HCi.out _ r4)
  clear HI2 o4 k4 HCi r4 HR HO2 HK2 c7
  go_wp2_with fail
  refine HC4.out.mono ?_
  rintro x w5 ⟨rfl, rfl⟩
  clear HC4
  go_wp2
  go_ret
  exact ⟨by simp, HO4.out, HK4.out⟩

end Go.Proofs.YtehoiahgkbnjdaaGreat.Al
/- AllocPlays: step where all is committed, or dropped. -/
namespace Go.Proofs.YtehoiahgkbnjdaaGreat.Al
open Go.RowKit Go.Shelf Dk Wl

set_option maxRecDepth 100000 in
set_option maxHeartbeats 4000000 in
theorem step_commit {G : Nat → Prop} {w0 w : World} {l p bl bt sp q rp n m : Nat} {T : Nat → Sec} {D : Dsk} {L : Lg} {bv iv sv : Value} {v : Rv} {R S : Rs} (h : PSx G w0 w l p bl bt sp q n (m + 600) T D L ⟨rp, bv, iv, sv⟩ v R S) (s : Sim n T L.st R) (ht : T 0 = headB n) (hz : 0 ∉ R.stg) (h1 : 64 ≤ n) (h2 : n ≤ 1024) (hm : 3000 ≤ m + 600) (N : Int) :
    Calls Tryz.prog 11 #[pv l, pv sp, pv rp, pv q, .agg #[.int .i64 4, .int .i64 N]] w fun e w' => e = .returned (.bool true) ∧ PS G w0 w' l p sp q rp n m := by
  have f0 : Nw w (w.alloc (.cells #[.int .i64 4, .int .i64 N] 36)) := (Fr.refl _ w).alloc _
  have HQ1 := hid (h.nw f0)
  have hll := lay_ll n h2
  have HCo := hid (Commit_any HQ1.out.o (h.a.sm.le (by omega)) (by have := h.a.lg; omega) (by have := cost_le h.a.c; omega) (by rw [h.a.ln]; exact h.a.c))
  have hac := AI.commit h.a h2 h.o.r.ok h.o.r.ml.2.1 h.o.r.mt.2.1 h.o.r.mt.2.2
  rw [hac.1] at HCo
  have HAc := hid hac.2
  have HSm : Hid (Sim n (over L.st T) [] { R with stg := [] }) := ⟨⟨fun k => by simp [Wl.get], rfl⟩, s.b.stg rfl rfl⟩
  have HT0 : Hid (over L.st T 0 = headB n) := by
    unfold Hid over
    have : (get L.st 0).isSome = false := by
      cases hh : (get L.st 0).isSome with
      | false => rfl
      | true => exact absurd ((s.s.s 0).2 hh) hz
    cases hg : get L.st 0 with
    | none => exact ht
    | some x => rw [hg] at this; cases this
  have HN : Hid (64 ≤ n ∧ n ≤ 1024) := ⟨h1, h2⟩
  clear h s ht hz h1 h2 hm f0 hll hac
  go_enter Tryz.func11, Tryz.ntmps11
  go_wp2_with fail
  refine HCo.out.mono ?_
  rintro e w2 ⟨rfl, ⟨bl2, bt2, o2⟩, k2⟩
  have HQ2 := hid (HQ1.out.log o2 HAc.out.1 k2)
  have c9 : w2.cell? ⟨rp, 9, none⟩ = some sv := HQ2.out.r.h.cell 9
  have z9 : w2.frozen? ⟨rp, 9, none⟩ = false := HQ2.out.r.h.frozen 9
  obtain ⟨sv3, P3⟩ := HQ2.out.ref HQ2.out.r.clear
  have HQ3 := hid P3
  have HCl := hid (clone_any HQ3.out.r HN.out.1 HN.out.2 rfl)
  clear HCo o2 k2 HQ2 HQ1 P3
  simp only at HCl
  go_wp2_with fail
  refine HCl.out.mono ?_
  rintro e w5 ⟨rx, bx, ix, sx, rfl, r5, hx, f5⟩
  obtain ⟨tq, hq⟩ := (HQ3.out.nw f5).qc
  have cq : w5.cell? ⟨q, 0, none⟩ = some (pv v.rp) := hq.cell 0
  have zq : w5.frozen? ⟨q, 0, none⟩ = false := hq.frozen 0
  have HQ6 := hid (HQ3.out.keep f5 ⟨rx, bx, ix, sx⟩ r5 hx)
  have HQ7 : Hid (PS G w0 (w5.setCell ⟨q, 0, none⟩ (pv rx)) l p sp q rp n m) := ⟨bl2, bt2, _, _, _, _, _, _, _, _, _, HQ6.out, by rw [HAc.out.2]; exact HSm.out, HSm.out, HT0.out, by simp⟩
  clear HCl r5 hx f5 hq HQ3 HQ6
  go_wp2
  go_ret
  exact ⟨by simp, HQ7.out⟩

set_option maxRecDepth 100000 in
set_option maxHeartbeats 4000000 in
theorem step_drop {G : Nat → Prop} {w0 w : World} {l p bl bt sp q rp n m : Nat} {T : Nat → Sec} {D : Dsk} {L : Lg} {bv iv sv : Value} {v : Rv} {R S : Rs} (h : PSx G w0 w l p bl bt sp q n m T D L ⟨rp, bv, iv, sv⟩ v R S) (ss : Sim n T [] S) (ht : T 0 = headB n) (h1 : 64 ≤ n) (h2 : n ≤ 1024) (N : Int) :
    Calls Tryz.prog 11 #[pv l, pv sp, pv rp, pv q, .agg #[.int .i64 5, .int .i64 N]] w fun e w' => e = .returned (.bool true) ∧ PS G w0 w' l p sp q rp n m := by
  have f0 : Nw w (w.alloc (.cells #[.int .i64 5, .int .i64 N] 36)) := (Fr.refl _ w).alloc _
  have HQ3 := hid (h.nw f0)
  have HDr := hid (drop_any HQ3.out.o)
  have Hss := hid ss
  have Hht := hid ht
  have HN : Hid (64 ≤ n ∧ n ≤ 1024) := ⟨h1, h2⟩
  clear h ss ht h1 h2 f0
  go_enter Tryz.func11, Tryz.ntmps11
  go_wp2_with fail
  refine HDr.out.mono ?_
  rintro e w4 ⟨rfl, ⟨bt4, o4⟩, k4⟩
  have HQ4 := hid (HQ3.out.log o4 HQ3.out.a.drop k4)
  obtain ⟨tq, hq⟩ := HQ4.out.qc
  have cq : w4.cell? ⟨q, 0, none⟩ = some (pv v.rp) := hq.cell 0
  have HCl := hid (clone_any HQ4.out.c HN.out.1 HN.out.2 Hss.out.none)
  clear HDr o4 k4 hq HQ3
  go_wp2_with fail
  refine HCl.out.mono ?_
  rintro e w5 ⟨rx, bx, ix, sx, rfl, r5, hx, f5⟩
  have HQ6 := hid (HQ4.out.back f5 ⟨rx, bx, ix, sx⟩ r5 hx)
  have HRg := hid (r5.h.range 0 (ryC n ++ [bx, ix, sx]) (by simp [ryC]))
  have H1c := hid (all_oneCell_toArray r5.one)
  have HTh : Hid (w5.there rp 0 10) := (HQ4.out.nw f5).r.h.there 0 10 (by simp [ryC])
  have Hln : Hid ((ryC n ++ [bx, ix, sx]).length = 10) := by unfold Hid; simp [ryC]
  have HE : Hid (∀ W, PSx G w0 W l p bl bt4 sp q n m T D L.drop ⟨rp, bx, ix, sx⟩ v S S → PS G w0 W l p sp q rp n m) := fun W P => ⟨bl, bt4, T, D, L.drop, bx, ix, sx, v, S, S, P, Hss.out, Hss.out, Hht.out, by rw [Hss.out.none]; simp⟩
  have HQ7 := hid (HE.out _ HQ6.out)
  clear HCl r5 hx f5 HQ4 HQ6 HE cq Hss
  simp only at HQ7
  generalize (ryC n ++ [bx, ix, sx]) = cs at *
  have Hsz : Hid ((Tryz.prog.info? 73).map (·.size) = some cs.length) := by unfold Hid; rw [Hln.out]; exact sz73
  have Hsz2 : Hid ((Tryz.prog.info? 73).map (·.size) = some cs.toArray.size) := by unfold Hid; rw [List.size_toArray, Hln.out]; exact sz73
  have HTh2 : Hid (w5.there rp 0 cs.toArray.size) := by unfold Hid; rw [List.size_toArray, Hln.out]; exact HTh.out
  clear HTh
  go_wp2_with (first | (refine wpList_load_mid (by rfl) 73 _ (by rfl) rx 0 (by rfl) cs _ HRg.out Tryz.underlying73 rfl Hsz.out ?_) | (refine wpList_store_mid (by rfl) 73 _ _ (by rfl) rp 0 cs.toArray (by rfl) (by rfl) HTh2.out Hsz2.out H1c.out ?_))
  go_ret
  exact ⟨by simp, by simpa using HQ7.out⟩

end Go.Proofs.YtehoiahgkbnjdaaGreat.Al
/- AllocPlays: step where something is taken or given back: Block. -/
namespace Go.Proofs.YtehoiahgkbnjdaaGreat.Al
open Go.RowKit Go.Shelf Dk Wl

/-- What a call of the reference leaves; behind 45 anything. -/
def RAct (W : World) (rp n : Nat) (bv iv sv : Value) (y : Int) (R1 : Rs) (w' : World) : Prop := ∃ R2, RDid W rp n bv iv sv R2 w' ∧ (y = 45 ∨ R2 = R1)

set_option maxRecDepth 100000 in
set_option maxHeartbeats 4000000 in
theorem step_do0 {G : Nat → Prop} {w0 w : World} {l p bl bt sp q rp n m : Nat} {T : Nat → Sec} {D : Dsk} {L : Lg} {bv iv sv : Value} {v : Rv} {R S : Rs} (h : PSx G w0 w l p bl bt sp q n m T D L ⟨rp, bv, iv, sv⟩ v R S) (ss : Sim n T [] S) (ht : T 0 = headB n) (h1 : 64 ≤ n) (h2 : n ≤ 1024) (N x y : Int) (R1 : Rs) (hz : 0 ∉ R1.stg)
    (hp : ∀ W, OwnL (KX G sp q ⟨rp, bv, iv, sv⟩ v) W l p bl bt D L → Spc (KX G sp q ⟨rp, bv, iv, sv⟩ v) W sp l (lay n) → Calls Tryz.prog 17 #[pv sp] W fun e w' => e = .returned (.tuple #[.int .i64 x, .int .i64 y]) ∧ SAct (KX G sp q ⟨rp, bv, iv, sv⟩ v) W l p bl bt n m T D y R1 w')
    (hr : ∀ W, RRep W rp n bv iv sv R → Calls Tryz.prog 34 #[pv rp] W fun e w' => e = .returned (.tuple #[.int .i64 x, .int .i64 y]) ∧ RAct W rp n bv iv sv y R1 w') :
    Calls Tryz.prog 11 #[pv l, pv sp, pv rp, pv q, .agg #[.int .i64 0, .int .i64 N]] w fun e w' => e = .returned (.bool true) ∧ PS G w0 w' l p sp q rp n m := by
  have f0 : Nw w (w.alloc (.cells #[.int .i64 0, .int .i64 N] 36)) := (Fr.refl _ w).alloc _
  have HQ1 := hid (h.nw f0)
  have HP1 := hid (hp _ HQ1.out.o HQ1.out.spc)
  have HRf := hid hr
  have Hss := hid ss
  have Hht := hid ht
  have Hhz := hid hz
  have HN : Hid (64 ≤ n ∧ n ≤ 1024) := ⟨h1, h2⟩
  have HB : Hid (∀ W, Nw (w.alloc (.cells #[.int .i64 0, .int .i64 N] 36)) W → True) := fun _ _ => trivial
  have bN : (w.alloc (.cells #[.int .i64 0, .int .i64 N] 36)).heap[w.heap.size]? = some (.cells #[.int .i64 0, .int .i64 N] 36) := heap_alloc_new w _
  have HbN := hid bN
  by_cases hy : y = 45
  · subst hy
    clear h ss ht h1 h2 hz hp hr f0 bN HB
    go_enter Tryz.func11, Tryz.ntmps11
    go_wp2_with fail
    refine HP1.out.mono ?_
    rintro e w2 ⟨rfl, L2, o2, a2, k2, _⟩
    have HQ2 := hid (HQ1.out.log o2 a2 k2)
    have HR2 := hid (HRf.out _ HQ2.out.r)
    clear HP1 o2 a2 k2 HRf
    go_wp2_with fail
    refine HR2.out.mono ?_
    rintro e w3 ⟨rfl, R2, d2, _⟩
    obtain ⟨sv3, P3⟩ := HQ2.out.ref d2
    have HDr := hid (drop_any P3.o)
    have HQ3 := hid P3
    clear HR2 d2 P3 HQ2 HQ1
    go_wp2_with fail
    refine HDr.out.mono ?_
    rintro e w4 ⟨rfl, ⟨bt4, o4⟩, k4⟩
    have HQ4 := hid (HQ3.out.log o4 HQ3.out.a.drop k4)
    obtain ⟨tq, hq⟩ := HQ4.out.qc
    have cq : w4.cell? ⟨q, 0, none⟩ = some (pv v.rp) := hq.cell 0
    have HCl := hid (clone_any HQ4.out.c HN.out.1 HN.out.2 Hss.out.none)
    clear HDr o4 k4 hq HQ3
    go_wp2_with fail
    refine HCl.out.mono ?_
    rintro e w5 ⟨rx, bx, ix, sx, rfl, r5, hx, f5⟩
    have HQ6 := hid (HQ4.out.back f5 ⟨rx, bx, ix, sx⟩ r5 hx)
    have HRg := hid (r5.h.range 0 (ryC n ++ [bx, ix, sx]) (by simp [ryC]))
    have H1c := hid (all_oneCell_toArray r5.one)
    have HTh : Hid (w5.there rp 0 10) := (HQ4.out.nw f5).r.h.there 0 10 (by simp [ryC])
    have Hln : Hid ((ryC n ++ [bx, ix, sx]).length = 10) := by unfold Hid; simp [ryC]
    have HE : Hid (∀ W, PSx G w0 W l p bl bt4 sp q n m T D L2.drop ⟨rp, bx, ix, sx⟩ v S S → PS G w0 W l p sp q rp n m) := fun W P => ⟨bl, bt4, T, D, L2.drop, bx, ix, sx, v, S, S, P, Hss.out, Hss.out, Hht.out, by rw [Hss.out.none]; simp⟩
    have HQ7 := hid (HE.out _ HQ6.out)
    clear HCl r5 hx f5 HQ4 HQ6 HE cq Hss
    simp only at HQ7
    generalize (ryC n ++ [bx, ix, sx]) = cs at *
    have Hsz : Hid ((Tryz.prog.info? 73).map (·.size) = some cs.length) := by unfold Hid; rw [Hln.out]; exact sz73
    have Hsz2 : Hid ((Tryz.prog.info? 73).map (·.size) = some cs.toArray.size) := by unfold Hid; rw [List.size_toArray, Hln.out]; exact sz73
    have HTh2 : Hid (w5.there rp 0 cs.toArray.size) := by unfold Hid; rw [List.size_toArray, Hln.out]; exact HTh.out
    clear HTh
    go_wp2_with (first | (refine wpList_load_mid (by rfl) 73 _ (by rfl) rx 0 (by rfl) cs _ HRg.out Tryz.underlying73 rfl Hsz.out ?_) | (refine wpList_store_mid (by rfl) 73 _ _ (by rfl) rp 0 cs.toArray (by rfl) (by rfl) HTh2.out Hsz2.out H1c.out ?_))
    go_ret
    exact ⟨by simp, by simpa using HQ7.out⟩
  · have ey : (y == 45) = false := by simp; omega
    have Hy := hid hy
    clear h ss ht h1 h2 hz hp hr f0 bN HB hy
    go_enter Tryz.func11, Tryz.ntmps11
    go_wp2_with fail
    refine HP1.out.mono ?_
    rintro e w2 ⟨rfl, L2, o2, a2, k2, s2⟩
    have HQ2 := hid (HQ1.out.log o2 a2 k2)
    have HS2 := hid (s2.resolve_left Hy.out)
    have HR2 := hid (HRf.out _ HQ2.out.r)
    clear HP1 o2 a2 k2 HRf s2
    go_wp2_with fail
    refine HR2.out.mono ?_
    rintro e w3 ⟨rfl, R2, d2, e2⟩
    obtain rfl := e2.resolve_left Hy.out
    obtain ⟨sv3, P3⟩ := HQ2.out.ref d2
    have HQ3 : Hid (PS G w0 w3 l p sp q rp n m) := ⟨bl, bt, T, D, L2, bv, iv, sv3, v, R2, S, P3, HS2.out, Hss.out, Hht.out, Hhz.out⟩
    clear HR2 d2 P3 HQ2 HQ1 e2
    go_wp2
    go_ret
    exact ⟨by simp, HQ3.out⟩

end Go.Proofs.YtehoiahgkbnjdaaGreat.Al
/- AllocPlays: step where something is taken or given back: Inode. -/
namespace Go.Proofs.YtehoiahgkbnjdaaGreat.Al
open Go.RowKit Go.Shelf Dk Wl

set_option maxRecDepth 100000 in
set_option maxHeartbeats 4000000 in
theorem step_do2 {G : Nat → Prop} {w0 w : World} {l p bl bt sp q rp n m : Nat} {T : Nat → Sec} {D : Dsk} {L : Lg} {bv iv sv : Value} {v : Rv} {R S : Rs} (h : PSx G w0 w l p bl bt sp q n m T D L ⟨rp, bv, iv, sv⟩ v R S) (ss : Sim n T [] S) (ht : T 0 = headB n) (h1 : 64 ≤ n) (h2 : n ≤ 1024) (N x y : Int) (R1 : Rs) (hz : 0 ∉ R1.stg)
    (hp : ∀ W, OwnL (KX G sp q ⟨rp, bv, iv, sv⟩ v) W l p bl bt D L → Spc (KX G sp q ⟨rp, bv, iv, sv⟩ v) W sp l (lay n) → Calls Tryz.prog 27 #[pv sp] W fun e w' => e = .returned (.tuple #[.int .i64 x, .int .i64 y]) ∧ SAct (KX G sp q ⟨rp, bv, iv, sv⟩ v) W l p bl bt n m T D y R1 w')
    (hr : ∀ W, RRep W rp n bv iv sv R → Calls Tryz.prog 36 #[pv rp] W fun e w' => e = .returned (.tuple #[.int .i64 x, .int .i64 y]) ∧ RAct W rp n bv iv sv y R1 w') :
    Calls Tryz.prog 11 #[pv l, pv sp, pv rp, pv q, .agg #[.int .i64 2, .int .i64 N]] w fun e w' => e = .returned (.bool true) ∧ PS G w0 w' l p sp q rp n m := by
  have f0 : Nw w (w.alloc (.cells #[.int .i64 2, .int .i64 N] 36)) := (Fr.refl _ w).alloc _
  have HQ1 := hid (h.nw f0)
  have HP1 := hid (hp _ HQ1.out.o HQ1.out.spc)
  have HRf := hid hr
  have Hss := hid ss
  have Hht := hid ht
  have Hhz := hid hz
  have HN : Hid (64 ≤ n ∧ n ≤ 1024) := ⟨h1, h2⟩
  have HB : Hid (∀ W, Nw (w.alloc (.cells #[.int .i64 2, .int .i64 N] 36)) W → True) := fun _ _ => trivial
  have bN : (w.alloc (.cells #[.int .i64 2, .int .i64 N] 36)).heap[w.heap.size]? = some (.cells #[.int .i64 2, .int .i64 N] 36) := heap_alloc_new w _
  have HbN := hid bN
  by_cases hy : y = 45
  · subst hy
    clear h ss ht h1 h2 hz hp hr f0 bN HB
    go_enter Tryz.func11, Tryz.ntmps11
    go_wp2_with fail
    refine HP1.out.mono ?_
    rintro e w2 ⟨rfl, L2, o2, a2, k2, _⟩
    have HQ2 := hid (HQ1.out.log o2 a2 k2)
    have HR2 := hid (HRf.out _ HQ2.out.r)
    clear HP1 o2 a2 k2 HRf
    go_wp2_with fail
    refine HR2.out.mono ?_
    rintro e w3 ⟨rfl, R2, d2, _⟩
    obtain ⟨sv3, P3⟩ := HQ2.out.ref d2
    have HDr := hid (drop_any P3.o)
    have HQ3 := hid P3
    clear HR2 d2 P3 HQ2 HQ1
    go_wp2_with fail
    refine HDr.out.mono ?_
    rintro e w4 ⟨rfl, ⟨bt4, o4⟩, k4⟩
    have HQ4 := hid (HQ3.out.log o4 HQ3.out.a.drop k4)
    obtain ⟨tq, hq⟩ := HQ4.out.qc
    have cq : w4.cell? ⟨q, 0, none⟩ = some (pv v.rp) := hq.cell 0
    have HCl := hid (clone_any HQ4.out.c HN.out.1 HN.out.2 Hss.out.none)
    clear HDr o4 k4 hq HQ3
    go_wp2_with fail
    refine HCl.out.mono ?_
    rintro e w5 ⟨rx, bx, ix, sx, rfl, r5, hx, f5⟩
    have HQ6 := hid (HQ4.out.back f5 ⟨rx, bx, ix, sx⟩ r5 hx)
    have HRg := hid (r5.h.range 0 (ryC n ++ [bx, ix, sx]) (by simp [ryC]))
    have H1c := hid (all_oneCell_toArray r5.one)
    have HTh : Hid (w5.there rp 0 10) := (HQ4.out.nw f5).r.h.there 0 10 (by simp [ryC])
    have Hln : Hid ((ryC n ++ [bx, ix, sx]).length = 10) := by unfold Hid; simp [ryC]
    have HE : Hid (∀ W, PSx G w0 W l p bl bt4 sp q n m T D L2.drop ⟨rp, bx, ix, sx⟩ v S S → PS G w0 W l p sp q rp n m) := fun W P => ⟨bl, bt4, T, D, L2.drop, bx, ix, sx, v, S, S, P, Hss.out, Hss.out, Hht.out, by rw [Hss.out.none]; simp⟩
    have HQ7 := hid (HE.out _ HQ6.out)
    clear HCl r5 hx f5 HQ4 HQ6 HE cq Hss
    simp only at HQ7
    generalize (ryC n ++ [bx, ix, sx]) = cs at *
    have Hsz : Hid ((Tryz.prog.info? 73).map (·.size) = some cs.length) := by unfold Hid; rw [Hln.out]; exact sz73
    have Hsz2 : Hid ((Tryz.prog.info? 73).map (·.size) = some cs.toArray.size) := by unfold Hid; rw [List.size_toArray, Hln.out]; exact sz73
    have HTh2 : Hid (w5.there rp 0 cs.toArray.size) := by unfold Hid; rw [List.size_toArray, Hln.out]; exact HTh.out
    clear HTh
    go_wp2_with (first | (refine wpList_load_mid (by rfl) 73 _ (by rfl) rx 0 (by rfl) cs _ HRg.out Tryz.underlying73 rfl Hsz.out ?_) | (refine wpList_store_mid (by rfl) 73 _ _ (by rfl) rp 0 cs.toArray (by rfl) (by rfl) HTh2.out Hsz2.out H1c.out ?_))
    go_ret
    exact ⟨by simp, by simpa using HQ7.out⟩
  · have ey : (y == 45) = false := by simp; omega
    have Hy := hid hy
    clear h ss ht h1 h2 hz hp hr f0 bN HB hy
    go_enter Tryz.func11, Tryz.ntmps11
    go_wp2_with fail
    refine HP1.out.mono ?_
    rintro e w2 ⟨rfl, L2, o2, a2, k2, s2⟩
    have HQ2 := hid (HQ1.out.log o2 a2 k2)
    have HS2 := hid (s2.resolve_left Hy.out)
    have HR2 := hid (HRf.out _ HQ2.out.r)
    clear HP1 o2 a2 k2 HRf s2
    go_wp2_with fail
    refine HR2.out.mono ?_
    rintro e w3 ⟨rfl, R2, d2, e2⟩
    obtain rfl := e2.resolve_left Hy.out
    obtain ⟨sv3, P3⟩ := HQ2.out.ref d2
    have HQ3 : Hid (PS G w0 w3 l p sp q rp n m) := ⟨bl, bt, T, D, L2, bv, iv, sv3, v, R2, S, P3, HS2.out, Hss.out, Hht.out, Hhz.out⟩
    clear HR2 d2 P3 HQ2 HQ1 e2
    go_wp2
    go_ret
    exact ⟨by simp, HQ3.out⟩

end Go.Proofs.YtehoiahgkbnjdaaGreat.Al
/- AllocPlays: step where something is taken or given back: Free. -/
namespace Go.Proofs.YtehoiahgkbnjdaaGreat.Al
open Go.RowKit Go.Shelf Dk Wl

set_option maxRecDepth 100000 in
set_option maxHeartbeats 4000000 in
theorem step_do1 {G : Nat → Prop} {w0 w : World} {l p bl bt sp q rp n m : Nat} {T : Nat → Sec} {D : Dsk} {L : Lg} {bv iv sv : Value} {v : Rv} {R S : Rs} (h : PSx G w0 w l p bl bt sp q n m T D L ⟨rp, bv, iv, sv⟩ v R S) (ss : Sim n T [] S) (ht : T 0 = headB n) (h1 : 64 ≤ n) (h2 : n ≤ 1024) (N y : Int) (R1 : Rs) (hz : 0 ∉ R1.stg)
    (hp : ∀ X W, OwnL X W l p bl bt D L → Spc X W sp l (lay n) → Calls Tryz.prog 22 #[pv sp, .int .i64 N] W fun e w' => e = .returned (.int .i64 y) ∧ SAct X W l p bl bt n m T D y R1 w')
    (hr : ∀ W, RRep W rp n bv iv sv R → Calls Tryz.prog 35 #[pv rp, .int .i64 N] W fun e w' => e = .returned (.int .i64 y) ∧ RAct W rp n bv iv sv y R1 w') :
    Calls Tryz.prog 11 #[pv l, pv sp, pv rp, pv q, .agg #[.int .i64 1, .int .i64 N]] w fun e w' => e = .returned (.bool true) ∧ PS G w0 w' l p sp q rp n m := by
  have f0 : Nw w (w.alloc (.cells #[.int .i64 1, .int .i64 N] 36)) := (Fr.refl _ w).alloc _
  have HQ1 := hid (h.nw f0)
  have HP1 := hid (hp _ _ (h.o.more (.cells #[.int .i64 1, .int .i64 N] 36)) ⟨HQ1.out.s, .inl (.inr (.inl rfl))⟩)
  have HRf := hid hr
  have Hss := hid ss
  have Hht := hid ht
  have Hhz := hid hz
  have HN : Hid (64 ≤ n ∧ n ≤ 1024) := ⟨h1, h2⟩
  have HB : Hid (∀ W, Nw (w.alloc (.cells #[.int .i64 1, .int .i64 N] 36)) W → True) := fun _ _ => trivial
  have bN : (w.alloc (.cells #[.int .i64 1, .int .i64 N] 36)).heap[w.heap.size]? = some (.cells #[.int .i64 1, .int .i64 N] 36) := heap_alloc_new w _
  have HbN : Hid (Blk (w.alloc (.cells #[.int .i64 1, .int .i64 N] 36)) w.heap.size 36 [.int .i64 1, .int .i64 N]) := Blk.new w 36 _
  by_cases hy : y = 45
  · subst hy
    clear h ss ht h1 h2 hz hp hr f0 bN HB
    go_enter Tryz.func11, Tryz.ntmps11
    go_wp2_with fail
    refine HP1.out.mono ?_
    rintro e w2 ⟨rfl, L2, o2, a2, k2, _⟩
    have HQ2 := hid (HQ1.out.log (o2.less (fun _ hk => .inl hk)) a2 (Kp.less k2 (fun _ hk => .inl hk)))
    have HR2 := hid (HRf.out _ HQ2.out.r)
    have hN2 : w2.cell? ⟨w.heap.size, 1, none⟩ = some (.int .i64 N) := (Kp.blk k2 HbN.out (.inr rfl)).cell 1
    clear HP1 o2 a2 k2 HRf
    go_wp2_with fail
    refine HR2.out.mono ?_
    rintro e w3 ⟨rfl, R2, d2, _⟩
    obtain ⟨sv3, P3⟩ := HQ2.out.ref d2
    have HDr := hid (drop_any P3.o)
    have HQ3 := hid P3
    clear HR2 d2 P3 HQ2 HQ1
    go_wp2_with fail
    refine HDr.out.mono ?_
    rintro e w4 ⟨rfl, ⟨bt4, o4⟩, k4⟩
    have HQ4 := hid (HQ3.out.log o4 HQ3.out.a.drop k4)
    obtain ⟨tq, hq⟩ := HQ4.out.qc
    have cq : w4.cell? ⟨q, 0, none⟩ = some (pv v.rp) := hq.cell 0
    have HCl := hid (clone_any HQ4.out.c HN.out.1 HN.out.2 Hss.out.none)
    clear HDr o4 k4 hq HQ3
    go_wp2_with fail
    refine HCl.out.mono ?_
    rintro e w5 ⟨rx, bx, ix, sx, rfl, r5, hx, f5⟩
    have HQ6 := hid (HQ4.out.back f5 ⟨rx, bx, ix, sx⟩ r5 hx)
    have HRg := hid (r5.h.range 0 (ryC n ++ [bx, ix, sx]) (by simp [ryC]))
    have H1c := hid (all_oneCell_toArray r5.one)
    have HTh : Hid (w5.there rp 0 10) := (HQ4.out.nw f5).r.h.there 0 10 (by simp [ryC])
    have Hln : Hid ((ryC n ++ [bx, ix, sx]).length = 10) := by unfold Hid; simp [ryC]
    have HE : Hid (∀ W, PSx G w0 W l p bl bt4 sp q n m T D L2.drop ⟨rp, bx, ix, sx⟩ v S S → PS G w0 W l p sp q rp n m) := fun W P => ⟨bl, bt4, T, D, L2.drop, bx, ix, sx, v, S, S, P, Hss.out, Hss.out, Hht.out, by rw [Hss.out.none]; simp⟩
    have HQ7 := hid (HE.out _ HQ6.out)
    clear HCl r5 hx f5 HQ4 HQ6 HE cq Hss
    simp only at HQ7
    generalize (ryC n ++ [bx, ix, sx]) = cs at *
    have Hsz : Hid ((Tryz.prog.info? 73).map (·.size) = some cs.length) := by unfold Hid; rw [Hln.out]; exact sz73
    have Hsz2 : Hid ((Tryz.prog.info? 73).map (·.size) = some cs.toArray.size) := by unfold Hid; rw [List.size_toArray, Hln.out]; exact sz73
    have HTh2 : Hid (w5.there rp 0 cs.toArray.size) := by unfold Hid; rw [List.size_toArray, Hln.out]; exact HTh.out
    clear HTh
    go_wp2_with (first | (refine wpList_load_mid (by rfl) 73 _ (by rfl) rx 0 (by rfl) cs _ HRg.out Tryz.underlying73 rfl Hsz.out ?_) | (refine wpList_store_mid (by rfl) 73 _ _ (by rfl) rp 0 cs.toArray (by rfl) (by rfl) HTh2.out Hsz2.out H1c.out ?_))
    go_ret
    exact ⟨by simp, by simpa using HQ7.out⟩
  · have ey : (y == 45) = false := by simp; omega
    have Hy := hid hy
    clear h ss ht h1 h2 hz hp hr f0 bN HB hy
    go_enter Tryz.func11, Tryz.ntmps11
    go_wp2_with fail
    refine HP1.out.mono ?_
    rintro e w2 ⟨rfl, L2, o2, a2, k2, s2⟩
    have HQ2 := hid (HQ1.out.log (o2.less (fun _ hk => .inl hk)) a2 (Kp.less k2 (fun _ hk => .inl hk)))
    have HS2 := hid (s2.resolve_left Hy.out)
    have HR2 := hid (HRf.out _ HQ2.out.r)
    have hN2 : w2.cell? ⟨w.heap.size, 1, none⟩ = some (.int .i64 N) := (Kp.blk k2 HbN.out (.inr rfl)).cell 1
    clear HP1 o2 a2 k2 HRf s2
    go_wp2_with fail
    refine HR2.out.mono ?_
    rintro e w3 ⟨rfl, R2, d2, e2⟩
    obtain rfl := e2.resolve_left Hy.out
    obtain ⟨sv3, P3⟩ := HQ2.out.ref d2
    have HQ3 : Hid (PS G w0 w3 l p sp q rp n m) := ⟨bl, bt, T, D, L2, bv, iv, sv3, v, R2, S, P3, HS2.out, Hss.out, Hht.out, Hhz.out⟩
    clear HR2 d2 P3 HQ2 HQ1 e2
    go_wp2
    go_ret
    exact ⟨by simp, HQ3.out⟩

end Go.Proofs.YtehoiahgkbnjdaaGreat.Al
/- AllocPlays: step where something is taken or given back: FreeInode. -/
namespace Go.Proofs.YtehoiahgkbnjdaaGreat.Al
open Go.RowKit Go.Shelf Dk Wl

set_option maxRecDepth 100000 in
set_option maxHeartbeats 4000000 in
theorem step_do3 {G : Nat → Prop} {w0 w : World} {l p bl bt sp q rp n m : Nat} {T : Nat → Sec} {D : Dsk} {L : Lg} {bv iv sv : Value} {v : Rv} {R S : Rs} (h : PSx G w0 w l p bl bt sp q n m T D L ⟨rp, bv, iv, sv⟩ v R S) (ss : Sim n T [] S) (ht : T 0 = headB n) (h1 : 64 ≤ n) (h2 : n ≤ 1024) (N y : Int) (R1 : Rs) (hz : 0 ∉ R1.stg)
    (hp : ∀ X W, OwnL X W l p bl bt D L → Spc X W sp l (lay n) → Calls Tryz.prog 28 #[pv sp, .int .i64 N] W fun e w' => e = .returned (.int .i64 y) ∧ SAct X W l p bl bt n m T D y R1 w')
    (hr : ∀ W, RRep W rp n bv iv sv R → Calls Tryz.prog 37 #[pv rp, .int .i64 N] W fun e w' => e = .returned (.int .i64 y) ∧ RAct W rp n bv iv sv y R1 w') :
    Calls Tryz.prog 11 #[pv l, pv sp, pv rp, pv q, .agg #[.int .i64 3, .int .i64 N]] w fun e w' => e = .returned (.bool true) ∧ PS G w0 w' l p sp q rp n m := by
  have f0 : Nw w (w.alloc (.cells #[.int .i64 3, .int .i64 N] 36)) := (Fr.refl _ w).alloc _
  have HQ1 := hid (h.nw f0)
  have HP1 := hid (hp _ _ (h.o.more (.cells #[.int .i64 3, .int .i64 N] 36)) ⟨HQ1.out.s, .inl (.inr (.inl rfl))⟩)
  have HRf := hid hr
  have Hss := hid ss
  have Hht := hid ht
  have Hhz := hid hz
  have HN : Hid (64 ≤ n ∧ n ≤ 1024) := ⟨h1, h2⟩
  have HB : Hid (∀ W, Nw (w.alloc (.cells #[.int .i64 3, .int .i64 N] 36)) W → True) := fun _ _ => trivial
  have bN : (w.alloc (.cells #[.int .i64 3, .int .i64 N] 36)).heap[w.heap.size]? = some (.cells #[.int .i64 3, .int .i64 N] 36) := heap_alloc_new w _
  have HbN : Hid (Blk (w.alloc (.cells #[.int .i64 3, .int .i64 N] 36)) w.heap.size 36 [.int .i64 3, .int .i64 N]) := Blk.new w 36 _
  by_cases hy : y = 45
  · subst hy
    clear h ss ht h1 h2 hz hp hr f0 bN HB
    go_enter Tryz.func11, Tryz.ntmps11
    go_wp2_with fail
    refine HP1.out.mono ?_
    rintro e w2 ⟨rfl, L2, o2, a2, k2, _⟩
    have HQ2 := hid (HQ1.out.log (o2.less (fun _ hk => .inl hk)) a2 (Kp.less k2 (fun _ hk => .inl hk)))
    have HR2 := hid (HRf.out _ HQ2.out.r)
    have hN2 : w2.cell? ⟨w.heap.size, 1, none⟩ = some (.int .i64 N) := (Kp.blk k2 HbN.out (.inr rfl)).cell 1
    clear HP1 o2 a2 k2 HRf
    go_wp2_with fail
    refine HR2.out.mono ?_
    rintro e w3 ⟨rfl, R2, d2, _⟩
    obtain ⟨sv3, P3⟩ := HQ2.out.ref d2
    have HDr := hid (drop_any P3.o)
    have HQ3 := hid P3
    clear HR2 d2 P3 HQ2 HQ1
    go_wp2_with fail
    refine HDr.out.mono ?_
    rintro e w4 ⟨rfl, ⟨bt4, o4⟩, k4⟩
    have HQ4 := hid (HQ3.out.log o4 HQ3.out.a.drop k4)
    obtain ⟨tq, hq⟩ := HQ4.out.qc
    have cq : w4.cell? ⟨q, 0, none⟩ = some (pv v.rp) := hq.cell 0
    have HCl := hid (clone_any HQ4.out.c HN.out.1 HN.out.2 Hss.out.none)
    clear HDr o4 k4 hq HQ3
    go_wp2_with fail
    refine HCl.out.mono ?_
    rintro e w5 ⟨rx, bx, ix, sx, rfl, r5, hx, f5⟩
    have HQ6 := hid (HQ4.out.back f5 ⟨rx, bx, ix, sx⟩ r5 hx)
    have HRg := hid (r5.h.range 0 (ryC n ++ [bx, ix, sx]) (by simp [ryC]))
    have H1c := hid (all_oneCell_toArray r5.one)
    have HTh : Hid (w5.there rp 0 10) := (HQ4.out.nw f5).r.h.there 0 10 (by simp [ryC])
    have Hln : Hid ((ryC n ++ [bx, ix, sx]).length = 10) := by unfold Hid; simp [ryC]
    have HE : Hid (∀ W, PSx G w0 W l p bl bt4 sp q n m T D L2.drop ⟨rp, bx, ix, sx⟩ v S S → PS G w0 W l p sp q rp n m) := fun W P => ⟨bl, bt4, T, D, L2.drop, bx, ix, sx, v, S, S, P, Hss.out, Hss.out, Hht.out, by rw [Hss.out.none]; simp⟩
    have HQ7 := hid (HE.out _ HQ6.out)
    clear HCl r5 hx f5 HQ4 HQ6 HE cq Hss
    simp only at HQ7
    generalize (ryC n ++ [bx, ix, sx]) = cs at *
    have Hsz : Hid ((Tryz.prog.info? 73).map (·.size) = some cs.length) := by unfold Hid; rw [Hln.out]; exact sz73
    have Hsz2 : Hid ((Tryz.prog.info? 73).map (·.size) = some cs.toArray.size) := by unfold Hid; rw [List.size_toArray, Hln.out]; exact sz73
    have HTh2 : Hid (w5.there rp 0 cs.toArray.size) := by unfold Hid; rw [List.size_toArray, Hln.out]; exact HTh.out
    clear HTh
    go_wp2_with (first | (refine wpList_load_mid (by rfl) 73 _ (by rfl) rx 0 (by rfl) cs _ HRg.out Tryz.underlying73 rfl Hsz.out ?_) | (refine wpList_store_mid (by rfl) 73 _ _ (by rfl) rp 0 cs.toArray (by rfl) (by rfl) HTh2.out Hsz2.out H1c.out ?_))
    go_ret
    exact ⟨by simp, by simpa using HQ7.out⟩
  · have ey : (y == 45) = false := by simp; omega
    have Hy := hid hy
    clear h ss ht h1 h2 hz hp hr f0 bN HB hy
    go_enter Tryz.func11, Tryz.ntmps11
    go_wp2_with fail
    refine HP1.out.mono ?_
    rintro e w2 ⟨rfl, L2, o2, a2, k2, s2⟩
    have HQ2 := hid (HQ1.out.log (o2.less (fun _ hk => .inl hk)) a2 (Kp.less k2 (fun _ hk => .inl hk)))
    have HS2 := hid (s2.resolve_left Hy.out)
    have HR2 := hid (HRf.out _ HQ2.out.r)
    have hN2 : w2.cell? ⟨w.heap.size, 1, none⟩ = some (.int .i64 N) := (Kp.blk k2 HbN.out (.inr rfl)).cell 1
    clear HP1 o2 a2 k2 HRf s2
    go_wp2_with fail
    refine HR2.out.mono ?_
    rintro e w3 ⟨rfl, R2, d2, e2⟩
    obtain rfl := e2.resolve_left Hy.out
    obtain ⟨sv3, P3⟩ := HQ2.out.ref d2
    have HQ3 : Hid (PS G w0 w3 l p sp q rp n m) := ⟨bl, bt, T, D, L2, bv, iv, sv3, v, R2, S, P3, HS2.out, Hss.out, Hht.out, Hhz.out⟩
    clear HR2 d2 P3 HQ2 HQ1 e2
    go_wp2
    go_ret
    exact ⟨by simp, HQ3.out⟩

end Go.Proofs.YtehoiahgkbnjdaaGreat.Al
/- AllocPlays: step where it is asked what is in use. -/
namespace Go.Proofs.YtehoiahgkbnjdaaGreat.Al
open Go.RowKit Go.Shelf Dk Wl

set_option maxRecDepth 100000 in
set_option maxHeartbeats 8000000 in
theorem step_has {G : Nat → Prop} {w0 w : World} {l p bl bt sp q rp n m : Nat} {T : Nat → Sec} {D : Dsk} {L : Lg} {bv iv sv : Value} {v : Rv} {R S : Rs} (h : PSx G w0 w l p bl bt sp q n m T D L ⟨rp, bv, iv, sv⟩ v R S) (s : Sim n T L.st R) (ss : Sim n T [] S) (ht : T 0 = headB n) (hz : 0 ∉ R.stg) (h1 : 64 ≤ n) (h2 : n ≤ 1024) (N : Int) (hN0 : -9223372036854775808 ≤ N) (hN1 : N ≤ 9223372036854775807) :
    Calls Tryz.prog 11 #[pv l, pv sp, pv rp, pv q, .agg #[.int .i64 6, .int .i64 N]] w fun e w' => e = .returned (.bool true) ∧ PS G w0 w' l p sp q rp n m := by
  have hy := lay_b n h1 h2
  have lb := s.b.lb
  have li := s.b.li
  have f0 : Nw w (w.alloc (.cells #[.int .i64 6, .int .i64 N] 36)) := (Fr.refl _ w).alloc _
  have HQ1 := hid (h.nw f0)
  have hbB := s.b.inB h1 h2 N
  have hbI := s.b.inI N
  have HB := hid (Has_ai (h.o.more (.cells #[.int .i64 6, .int .i64 N] 36)) ⟨HQ1.out.s, .inl (.inr (.inl rfl))⟩ h.a h1 h2 N)
  rw [← hbB] at HB
  have HI := hid (fun W (o : OwnL (fun k => KX G sp q ⟨rp, bv, iv, sv⟩ v k ∨ k = w.heap.size) W l p bl bt D L) (x : Spc (fun k => KX G sp q ⟨rp, bv, iv, sv⟩ v k ∨ k = w.heap.size) W sp l (lay n)) => HasInode_ai o x h.a h1 h2 N)
  rw [← hbI] at HI
  have HbN : Hid (Blk (w.alloc (.cells #[.int .i64 6, .int .i64 N] 36)) w.heap.size 36 [.int .i64 6, .int .i64 N]) := Blk.new w 36 _
  have HE : Hid (∀ W, PSx G w0 W l p bl bt sp q n m T D L ⟨rp, bv, iv, sv⟩ v R S → PS G w0 W l p sp q rp n m) := fun W P => ⟨bl, bt, T, D, L, bv, iv, sv, v, R, S, P, s, ss, ht, hz⟩
  have HA := hid h.a
  obtain ⟨g, cap, rfl, hcell⟩ := row_form h.r.b (by omega)
  obtain ⟨g2, cap2, rfl, hcell2⟩ := row_form h.r.i (by omega)
  have hblk : 0 < R.blk.length ∧ R.blk.length ≤ 1024 := by omega
  have hino : 0 < R.ino.length ∧ R.ino.length ≤ 1024 := by omega
  have hda : 0 < (lay n).da ∧ (lay n).da ≤ 1024 := by omega
  have Hz : Hid ((N < ((lay n).da : Int) ∧ R.inB n N = false) ∨ ∃ j : Nat, N = ((lay n).da : Int) + (j : Int) ∧ ((R.blk.length ≤ j ∧ R.inB n N = false) ∨ ∃ hj : j < R.blk.length, R.inB n N = R.blk[j])) := by
    unfold Hid
    by_cases c1 : N < ((lay n).da : Int)
    · refine .inl ⟨c1, ?_⟩
      unfold Rs.inB; simp; intro; omega
    · obtain ⟨j, hj⟩ := Int.eq_ofNat_of_zero_le (show 0 ≤ N - ((lay n).da : Int) by omega)
      have e : (N - ((lay n).da : Int)).toNat = j := by omega
      refine .inr ⟨j, by omega, ?_⟩
      by_cases c2 : j < R.blk.length
      · refine .inr ⟨c2, ?_⟩
        unfold Rs.inB
        rw [e, List.getD_eq_getElem?_getD, List.getElem?_eq_getElem c2]
        have : ((lay n).da : Int) ≤ N := by omega
        simp [this]
      · refine .inl ⟨by omega, ?_⟩
        unfold Rs.inB
        rw [e, List.getD_eq_getElem?_getD, List.getElem?_eq_none (by omega)]
        simp
  have Hv : Hid ((N < 1 ∧ R.inI N = false) ∨ ∃ j : Nat, N = (j : Int) ∧ 1 ≤ N ∧ ((R.ino.length ≤ j ∧ R.inI N = false) ∨ ∃ hj : j < R.ino.length, R.inI N = R.ino[j])) := by
    unfold Hid
    by_cases c1 : N < 1
    · refine .inl ⟨c1, ?_⟩
      unfold Rs.inI; simp; intro; omega
    · obtain ⟨j, hj⟩ := Int.eq_ofNat_of_zero_le (show 0 ≤ N by omega)
      have e : N.toNat = j := by omega
      refine .inr ⟨j, by omega, by omega, ?_⟩
      by_cases c2 : j < R.ino.length
      · refine .inr ⟨c2, ?_⟩
        unfold Rs.inI
        rw [e, List.getD_eq_getElem?_getD, List.getElem?_eq_getElem c2]
        have : 1 ≤ N := by omega
        simp [this]
      · refine .inl ⟨by omega, ?_⟩
        unfold Rs.inI
        rw [e, List.getD_eq_getElem?_getD, List.getElem?_eq_none (by omega)]
        simp
  have Hl : Hid (R.blk.length = R.blk.length) := rfl
  clear h s ss ht hz h1 h2 f0 hbB hbI hcell hcell2 hy lb li
  generalize hzz : R.inB n N = bz at *
  generalize hvv : R.inI N = bw at *
  clear hzz hvv
  go_enter Tryz.func11, Tryz.ntmps11
  go_wp2_with fail
  refine HB.out.mono ?_
  rintro e w2 ⟨rfl, o2, k2⟩
  have HQ2 := hid (HQ1.out.log (o2.less (fun _ hk => .inl hk)) HA.out (Kp.less k2 (fun _ hk => .inl hk)))
  have HO2 := hid o2
  have Hb2 := hid (Kp.blk k2 HbN.out (.inr rfl))
  have c1 : w2.cell? ⟨w.heap.size, 1, none⟩ = some (.int .i64 N) := Hb2.out.cell 1
  have HI2 := hid (HI.out _ o2 ⟨HQ2.out.s, .inl (.inr (.inl rfl))⟩)
  clear HB o2 k2 HQ1 HI HbN
  go_wp2_with fail
  refine HI2.out.mono ?_
  rintro e w3 ⟨rfl, o3, k3⟩
  have HQ3 := hid (HQ2.out.log (o3.less (fun _ hk => .inl hk)) HA.out (Kp.less k3 (fun _ hk => .inl hk)))
  have Hb3 := hid (Kp.blk k3 Hb2.out (.inr rfl))
  have HE3 : Hid (∀ W, Nw w3 W → PS G w0 W l p sp q rp n m) := fun W f => HE.out W (HQ3.out.nw f)
  have c1 : w3.cell? ⟨w.heap.size, 1, none⟩ = some (.int .i64 N) := Hb3.out.cell 1
  have c6 : w3.cell? ⟨rp, 6, none⟩ = some (.int .i64 ((lay n).da : Int)) := HQ3.out.r.h.cell 6
  have c7 : w3.cell? ⟨rp, 7, none⟩ = some (.slice (some ⟨g, 0, none⟩) R.blk.length cap) := HQ3.out.r.h.cell 7
  have c8 : w3.cell? ⟨rp, 8, none⟩ = some (.slice (some ⟨g2, 0, none⟩) R.ino.length cap2) := HQ3.out.r.h.cell 8
  have Hcell : Hid (∀ k, (hk : k < R.blk.length) → w3.cell? ⟨g, k, none⟩ = some (.bool R.blk[k])) := by
    intro k hk
    obtain ⟨g', cap', e', hc⟩ := row_form HQ3.out.r.b (by omega)
    simp only [Value.slice.injEq, Option.some.injEq, Addr.mk.injEq, true_and, and_true] at e'
    rw [e'.1]; exact hc k hk
  have Hcell2 : Hid (∀ k, (hk : k < R.ino.length) → w3.cell? ⟨g2, k, none⟩ = some (.bool R.ino[k])) := by
    intro k hk
    obtain ⟨g', cap', e', hc⟩ := row_form HQ3.out.r.i (by omega)
    simp only [Value.slice.injEq, Option.some.injEq, Addr.mk.injEq, true_and, and_true] at e'
    rw [e'.1]; exact hc k hk
  clear HI2 o3 k3 HQ2 HO2 Hb2 HQ3 Hb3 HA HE Hl
  have Hnw : Hid (∀ W, Nw w3 W → PS G w0 W l p sp q rp n m) := HE3.out
  clear HE3
  have hbz : (bz == bz) = true := by simp
  have hbw : (bw == bw) = true := by simp
  rcases Hv.out with ⟨hv1, hv2⟩ | ⟨i, rfl, hv0, ⟨hv1, hv2⟩ | ⟨hv1, hv2⟩⟩
  · have v1 : decide (N ≥ 1) = false := by simp; omega
    clear Hv
    rcases Hz.out with ⟨hz1, hz2⟩ | ⟨j, hj, ⟨hz1, hz2⟩ | ⟨hz1, hz2⟩⟩
    · have z1 : decide (N ≥ ((lay n).da : Int)) = false := by simp; omega
      subst hz2 hv2
      clear hz1 Hz Hcell Hcell2 hv1
      go_wp2_with fail
      go_quiet (fail)
      go_wp2_with fail
      go_quiet (fail)
      go_wp2_with fail
      go_quiet (fail)
      go_wp2
      go_ret
      exact ⟨by simp, Hnw.out _ ⟨rfl, rfl, rfl, Nat.le_refl _, fun _ _ _ => rfl⟩⟩
    · exact absurd hj (by omega)
    · exact absurd hj (by omega)
  · have v1 : (i : Int) ≥ 1 := by omega
    have v2 : decide ((i : Int) < (R.ino.length : Int)) = false := by simp; omega
    have v2' : decide (i < R.ino.length) = false := by simp; omega
    clear hv0 hv1 Hv
    rcases Hz.out with ⟨hz1, hz2⟩ | ⟨j, hj, ⟨hz1, hz2⟩ | ⟨hz1, hz2⟩⟩
    · have z1 : decide ((i : Int) ≥ ((lay n).da : Int)) = false := by simp; omega
      have z1' : decide ((lay n).da ≤ i) = false := by simp; omega
      subst hz2 hv2
      clear hz1 Hz Hcell Hcell2
      go_wp2_with fail
      go_quiet (fail)
      go_wp2_with fail
      go_quiet (fail)
      go_wp2_with fail
      go_quiet (fail)
      go_wp2
      go_ret
      exact ⟨by simp, Hnw.out _ ⟨rfl, rfl, rfl, Nat.le_refl _, fun _ _ _ => rfl⟩⟩
    · have z1 : (i : Int) ≥ ((lay n).da : Int) := by omega
      have z2 : Hid ((i : Int) - ((lay n).da : Int) = (j : Int)) := by unfold Hid; omega
      have z3 : decide ((j : Int) < (R.blk.length : Int)) = false := by simp; omega
      have z3' : decide (j < R.blk.length) = false := by simp; omega
      subst hz2 hv2
      clear hz1 Hz Hcell Hcell2 hj
      go_wp2_with fail
      go_quiet (fail)
      rw [z2.out]
      go_wp2_with fail
      go_quiet (fail)
      go_wp2_with fail
      go_quiet (fail)
      go_wp2
      go_ret
      exact ⟨by simp, Hnw.out _ ⟨rfl, rfl, rfl, Nat.le_refl _, fun _ _ _ => rfl⟩⟩
    · have z1 : (i : Int) ≥ ((lay n).da : Int) := by omega
      have z2 : Hid ((i : Int) - ((lay n).da : Int) = (j : Int)) := by unfold Hid; omega
      have z3 : (j : Int) < (R.blk.length : Int) := by omega
      have z4 : (0 : Int) ≤ (j : Int) := Int.natCast_nonneg _
      have cg := Hcell.out j hz1
      rw [← hz2] at cg
      subst hv2
      clear hz1 Hz Hcell Hcell2 hj hz2
      go_wp2_with fail
      go_quiet (fail)
      rw [z2.out]
      go_wp2_with fail
      go_quiet (fail)
      go_wp2_with fail
      go_quiet (fail)
      go_wp2
      go_ret
      exact ⟨by simp, Hnw.out _ ⟨rfl, rfl, rfl, Nat.le_refl _, fun _ _ _ => rfl⟩⟩
  · have v1 : (i : Int) ≥ 1 := by omega
    have v2 : (i : Int) < (R.ino.length : Int) := by omega
    have v3 : (0 : Int) ≤ (i : Int) := Int.natCast_nonneg _
    have cg2 := Hcell2.out i hv1
    rw [← hv2] at cg2
    clear hv0 hv1 Hv hv2
    rcases Hz.out with ⟨hz1, hz2⟩ | ⟨j, hj, ⟨hz1, hz2⟩ | ⟨hz1, hz2⟩⟩
    · have z1 : decide ((i : Int) ≥ ((lay n).da : Int)) = false := by simp; omega
      have z1' : decide ((lay n).da ≤ i) = false := by simp; omega
      subst hz2
      clear hz1 Hz Hcell Hcell2
      go_wp2_with fail
      go_quiet (fail)
      go_wp2_with fail
      go_quiet (fail)
      go_wp2_with fail
      go_quiet (fail)
      go_wp2
      go_ret
      exact ⟨by simp, Hnw.out _ ⟨rfl, rfl, rfl, Nat.le_refl _, fun _ _ _ => rfl⟩⟩
    · have z1 : (i : Int) ≥ ((lay n).da : Int) := by omega
      have z2 : Hid ((i : Int) - ((lay n).da : Int) = (j : Int)) := by unfold Hid; omega
      have z3 : decide ((j : Int) < (R.blk.length : Int)) = false := by simp; omega
      have z3' : decide (j < R.blk.length) = false := by simp; omega
      subst hz2
      clear hz1 Hz Hcell Hcell2 hj
      go_wp2_with fail
      go_quiet (fail)
      rw [z2.out]
      go_wp2_with fail
      go_quiet (fail)
      go_wp2_with fail
      go_quiet (fail)
      go_wp2
      go_ret
      exact ⟨by simp, Hnw.out _ ⟨rfl, rfl, rfl, Nat.le_refl _, fun _ _ _ => rfl⟩⟩
    · have z1 : (i : Int) ≥ ((lay n).da : Int) := by omega
      have z2 : Hid ((i : Int) - ((lay n).da : Int) = (j : Int)) := by unfold Hid; omega
      have z3 : (j : Int) < (R.blk.length : Int) := by omega
      have z4 : (0 : Int) ≤ (j : Int) := Int.natCast_nonneg _
      have cg := Hcell.out j hz1
      rw [← hz2] at cg
      clear hz1 Hz Hcell Hcell2 hj hz2
      go_wp2_with fail
      go_quiet (fail)
      rw [z2.out]
      go_wp2_with fail
      go_quiet (fail)
      go_wp2_with fail
      go_quiet (fail)
      go_wp2
      go_ret
      exact ⟨by simp, Hnw.out _ ⟨rfl, rfl, rfl, Nat.le_refl _, fun _ _ _ => rfl⟩⟩

end Go.Proofs.YtehoiahgkbnjdaaGreat.Al
/- AllocPlays: step, whatever is asked. -/
namespace Go.Proofs.YtehoiahgkbnjdaaGreat.Al
open Go.RowKit Go.Shelf Dk Wl

theorem stage_mem (R : Rs) (n a x : Nat) (h : x ∈ (R.stage n a).stg) : x ∈ R.stg ∨ x = a := by
  unfold Rs.stage at h
  split at h
  · exact .inl h
  · split at h
    · simpa using h
    · exact .inl h
theorem PS.le {G : Nat → Prop} {w0 wr : World} {l p sp q rp n m m' : Nat} (h : PS G w0 wr l p sp q rp n m) (hm : m' ≤ m) : PS G w0 wr l p sp q rp n m' := by
  obtain ⟨bl, bt, T, D, L, bv, iv, sv, v, R, S, P, x⟩ := h
  exact ⟨bl, bt, T, D, L, bv, iv, sv, v, R, S, { P with a := { P.a with sm := P.a.sm.le hm } }, x⟩
/-- The first that is not in use, or none. -/
theorem first_free : ∀ l : List Bool, (∀ k, (hk : k < l.length) → l[k] = true) ∨ ∃ i, ∃ hi : i < l.length, l[i] = false ∧ ∀ k, (hk : k < i) → l[k] = true
  | [] => .inl (fun k hk => by simp at hk)
  | b :: r => by
    cases b with
    | false => exact .inr ⟨0, by simp, rfl, fun k hk => by omega⟩
    | true =>
      rcases first_free r with h | ⟨i, hi, h1, h2⟩
      · refine .inl (fun k hk => ?_)
        cases k with
        | zero => rfl
        | succ k => exact h k (by simpa using hk)
      · refine .inr ⟨i + 1, by simp; omega, by simpa using h1, fun k hk => ?_⟩
        cases k with
        | zero => rfl
        | succ k => exact h2 k (by omega)

theorem step_any {G : Nat → Prop} {w0 w : World} {l p sp q rp n m : Nat} (h : PS G w0 w l p sp q rp n (m + 600)) (h1 : 64 ≤ n) (h2 : n ≤ 1024) (hm : 3000 ≤ m + 600) (K N : Int) (hN0 : -9223372036854775808 ≤ N) (hN1 : N ≤ 9223372036854775807) :
    Calls Tryz.prog 11 #[pv l, pv sp, pv rp, pv q, .agg #[.int .i64 K, .int .i64 N]] w fun e w' => e = .returned (.bool true) ∧ PS G w0 w' l p sp q rp n m := by
  obtain ⟨bl, bt, T, D, L, bv, iv, sv, v, R, S, P, s, ss, ht, hz⟩ := h
  have hy := lay_b n h1 h2
  have lb := s.b.lb
  have li := s.b.li
  have hll := lay_ll n h2
  have hst : R.stg.length ≤ 1000 := by rw [s.s.l]; have := cost_le P.a.c; omega
  have less : ∀ {Q : World → Prop}, (∀ w', Q w' → PS G w0 w' l p sp q rp n (m + 600)) → (Calls Tryz.prog 11 #[pv l, pv sp, pv rp, pv q, .agg #[.int .i64 K, .int .i64 N]] w fun e w' => e = .returned (.bool true) ∧ Q w') → Calls Tryz.prog 11 #[pv l, pv sp, pv rp, pv q, .agg #[.int .i64 K, .int .i64 N]] w fun e w' => e = .returned (.bool true) ∧ PS G w0 w' l p sp q rp n m := fun hQ hc => hc.mono (fun e w' ⟨he, hw⟩ => ⟨he, (hQ w' hw).le (by omega)⟩)
  by_cases k0 : K = 0
  · subst k0
    refine less (fun _ x => x) ?_
    rcases first_free R.blk with hall | ⟨i, hi, hf, hb⟩
    · exact step_do0 P ss ht h1 h2 N 0 47 R hz (fun W o x => Block_sim_none o x P.a h1 h2 s hall) (fun W r => (rtake_none r (by omega) hall (by omega)).mono (fun e w' ⟨he, hw⟩ => ⟨he, R, by rw [hw]; exact RDid.refl r, .inr rfl⟩))
    · have hB := fun W (o : OwnL (KX G sp q ⟨rp, bv, iv, sv⟩ v) W l p bl bt D L) (x : Spc (KX G sp q ⟨rp, bv, iv, sv⟩ v) W sp l (lay n)) => Block_sim_some o x P.a h1 h2 s i hi hf hb
      have hT := fun W (r : RRep W rp n bv iv sv R) => rtake_some r (by omega) hst h2 i hi hf hb (by omega)
      by_cases hc : R.canB n (lay n).mp = true ∧ (R.took n i).canB n ((lay n).da + i) = true
      · simp only [if_pos hc] at hB
        refine step_do0 P ss ht h1 h2 N (((lay n).da + i : Nat) : Int) 0 _ (fun hx => ?_) hB (fun W r => (hT W r).mono (fun e w' hw => ?_))
        · rcases stage_mem _ _ _ _ hx with hx | hx
          · rcases stage_mem R n (lay n).mp 0 hx with hx | hx
            · exact hz hx
            · omega
          · omega
        · unfold RTk at hw
          rw [if_pos hc.1, if_pos hc.2] at hw
          exact ⟨hw.1, _, hw.2, .inr rfl⟩
      · simp only [if_neg hc] at hB
        refine step_do0 P ss ht h1 h2 N 0 45 R hz hB (fun W r => (hT W r).mono (fun e w' hw => ?_))
        unfold RTk at hw
        by_cases c1 : R.canB n (lay n).mp = true
        · have c2 : ¬ (R.took n i).canB n ((lay n).da + i) = true := fun x => hc ⟨c1, x⟩
          rw [if_pos c1, if_neg c2] at hw
          exact ⟨hw.1, _, hw.2, .inl rfl⟩
        · rw [if_neg c1] at hw
          exact ⟨hw.1, _, hw.2, .inl rfl⟩
  by_cases k2 : K = 2
  · subst k2
    refine less (fun _ x => x) ?_
    rcases first_free R.ino with hall | ⟨i, hi, hf, hb⟩
    · exact step_do2 P ss ht h1 h2 N 0 47 R hz (fun W o x => Inode_sim_none o x P.a h1 h2 s hall) (fun W r => (rtakeI_none r (by omega) hall (by omega)).mono (fun e w' ⟨he, hw⟩ => ⟨he, R, by rw [hw]; exact RDid.refl r, .inr rfl⟩))
    · have hB := fun W (o : OwnL (KX G sp q ⟨rp, bv, iv, sv⟩ v) W l p bl bt D L) (x : Spc (KX G sp q ⟨rp, bv, iv, sv⟩ v) W sp l (lay n)) => Inode_sim_some o x P.a h1 h2 s i hi hf hb
      have hT := fun W (r : RRep W rp n bv iv sv R) => rtakeI_some r (by omega) hst h2 i hi hf hb (by omega)
      by_cases hc : R.canB n (lay n).nd = true ∧ (R.tookI n i).canB n ((lay n).tb + i / 4) = true
      · simp only [if_pos hc] at hB
        refine step_do2 P ss ht h1 h2 N (i : Int) 0 _ (fun hx => ?_) hB (fun W r => (hT W r).mono (fun e w' hw => ?_))
        · rcases stage_mem _ _ _ _ hx with hx | hx
          · rcases stage_mem R n (lay n).nd 0 hx with hx | hx
            · exact hz hx
            · omega
          · omega
        · unfold RTkI at hw
          rw [if_pos hc.1, if_pos hc.2] at hw
          exact ⟨hw.1, _, hw.2, .inr rfl⟩
      · simp only [if_neg hc] at hB
        refine step_do2 P ss ht h1 h2 N 0 45 R hz hB (fun W r => (hT W r).mono (fun e w' hw => ?_))
        unfold RTkI at hw
        by_cases c1 : R.canB n (lay n).nd = true
        · have c2 : ¬ (R.tookI n i).canB n ((lay n).tb + i / 4) = true := fun x => hc ⟨c1, x⟩
          rw [if_pos c1, if_neg c2] at hw
          exact ⟨hw.1, _, hw.2, .inl rfl⟩
        · rw [if_neg c1] at hw
          exact ⟨hw.1, _, hw.2, .inl rfl⟩
  by_cases k1 : K = 1
  · subst k1
    refine less (fun _ x => x) ?_
    have hB := fun X W (o : OwnL X W l p bl bt D L) (x : Spc X W sp l (lay n)) => Free_sim o x P.a h1 h2 s N
    have hT := fun W (r : RRep W rp n bv iv sv R) => rfree_any r (by omega) hst h2 N hN0 hN1 (by omega)
    unfold RFrB at hT
    by_cases c0 : R.inB n N = true
    · simp only [if_pos c0] at hB hT
      by_cases c1 : R.canB n (lay n).mp = true
      · simp only [if_pos c1] at hB hT
        refine step_do1 P ss ht h1 h2 N 0 _ (fun hx => ?_) hB (fun W r => (hT W r).mono (fun e w' hw => ⟨hw.1, _, hw.2, .inr rfl⟩))
        rcases stage_mem R n (lay n).mp 0 hx with hx | hx
        · exact hz hx
        · omega
      · simp only [if_neg c1] at hB hT
        exact step_do1 P ss ht h1 h2 N 45 R hz hB (fun W r => (hT W r).mono (fun e w' hw => ⟨hw.1, _, hw.2, .inl rfl⟩))
    · simp only [if_neg c0] at hB hT
      exact step_do1 P ss ht h1 h2 N 48 R hz hB (fun W r => (hT W r).mono (fun e w' hw => ⟨hw.1, _, hw.2, .inr rfl⟩))
  by_cases k3 : K = 3
  · subst k3
    refine less (fun _ x => x) ?_
    have hB := fun X W (o : OwnL X W l p bl bt D L) (x : Spc X W sp l (lay n)) => FreeInode_sim o x P.a h1 h2 s N
    have hT := fun W (r : RRep W rp n bv iv sv R) => rfreeI_any r (by omega) hst h2 N
    unfold RFrI at hT
    by_cases c0 : R.inI N = true
    · simp only [if_pos c0] at hB hT
      by_cases c1 : R.canB n (lay n).nd = true
      · simp only [if_pos c1] at hB hT
        refine step_do3 P ss ht h1 h2 N 0 _ (fun hx => ?_) hB (fun W r => (hT W r).mono (fun e w' hw => ⟨hw.1, _, hw.2, .inr rfl⟩))
        rcases stage_mem R n (lay n).nd 0 hx with hx | hx
        · exact hz hx
        · omega
      · simp only [if_neg c1] at hB hT
        exact step_do3 P ss ht h1 h2 N 45 R hz hB (fun W r => (hT W r).mono (fun e w' hw => ⟨hw.1, _, hw.2, .inl rfl⟩))
    · simp only [if_neg c0] at hB hT
      exact step_do3 P ss ht h1 h2 N 49 R hz hB (fun W r => (hT W r).mono (fun e w' hw => ⟨hw.1, _, hw.2, .inr rfl⟩))
  by_cases k4 : K = 4
  · subst k4
    exact step_commit P s ht hz h1 h2 hm N
  by_cases k5 : K = 5
  · subst k5
    exact less (fun _ x => x) (step_drop P ss ht h1 h2 N)
  by_cases k6 : K = 6
  · subst k6
    exact less (fun _ x => x) (step_has P s ss ht hz h1 h2 N hN0 hN1)
  · refine less (fun w' hw => ?_) (step_count (q := q) P.o P.spc P.a h1 h2 s P.r (fun k hk => .inr (.inr (.inr (.inl hk)))) K N (by omega))
    exact ⟨bl, bt, T, D, L, bv, iv, sv, v, R, S, P.log hw.1 P.a hw.2, s, ss, ht, hz⟩

end Go.Proofs.YtehoiahgkbnjdaaGreat.Al
