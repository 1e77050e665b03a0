/- The contract of the law's copied. -/
import Derived.Test.YtcpeebkfnnkjnaaDoorUsh
namespace Go.Proofs.YtcpeebkfnnkjnaaDoor.Tr
open Go.RowKit Go.Maps

theorem take_next {α : Type} (l : List α) (i : Nat) (h : i < l.length) : l.take (i + 1) = l.take i ++ [l[i]] := List.take_succ_eq_append_getElem h
/-- A list's front in memory of its own. -/
theorem front_own {W : World} {B n cap : Nat} {ad : Option Addr} {ns more : List Nm} (h : W.ownsRow B 9 1 (.slice ad n cap) (ns ++ more).length (strC (ns ++ more))) : Strs W ad ns ∧ Lw W B ad ns.length ∧ n = (ns ++ more).length ∧ n ≤ cap := by
  rcases h.2 with ⟨e, h0⟩ | ⟨g, c, cur, e, hb, hg, hnc, _, hcs, ht⟩
  · cases e
    have : ns = [] := by simp at h0; exact h0.1
    subst this
    exact ⟨strs_none _ _, (fun h => by simp at h), h0.symm, Nat.zero_le _⟩
  · cases e
    refine ⟨fun hne => ⟨g, 0, rfl, fun i hi => ?_⟩, fun _ => ⟨g, cur, rfl, hb, hg, by rw [List.length_append] at hnc; omega⟩, rfl, hnc⟩
    have hne2 : strC (ns ++ more) ≠ [] := fun e => hne (by simp [strC] at e; exact e.1)
    obtain ⟨g', c', e', _, hc⟩ := own_cell h hne2
    cases e'
    rw [Nat.zero_add]
    refine hc i _ ?_
    unfold strC
    rw [List.map_append, List.getElem?_append_left (by simpa using hi)]
    simp [hi]
def CoPost (w : World) (l : List Ut) (e : Ending) (w' : World) : Prop := Fr (fun _ => False) w w' ∧ ∃ v X, e = .returned v ∧ Ot w.heap.size w' l v X

set_option maxRecDepth 100000 in
set_option maxHeartbeats 8000000 in
theorem copied_any (w0 w : World) (e0 : Env w0 w) (l : List Ut) (ad : Option Addr) (cap : Nat) (hU : Us w0 w l ad) (hl : l.length ≤ 2000) (hS : ∀ u ∈ l, u.r.length ≤ 2000 ∧ u.a.length ≤ 2000) :
    Calls Tryd.prog 10 #[.slice ad l.length cap] w fun e w' => CoPost w l e w' := by
  have HU := hid hU
  have HE0 := hid e0
  have HS := hid hS
  clear hU e0 hS
  go_enter Tryd.func10, Tryd.ntmps10
  go_wp2_with fail
  go_loopw [3, 4] (fun tv iv wr => ∃ (i : Nat) (X : List Uv), i ≤ l.length ∧ iv = .int .i64 (i : Int) ∧ Ot w.heap.size wr (l.take i) tv X ∧ Fr (fun _ => False) w wr) (fun _ iv _ => l.length - (intOf iv).toNat)
  case atStart => exact ⟨0, [], Nat.zero_le _, rfl, ot_none _ _, Fr.refl _ _⟩
  case round =>
    obtain ⟨i, X, hi, rfl, hO, hF⟩ := hrel
    obtain ⟨ta, tc, hv⟩ := own_len hO.own
    subst hv
    have HO := hid hO
    have HF := hid hF
    have hXl : X.length ≤ 2000 := by rw [hO.row.1]; simp; omega
    clear hO hF
    by_cases hlt : i < l.length
    · have hi1 : (i : Int) < ((l.length : Nat) : Int) := by omega
      have hi0 : (0 : Int) ≤ (i : Int) := Int.natCast_nonneg _
      obtain ⟨bb, bo, rfl⟩ := HU.out.some hlt
      obtain ⟨y, y1, y2⟩ := HU.out.get i hlt
      obtain ⟨k0, k1, k2, k3⟩ := (y1.env (Env.of HF.out)).all
      have HY1 := hid y1
      have HK3 := hid k3
      have HBB : Hid (bb ≠ wr.heap.size) := fun e => by
        have hc := k0
        rw [e] at hc
        unfold World.cell? at hc
        simp at hc
      have HY2 := hid y2
      have hsz1 := HF.out.size
      have hrl := y2.rl
      have hal := y2.al
      obtain ⟨hbr, hba⟩ := HS.out _ (List.getElem_mem hlt)
      have HTk := hid (take_next l i hlt)
      generalize hu : l[i] = u at *
      clear y1 y2 hu
      have HSr := hid (HY2.out.r.env (HE0.out.trans (Env.of HF.out)))
      have HSa := hid (HY2.out.a.env (HE0.out.trans (Env.of HF.out)))
      obtain ⟨n, s, ra, rl, rc, aa, al, ac⟩ := y
      simp only at hrl hal HSr HSa
      subst hrl hal
      have HFb := hid (uFr wr ⟨n, s, ra, u.r.length, rc, aa, u.a.length, ac⟩)
      have HBb := hid (uBlk wr ⟨n, s, ra, u.r.length, rc, aa, u.a.length, ac⟩)
      have HO1 := hid (own_empty (uBox wr ⟨n, s, ra, u.r.length, rc, aa, u.a.length, ac⟩) 9 1)
      have HS1 := hid ((HSr.out.env (Env.of HFb.out)).env (Env.alloc _ (.cells #[] 9)))
      have HFe := hid (HFb.out.alloc (.cells #[] 9))
      simp only [uBox, Uv.cs] at *
      simp only [World.size_alloc] at HO1
      have HFbx := hid (HFb.out.alloc (.cells #[] 9))
      have HBbx := hid (HBb.out.alloc (.cells #[] 9))
      go_wp2_with (at_builtin; refine Hid.out ?_)
      refine wpList_app_S (by rfl) _ _ (by rfl) (wr.heap.size + 1) _ [] u.r ra rc (by rfl) (by rfl) HO1.out HS1.out (by simp) (by simp; omega) ?_
      intro v1 W1 o1 g1 _
      obtain ⟨a1, c1, hv1⟩ := own_len o1
      subst hv1
      simp only [List.nil_append] at o1
      have HF1 : Hid (Fr (fun _ => False) wr W1) := HFbx.out.grown g1 (fun k hk => .inr (by cases hk; exact Nat.le_succ _))
      have HB1 : Hid (Blk W1 wr.heap.size 32 [.string ⟨n.toArray⟩, .string ⟨s.toArray⟩, .slice ra u.r.length rc, .slice aa u.a.length ac]) := HBbx.out.of_eq (g1.block _ HBbx.out.lt (fun e => by injection e with e; have e2 : wr.heap.size = wr.heap.size + 1 := e; omega))
      have HO1b := hid (own_alloc o1 (.cells #[.string ⟨#[33]⟩] 9))
      have HS1b := hid (strs_one (Blk.new W1 9 [.string ⟨#[33]⟩]) (x := [33]))
      have hbase1 : wr.heap.size + 1 ≤ (W1.alloc (.cells #[.string ⟨#[33]⟩] 9)).heap.size := by have := HB1.out.lt; simp; omega
      clear o1 g1 HO1 HS1 HFe HFbx HBbx HBb HFb k0 k1 k2 k3
      go_wp2_with (at_builtin; refine Hid.out ?_)
      refine wpList_app_S (by rfl) _ _ (by rfl) (wr.heap.size + 1) _ u.r [[33]] (some ⟨W1.heap.size, 0, none⟩) 1 (by rfl) (by rfl) HO1b.out HS1b.out hbase1 (by simp; omega) ?_
      intro v2 W2 o2 g2 _
      obtain ⟨a2, c2, hv2⟩ := own_len o2
      subst hv2
      have HF2 : Hid (Fr (fun _ => False) wr W2) := (HF1.out.alloc _).grown g2 (fun k hk => .inr (by have := (own_lt HO1b.out k hk).1; omega))
      have HB2 : Hid (Blk W2 wr.heap.size 32 [.string ⟨n.toArray⟩, .string ⟨s.toArray⟩, .slice ra u.r.length rc, .slice aa u.a.length ac]) := (HB1.out.alloc _).of_eq (g2.block _ (HB1.out.alloc _).lt (fun e => by have := (own_lt HO1b.out _ e.symm).1; omega))
      have HP2 := hid o2
      have HO3 := hid (own_empty W2 9 1)
      have HS3 := hid ((HSa.out.env (Env.of HF2.out)).env (Env.alloc _ (.cells #[] 9)))
      have e3 := (HB2.out.alloc (.cells #[] 9)).cell 3
      have e3b := HB2.out.cell 3
      simp only [List.getElem?_cons_zero, List.getElem?_cons_succ] at e3 e3b
      clear o2 g2 HO1b HS1b hbase1 HB1 HF1
      go_wp2_with (at_builtin; refine Hid.out ?_)
      refine wpList_app_S (by rfl) _ _ (by rfl) W2.heap.size _ [] u.a aa ac (by rfl) (by rfl) HO3.out HS3.out (by simp) (by simp; omega) ?_
      intro v3 W3 o3 g3 _
      obtain ⟨a3, c3, hv3⟩ := own_len o3
      subst hv3
      simp only [List.nil_append] at o3
      have HF3 : Hid (Fr (fun _ => False) W2 W3) := ((Fr.refl (fun _ => False) W2).alloc (.cells #[] 9)).grown g3 (fun k hk => .inr (by cases hk; exact Nat.le_refl _))
      have HO3b := hid (own_alloc o3 (.cells #[.string ⟨#[33]⟩] 9))
      have HS3b := hid (strs_one (Blk.new W3 9 [.string ⟨#[33]⟩]) (x := [33]))
      have hbase3 : W2.heap.size ≤ (W3.alloc (.cells #[.string ⟨#[33]⟩] 9)).heap.size := by have := HF3.out.size; simp; omega
      clear o3 g3 HO3 HS3 e3 e3b
      go_wp2_with (at_builtin; refine Hid.out ?_)
      refine wpList_app_S (by rfl) _ _ (by rfl) W2.heap.size _ u.a [[33]] (some ⟨W3.heap.size, 0, none⟩) 1 (by rfl) (by rfl) HO3b.out HS3b.out hbase3 (by simp; omega) ?_
      intro v4 W4 o4 g4 _
      obtain ⟨a4, c4, hv4⟩ := own_len o4
      subst hv4
      have HF4 : Hid (Fr (fun _ => False) W2 W4) := (HF3.out.alloc _).grown g4 (fun k hk => .inr (own_lt HO3b.out k hk).1)
      have HB4 := hid (HF4.out.blk HB2.out (fun h => h))
      have HP4 := hid o4
      have HP2b := hid (own_fr HP2.out HF4.out (fun _ _ h => h))
      have HFw := hid (HF2.out.trans HF4.out (fun _ h => h.elim))
      have HZ := hid HB2.out.lt
      clear o4 g4 HO3b HS3b hbase3 HF3 HP2 HB2
      have hq4 : ((u.r.length : Nat) : Int) ≤ (c2 : Int) := by have := (front_own HP2b.out).2.2.2; rw [List.length_append] at this; omega
      have hr4 : ((u.a.length : Nat) : Int) ≤ (c4 : Int) := by have := (front_own HP4.out).2.2.2; rw [List.length_append] at this; omega
      have hW2 : wr.heap.size < W2.heap.size := HZ.out
      have hne : ∀ k, wr.heap.size + 1 ≤ k → ((W4.setCell ⟨wr.heap.size, 2, none⟩ (.slice a2 u.r.length c2)).setCell ⟨wr.heap.size, 3, none⟩ (.slice a4 u.a.length c4)).heap[k]? = W4.heap[k]? := fun k hk => by
        rw [Below.heap_setCell _ _ _ k (by simp; omega), Below.heap_setCell _ _ _ k (by simp; omega)]
      have hP2c := owns_of_eq HP2b.out (w' := (W4.setCell ⟨wr.heap.size, 2, none⟩ (.slice a2 u.r.length c2)).setCell ⟨wr.heap.size, 3, none⟩ (.slice a4 u.a.length c4)) (fun k hk => hne k (own_lt HP2b.out k hk).1)
      have hP4c := owns_of_eq HP4.out (w' := (W4.setCell ⟨wr.heap.size, 2, none⟩ (.slice a2 u.r.length c2)).setCell ⟨wr.heap.size, 3, none⟩ (.slice a4 u.a.length c4)) (fun k hk => hne k (by have := (own_lt HP4.out k hk).1; omega))
      have HF5 : Hid (Fr (fun _ => False) wr ((W4.setCell ⟨wr.heap.size, 2, none⟩ (.slice a2 u.r.length c2)).setCell ⟨wr.heap.size, 3, none⟩ (.slice a4 u.a.length c4))) := (HFw.out.setCell (p := ⟨wr.heap.size, 2, none⟩) (.inr (Nat.le_refl _)) _).setCell (p := ⟨wr.heap.size, 3, none⟩) (.inr (Nat.le_refl _)) _
      have HB5 : Hid (Blk ((W4.setCell ⟨wr.heap.size, 2, none⟩ (.slice a2 u.r.length c2)).setCell ⟨wr.heap.size, 3, none⟩ (.slice a4 u.a.length c4)) wr.heap.size 32 (Uv.cs ⟨n, s, a2, u.r.length, c2, a4, u.a.length, c4⟩)) := (HB4.out.setCell 2 _).setCell 3 _
      obtain ⟨q1, q2, _, _⟩ := front_own hP2c
      obtain ⟨r1, r2, _, _⟩ := front_own hP4c
      have HUi : Hid (UIn ((W4.setCell ⟨wr.heap.size, 2, none⟩ (.slice a2 u.r.length c2)).setCell ⟨wr.heap.size, 3, none⟩ (.slice a4 u.a.length c4)) u ⟨n, s, a2, u.r.length, c2, a4, u.a.length, c4⟩) := ⟨HY2.out.n, HY2.out.s, rfl, rfl, q1, r1, HY2.out.ok⟩
      have HLw : Hid (Lw ((W4.setCell ⟨wr.heap.size, 2, none⟩ (.slice a2 u.r.length c2)).setCell ⟨wr.heap.size, 3, none⟩ (.slice a4 u.a.length c4)) w.heap.size a2 u.r.length ∧ Lw ((W4.setCell ⟨wr.heap.size, 2, none⟩ (.slice a2 u.r.length c2)).setCell ⟨wr.heap.size, 3, none⟩ (.slice a4 u.a.length c4)) w.heap.size a4 u.a.length) := ⟨q2.down (by omega), r2.down (by omega)⟩
      obtain ⟨k0, k1, k2, k3⟩ := (HY1.out.env (Env.of (HF.out.trans HFw.out (fun _ h => h.elim)))).all
      have hbb : bb ≠ wr.heap.size := HBB.out
      have k3' : (W4.setCell ⟨wr.heap.size, 2, none⟩ (.slice a2 u.r.length c2)).cell? ⟨bb, bo + i * 4 + 3, none⟩ = some (.slice aa u.a.length ac) := by
        have := (Env.of (HFw.out.setCell (p := ⟨wr.heap.size, 2, none⟩) (.inr (Nat.le_refl _)) (.slice a2 u.r.length c2))).cell (HK3.out)
        exact this
      obtain ⟨b0, b1, b2, b3⟩ := Blk.fourU (x := ⟨n, s, ra, u.r.length, rc, aa, u.a.length, ac⟩) HB4.out
      have z2 := HB4.out.frozen 2
      have z3 := HB4.out.frozen 3
      clear q1 q2 r1 r2 hP2c hP4c hne HP2b HP4
      generalize hW5 : (W4.setCell ⟨wr.heap.size, 2, none⟩ (.slice a2 u.r.length c2)).setCell ⟨wr.heap.size, 3, none⟩ (.slice a4 u.a.length c4) = W5 at *
      obtain ⟨d0, d1, d2, d3⟩ := HB5.out.fourU
      have HBx := hid (uBlk W5 ⟨n, s, a2, u.r.length, c2, a4, u.a.length, c4⟩)
      have HFx := hid (HF5.out.trans (uFr W5 ⟨n, s, a2, u.r.length, c2, a4, u.a.length, c4⟩) (fun _ h => h.elim))
      have HOw := hid (HO.out.fr HFx.out)
      have HUx := hid (HUi.out.env (Env.of (uFr W5 ⟨n, s, a2, u.r.length, c2, a4, u.a.length, c4⟩)))
      have HLx : Hid (Lw (uBox W5 ⟨n, s, a2, u.r.length, c2, a4, u.a.length, c4⟩) w.heap.size a2 u.r.length ∧ Lw (uBox W5 ⟨n, s, a2, u.r.length, c2, a4, u.a.length, c4⟩) w.heap.size a4 u.a.length) := ⟨HLw.out.1.fr (uFr W5 _) (fun _ h => h.elim), HLw.out.2.fr (uFr W5 _) (fun _ h => h.elim)⟩
      have hbase : w.heap.size ≤ (uBox W5 ⟨n, s, a2, u.r.length, c2, a4, u.a.length, c4⟩).heap.size := Nat.le_trans hsz1 HFx.out.size
      simp only [uBox, Uv.cs] at *
      go_wp2_with (at_builtin; refine Hid.out ?_)
      refine wpList_app_U (by rfl) _ _ (by rfl) w.heap.size _ X [⟨n, s, a2, u.r.length, c2, a4, u.a.length, c4⟩] (some ⟨W5.heap.size, 0, none⟩) 1 (by rfl) (by rfl) HOw.out.own (fun _ => ⟨W5.heap.size, 0, rfl, fun q u hq => by rw [Nat.zero_add, HBx.out.cell q]; simpa [flatU, Uv.cs] using hq⟩) hbase (by simp; omega) ?_
      intro v' W' ho hg _
      have HN2 : Hid (Ot w.heap.size W' (l.take (i + 1)) v' (X ++ [⟨n, s, a2, u.r.length, c2, a4, u.a.length, c4⟩])) := by
        unfold Hid
        rw [HTk.out]
        exact HOw.out.next HUx.out HLx.out ho hg
      have HF6 : Hid (Fr (fun _ => False) w W') := (HF.out.trans HFx.out (fun _ h => h.elim)).grown hg (fun k hk => .inr (own_lt HOw.out.own k hk).1)
      clear ho hg HOw HFx HBx hbase HO HF HUx HLx d0 d1 d2 d3
      go_wp2_with fail
      exact ⟨⟨i + 1, _, by omega, by go_num, HN2.out, HF6.out⟩, by simp [intOf]; omega⟩
    · have hi1 : ¬ ((i : Int) < ((l.length : Nat) : Int)) := by omega
      rw [List.take_of_length_le (by omega)] at HO
      go_wp2_with fail
      go_ret
      exact ⟨HF.out, _, X, rfl, HO.out⟩
end Go.Proofs.YtcpeebkfnnkjnaaDoor.Tr
