/- The contract of compare. -/
import Derived.Test.YtcpeebkfnnkjnaaDoorUsn
namespace Go.Proofs.YtcpeebkfnnkjnaaDoor.Tr
open Go.RowKit Go.Maps

/-- The state of compare. -/
structure CSt (w2 : World) (B c mo mf mr mg : Nat) (P : List (Nat × Nm)) (Wk : List Nm) (v : Value) (wr : World) : Prop where
  own : wr.ownsRow B 9 1 v Wk.length (strC Wk)
  gr : Gr wr mr P.length P
  gs : Gs wr mg []
  ch : Blk wr c 59 (chC mo mf mr mg)
  fr : Fr (fun _ => False) w2 wr
theorem CSt.step {w2 wr W : World} {B c mo mf mr mg : Nat} {P : List (Nat × Nm)} {Wk : List Nm} {v : Value} (h : CSt w2 B c mo mf mr mg P Wk v wr) (f : Fr (fun _ => False) wr W) : CSt w2 B c mo mf mr mg P Wk v W :=
  ⟨own_fr h.own f (fun _ _ h => h), h.gr.fr f (fun h => h) (fun _ _ h => h.elim), h.gs.fr f (fun h => h), f.blk h.ch (fun h => h), h.fr.trans f (fun _ h => h.elim)⟩
/-- One name more to be looked at. -/
theorem CSt.more {w2 wr W W' : World} {B c mo mf mr mg : Nat} {P : List (Nat × Nm)} {Wk : List Nm} {v v' : Value} {x : Nm} (h : CSt w2 B c mo mf mr mg P Wk v wr) (hB : c < B) (f : Fr (fun _ => False) wr W) (ho : W'.ownsRow B 9 1 v' (Wk ++ [x]).length (strC (Wk ++ [x]))) (hg : W.grownBy W' v.ownBlock) (hw : w2.heap.size ≤ B) : CSt w2 B c mo mf mr mg P (Wk ++ [x]) v' W' := by
  have h1 := h.step f
  have hf : Fr (fun k => v.ownBlock = some k) W W' := (Fr.refl _ W).grown hg (fun k hk => .inl hk)
  refine ⟨ho, h1.gr.fr hf (fun hk => ?_) (fun k cur hk h3 => ?_), h1.gs.fr hf (fun hk => ?_), hf.blk h1.ch (fun hk => ?_), h1.fr.trans hf (fun k hk => .inr ?_)⟩
  · obtain ⟨cur, hc⟩ := own_heap h1.own hk
    obtain ⟨es, cl, hm⟩ := h1.gr.heap
    rw [hm] at hc; cases hc
  · obtain ⟨cur2, hc⟩ := own_heap h1.own hk
    rw [hc] at h3; cases h3
  · obtain ⟨cur, hc⟩ := own_heap h1.own hk
    obtain ⟨es, cl, hm⟩ := h1.gs.heap
    rw [hm] at hc; cases hc
  · have := (own_lt h1.own _ hk).1; omega
  · have := (own_lt h1.own _ hk).1; omega
abbrev fourX (W : World) (b : Nat) (x : Uv) : Prop := W.cell? ⟨b, 0, none⟩ = some (.string ⟨x.n.toArray⟩) ∧ W.cell? ⟨b, 1, none⟩ = some (.string ⟨x.s.toArray⟩) ∧ W.cell? ⟨b, 2, none⟩ = some (.slice x.ra x.rl x.rc) ∧ W.cell? ⟨b, 3, none⟩ = some (.slice x.aa x.al x.ac)
def CmpPost (w : World) (O F : List Ut) (e : Ending) (w' : World) : Prop := ∃ c mo mf mr mg G, e = .returned (.pointer (some ⟨c, 0, none⟩)) ∧ w.heap.size ≤ c ∧ Blk w' c 59 (chC mo mf mr mg) ∧ Pm w' mo O ∧ Pm w' mf F ∧ Gs w' mg G ∧ (∀ x, x ∈ G ↔ Gone O F x) ∧ Fr (fun _ => False) w w'
/-- One place more under a name. -/
theorem CSt.put {w2 wr W' : World} {B c mo mf mr mg : Nat} {P : List (Nat × Nm)} {p : Nat × Nm} {Wk : List Nm} {v vv : Value} {zs : List Int} (h : CSt w2 B c mo mf mr mg P Wk v wr) (hmr : w2.heap.size ≤ mr) (hmm : mg ≠ mr) (ho : wr.ownsInts (mr + 1) 3 .i64 vv zs) (f : Fr (fun k => vv.ownBlock = some k ∨ k = mr) wr W') (hg : Gr W' mr (P ++ [p]).length (P ++ [p])) : CSt w2 B c mo mf mr mg (P ++ [p]) Wk v W' := by
  obtain ⟨es, cl, hm⟩ := h.gr.heap
  refine ⟨own_fr h.own f (fun k hk hk2 => ?_), hg, h.gs.fr f (fun hk => ?_), f.blk h.ch (fun hk => ?_), h.fr.trans f (fun k hk => .inr ?_)⟩
  · obtain ⟨cur, hc⟩ := own_heap h.own hk
    rcases hk2 with hk2 | hk2
    · obtain ⟨cur2, hc2⟩ := own_heap ho.1 hk2
      rw [hc] at hc2; cases hc2
    · rw [hk2, hm] at hc; cases hc
  · rcases hk with hk | hk
    · obtain ⟨cur, hc⟩ := own_heap ho.1 hk
      obtain ⟨es2, cl2, hm2⟩ := h.gs.heap
      rw [hm2] at hc; cases hc
    · exact hmm hk
  · have h2 : wr.heap[c]? = some (.cells (chC mo mf mr mg).toArray 59 (0, 0)) := h.ch
    rcases hk with hk | hk
    · obtain ⟨cur, hc⟩ := own_heap ho.1 hk
      rw [h2] at hc; cases hc
    · rw [hk, hm] at h2; cases h2
  · rcases hk with hk | hk
    · have := (own_lt ho.1 _ hk).1; omega
    · omega
theorem us_ok {w0 w : World} {U : List Ut} {ad : Option Addr} (h : Us w0 w U ad) : ∀ u ∈ U, u.ok := fun u hu => by
  obtain ⟨i, hi, rfl⟩ := List.getElem_of_mem hu
  obtain ⟨b, o, rfl⟩ := h.some hi
  obtain ⟨y, _, y2⟩ := h.get i hi
  exact y2.ok
theorem fi_mem {l : List Ut} {x : Nm} {i : Nat} (h : fi l x = some i) : ∃ u ∈ l, u.n = x := by
  obtain ⟨h1, h2, _⟩ := fi_some.1 h
  exact ⟨_, List.getElem_mem h1, h2⟩
theorem gone_len {O F : List Ut} {x : Nm} (h : Gone O F x) (hO : ∀ u ∈ O, u.ok) (hF : ∀ u ∈ F, u.ok) : x.length ≤ lim := by
  have key : ∀ {l : List Ut} {i : Nat}, (∀ u ∈ l, u.ok) → fi l x = some i → x.length ≤ lim := fun hl hi => by
    obtain ⟨u, hu, rfl⟩ := fi_mem hi
    exact (hl u hu).n
  cases h with
  | base h1 h2 =>
    unfold knB at h1
    cases ho : fi O x with
    | some i => exact key hO ho
    | none =>
      rw [ho] at h1
      cases hf : fi F x with
      | some j => exact key hF hf
      | none => rw [hf] at h1; cases h1
  | step _ ho _ _ => exact key hO ho
theorem info3 : (Tryd.prog.info? 3).map (fun i => (i.zero, i.size, i.bytes)) = some (some (.int .i64 0), 1, 8) := by kernel_rfl
theorem grown_of_fr {w w' : World} {v : Value} (f : Fr (fun k => v.ownBlock = some k) w w') : w.grownBy w' v.ownBlock := ⟨f.os, f.tape, f.output, f.size, fun i hi hne => f.block i hi (fun h => hne h.symm)⟩
theorem changeU : (Tryd.prog.info? 59).map (·.size) = some 4 := by kernel_rfl

set_option maxRecDepth 100000 in
set_option maxHeartbeats 16000000 in
theorem compare_any (w0 w : World) (e0 : Env w0 w) (O F : List Ut) (ad bd : Option Addr) (co cf : Nat) (hO : Us w0 w O ad) (hF : Us w0 w F bd) (hOl : O.length ≤ 2000) (hFl : F.length ≤ 2000) (hRq : rqs O O.length ≤ 2000) :
    Calls Tryd.prog 28 #[.slice ad O.length co, .slice bd F.length cf] w fun e w' => CmpPost w O F e w' := by
  have hmm := @run_makeMap Tryd.prog
  have HO := hid hO
  have HF := hid hF
  have HE0 := hid e0
  have HP1 := hid (places_any w0 w O ad co hO (by omega))
  have HP2 := hid (fun (W : World) (f : Fr (fun _ => False) w W) => places_any w0 W F bd cf (hF.env (Env.of f)) (by omega))
  have HRq := hid hRq
  clear hO hF e0 hRq
  go_enter Tryd.func28, Tryd.ntmps28
  go_wp2_with fail
  refine HP1.out.mono ?_
  rintro e w1 ⟨mo, rfl, hPo, hmo, f1⟩
  have HPo := hid hPo
  have HF1 := hid f1
  have HP2' := hid (HP2.out w1 f1)
  clear hPo f1 HP1 HP2
  go_wp2_with fail
  refine HP2'.out.mono ?_
  rintro e w2 ⟨mf, rfl, hPf, hmf, f2⟩
  have HPf := hid hPf
  have HF2 := hid (HF1.out.trans f2 (fun _ h => h.elim))
  have HPo2 := hid (HPo.out.fr f2 (fun h => h))
  clear hPf f2 HP2' HPo HF1
  go_wp2_with fail
  have HS0 : Hid (CSt w2 (w2.heap.size + 1 + 1 + 1) (w2.heap.size + 1 + 1) mo mf w2.heap.size (w2.heap.size + 1) [] [] (.slice none 0 0) (((w2.alloc (.map #[] 0)).alloc (.map #[] 0)).alloc (.cells #[.map (some mo), .map (some mf), .map (some w2.heap.size), .map (some (w2.heap.size + 1))] 59))) := by
    refine ⟨World.ownsRow_nil _ _ _ _, (Gr.made w2).fr (((Fr.refl (fun _ => False) _).alloc _).alloc _) (fun h => h) (fun _ _ h => h.elim), ?_, ?_, (((Fr.refl (fun _ => False) w2).alloc _).alloc _).alloc _⟩
    · have := (Gs.made (w2.alloc (.map #[] 0))).fr ((Fr.refl (fun _ => False) _).alloc (.cells #[.map (some mo), .map (some mf), .map (some w2.heap.size), .map (some (w2.heap.size + 1))] 59)) (fun h => h)
      rwa [World.size_alloc] at this
    · have := Blk.new ((w2.alloc (.map #[] 0)).alloc (.map #[] 0)) 59 (chC mo mf w2.heap.size (w2.heap.size + 1))
      rwa [World.size_alloc, World.size_alloc] at this
  generalize ((w2.alloc (.map #[] 0)).alloc (.map #[] 0)).alloc (.cells #[.map (some mo), .map (some mf), .map (some w2.heap.size), .map (some (w2.heap.size + 1))] 59) = W5 at *
  generalize hcd : w2.heap.size + 1 + 1 = c at *
  generalize hmgd : w2.heap.size + 1 = mg at *
  generalize hmrd : w2.heap.size = mr at *
  have HNum := hid (And.intro hcd (And.intro hmgd hmrd))
  have hBw : Hid (w2.heap.size ≤ c + 1) := by unfold Hid; omega
  clear hcd hmgd hmrd hmm
  go_loopw [6, 27] (fun vv iv wr => ∃ i : Nat, i ≤ O.length ∧ iv = .int .i64 (i : Int) ∧ CSt w2 (c + 1) c mo mf mr mg (prs O F i) (wk1 O F i) vv wr) (fun _ iv _ => O.length - (intOf iv).toNat)
  case atStart => exact ⟨0, Nat.zero_le _, rfl, HS0.out⟩
  case round =>
    obtain ⟨i, hi, rfl, hS⟩ := hrel
    obtain ⟨va, vc, hv⟩ := own_len hS.own
    subst hv
    by_cases hlt : i < O.length
    · have hi1 : (i : Int) < ((O.length : Nat) : Int) := by omega
      have hi0 : (0 : Int) ≤ (i : Int) := Int.natCast_nonneg _
      have hFw := HF2.out.trans hS.fr (fun _ h => h.elim)
      obtain ⟨b, o, rfl⟩ := HO.out.some hlt
      obtain ⟨y, y1, y2⟩ := HO.out.get i hlt
      obtain ⟨k0, k1, k2, k3⟩ := (y1.env (Env.of hFw)).all
      have HSr := hid y2.r
      have HRx := hid y2.ok.rx
      have hrlim : O[i].r.length ≤ 140737488351232 := y2.ok.r
      have HRl : Hid (y.rl = O[i].r.length) := y2.rl
      have HY2 := hid (y2.env (HE0.out.trans (Env.of hFw)))
      have HYn : Hid (y.n = (atU O i).n) := by unfold Hid; rw [y2.n, atU_lt hlt]
      have hxl : y.n.length ≤ lim := by rw [y2.n]; exact y2.ok.n
      have HS1 := hid (hS.step (uFr wr y))
      have HBx := hid (uBlk wr y)
      obtain ⟨j, hj⟩ := fi_of_mem hlt
      have hjy : fi O y.n = some j := by rw [y2.n]; exact hj
      have HLo := hid (fun n => (pm_look (HPo2.out.fr HS1.out.fr (fun h => h)) hxl ((uBox wr y).drewN n) rfl))
      have HLf := hid (fun n => (pm_look (HPf.out.fr HS1.out.fr (fun h => h)) hxl ((uBox wr y).drewN n) rfl))
      rw [hjy] at HLo
      obtain ⟨c0, c1, c2, _⟩ := (show _ ∧ _ ∧ _ ∧ _ from ⟨HS1.out.ch.cell 0, HS1.out.ch.cell 1, HS1.out.ch.cell 2, HS1.out.ch.cell 3⟩)
      obtain ⟨d0, d1, d2, d3⟩ := HBx.out.fourU
      simp only [chC, List.getElem?_cons_zero, List.getElem?_cons_succ] at c0 c1 c2
      have hl1 := fun n => (HLo.out n).1
      have hl2 := fun n => (HLf.out n).2
      simp only [lkI] at hl1
      have HJy := hid hjy
      clear y1 y2 hS hFw hj hjy
      obtain ⟨n, s, ra, rl, rc, aa, al, ac⟩ := y
      simp only [uBox, Uv.cs] at *
      obtain ⟨rl', hrl'⟩ : ∃ x, x = O[i].r.length := ⟨_, rfl⟩
      have hrl : rl = O[i].r.length := HRl.out
      rw [← hrl'] at hrl
      clear HRl
      subst hrl
      have HRl := hid hrl'
      clear hrl'
      by_cases hji : j = i
      · subst hji
        have hs1 : ((j : Int) != (j : Int)) = false := by simp
        have HI1 : Hid (fi O (atU O j).n = some j) := by unfold Hid; rw [← HYn.out]; exact HJy.out
        go_wp2_with fail
        go_quiet (fail)
        have HS2 := hid (HS1.out.step ((Fr.refl _ _).drewN nq))
        have HY3 := hid (HY2.out.env (Env.of ((uFr wr ⟨n, s, ra, rl, rc, aa, al, ac⟩).drewN nq)))
        have HB3 := hid (((Fr.refl (fun _ => False) _).drewN nq).blk HBx.out (fun h => h))
        have HFw3 := hid (HF2.out.trans HS2.out.fr (fun _ h => h.elim))
        have hl3 := fun q => (pm_look (HPf.out.fr HS2.out.fr (fun h => h)) hxl (((wr.alloc (.cells #[.string ⟨n.toArray⟩, .string ⟨s.toArray⟩, .slice ra rl rc, .slice aa al ac] 32)).drewN nq).drewN q) rfl).2
        simp only [uBox, Uv.cs] at HS2 HY3 HB3 HFw3
        clear hl1 hl2 HS1 HY2 HBx HLo HLf c0 c1 c2 d0 d1 d2 d3 k0 k1 k2 k3
        generalize hW6 : (wr.alloc (.cells #[.string ⟨n.toArray⟩, .string ⟨s.toArray⟩, .slice ra rl rc, .slice aa al ac] 32)).drewN nq = W6 at *
        have hbl : wr.heap.size < W6.heap.size := HB3.out.lt
        clear hW6
        obtain ⟨c0, c1, c2, _⟩ := (show _ ∧ _ ∧ _ ∧ _ from ⟨HS2.out.ch.cell 0, HS2.out.ch.cell 1, HS2.out.ch.cell 2, HS2.out.ch.cell 3⟩)
        obtain ⟨d0, d1, d2, d3⟩ := Blk.fourU (x := ⟨n, s, ra, rl, rc, aa, al, ac⟩) HB3.out
        simp only [chC, List.getElem?_cons_zero, List.getElem?_cons_succ] at c0 c1 c2
        have hxg : n = (atU O j).n := HYn.out
        have HNg : Hid (∀ v' W W', Fr (fun _ => False) W6 W → smB O F (atU O j).n = false → W'.ownsRow (c + 1) 9 1 v' (wk1 O F j ++ [n]).length (strC (wk1 O F j ++ [n])) → W.grownBy W' (Value.slice va (wk1 O F j).length vc).ownBlock → CSt w2 (c + 1) c mo mf mr mg (prs O F (j + 1)) (wk1 O F (j + 1)) v' W') := fun v' W W' f hsm ho hg => by
          rw [prs_succ, wk1_succ]
          have e1 : prsAt O F j = [] := by unfold prsAt; rw [if_neg]; rintro ⟨_, h⟩; rw [hsm] at h; cases h
          have e2 : wk1At O F j = [n] := by unfold wk1At; rw [if_pos ⟨HI1.out, hsm⟩, ← hxg]
          rw [e1, e2, List.append_nil]
          exact HS2.out.more (Nat.lt_succ_self c) f ho hg hBw.out
        have hWl : (wk1 O F j).length ≤ 2000 := Nat.le_trans (wk1_len O F j) (by omega)
        clear hxg
        cases hf : fi F n with
        | none =>
          have HSm : Hid (smB O F (atU O j).n = false) := by
            unfold Hid smB
            rw [← HYn.out, hf]
            cases fi O n <;> rfl
          rw [hf] at hl3
          simp only [lkI, Option.isSome_none] at hl3
          clear hf c0 c2 d1 d2 d3
          go_wp2_with fail
          go_quiet (fail)
          revert nq
          intro qa
          go_wp2_with fail
          go_quiet (fail)
          have HF7 : Hid (Fr (fun _ => False) W6 ((W6.drewN qa).drewN nq)) := ((Fr.refl _ _).drewN qa).drewN nq
          have HB7 := hid (HF7.out.blk HB3.out (fun h => h))
          have HO7 := hid (own_fr HS2.out.own HF7.out (fun _ _ h => h))
          have hbase : Hid (c + 1 ≤ ((W6.drewN qa).drewN nq).heap.size) := HS2.out.ch.lt
          generalize (W6.drewN qa).drewN nq = W7 at *
          clear hl3 c1 d0 HS2 HY3 HB3 HFw3
          obtain ⟨d0, _, _, _⟩ := Blk.fourU (x := ⟨n, s, ra, rl, rc, aa, al, ac⟩) HB7.out
          have HOa := hid (own_alloc HO7.out (.cells #[.string ⟨n.toArray⟩] 9))
          have HSn := hid (strs_new (W := W7) (x := n))
          have hbase2 : c + 1 ≤ (W7.alloc (.cells #[.string ⟨n.toArray⟩] 9)).heap.size := by have := hbase.out; simp; omega
          go_wp2_with (at_builtin; refine Hid.out ?_)
          refine wpList_app_S (by rfl) _ _ (by rfl) (c + 1) _ (wk1 O F j) [n] (some ⟨W7.heap.size, 0, none⟩) 1 (by rfl) (by rfl) HOa.out HSn.out hbase2 (by simp only [List.length_singleton]; omega) ?_
          intro v' W' ho hg _
          have HS8 := hid (HNg.out v' _ W' (HF7.out.alloc _) HSm.out ho hg)
          clear ho hg HOa HSn hbase2 d0 HB7 HO7 HNg
          go_wp2_with fail
          exact ⟨⟨j + 1, by omega, by go_num, HS8.out⟩, by simp [intOf]; omega⟩
        | some q =>
          have hq : q < F.length := fi_lt hf
          have hq1 : (q : Int) < ((F.length : Nat) : Int) := by omega
          have hq0 : (0 : Int) ≤ (q : Int) := Int.natCast_nonneg _
          have HSmE : Hid (smB O F (atU O j).n = decide (O[j] = F[q])) := by
            unfold Hid smB
            rw [HI1.out, ← HYn.out, hf]
            simp only [atU_lt hlt, atU_lt hq]
          obtain ⟨fb, fo, rfl⟩ := HF.out.some hq
          obtain ⟨z, z1, z2⟩ := HF.out.get q hq
          rw [hf] at hl3
          simp only [lkI, Option.isSome_some] at hl3
          have HZ1 := hid (z1.env (Env.of HFw3.out))
          have HZ2 := hid (z2.env (HE0.out.trans (Env.of HFw3.out)))
          clear hf z1 z2
          go_wp2_with fail
          go_quiet (fail)
          have HF7 : Hid (Fr (fun _ => False) W6 (W6.drewN nq)) := (Fr.refl _ _).drewN nq
          have HB7 := hid (HF7.out.blk HB3.out (fun h => h))
          have HO7 := hid (own_fr HS2.out.own HF7.out (fun _ _ h => h))
          have HZ7 := hid (HZ1.out.env (Env.of HF7.out))
          have HU7 := hid (HZ2.out.env (Env.of HF7.out))
          have HY7 := hid (HY3.out.env (Env.of HF7.out))
          have hbase : Hid (c + 1 ≤ (W6.drewN nq).heap.size) := HS2.out.ch.lt
          generalize hW7 : W6.drewN nq = W7 at *
          clear hl3 c0 c1 c2 d0 d1 d2 d3 HB3 HFw3 HZ1 HZ2 HY3 hW7
          have HK : Hid (∀ W', Fr (fun _ => False) W7 W' → fourX W' wr.heap.size ⟨n, s, ra, rl, rc, aa, al, ac⟩ ∧ fourB W' fb (fo + q * 4) z) := fun W' hf => ⟨Blk.fourU (x := ⟨n, s, ra, rl, rc, aa, al, ac⟩) (hf.blk HB7.out (fun h => h)), (HZ7.out.env (Env.of hf)).all⟩
          have HC := hid (usame_any W7.drew O[j] F[q] ⟨n, s, ra, rl, rc, aa, al, ac⟩ z (HY7.out.env (Env.of (Fr.refl _ _).drew)) (HU7.out.env (Env.of (Fr.refl _ _).drew)))
          by_cases hp : O[j] = F[q]
          · rw [decide_eq_true hp] at HC HSmE
            clear hp
            go_wp2_with fail
            go_region_held3 (fun W' => fourX W' wr.heap.size ⟨n, s, ra, rl, rc, aa, al, ac⟩ ∧ fourB W' fb (fo + q * 4) z)
              (first | exact HK.out _ (Fr.refl _ _).drew | exact HK.out _ F1.out)
              ((go_at_call 39; refine HC.out.mono ?_; rintro e w8 ⟨rfl, f8⟩; have F1 : Hid (Fr (fun _ => False) W7 w8) := (Fr.refl _ W7).drew.trans f8 (fun _ h => h.elim)))
            have HF8 := hid (HF7.out.trans F1.out (fun _ h => h.elim))
            have HB8 := hid (F1.out.blk HB7.out (fun h => h))
            have HS8 := hid (HS2.out.step HF8.out)
            clear f8 F1 HK HC HZ7 HU7 HY7 HB7 HO7 HNg HS2 HF7
            obtain ⟨d0, d1, d2, d3⟩ := Blk.fourU (x := ⟨n, s, ra, rl, rc, aa, al, ac⟩) HB8.out
            have HPre : Hid (prs O F (j + 1) = prs O F j ++ O[j].r.map (fun y => (j, y)) ∧ wk1 O F (j + 1) = wk1 O F j) := by
              unfold Hid
              rw [prs_succ, wk1_succ]
              have e1 : prsAt O F j = O[j].r.map (fun y => (j, y)) := by unfold prsAt; rw [if_pos ⟨HI1.out, HSmE.out⟩, atU_lt hlt]
              have e2 : wk1At O F j = [] := by unfold wk1At; rw [if_neg]; rintro ⟨_, h⟩; rw [HSmE.out] at h; cases h
              rw [e1, e2, List.append_nil]
              exact ⟨rfl, rfl⟩
            have HPl : Hid ((prs O F j).length + O[j].r.length ≤ 2000) := by
              unfold Hid
              have h1 := prs_len O F j
              have h2 := rqs_succ O j
              have h3 := rqs_le O (show j + 1 ≤ O.length by omega)
              have h4 := HRq.out
              rw [atU_lt hlt] at h2
              omega
            clear HSmE HB8
            have hrl := HRl.out
            clear HRl
            generalize O[j].r = rs at *
            subst hrl
            go_wp2_with fail
            go_loopw [70] (fun kv wr => ∃ k : Nat, k ≤ rs.length ∧ kv = .int .i64 (k : Int) ∧ CSt w2 (c + 1) c mo mf mr mg (prs O F j ++ (rs.take k).map (fun y => (j, y))) (wk1 O F j) (.slice va (wk1 O F j).length vc) wr) (fun kv _ => rs.length - (intOf kv).toNat)
            case atStart => exact ⟨0, Nat.zero_le _, rfl, by simpa using HS8.out⟩
            case round =>
              obtain ⟨k, hk, rfl, hS⟩ := hrel
              by_cases hkl : k < rs.length
              · have hkl' : (k : Int) < ((rs.length : Nat) : Int) := by omega
                have hk0 : (0 : Int) ≤ (k : Int) := Int.natCast_nonneg _
                obtain ⟨nb, no, rfl, kn⟩ := (HSr.out.env (HE0.out.trans (Env.of (HF2.out.trans hS.fr (fun _ h => h.elim))))).at k hkl
                have hnl := HRx.out rs[k] (List.getElem_mem hkl)
                have HTk : Hid (prs O F j ++ (rs.take (k + 1)).map (fun y => (j, y)) = (prs O F j ++ (rs.take k).map (fun y => (j, y))) ++ [(j, rs[k])]) := by
                  unfold Hid
                  rw [List.take_succ_eq_append_getElem hkl, List.map_append, List.append_assoc]
                  rfl
                have hPb : (prs O F j ++ (rs.take k).map (fun y => (j, y))).length ≤ 2000 := by
                  have := HPl.out
                  rw [List.length_append, List.length_map, List.length_take]
                  omega
                generalize prs O F j ++ (rs.take k).map (fun y => (j, y)) = P at *
                generalize rs[k] = nm at *
                obtain ⟨D, hown, hT⟩ := hS.gr
                obtain ⟨v, zs, hlk, hat, hoi, hzl, hback⟩ := groups_look hown (by unfold maxLen; omega) hnl
                have hz : zs = ints (ofN P nm) := grD_of hoi (by rw [← hat]; exact (hT nm).symm)
                have HPut : Hid (∀ (w9 : World) (g9 cap9 : Nat) (W9 : World), W9.ownsInts (mr + 1) 3 .i64 (.slice (some ⟨g9, 0, none⟩) (zs.length + 1) cap9) (zs ++ [(j : Int)]) → w9.ownsGroups Tryd.prog 9 (mr + 1) 3 .i64 mr (P.length + 1) (D.put (.string nm) (rowDatum .i64 (.slice (some ⟨g9, 0, none⟩) (zs.length + 1) cap9) (zs ++ [(j : Int)]))) → Fr (fun k => v.ownBlock = some k ∨ k = mr) wr w9 → CSt w2 (c + 1) c mo mf mr mg (P ++ [(j, nm)]) (wk1 O F j) (.slice va (wk1 O F j).length vc) w9) := fun w9 g9 cap9 W9 ha hg f => by
                  have hnum := HNum.out
                  refine hS.put (by omega) (by omega) hoi f ?_
                  have := gr_add (i := j) hown hT ha (by rw [hz]; simp [ints]) hg
                  rwa [List.length_append]
                obtain ⟨va2, vc2, hv2⟩ := own_len hoi.1
                subst hv2
                have HOI := hid hoi
                have HBack := hid hback
                have hzb : zs.length ≤ 2000 := by omega
                have hzP : zs.length ≤ P.length := hzl
                have HK : Hid (∀ W', Fr (fun k => (Value.slice va2 zs.length vc2).ownBlock = some k ∨ k = mr) wr W' → W'.cell? ⟨c, 2, none⟩ = some (.map (some mr))) := fun W' f => by
                  have h2 : wr.heap[c]? = some (.cells (chC mo mf mr mg).toArray 59 (0, 0)) := hS.ch
                  have hcne : ¬ ((Value.slice va2 zs.length vc2).ownBlock = some c ∨ c = mr) := fun e => by
                    rcases e with e | e
                    · obtain ⟨cur, hc⟩ := own_heap hoi.1 e
                      rw [h2] at hc; cases hc
                    · obtain ⟨es, cl, hm⟩ := hS.gr.heap
                      rw [e, hm] at h2; cases h2
                  have := (f.blk hS.ch hcne).cell 2
                  simpa [chC] using this
                have hl1 := hlk wr.drew rfl
                have hl2 := hlk (wr.alloc (.cells #[.int .i64 (j : Int)] 3)).drew (Below.heap_alloc _ _ _ hS.gr.lt)
                have hbase : Hid (mr + 1 ≤ wr.heap.size) := hS.gr.lt
                obtain ⟨i0, hi0, hz0, hz1, hz2⟩ := info_parts info3
                clear hS hown hT hlk hat hoi hzl hback hz
                go_wp2_with fail
                go_region_held3 (fun W' => W'.cell? ⟨c, 2, none⟩ = some (.map (some mr)))
                  (first | exact HK.out _ (Fr.refl _ _).drew | exact HK.out _ ((Fr.refl _ _).drew.alloc _) | exact HK.out _ (F1.out.mono (fun _ h => .inl h)) | exact HK.out _ F2.out)
                  ((refine step_append_lies _ (by rfl) (.tmp 84) (.tmp 86) 72 (by rfl) (mr + 1) 3 i0 (.int .i64 0) 1 8 Tryd.underlying72 hi0 hz0 hz1 hz2 rfl (by decide) (.slice va2 zs.length vc2) zs.length (zs.map (.int .i64)) (by rfl) (own_alloc HOI.out.1 _) ⟨wr.heap.size, 0, none⟩ 1 1 [.int .i64 (j : Int)] (by rfl) (by rfl) (cell_one_new _ _ _) (ints_oneCell .i64 [(j : Int)]) (by decide) (by unfold maxLen; omega) (by omega) (by have := hbase.out; simp; omega) _ rfl ?_; intro g9 cap9 W9 ho9 hg9 hat9 _
                    have F1 : Hid (Fr (fun k => (Value.slice va2 zs.length vc2).ownBlock = some k) wr W9) := ((Fr.refl _ wr).drew.alloc _).grown hg9 (fun k hk => .inl hk)
                    have hap := HOI.out.appended ho9 (WalkArith.wf_i64 (by omega))
                    obtain ⟨w9, hrun9, hown9, hgrow9⟩ := HBack.out W9 _ _ (grown_of_fr F1.out) hap (by rw [List.length_append]; simp; omega) (by rcases hat9 with h | h; (· exact .inl h.symm); (· exact .inr ⟨g9, rfl, by rw [h]; simp⟩))
                    have F2 : Hid (Fr (fun k => (Value.slice va2 zs.length vc2).ownBlock = some k ∨ k = mr) wr w9) := (F1.out.mono (fun _ h => .inl h)).grown hgrow9 (fun k hk => by injection hk with hk; exact .inl (.inr hk.symm))
                    have HOwn9 := hid hown9
                    have HAp9 := hid hap
                    clear ho9 hg9 hat9 hap hown9 hgrow9))
                all_goals
                  have HS9 := hid (HPut.out _ _ _ _ HAp9.out HOwn9.out F2.out)
                  clear HPut HAp9 HOwn9 F1 F2 HK HOI HBack hrun9
                  go_wp2_with fail
                  exact ⟨⟨k + 1, by omega, by go_num, by rw [HTk.out]; exact HS9.out⟩, by simp [intOf]; omega⟩
              · have hkl' : ¬ ((k : Int) < ((rs.length : Nat) : Int)) := by omega
                have HS9 : Hid (CSt w2 (c + 1) c mo mf mr mg (prs O F (j + 1)) (wk1 O F (j + 1)) (.slice va (wk1 O F j).length vc) wr) := by
                  unfold Hid
                  rw [HPre.out.1, HPre.out.2]
                  rwa [List.take_of_length_le (by omega)] at hS
                go_wp2_with fail
                exact ⟨⟨j + 1, by omega, by go_num, HS9.out⟩, by simp [intOf]; omega⟩
          · rw [decide_eq_false hp] at HC HSmE
            clear hp
            go_wp2_with fail
            go_region_held3 (fun W' => fourX W' wr.heap.size ⟨n, s, ra, rl, rc, aa, al, ac⟩ ∧ fourB W' fb (fo + q * 4) z)
              (first | exact HK.out _ (Fr.refl _ _).drew | exact HK.out _ F1.out)
              ((go_at_call 39; refine HC.out.mono ?_; rintro e w8 ⟨rfl, f8⟩; have F1 : Hid (Fr (fun _ => False) W7 w8) := (Fr.refl _ W7).drew.trans f8 (fun _ h => h.elim)))
            have HF8 := hid (HF7.out.trans F1.out (fun _ h => h.elim))
            have HB8 := hid (F1.out.blk HB7.out (fun h => h))
            have HO8 := hid (own_fr HO7.out F1.out (fun _ _ h => h))
            have hbase8 : c + 1 ≤ w8.heap.size := Nat.le_trans hbase.out F1.out.size
            clear f8 F1 HK HC HZ7 HU7 HY7 HB7 HO7
            obtain ⟨d0, _, _, _⟩ := Blk.fourU (x := ⟨n, s, ra, rl, rc, aa, al, ac⟩) HB8.out
            have HOa := hid (own_alloc HO8.out (.cells #[.string ⟨n.toArray⟩] 9))
            have HSn := hid (strs_new (W := w8) (x := n))
            have hbase2 : c + 1 ≤ (w8.alloc (.cells #[.string ⟨n.toArray⟩] 9)).heap.size := by simp; omega
            go_wp2_with (at_builtin; refine Hid.out ?_)
            refine wpList_app_S (by rfl) _ _ (by rfl) (c + 1) _ (wk1 O F j) [n] (some ⟨w8.heap.size, 0, none⟩) 1 (by rfl) (by rfl) HOa.out HSn.out hbase2 (by simp only [List.length_singleton]; omega) ?_
            intro v' W' ho hg _
            have HS8 := hid (HNg.out v' _ W' (HF8.out.alloc _) HSmE.out ho hg)
            clear ho hg HOa HSn hbase2 d0 HB8 HO8 HNg
            go_wp2_with fail
            exact ⟨⟨j + 1, by omega, by go_num, HS8.out⟩, by simp [intOf]; omega⟩
      · have hs1 : ((j : Int) != (i : Int)) = true := by simpa using fun h => hji (by omega)
        have HS2 : Hid (CSt w2 (c + 1) c mo mf mr mg (prs O F (i + 1)) (wk1 O F (i + 1)) (.slice va (wk1 O F i).length vc) (wr.alloc (.cells #[.string ⟨n.toArray⟩, .string ⟨s.toArray⟩, .slice ra rl rc, .slice aa al ac] 32))) := by
          unfold Hid
          rw [prs_succ, wk1_succ]
          have e1 : prsAt O F i = [] := by unfold prsAt; rw [if_neg]; rintro ⟨h, _⟩; rw [← HYn.out, HJy.out] at h; injection h with h; exact hji h
          have e2 : wk1At O F i = [] := by unfold wk1At; rw [if_neg]; rintro ⟨h, _⟩; rw [← HYn.out, HJy.out] at h; injection h with h; exact hji h
          rw [e1, e2, List.append_nil, List.append_nil]
          exact HS1.out
        clear hji hl2 c1 c2
        go_wp2_with fail
        go_quiet (fail)
        go_wp2_with fail
        exact ⟨⟨i + 1, by omega, by go_num, HS2.out.step ((Fr.refl _ _).drewN nq)⟩, by simp [intOf]; omega⟩
    · have hi1 : ¬ ((i : Int) < ((O.length : Nat) : Int)) := by omega
      obtain rfl : i = O.length := by omega
      have HS1 : Hid (CSt w2 (c + 1) c mo mf mr mg (prs O F O.length) (wk1 O F O.length ++ wk2 O F 0) (.slice va (wk1 O F O.length).length vc) wr) := by unfold Hid; simpa [wk2] using hS
      clear hS HS0
      go_wp2_with fail
      go_loopw [6, 92] (fun vv iv wr => ∃ i : Nat, i ≤ F.length ∧ iv = .int .i64 (i : Int) ∧ CSt w2 (c + 1) c mo mf mr mg (prs O F O.length) (wk1 O F O.length ++ wk2 O F i) vv wr) (fun _ iv _ => F.length - (intOf iv).toNat)
      case atStart => exact ⟨0, Nat.zero_le _, rfl, HS1.out⟩
      case round =>
        obtain ⟨i, hi, rfl, hS⟩ := hrel
        obtain ⟨va, vc, hv⟩ := own_len hS.own
        subst hv
        have HS := hid hS
        by_cases hlt : i < F.length
        · have hi1 : (i : Int) < ((F.length : Nat) : Int) := by omega
          have hi0 : (0 : Int) ≤ (i : Int) := Int.natCast_nonneg _
          have hFw := HF2.out.trans hS.fr (fun _ h => h.elim)
          obtain ⟨b, o, rfl⟩ := HF.out.some hlt
          obtain ⟨y, y1, y2⟩ := HF.out.get i hlt
          obtain ⟨k0, k1, k2, k3⟩ := (y1.env (Env.of hFw)).all
          have HYn : Hid (y.n = (atU F i).n) := by unfold Hid; rw [y2.n, atU_lt hlt]
          have hxl : y.n.length ≤ lim := by rw [y2.n]; exact y2.ok.n
          have HS1 := hid (hS.step (uFr wr y))
          have HBx := hid (uBlk wr y)
          have hl2 := fun n => (pm_look (HPo2.out.fr HS1.out.fr (fun h => h)) hxl ((uBox wr y).drewN n) rfl).2
          have c0 := HS1.out.ch.cell 0
          obtain ⟨d0, d1, d2, d3⟩ := HBx.out.fourU
          simp only [chC, List.getElem?_cons_zero] at c0
          have hWl : (wk1 O F O.length ++ wk2 O F i).length ≤ 4000 := by
            have h1 := wk1_len O F O.length
            have h2 := wk2_len O F i
            rw [List.length_append]
            omega
          clear y1 y2 hS hFw
          obtain ⟨n, s, ra, rl, rc, aa, al, ac⟩ := y
          simp only [uBox, Uv.cs] at *
          cases hf : fi O n with
          | some q =>
            have HW2 : Hid (wk1 O F O.length ++ wk2 O F (i + 1) = wk1 O F O.length ++ wk2 O F i) := by
              unfold Hid
              rw [wk2_succ]
              have e : wk2At O F i = [] := by unfold wk2At; rw [if_neg]; rw [← HYn.out, hf]; intro h; cases h
              rw [e, List.append_nil]
            rw [hf] at hl2
            simp only [lkI, Option.isSome_some] at hl2
            clear hf
            go_wp2_with fail
            go_quiet (fail)
            go_wp2_with fail
            exact ⟨⟨i + 1, by omega, by go_num, by rw [HW2.out]; exact HS1.out.step ((Fr.refl _ _).drewN nq)⟩, by simp [intOf]; omega⟩
          | none =>
            have HW2 : Hid (wk1 O F O.length ++ wk2 O F (i + 1) = (wk1 O F O.length ++ wk2 O F i) ++ [n]) := by
              unfold Hid
              rw [wk2_succ]
              have e : wk2At O F i = [n] := by unfold wk2At; rw [← HYn.out, if_pos hf]
              rw [e, List.append_assoc]
            rw [hf] at hl2
            simp only [lkI, Option.isSome_none] at hl2
            clear hf
            go_wp2_with fail
            go_quiet (fail)
            have HS7 := hid (HS1.out.step ((Fr.refl _ _).drewN nq))
            have HB7 := hid (((Fr.refl (fun _ => False) _).drewN nq).blk HBx.out (fun h => h))
            generalize (wr.alloc (.cells #[.string ⟨n.toArray⟩, .string ⟨s.toArray⟩, .slice ra rl rc, .slice aa al ac] 32)).drewN nq = W7 at *
            clear hl2 c0 d0 d1 d2 d3 HBx HS1 k0 k1 k2 k3
            generalize wk1 O F O.length ++ wk2 O F i = A at *
            obtain ⟨d0, _, _, _⟩ := Blk.fourU (x := ⟨n, s, ra, rl, rc, aa, al, ac⟩) HB7.out
            have HOa := hid (own_alloc HS7.out.own (.cells #[.string ⟨n.toArray⟩] 9))
            have HSn := hid (strs_new (W := W7) (x := n))
            have hbase2 : c + 1 ≤ (W7.alloc (.cells #[.string ⟨n.toArray⟩] 9)).heap.size := by have : c < W7.heap.size := HS7.out.ch.lt; simp; omega
            go_wp2_with (at_builtin; refine Hid.out ?_)
            refine wpList_app_S (by rfl) _ _ (by rfl) (c + 1) _ A [n] (some ⟨W7.heap.size, 0, none⟩) 1 (by rfl) (by rfl) HOa.out HSn.out hbase2 (by simp only [List.length_singleton]; omega) ?_
            intro v' W' ho hg _
            have HS8 : Hid (CSt w2 (c + 1) c mo mf mr mg (prs O F O.length) (wk1 O F O.length ++ wk2 O F (i + 1)) v' W') := by
              unfold Hid
              rw [HW2.out]
              exact HS7.out.more (Nat.lt_succ_self c) ((Fr.refl _ _).alloc _) ho hg hBw.out
            clear ho hg HOa HSn hbase2 d0 HB7 HS7
            go_wp2_with fail
            exact ⟨⟨i + 1, by omega, by go_num, HS8.out⟩, by simp [intOf]; omega⟩
        · have hi1 : ¬ ((i : Int) < ((F.length : Nat) : Int)) := by omega
          obtain rfl : i = F.length := by omega
          have hFw := HF2.out.trans hS.fr (fun _ h => h.elim)
          have hwl : (wk O F).length ≤ 4000 := by
            have h1 := wk1_len O F O.length
            have h2 := wk2_len O F F.length
            unfold wk
            rw [List.length_append]
            omega
          have hpl := Nat.le_trans (prs_len O F O.length) HRq.out
          have hnm := HNum.out
          have hDr := hid (drop_any w0 w2 wr (HE0.out.trans (Env.of HF2.out)) (Env.of hS.fr) O F ad co (HO.out.env (Env.of HF2.out)) (c + 1) c mo mf mr mg (prs O F O.length).length (by omega) hS.ch.lt (by omega) hS.ch (by omega) (by omega) hS.gs hS.gr (by omega) (.slice va (wk1 O F O.length ++ wk2 O F F.length).length vc) hS.own ?_ ?_)
          · have HNum2 := hid hnm
            have HFw := hid hFw
            clear hS hFw hnm hwl hpl HS1
            generalize wk1 O F O.length ++ wk2 O F F.length = A at *
            go_wp2_with fail
            refine hDr.out.mono ?_
            rintro e w9 ⟨rfl, G, hG, hGo, hf9⟩
            have hown := HS.out.own
            have HEnd : Hid (CmpPost w O F (.returned (.pointer (some ⟨c, 0, none⟩))) w9) := by
              have hnm := HNum2.out
              have hsz := HF2.out.size
              have hPl := HPo2.out.lt
              have hPl2 := HPf.out.lt
              have hr : ∀ k, (Value.slice va A.length vc).ownBlock = some k → c + 1 ≤ k := fun k hk => (own_lt hown k hk).1
              have hall : Fr (fun k => k = mg ∨ (Value.slice va A.length vc).ownBlock = some k) w2 w9 := (HS.out.fr.mono (fun _ h => h.elim)).trans hf9 (fun k hk => .inl hk)
              refine ⟨c, mo, mf, mr, mg, G, rfl, by omega, hf9.blk HS.out.ch (fun hk => ?_), HPo2.out.fr hall (fun hk => ?_), HPf.out.fr hall (fun hk => ?_), hG, hGo, HFw.out.trans hf9 (fun k hk => .inr ?_)⟩
              · rcases hk with hk | hk
                · omega
                · have := hr _ hk; omega
              · rcases hk with hk | hk
                · omega
                · have := hr _ hk; omega
              · rcases hk with hk | hk
                · omega
                · have := hr _ hk; omega
              · rcases hk with hk | hk
                · omega
                · have := hr _ hk; omega
            clear hG hGo hf9 hown hDr
            go_wp2_with fail
            go_ret
            exact HEnd.out
          · exact fun x hx => gone_len hx (us_ok HO.out) (us_ok HF.out)
          · have h5 : ((prs O F O.length).filter (fun p => decide (p.2 ∉ ([] : List Nm)))).length ≤ (prs O F O.length).length := List.length_filter_le _ _
            unfold mea
            omega
end Go.Proofs.YtcpeebkfnnkjnaaDoor.Tr
