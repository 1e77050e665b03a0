/- The contract of drop. -/
import Derived.Test.YtcpeebkfnnkjnaaDoorUdg
import Derived.Deep.LoopGhost
namespace Go.Proofs.YtcpeebkfnnkjnaaDoor.Tr
open Go.RowKit Go.Maps

theorem own_heap {w : World} {B e size n : Nat} {v : Value} {xs : List Value} (h : w.ownsRow B e size v n xs) {k : Nat} (hk : v.ownBlock = some k) : ∃ cur, w.heap[k]? = some (.cells cur e (0, 0)) := by
  rcases h.2 with ⟨rfl, _⟩ | ⟨g, cap, cur, rfl, _, hg, _⟩
  · cases hk
  · cases hk
    exact ⟨cur, hg⟩
theorem Gs.heap {W : World} {m : Nat} {G : List Nm} (h : Gs W m G) : ∃ es cl, W.heap[m]? = some (.map es cl) := by
  obtain ⟨n, D, _, ⟨es, cl, h, _⟩, _⟩ := h
  exact ⟨es, cl, h⟩
theorem Gr.heap {W : World} {m n : Nat} {P : List (Nat × Nm)} (h : Gr W m n P) : ∃ es cl, W.heap[m]? = some (.map es cl) := by
  obtain ⟨D, ⟨es, cl, h, _⟩, _⟩ := h
  exact ⟨es, cl, h⟩
theorem strs_new {W : World} {x : Nm} : Strs (W.alloc (.cells #[.string ⟨x.toArray⟩] 9)) (some ⟨W.heap.size, 0, none⟩) [x] := fun _ => ⟨W.heap.size, 0, rfl, fun i hi => by
  obtain rfl : i = 0 := by simpa using hi
  exact (Blk.new W 9 [.string ⟨x.toArray⟩]).cell 0⟩
/-- A list's front, the rest cut off. -/
theorem own_front {w : World} {B n m cap : Nat} {e : TypeId} {ad : Option Addr} {xs : List Value} (h : w.ownsRow B e 1 (.slice ad n cap) n xs) (hm : m ≤ n) : w.ownsRow B e 1 (.slice ad m cap) m (xs.take m) := by
  have hx : xs.length = n := by have := h.1; omega
  refine ⟨by rw [List.length_take]; omega, ?_⟩
  rcases h.2 with ⟨h1, h0⟩ | ⟨g, c, cur, h1, hb, hg, hnc, hcm, hcs, ht⟩
  · cases h1
    have : m = 0 := by omega
    subst this
    exact .inl ⟨rfl, rfl⟩
  · cases h1
    refine .inr ⟨g, cap, cur, rfl, hb, hg, by omega, hcm, hcs, ?_⟩
    rw [← ht, List.take_take]
    congr 1
    omega
/-- The state of drop. -/
structure DSt (w : World) (B mg : Nat) (v0 : Value) (G Wk : List Nm) (v : Value) (wr : World) : Prop where
  own : wr.ownsRow B 9 1 v Wk.length (strC Wk)
  loc : ∀ k, v.ownBlock = some k → v0.ownBlock = some k ∨ w.heap.size ≤ k
  gs : Gs wr mg G
  fr : Fr (fun k => k = mg ∨ v0.ownBlock = some k) w wr
theorem last_cell {w : World} {B : Nat} {v : Value} {V : List Nm} {x : Nm} (h : w.ownsRow B 9 1 v (V ++ [x]).length (strC (V ++ [x]))) : ∃ g cap, v = .slice (some ⟨g, 0, none⟩) (V.length + 1) cap ∧ w.cell? ⟨g, V.length, none⟩ = some (.string ⟨x.toArray⟩) ∧ V.length + 1 ≤ cap ∧ w.ownsRow B 9 1 (.slice (some ⟨g, 0, none⟩) V.length cap) V.length (strC V) := by
  obtain ⟨g, cap, rfl, _, hc⟩ := own_cell h (by simp [strC])
  have hn : (V ++ [x]).length = V.length + 1 := by simp
  rw [hn] at h ⊢
  refine ⟨g, cap, rfl, hc _ _ (by simp [strC]), ?_, ?_⟩
  · rcases h.2 with ⟨h1, _⟩ | ⟨g', c, cur, h1, _, _, hnc, _⟩
    · cases h1
    · cases h1; exact hnc
  · have := own_front h (Nat.le_succ V.length)
    rwa [show (strC (V ++ [x])).take V.length = strC V by simp [strC]] at this

set_option maxRecDepth 100000 in
set_option maxHeartbeats 8000000 in
theorem drop_any (w0 wb w : World) (e0 : Env w0 wb) (hE : Env wb w) (O F : List Ut) (ad : Option Addr) (cap : Nat) (hU : Us w0 wb O ad) (B c mo mf mr mg n : Nat) (hB : wb.heap.size ≤ B) (hBw : B ≤ w.heap.size) (hmg : wb.heap.size ≤ mg)
    (hc : Blk w c 59 (chC mo mf mr mg)) (hcm : c ≠ mg) (hmm : mr ≠ mg) (hG : Gs w mg []) (hR : Gr w mr n (prs O F O.length)) (hn : n ≤ 1000000) (v0 : Value) (hv : w.ownsRow B 9 1 v0 (wk O F).length (strC (wk O F))) (hN : ∀ x, Gone O F x → x.length ≤ lim) (hM : mea O F [] (wk O F) ≤ 500000) :
    Calls Tryd.prog 40 #[.pointer (some ⟨c, 0, none⟩), v0, .slice ad O.length cap] w fun e w' => e = .returned (.tuple #[]) ∧ ∃ G, Gs w' mg G ∧ (∀ x, x ∈ G ↔ Gone O F x) ∧ Fr (fun k => k = mg ∨ v0.ownBlock = some k) w w' := by
  have HS0 : Hid (DSt w B mg v0 [] (wk O F) v0 w) := ⟨hv, fun k hk => .inl hk, hG, Fr.refl _ _⟩
  have HU := hid hU
  have HN := hid hN
  have HMM := hid hM
  have HBW := hid hBw
  -- what stays
  have HSt : Hid (∀ wr, Fr (fun k => k = mg ∨ v0.ownBlock = some k) w wr → Blk wr c 59 (chC mo mf mr mg) ∧ Gr wr mr n (prs O F O.length) ∧ Env w0 wr ∧ Env wb wr) := fun wr f => by
    obtain ⟨es, cl, hmap⟩ := hG.heap
    obtain ⟨es2, cl2, hmap2⟩ := hR.heap
    refine ⟨f.blk hc (fun h => ?_), hR.fr f (fun h => ?_) (fun k cur h h3 => ?_), ?_, ?_⟩
    · rcases h with h | h
      · exact hcm h
      · obtain ⟨cur, hcur⟩ := own_heap hv h
        have h2 : w.heap[c]? = some (.cells (chC mo mf mr mg).toArray 59 (0, 0)) := hc
        rw [h2] at hcur
        cases hcur
    · rcases h with h | h
      · exact hmm h
      · obtain ⟨cur, hcur⟩ := own_heap hv h
        rw [hmap2] at hcur
        cases hcur
    · rcases h with h | h
      · rw [h, hmap] at h3; cases h3
      · obtain ⟨cur2, hcur⟩ := own_heap hv h
        rw [h3] at hcur
        cases hcur
    · exact e0.trans (hE.fr f (fun k hk => by rcases hk with hk | hk; (· omega); (· have := (own_lt hv k hk).1; omega)))
    · exact hE.fr f (fun k hk => by rcases hk with hk | hk; (· omega); (· have := (own_lt hv k hk).1; omega))
  clear hU hN hM hBw hc hG hR hv e0 hE
  go_enter Tryd.func40, Tryd.ntmps40
  go_wp2_with fail
  go_loopg [1] (mea O F [] (wk O F)) (fun m vv wr => ∃ G Wk, G.length + m ≤ mea O F [] (wk O F) ∧ DIv O F G Wk ∧ mea O F G Wk = m ∧ DSt w B mg v0 G Wk vv wr)
  case atStart => exact ⟨[], wk O F, by simp, DIv.start O F, rfl, HS0.out⟩
  case round =>
    obtain ⟨G, Wk, hm, hD, hme, hS⟩ := hrel
    rcases List.eq_nil_or_concat Wk with hnil | ⟨V, x, hcon⟩
    · subst hnil
      have HEnd : Hid (∃ G, Gs wr mg G ∧ (∀ x, x ∈ G ↔ Gone O F x) ∧ Fr (fun k => k = mg ∨ v0.ownBlock = some k) w wr) := ⟨G, hS.gs, hD.done, hS.fr⟩
      obtain ⟨a, cp, hv⟩ := own_len hS.own
      subst hv
      simp only [List.length_nil]
      clear hS hD hme
      go_wp2_with fail
      exact ⟨rfl, _, results_none rfl _ _ _, rfl, HEnd.out⟩
    · rw [List.concat_eq_append] at hcon
      subst hcon
      obtain ⟨g, cp, rfl, kx, hcp, hO⟩ := last_cell hS.own
      obtain ⟨hB1, hR1, hE1, hE2⟩ := HSt.out wr hS.fr
      have hxg : Gone O F x := hD.w x (by simp)
      have hxl := HN.out x hxg
      have hGo := hid (goes_any wr c mo mf mr mg G x hB1 hS.gs hxl)
      have hN1 : (0 : Int) < ((V.length + 1 : Nat) : Int) := by omega
      have hVm : V.length + 1 ≤ gk := by rw [← hme]; unfold mea; simp
      have hVb : V.length ≤ 500000 := by have := HMM.out; omega
      have hGb : G.length ≤ 500000 := by have := HMM.out; omega
      have HMe := hid hme
      have HMk := hid hm
      have HD := hid hD
      have HS := hid hS
      have HO := hid hO
      have hkey := keyS hxl
      clear hD hS hO hB1 hR1 hE1 hE2 hme hm hVm
      by_cases hxG : x ∈ G
      · rw [decide_eq_true hxG] at hGo
        have HD1 := hid (HD.out.known hxG)
        clear hxG
        go_wp2_with fail
        refine hGo.out.mono ?_
        rintro e w1 ⟨rfl, f1⟩
        have HS1 : Hid (DSt w B mg v0 G V (.slice (some ⟨g, 0, none⟩) V.length cp) w1) := ⟨own_fr HO.out f1 (fun _ _ h => h), HS.out.loc, HS.out.gs.fr f1 (fun h => h), HS.out.fr.trans f1 (fun _ h => h.elim)⟩
        clear f1 hGo HS HO HD
        go_wp2_with fail
        go_roundg (mea O F G V)
        case measure => have h1 := mea_known O F G V x; have h2 := HMe.out; omega
        case rel => exact ⟨G, V, by have h1 := mea_known O F G V x; have h2 := HMe.out; have h3 := HMk.out; omega, HD1.out, rfl, HS1.out⟩
      · rw [decide_eq_false hxG] at hGo
        have HD1 := hid (HD.out.next)
        have HMn := hid (mea_next O F G V x hxG)
        clear hxG
        go_wp2_with fail
        refine hGo.out.mono ?_
        rintro e w1 ⟨rfl, f1⟩
        have HF1 := hid (HS.out.fr.trans f1 (fun _ h => h.elim))
        have HO1 := hid (own_fr HO.out f1 (fun _ _ h => h))
        obtain ⟨n1, D1, hn1, hM1, hT1⟩ := HS.out.gs.fr f1 (fun h => h)
        have HM1 := hid hM1
        have HT1 := hid hT1
        have HLoc := hid HS.out.loc
        obtain ⟨hB1, _, _, _⟩ := HSt.out w1 HF1.out
        have c3 := hB1.cell 3
        simp only [chC, List.getElem?_cons_zero, List.getElem?_cons_succ] at c3
        clear f1 hGo HS HO HD hM1 hT1 hB1
        go_wp2_with (at_mapUpdate; refine Hid.out ?_)
        refine wpList_mapUpdate_own _ rfl _ _ _ 57 rfl 9 75 lawS Tryd.underlying57 _ mg n1 D1 rfl HM1.out (by unfold maxLen; omega) _ _ _ rfl rfl hkey (.agg []) [] unitElem_mk ?_
        intro w2 hown2 hgrow2
        have hmgr : ∀ k, (Value.slice (some ⟨g, 0, none⟩) V.length cp).ownBlock = some k → k ≠ mg := fun k hk e => by
          obtain ⟨cur, hcur⟩ := own_heap HO1.out hk
          obtain ⟨es, cl, hm0, _⟩ := HM1.out
          rw [e, hm0] at hcur
          cases hcur
        have hf2 : Fr (fun k => k = mg) w1 w2 := (Fr.refl _ w1).grown hgrow2 (fun k hk => by injection hk with hk; exact .inl hk.symm)
        have HF2 := hid (HF1.out.trans hf2 (fun k hk => .inl (.inl hk)))
        have HO2 := hid (own_fr HO1.out hf2 hmgr)
        have HG2 : Hid (Gs w2 mg (G ++ [x])) := gs_add hn1 HM1.out HT1.out hown2
        obtain ⟨hB2, hR2, _, _⟩ := HSt.out w2 HF2.out
        have c2 := hB2.cell 2
        simp only [chC, List.getElem?_cons_zero, List.getElem?_cons_succ] at c2
        obtain ⟨D2, hown, hT2⟩ := hR2
        have HOw := hid hown
        have HT2 := hid (hT2 x)
        clear hown2 hgrow2 hmgr hf2 hB2 hown hT2 HM1 HT1 HO1 HF1 c3
        go_wp2_with (at_lookup; refine Hid.out ?_)
        refine wpList_lookup_groups _ rfl _ _ 56 rfl 9 72 3 .i64 lawS Tryd.underlying56 (zeroR _) (mr + 1) mr n D2 rfl HOw.out (by unfold maxLen; omega) _ _ rfl hkey ?_
        intro v zs hat hoi hzl _
        have hz : zs = ints (nxt O F x) := grD_of hoi (by rw [← hat]; exact HT2.out.symm)
        subst hz
        obtain ⟨ga, gc, hv⟩ := own_len hoi.1
        subst hv
        have hzl2 : (nxt O F x).length ≤ 1000000 := by have : (ints (nxt O F x)).length = (nxt O F x).length := by simp
                                                       omega
        rw [show (ints (nxt O F x)).length = (nxt O F x).length by simp] at hoi
        rw [show (ints (nxt O F x)).length = (nxt O F x).length by simp]
        have HOI := hid hoi
        have HIn : Hid (∀ i ∈ nxt O F x, i < O.length) := fun i hi => nxt_in hi
        have hML : V.length + (nxt O F x).length ≤ 500000 := by
          have h1 := HMn.out; have h2 := HMe.out; have h3 := HMk.out; have h4 := HMM.out
          have h5 : (V ++ (nxt O F x).map (fun i => (atU O i).n)).length ≤ mea O F (G ++ [x]) (V ++ (nxt O F x).map (fun i => (atU O i).n)) := by unfold mea; omega
          rw [List.length_append, List.length_map] at h5
          omega
        clear hat hoi hzl c2 HOw HT2
        obtain ⟨ns, hns⟩ : ∃ ns, ns = nxt O F x := ⟨_, rfl⟩
        rw [← hns] at HOI HIn hML hzl2 HD1 HMn
        rw [← hns]
        clear hns
        go_wp2_with fail
        go_loopw [1, 39] (fun vv iv wr => ∃ k : Nat, k ≤ ns.length ∧ iv = .int .i64 (k : Int) ∧ DSt w B mg v0 (G ++ [x]) (V ++ (ns.take k).map (fun i => (atU O i).n)) vv wr ∧ Fr (fun k => (Value.slice (some ⟨g, 0, none⟩) V.length cp).ownBlock = some k) w2 wr ∧ ∀ q, vv.ownBlock = some q → (Value.slice (some ⟨g, 0, none⟩) V.length cp).ownBlock = some q ∨ w2.heap.size ≤ q) (fun _ iv _ => ns.length - (intOf iv).toNat)
        case atStart => exact ⟨0, Nat.zero_le _, rfl, ⟨by simpa using HO2.out, HLoc.out, HG2.out, HF2.out⟩, Fr.refl _ _, fun q hq => .inl hq⟩
        case round =>
          obtain ⟨k, hk, rfl, hS, hf, hlo⟩ := hrel
          obtain ⟨va, vc, hv⟩ := own_len hS.own
          subst hv
          have HS := hid hS
          have HF := hid hf
          have HLo := hid hlo
          clear hlo
          by_cases hkl : k < ns.length
          · have hkl' : (k : Int) < ((ns.length : Nat) : Int) := by omega
            have hk0 : (0 : Int) ≤ (k : Int) := Int.natCast_nonneg _
            have hrow : wr.ownsRow (mr + 1) 3 1 (.slice ga ns.length gc) (ints ns).length ((ints ns).map (Value.int .i64)) := own_fr HOI.out.1 hf (fun q hq1 hq2 => by
              obtain ⟨cur, hc1⟩ := own_heap HOI.out.1 hq1
              obtain ⟨cur2, hc2⟩ := own_heap HO2.out hq2
              rw [hc1] at hc2
              cases hc2)
            obtain ⟨gb, gcap, hga, _, hcells⟩ := own_cell hrow (by intro e; simp [ints] at e; rw [e] at hkl; simp at hkl)
            simp only [Value.slice.injEq] at hga
            obtain ⟨rfl, hq, rfl⟩ := hga
            clear hq
            have kz := hcells k (.int .i64 (ns[k] : Int)) (by simp [ints, hkl])
            have hi := HIn.out ns[k] (List.getElem_mem hkl)
            have HTk : Hid (V ++ (ns.take (k + 1)).map (fun i => (atU O i).n) = (V ++ (ns.take k).map (fun i => (atU O i).n)) ++ [(atU O ns[k]).n]) := by
              unfold Hid
              rw [List.take_succ_eq_append_getElem hkl, List.map_append, List.append_assoc]
              rfl
            obtain ⟨_, _, _, hE2⟩ := HSt.out wr hS.fr
            obtain ⟨bb, bo, rfl⟩ := HU.out.some hi
            obtain ⟨y, y1, y2⟩ := HU.out.get ns[k] hi
            obtain ⟨k0, _, _, _⟩ := (y1.env hE2).all
            have hyn := y2.n
            rw [hyn, ← atU_lt hi] at k0
            have hi1 : ((ns[k] : Nat) : Int) < ((O.length : Nat) : Int) := by omega
            have hi0 : (0 : Int) ≤ ((ns[k] : Nat) : Int) := Int.natCast_nonneg _
            have hTl : ((ns.take k).map (fun i => (atU O i).n)).length = k := by simp; omega
            have hWl : (V ++ (ns.take k).map (fun i => (atU O i).n)).length ≤ 500000 := by rw [List.length_append, hTl]; omega
            clear hS hf hrow hcells y1 y2 hyn hE2 hTl
            generalize V ++ (ns.take k).map (fun i => (atU O i).n) = A at *
            generalize (atU O ns[k]).n = nm at *
            generalize ns[k] = ii at *
            have HOa := hid (own_alloc HS.out.own (.cells #[.string ⟨nm.toArray⟩] 9))
            have HSn := hid (strs_new (W := wr) (x := nm))
            have hbase : B ≤ (wr.alloc (.cells #[.string ⟨nm.toArray⟩] 9)).heap.size := by have h1 := HBW.out; have h2 := HS.out.fr.size; simp; omega
            go_wp2_with (at_builtin; refine Hid.out ?_)
            refine wpList_app_S (by rfl) _ _ (by rfl) B _ A [nm] (some ⟨wr.heap.size, 0, none⟩) 1 (by rfl) (by rfl) HOa.out HSn.out hbase (by simp only [List.length_singleton]; omega) ?_
            intro v' W' ho hg hloc
            have HS2 : Hid (DSt w B mg v0 (G ++ [x]) (V ++ (ns.take (k + 1)).map (fun i => (atU O i).n)) v' W' ∧ Fr (fun k => (Value.slice (some ⟨g, 0, none⟩) V.length cp).ownBlock = some k) w2 W' ∧ ∀ q, v'.ownBlock = some q → (Value.slice (some ⟨g, 0, none⟩) V.length cp).ownBlock = some q ∨ w2.heap.size ≤ q) := by
              have hsz1 := HS.out.fr.size
              have hsz2 := HF.out.size
              have hf1 : Fr (fun q => (Value.slice va A.length vc).ownBlock = some q) wr W' := ((Fr.refl _ wr).alloc _).grown hg (fun q hq => .inl hq)
              have hmgq : ¬ (Value.slice va A.length vc).ownBlock = some mg := fun hq => by
                obtain ⟨cur, hcur⟩ := own_heap HS.out.own hq
                obtain ⟨es, cl, hm0⟩ := HS.out.gs.heap
                rw [hm0] at hcur
                cases hcur
              have hal : ∀ q, v'.ownBlock = some q → (Value.slice va A.length vc).ownBlock = some q ∨ wr.heap.size ≤ q := fun q hq => by
                rcases hloc q hq with h | h
                · exact .inl h
                · simp at h; exact .inr (by omega)
              refine ⟨⟨by rw [HTk.out]; exact ho, fun q hq => ?_, HS.out.gs.fr hf1 hmgq, HS.out.fr.trans hf1 (fun q hq => ?_)⟩, HF.out.trans hf1 (fun q hq => HLo.out q hq), fun q hq => ?_⟩
              · rcases hal q hq with h | h
                · exact HS.out.loc q h
                · exact .inr (by omega)
              · rcases HS.out.loc q hq with h | h
                · exact .inl (.inr h)
                · exact .inr h
              · rcases hal q hq with h | h
                · exact HLo.out q h
                · exact .inr (by omega)
            clear ho hg hloc HOa HSn hbase HS HF k0 kz
            go_wp2_with fail
            exact ⟨⟨k + 1, by omega, by go_num, HS2.out.1, HS2.out.2.1, HS2.out.2.2⟩, by simp [intOf]; omega⟩
          · have hkl' : ¬ ((k : Int) < ((ns.length : Nat) : Int)) := by omega
            obtain rfl : k = ns.length := by omega
            have HS2 : Hid (DSt w B mg v0 (G ++ [x]) (V ++ ns.map (fun i => (atU O i).n)) (.slice va (V.length + ns.length) vc) wr) := by
              unfold Hid
              have := HS.out
              rw [List.take_length] at this
              simpa using this
            clear HS HF hS hf
            go_wp2_with fail
            go_roundg (mea O F (G ++ [x]) (V ++ ns.map (fun i => (atU O i).n)))
            case measure => have h1 := HMn.out; have h2 := HMe.out; omega
            case rel => exact ⟨_, _, by have h1 := HMn.out; have h2 := HMe.out; have h3 := HMk.out; simp; omega, HD1.out, rfl, HS2.out⟩
end Go.Proofs.YtcpeebkfnnkjnaaDoor.Tr
