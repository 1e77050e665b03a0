/- UnitsWait, walked. -/
import Derived.Test.YtcpeebkfnnkjnaaDoorUsh
import Derived.Test.YtcpeebkfnnkjnaaDoorUtp
namespace Go.Proofs.YtcpeebkfnnkjnaaDoor.Tr
open Go.RowKit Go.Maps

theorem tot_mem : ∀ (l : List Ut) (u : Ut), u ∈ l → u.r.length + u.a.length ≤ tot l
  | [], u, h => by simp at h
  | v :: r, u, h => by
    unfold tot
    rw [List.map_cons, List.sum_cons]
    rcases List.mem_cons.1 h with rfl | h
    · omega
    · have := tot_mem r u h
      unfold tot at this
      omega
theorem drop_rev {α : Type} (l : List α) (i : Nat) (h : i < l.length) : (l.drop (i + 1)).reverse ++ [l[i]] = (l.drop i).reverse := by
  rw [List.drop_eq_getElem_cons h, List.reverse_cons]
/-- The units so far, turned round. -/
def Tn (w0 w wr : World) (U : List Ut) (v : Value) : Prop := ∃ Y : List Uv, wr.ownsRow w.heap.size 32 4 v Y.length (flatU Y) ∧ RowIs w0 U Y ∧ Fr (fun _ => False) w wr
/-- What is asked of an order. -/
structure Good (l x : List Ut) : Prop where
  len : x.length = l.length
  own : ∀ i (h : i < x.length), fi x x[i].n = some i
  old : ∀ i (h : i < x.length), ∃ j, fi l x[i].n = some j
  req : ∀ i (h : i < x.length), ∀ a ∈ x[i].r, ∃ j, fi x a = some j ∧ j < i
  aft : ∀ i (h : i < x.length), ∀ a ∈ x[i].a, fi x a = none ∨ ∃ j, fi x a = some j ∧ j < i
theorem good_of {l x : List Ut} {n : Nm} (h : ordF l = (x, n, 0)) : Good l x := by
  obtain ⟨h1, h2, h3, h4, _, h5⟩ := ord_ok h
  have key : ∀ i (hi : i < x.length), ∀ a ∈ x[i].r ++ x[i].a, ∀ j, fi x a = some j → j < i := fun i hi a ha j hj => by
    obtain ⟨hj1, hj2⟩ := (fi_iff h1).1 hj
    rcases Nat.lt_or_ge j i with h | h
    · exact h
    · exact absurd hj2 (topo_at x h4 i j hi hj1 h a ha)
  refine ⟨h2.length_eq, fun i hi => fi_self h1 hi, fun i hi => ?_, fun i hi a ha => ?_, fun i hi a ha => ?_⟩
  · obtain ⟨q, hq, e⟩ := List.getElem_of_mem (h2.mem_iff.1 (List.getElem_mem hi))
    exact ⟨q, (fi_iff h5).2 ⟨hq, by rw [e]⟩⟩
  · obtain ⟨j, hj⟩ := h3 _ (List.getElem_mem hi) a ha
    exact ⟨j, hj, key i hi a (List.mem_append_left _ ha) j hj⟩
  · cases hf : fi x a with
    | none => exact .inl rfl
    | some j => exact .inr ⟨j, rfl, key i hi a (List.mem_append_right _ ha) j hf⟩
theorem ord_le {l x : List Ut} {n : Nm} {e : Int} (h : ordF l = (x, n, e)) : x.length ≤ l.length := by
  by_cases h0 : e = 0
  · subst h0
    exact Nat.le_of_eq (ord_ok h).2.1.length_eq
  · rw [ord_err h h0]; simp
theorem two_orders (l : List Ut) : ∃ x n m e, ordF l = (x, n, e) ∧ ordF l.reverse = (x, m, e) ∧ (e = 10 ∨ n = m) := by
  rcases ord_perm (List.reverse_perm l) with h | ⟨a, b, h1, h2⟩
  · exact ⟨_, _, _, _, rfl, h, .inr rfl⟩
  · exact ⟨_, _, _, _, h1, h2, .inl rfl⟩

set_option maxRecDepth 100000 in
set_option maxHeartbeats 8000000 in
theorem unitsWait_walk (w : World) (l : List Ut) (ad : Option Addr) (cap : Nat) (hU : Us w w l ad) (hl : l.length ≤ lim) (hT : TabAt 1 Lib.deBruijn32tab w) :
    Calls Tryd.prog 5 #[.slice ad l.length cap] w fun e w' => e = .returned (.bool true) ∧ Fr (fun _ => False) w w' := by
  have HU := hid hU
  have HT := hid hT
  have HSh := hid (shown_any w hT)
  have HLim := hid hl
  clear hU hT hl
  go_enter Tryd.func5, Tryd.ntmps5
  go_wp2_with fail
  refine HSh.out.mono ?_
  rintro e w1 ⟨rfl, f1⟩
  have HF1 := hid f1
  have HLg := hid (large_any w w1 l ad cap (HU.out.env (Env.of f1)) HLim.out)
  clear f1 HSh
  by_cases hbig : 2000 < l.length + tot l
  · rw [decide_eq_true hbig] at HLg
    go_wp2_with fail
    refine HLg.out.mono ?_
    rintro e w2 ⟨rfl, f2⟩
    have HF2 := hid (HF1.out.trans f2 (fun _ h => h.elim))
    clear f2
    go_wp2_with fail
    go_ret
    exact ⟨rfl, HF2.out⟩
  · rw [decide_eq_false hbig] at HLg
    have hl2 : l.length ≤ 2000 := by omega
    have HSm : Hid (∀ u ∈ l, u.r.length ≤ 1000000 ∧ u.a.length ≤ 1000000) := fun u hu => by have := tot_mem l u hu; omega
    clear hbig HLim
    obtain ⟨x, n, m, er, ho1, ho2, hnm⟩ := two_orders l
    have HO1 := hid ho1
    have HO2 := hid ho2
    have HNm := hid hnm
    clear ho1 ho2 hnm
    go_wp2_with fail
    refine HLg.out.mono ?_
    rintro e w2 ⟨rfl, f2⟩
    have HF2 := hid (HF1.out.trans f2 (fun _ h => h.elim))
    have HC := hid (order_any w w2 (Env.of HF2.out) l ad cap (HU.out.env (Env.of HF2.out)) (by omega) HSm.out (tab_fr HT.out HF2.out))
    rw [HO1.out] at HC
    clear f2 HLg HF1
    go_wp2_with fail
    refine HC.out.mono ?_
    rintro e w3 ⟨f3, v, X, rfl, hOt⟩
    obtain ⟨va, vc, hv⟩ := own_len hOt.own
    subst hv
    rw [hOt.row.1]
    have HOt := hid hOt
    have HF3 := hid (HF2.out.trans f3 (fun _ h => h.elim))
    clear f3 hOt HC HF2
    go_wp2_with fail
    go_loopw [8, 9] (fun tv iv wr => (∃ i k : Nat, i + 1 + k = l.length ∧ iv = .int .i64 (i : Int) ∧ Tn w w3 wr (l.drop (i + 1)).reverse tv) ∨ (iv = .int .i64 (-1) ∧ Tn w w3 wr l.reverse tv)) (fun _ iv _ => (intOf iv + 1).toNat)
    case atStart =>
      have h0 : Tn w w3 w3 [] (.slice none 0 0) := ⟨[], World.ownsRow_nil _ _ _ _, rowIs_nil _, Fr.refl _ _⟩
      rcases Nat.eq_zero_or_pos l.length with hz | hz
      · refine .inr ⟨?_, ?_⟩
        · rw [hz]; rfl
        · rw [List.eq_nil_of_length_eq_zero hz]; exact h0
      · refine .inl ⟨l.length - 1, 0, by omega, ?_, ?_⟩
        · congr 1; omega
        · rw [show l.length - 1 + 1 = l.length by omega, List.drop_length]; exact h0
    case round =>
      rcases hrel with ⟨i, k, hik, rfl, hTn⟩ | ⟨rfl, hTn⟩
      · have hi : i < l.length := by omega
        have hi0 : (0 : Int) ≤ (i : Int) := Int.natCast_nonneg _
        have hi1 : (i : Int) < ((l.length : Nat) : Int) := by omega
        obtain ⟨Y, hY1, hY2, hY3⟩ := hTn
        obtain ⟨ta, tc, hv⟩ := own_len hY1
        subst hv
        have hF4 := HF3.out.trans hY3 (fun _ h => h.elim)
        obtain ⟨bb, bo, rfl⟩ := HU.out.some hi
        obtain ⟨y, y1, y2⟩ := HU.out.get i hi
        obtain ⟨k0, k1, k2, k3⟩ := (y1.env (Env.of hF4)).all
        have HR2 : Hid (RowIs w (l.drop i).reverse (Y ++ [y])) := by
          unfold Hid
          rw [← drop_rev l i hi]
          exact hY2.app (RowIs.one y2)
        have hYl : Y.length ≤ 2000 := by rw [hY2.1]; simp; omega
        have HOw := hid (hY1.alloc (.cells y.cs.toArray 32))
        have HF5 := hid (hY3.trans (uFr wr y) (fun _ h => h.elim))
        have HBx := hid (uBlk wr y)
        have hbase : w3.heap.size ≤ (uBox wr y).heap.size := HF5.out.size
        clear hY1 hY2 hY3 hF4 y1 y2
        obtain ⟨n', s', ra', rl', rc', aa', al', ac'⟩ := y
        simp only [uBox, Uv.cs] at *
        go_wp2_with (at_builtin; refine Hid.out ?_)
        refine wpList_app_U (by rfl) _ _ (by rfl) w3.heap.size _ Y [⟨n', s', ra', rl', rc', aa', al', ac'⟩] (some ⟨wr.heap.size, 0, none⟩) 1 (by rfl) (by rfl) HOw.out (fun _ => ⟨wr.heap.size, 0, rfl, fun q u hq => by rw [Nat.zero_add, HBx.out.cell q]; simpa [flatU, Uv.cs] using hq⟩) hbase (by simp; omega) ?_
        intro v' W' ho hg _
        have HTn : Hid (Tn w w3 W' (l.drop i).reverse v') := ⟨_, ho, HR2.out, HF5.out.grown hg (fun k hk => .inr (own_lt HOw.out k hk).1)⟩
        clear ho hg HOw HF5 HBx hbase HR2 k0 k1 k2 k3
        go_wp2_with fail
        cases i with
        | zero => exact ⟨.inr ⟨by first | rfl | go_num, by simpa using HTn.out⟩, by simp [intOf]⟩
        | succ i' => exact ⟨.inl ⟨i', k + 1, by omega, by go_num, HTn.out⟩, by simp [intOf]; omega⟩
      · obtain ⟨Y, hY1, hY2, hY3⟩ := hTn
        obtain ⟨ta, tc, hv⟩ := own_len hY1
        subst hv
        have hYl : Y.length = l.reverse.length := hY2.1
        have HF4 := hid (HF3.out.trans hY3 (fun _ h => h.elim))
        have HC := hid (order_any w wr (Env.of HF4.out) l.reverse ta tc (us_own hY1 hY2) (by simp; omega) (fun u hu => HSm.out u (List.mem_reverse.1 hu)) (tab_fr HT.out HF4.out))
        rw [HO2.out, ← hYl] at HC
        have HOt4 := hid (HOt.out.fr hY3)
        clear hY1 hY2 hY3 hYl HOt HF3 HSm
        go_wp2_with fail
        refine HC.out.mono ?_
        rintro e w5 ⟨f5, v2, X2, rfl, hOt2⟩
        obtain ⟨va2, vc2, hv2⟩ := own_len hOt2.own
        subst hv2
        rw [hOt2.row.1]
        have HF5 := hid (HF4.out.trans f5 (fun _ h => h.elim))
        have hOt5 := HOt4.out.fr f5
        have HUx := hid (us_own hOt5.own hOt5.row)
        have hxb : x.length ≤ lim := by have := ord_le HO1.out; unfold lim; omega
        have HSa := hid (sameAll_any w5 w5 (Env.refl _) x x va va2 vc vc2 HUx.out (us_own hOt2.own hOt2.row) hxb)
        rw [decide_eq_true (rfl : x = x)] at HSa
        clear f5 hOt2 hOt5 HOt4 HC HF4
        go_wp2_with fail
        refine HSa.out.mono ?_
        rintro e w6 ⟨rfl, f6⟩
        have HF6 := hid (HF5.out.trans f6 (fun _ h => h.elim))
        have HUx6 := hid ((HUx.out.env (Env.of f6)).up (Env.of f6))
        have HUl := hid (HU.out.env (Env.of HF6.out))
        clear f6 HSa HF5 HUx HU
        have hee : (er != er) = false := by simp
        by_cases h10 : er = 10
        · have h10' : (er != 10) = false := by simp [h10]
          have h0' : (er != 0) = true := by simp [h10]
          have hx0 : x = [] := ord_err HO1.out (by omega)
          have hX0 : x.length = 0 := by rw [hx0]; rfl
          rw [hX0]
          clear HUx6 hX0 hx0 hxb
          go_wp2_with fail
          go_ret
          exact ⟨rfl, HF6.out⟩
        · have h10' : (er != 10) = true := by simpa using h10
          have hnm : n = m := HNm.out.resolve_left h10
          subst hnm
          have hnn : (n != n) = false := by simp
          by_cases h0 : er = 0
          · subst h0
            have h0' : ((0 : Int) != 0) = false := rfl
            have HG := hid (good_of HO1.out)
            have hll : (((x.length : Nat) : Int) != ((l.length : Nat) : Int)) = false := by rw [HG.out.len]; simp
            have hxl : x.length ≤ 2000 := by rw [HG.out.len]; exact hl2
            have HCx := hid (fun nm => find_any w6 w6 x va vc nm HUx6.out (by unfold lim; omega))
            have HCl := hid (fun nm => find_any w w6 l ad cap nm HUl.out (by unfold lim; omega))
            clear HUl hxb
            go_wp2_with fail
            clear hll
            have HAft : Hid (∀ i (h : i < x.length), ∀ q ∈ x[i].a, fiI x q < (i : Int)) := fun i h q hq => by
              rcases HG.out.aft i h q hq with e | ⟨j, e, hj⟩
              · rw [fiI_none e]; omega
              · rw [fiI_some e]; omega
            have HReq : Hid (∀ i (h : i < x.length), ∀ q ∈ x[i].r, fiI x q < (i : Int) ∧ 0 ≤ fiI x q) := fun i h q hq => by
              obtain ⟨j, e, hj⟩ := HG.out.req i h q hq
              rw [fiI_some e]; omega
            clear HO1 HO2 HNm HT
            go_loopw [14] (fun iv wr => ∃ i : Nat, i ≤ x.length ∧ iv = .int .i64 (i : Int) ∧ w6 = wr) (fun iv _ => x.length - (intOf iv).toNat)
            case atStart => exact ⟨0, Nat.zero_le _, rfl, rfl⟩
            case round =>
              obtain ⟨i, hi, rfl, hw⟩ := hrel
              have HW := hid hw
              rw [hw] at HUx6 HCx HCl
              by_cases hlt : i < x.length
              · have hi1 : (i : Int) < ((x.length : Nat) : Int) := by omega
                have hi0 : (0 : Int) ≤ (i : Int) := Int.natCast_nonneg _
                obtain ⟨bb, bo, rfl⟩ := HUx6.out.some hlt
                obtain ⟨y, y1, y2⟩ := HUx6.out.get i hlt
                obtain ⟨k0, k1, k2, k3⟩ := y1.all
                have hyn := y2.n
                have hrl := y2.rl
                have hal := y2.al
                obtain ⟨j, hj⟩ := HG.out.old i hlt
                have HC1 := hid (HCx.out y.n)
                have HC2 := hid (HCl.out y.n)
                rw [hyn, fiI_some (HG.out.own i hlt)] at HC1
                rw [hyn, fiI_some hj] at HC2
                rw [hyn] at k0
                have HSr := hid y2.r
                have HSa := hid y2.a
                have HRi := hid (HReq.out i hlt)
                have HAi := hid (HAft.out i hlt)
                have hb1 : x[i].r.length ≤ 140737488351232 := y2.ok.r
                have hb2 : x[i].a.length ≤ 140737488351232 := y2.ok.a
                have hii : ((i : Int) != (i : Int)) = false := by simp
                have hj0 : ¬ ((j : Int) < 0) := by omega
                clear y1 y2 hyn hj
                generalize x[i].r = rs at *
                generalize x[i].a = xs at *
                generalize x[i].n = nm at *
                obtain ⟨n', s', ra', rl', rc', aa', al', ac'⟩ := y
                simp only at hrl hal HSr HSa k2 k3
                subst hrl hal
                go_wp2_with fail
                refine HC1.out.mono ?_
                rintro e wa ⟨rfl, hwa⟩
                subst hwa
                go_wp2_with fail
                refine HC2.out.mono ?_
                rintro e wb ⟨rfl, hwb⟩
                subst hwb
                clear HC1 HC2
                obtain ⟨wo, hwo⟩ : ∃ wo, wo = wr := ⟨_, rfl⟩
                subst hwo
                go_wp2_with fail
                go_loopw [15] (fun kv wr => ∃ k : Nat, k ≤ rs.length ∧ kv = .int .i64 (k : Int) ∧ wo = wr) (fun kv _ => rs.length - (intOf kv).toNat)
                case atStart => exact ⟨0, Nat.zero_le _, rfl, rfl⟩
                case round =>
                  obtain ⟨k, hk, rfl, hw2⟩ := hrel
                  have HW2 := hid hw2
                  rw [hw2] at k0 k1 k2 k3 HSr HSa HCx
                  by_cases hkl : k < rs.length
                  · have hkl' : (k : Int) < ((rs.length : Nat) : Int) := by omega
                    have hk0 : (0 : Int) ≤ (k : Int) := Int.natCast_nonneg _
                    obtain ⟨nb, no, rfl, kn⟩ := HSr.out.at k hkl
                    obtain ⟨g1, g2⟩ := HRi.out rs[k] (List.getElem_mem hkl)
                    have HC3 := hid (HCx.out rs[k])
                    generalize rs[k] = nk at *
                    generalize fiI x nk = fk at *
                    have g3 : ¬ (fk < 0) := by omega
                    have g4 : ¬ ((i : Int) ≤ fk) := by omega
                    clear HRi
                    go_wp2_with fail
                    refine HC3.out.mono ?_
                    rintro e wa ⟨rfl, hwa⟩
                    subst hwa
                    go_wp2_with fail
                    exact ⟨⟨k + 1, by omega, by go_num, HW2.out⟩, by simp [intOf]; omega⟩
                  · have hkl' : ¬ ((k : Int) < ((rs.length : Nat) : Int)) := by omega
                    have HW3 : Hid (w6 = wr) := HW.out.trans HW2.out
                    clear HW HW2 HRi HSr
                    obtain ⟨wp, hwp⟩ : ∃ wp, wp = wr := ⟨_, rfl⟩
                    subst hwp
                    go_wp2_with fail
                    go_loopw [17] (fun kv wr => ∃ k : Nat, k ≤ xs.length ∧ kv = .int .i64 (k : Int) ∧ wp = wr) (fun kv _ => xs.length - (intOf kv).toNat)
                    case atStart => exact ⟨0, Nat.zero_le _, rfl, rfl⟩
                    case round =>
                      obtain ⟨k, hk, rfl, hw2⟩ := hrel
                      have HW2 := hid hw2
                      rw [hw2] at k0 k1 k2 k3 HSa HCx
                      by_cases hkl : k < xs.length
                      · have hkl' : (k : Int) < ((xs.length : Nat) : Int) := by omega
                        have hk0 : (0 : Int) ≤ (k : Int) := Int.natCast_nonneg _
                        obtain ⟨nb, no, rfl, kn⟩ := HSa.out.at k hkl
                        have g1 := HAi.out xs[k] (List.getElem_mem hkl)
                        have HC3 := hid (HCx.out xs[k])
                        generalize xs[k] = nk at *
                        generalize fiI x nk = fk at *
                        have g4 : ¬ ((i : Int) ≤ fk) := by omega
                        clear HAi
                        go_wp2_with fail
                        refine HC3.out.mono ?_
                        rintro e wa ⟨rfl, hwa⟩
                        subst hwa
                        go_wp2_with fail
                        exact ⟨⟨k + 1, by omega, by go_num, HW2.out⟩, by simp [intOf]; omega⟩
                      · have hkl' : ¬ ((k : Int) < ((xs.length : Nat) : Int)) := by omega
                        have HW4 : Hid (w6 = wr) := HW3.out.trans HW2.out
                        go_wp2_with fail
                        exact ⟨⟨i + 1, by omega, by go_num, HW4.out⟩, by simp [intOf]; omega⟩
              · have hi1 : ¬ ((i : Int) < ((x.length : Nat) : Int)) := by omega
                have HF7 : Hid (Fr (fun _ => False) w wr) := by rw [← HW.out]; exact HF6.out
                go_wp2_with fail
                go_ret
                exact ⟨rfl, HF7.out⟩
          · have h0' : (er != 0) = true := by simpa using h0
            have hx0 : x = [] := ord_err HO1.out h0
            have hX0 : x.length = 0 := by rw [hx0]; rfl
            rw [hX0]
            clear HUx6 hX0 hx0 hxb
            go_wp2_with fail
            go_ret
            exact ⟨rfl, HF6.out⟩
end Go.Proofs.YtcpeebkfnnkjnaaDoor.Tr
