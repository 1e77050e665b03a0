import Derived.Test.YtniailfcmlongaaGreatDoorTmaM
import Derived.Test.YtniailfcmlongaaGreatDoorTmhM
/- counting over two worlds: the cells of now, the values of then. -/
namespace Go.Proofs.YtniailfcmlongaaGreatDoor.Tr
open Go.RowKit Go.Sort

/-- Definitions that lie in a row now, whose values hang on an older world. -/
def DsW (w0 w : World) (L : List Dt) (ad : Option Addr) : Prop := L ≠ [] → ∃ b o, ad = some ⟨b, o, none⟩ ∧ ∀ i (h : i < L.length), ∃ y, eight w b (o + i * 8) y ∧ DIn w0 L[i] y
theorem DsW.env {w0 w W : World} {L : List Dt} {ad : Option Addr} (h : DsW w0 w L ad) (e : Env w W) : DsW w0 W L ad := fun hne => by
  obtain ⟨b, o, h1, h2⟩ := h hne
  refine ⟨b, o, h1, fun i hi => ?_⟩
  obtain ⟨y, y1, y2⟩ := h2 i hi
  exact ⟨y, eight_env y1 e, y2⟩
theorem DsW.ds {w0 w : World} {L : List Dt} {ad : Option Addr} (h : DsW w0 w L ad) (e : Env w0 w) : DsIn w L ad := fun hne => by
  obtain ⟨b, o, h1, h2⟩ := h hne
  refine ⟨b, o, h1, fun i hi => ?_⟩
  obtain ⟨y, y1, y2⟩ := h2 i hi
  exact ⟨y, y1, y2.env e⟩
theorem DsIn.w {w : World} {L : List Dt} {ad : Option Addr} (h : DsIn w L ad) : DsW w w L ad := h
theorem DsW.at {w0 w : World} {L : List Dt} {ad : Option Addr} (h : DsW w0 w L ad) (i : Nat) (hi : i < L.length) : ∃ b o y, ad = some ⟨b, o, none⟩ ∧ eight w b (o + i * 8) y ∧ DIn w0 L[i] y := by
  obtain ⟨b, o, h1, h2⟩ := h (fun e => by rw [e] at hi; simp at hi)
  obtain ⟨y, y1, y2⟩ := h2 i hi
  exact ⟨b, o, y, h1, y1, y2⟩

set_option maxRecDepth 100000 in
set_option maxHeartbeats 4000000 in
theorem counting_two (w0 w : World) (e0 : Env w0 w) (L : List Dt) (ad : Option Addr) (cap : Nat) (hI : DsW w0 w L ad) (hlim : L.length ≤ 1000) (hne : L ≠ []) (h20 : (cntF L).length ≤ 1000) (hc0 : 0 < (cntF L).length) :
    Calls Tryz.prog 32 #[.slice ad L.length cap] w fun e w' => (∃ (F : List Dz) (ia : Option Addr) (ic : Nat), e = .returned (.slice ia F.length ic) ∧ F.length ≤ ic ∧ F.map (·.1) = cntF L ∧ (∀ z ∈ F, DIn w0 z.1 z.2) ∧ Rws w0 w' ((staZ F.toArray).toList.map (·.1.v)) ia) ∧ Fr (fun _ => False) w w' := by
  have hst := fun (W : World) (a : Addr) (m : Mode) (f : Nat) => run_store Tryz.prog W a (.float .f64 f) m rfl
  have HI := hid hI
  have HM := hid (minFunc_any w L ad cap (hI.ds e0) (by omega) hne)
  have HC0 := hid hc0
  have HC20 := hid h20
  unfold cntF at *
  generalize leastP L = lp at *
  clear hI e0 hne hc0 h20
  go_enter Tryz.func32, Tryz.ntmps32
  go_wp2_with fail
  refine HM.out.mono ?_
  rintro e w1 ⟨⟨y, rfl, hyp⟩, f1⟩
  have HF1 := hid f1
  have hfd := fun W => dv_field W y
  rw [hyp] at hfd
  clear f1 hyp
  go_wp2_with fail
  go_loopw [4, 6, 15] (fun fv _ iv wr => ∃ (i : Nat) (F : List Dz), i ≤ L.length ∧ iv = .int .i64 (i : Int) ∧ wr.ownsRow w.heap.size 30 8 fv F.length (flatD F) ∧ F.map (·.1) = (L.take i).filter (fun d => decide (d.p = lp)) ∧ (∀ z ∈ F, DIn w0 z.1 z.2) ∧ Fr (fun _ => False) w wr) (fun _ _ iv _ => L.length - (intOf iv).toNat)
  case atStart => exact ⟨0, [], Nat.zero_le _, rfl, World.ownsRow_nil _ _ _ _, by simp, by simp, HF1.out⟩
  case round =>
    obtain ⟨i, F, hi, rfl, hO, hM, hD, hF⟩ := hrel
    have HO := hid hO
    have HMp := hid hM
    have HD := hid hD
    have HF := hid hF
    have hFl : F.length ≤ 1000 := by
      have := congrArg List.length hM
      rw [List.length_map] at this
      have h2 := List.length_filter_le (fun d : Dt => decide (d.p = lp)) (L.take i)
      have h3 := List.length_take_le i L
      omega
    clear hO hM hD hF HF1 hfd HM
    by_cases hlt : i < L.length
    · have hlt' : (i : Int) < ((L.length : Nat) : Int) := by omega
      obtain ⟨bb, bo, y, rfl, y1, y2⟩ := HI.out.at i hlt
      obtain ⟨k0, k1, k2, k3, k4, k5, k6, k7⟩ := eight_env y1 (Env.of HF.out)
      have HFb := hid (HF.out.trans (dFr wr y) (fun _ h => h.elim))
      have HDy := hid y2
      have HS := hid (filter_snoc L (fun d => decide (d.p = lp)) i hlt)
      clear y1 y2
      by_cases hp : y.p = lp
      · have hp' : (y.p == lp) = true := by simpa using hp
        have HMp2 : Hid ((F ++ [(L[i], y)]).map (·.1) = (L.take (i + 1)).filter (fun d => decide (d.p = lp))) := by
          unfold Hid
          rw [HS.out, List.map_append, HMp.out, if_pos (by simp only [decide_eq_true_eq]; rw [← HDy.out.2.1]; exact hp)]
          rfl
        have HD2 : Hid (∀ z ∈ F ++ [(L[i], y)], DIn w0 z.1 z.2) := fun z hz => by
          rcases List.mem_append.1 hz with h | h
          · exact HD.out z h
          · simp only [List.mem_singleton] at h; subst h; exact HDy.out
        have HOb := hid (own_alloc (own_alloc HO.out (.cells #[.int .i64 y.x.k, .int .i64 y.x.n, .float .f64 y.x.f, .string ⟨y.x.t.toArray⟩, .slice y.x.na y.x.nl y.x.nc, .slice y.x.ia y.x.il y.x.ic, .int .i64 y.p, .int .i64 y.o] 30)) (.cells #[.int .i64 y.x.k, .int .i64 y.x.n, .float .f64 y.x.f, .string ⟨y.x.t.toArray⟩, .slice y.x.na y.x.nl y.x.nc, .slice y.x.ia y.x.il y.x.ic, .int .i64 y.p, .int .i64 y.o] 30))
        have HGb : Hid (Blk (dBox (dBox wr y) y) (wr.heap.size + 1) 30 y.cs) := by
          have := dBlk (dBox wr y) y
          rw [World.size_alloc] at this
          exact this
        have HFc := hid (HFb.out.trans (dFr _ y) (fun _ h => h.elim))
        have hsz : w.heap.size ≤ (dBox (dBox wr y) y).heap.size := HFc.out.size
        clear hp HMp HD HDy HS
        obtain ⟨⟨k, n, f, t, na, nl, nc, ia, il, ic⟩, p, o⟩ := y
        simp only at *
        go_wp2_with (at_builtin; refine Hid.out ?_)
        refine wpList_app_D (by rfl) _ _ (by rfl) w.heap.size _ F (L[i], ⟨⟨k, n, f, t, na, nl, nc, ia, il, ic⟩, p, o⟩) _ _ (by rfl) (by rfl) HOb.out HGb.out (by first | exact hsz | simp) hFl ?_
        intro g' ic' W' ho hg
        have HO2 := hid ho
        have HG2 := hid hg
        clear ho hg
        have HF2 : Hid (Fr (fun _ => False) w W') := HFc.out.grown HG2.out (fun k hk => .inr (own_lt HO.out k hk).1)
        go_wp2_with fail
        exact ⟨⟨i + 1, F ++ [(L[i], ⟨⟨k, n, f, t, na, nl, nc, ia, il, ic⟩, p, o⟩)], by omega, by first | rfl | (congr 1), HO2.out, HMp2.out, HD2.out, HF2.out⟩, by simp [intOf]; omega⟩
      · have hp' : (y.p == lp) = false := by simpa using hp
        have HMp2 : Hid (F.map (·.1) = (L.take (i + 1)).filter (fun d => decide (d.p = lp))) := by
          unfold Hid
          rw [HS.out, HMp.out, if_neg (by simp only [decide_eq_true_eq]; rw [← HDy.out.2.1]; exact hp)]
          simp
        have HOb := hid (own_alloc HO.out (.cells #[.int .i64 y.x.k, .int .i64 y.x.n, .float .f64 y.x.f, .string ⟨y.x.t.toArray⟩, .slice y.x.na y.x.nl y.x.nc, .slice y.x.ia y.x.il y.x.ic, .int .i64 y.p, .int .i64 y.o] 30))
        clear hp HMp HDy HS
        obtain ⟨⟨k, n, f, t, na, nl, nc, ia, il, ic⟩, p, o⟩ := y
        simp only at *
        go_wp2_with fail
        exact ⟨⟨i + 1, F, by omega, by first | rfl | (congr 1), HOb.out, HMp2.out, HD.out, HFb.out⟩, by simp [intOf]; omega⟩
    · have hlt' : ¬ (i : Int) < ((L.length : Nat) : Int) := by omega
      have HMp2 : Hid (F.map (·.1) = L.filter (fun d => decide (d.p = lp))) := by
        unfold Hid; rw [HMp.out, List.take_of_length_le (by omega)]
      have hlen : F.length = (L.filter (fun d => decide (d.p = lp))).length := by rw [← HMp2.out, List.length_map]
      have hF0 : 0 < F.length := by rw [hlen]; exact HC0.out
      have hF20 : F.length ≤ 1000 := by rw [hlen]; exact HC20.out
      clear hlen
      obtain ⟨g, fc, cur, hv, hgB, hgl, hgc, hfc, hgt⟩ := own_row HO.out hF0
      subst hv
      have HH := hid (own_holds F hgc hgt)
      have HSo := hid (sort_any wr g 0 fc F.toArray HH.out hgl (by simpa using hF20))
      have HDm : Hid (∀ z ∈ (staZ F.toArray).toList, DIn w0 z.1 z.2) := fun z hz => HD.out z (by have := (staZ_mem F.toArray).mem_iff.1 hz; simpa using this)
      have hDs : (staZ F.toArray).size = F.length := by rw [staZ_size]; simp
      have hFs : F.toArray.size = F.length := by simp
      rw [hFs] at HSo
      generalize hDD : staZ F.toArray = D at *
      have HDD := hid hDD
      clear hDD
      clear hgc hgt HMp hFs
      go_wp2_with fail
      refine HSo.out.mono ?_
      rintro e w2 ⟨rfl, f2, hH2⟩
      have HF2 : Hid (Fr (fun _ => False) w w2) := HF.out.trans f2 (fun j hj => .inr (by omega))
      have HH2 := hid hH2
      have hg2 : g < w2.heap.size := Nat.lt_of_lt_of_le hgl f2.size
      clear f2 hH2 HH HSo
      have HE8 : Hid (∀ i (h : i < F.length), eight w2 g (i * 8) (D[i]'(by omega)).2) := fun i h => by
        have := holds_eight HH2.out i (by omega)
        rw [Nat.zero_add] at this
        exact this
      clear HH2
      go_wp2_with fail
      go_loopw [7, 9, 32] (fun lv _ iv wr' => ∃ (i : Nat) (X : List Vv), i ≤ F.length ∧ iv = .int .i64 (i : Int) ∧ wr'.ownsRow w2.heap.size 26 6 lv X.length (flatV X) ∧ X = (D.toList.take i).map (·.2.x) ∧ Fr (fun _ => False) w2 wr') (fun _ _ iv _ => F.length - (intOf iv).toNat)
      case atStart => exact ⟨0, [], Nat.zero_le _, rfl, World.ownsRow_nil _ _ _ _, by simp, Fr.refl _ _⟩
      case round =>
        obtain ⟨j, X, hj, rfl, hO, hX, hF⟩ := hrel
        have HOx := hid hO
        have HX := hid hX
        have HFx := hid hF
        have hXl : X.length = j := by rw [hX]; simp; omega
        clear hO hX hF HO HF
        by_cases hlt : j < F.length
        · have hlt2 : (j : Int) < ((F.length : Nat) : Int) := by omega
          have hjD : j < D.size := by omega
          have HX2 : Hid (X ++ [D[j].2.x] = (D.toList.take (j + 1)).map (·.2.x)) := by
            unfold Hid
            rw [List.take_succ_eq_append_getElem (by simpa using hjD), List.map_append, ← HX.out]
            simp
          obtain ⟨k0, k1, k2, k3, k4, k5, k6, k7⟩ := eight_env (HE8.out j hlt) (Env.of HFx.out)
          generalize D[j].2 = y at *
          have HFb := hid (HFx.out.trans (dFr wr y) (fun _ h => h.elim))
          have HOb := hid (own_alloc (own_alloc HOx.out (.cells #[.int .i64 y.x.k, .int .i64 y.x.n, .float .f64 y.x.f, .string ⟨y.x.t.toArray⟩, .slice y.x.na y.x.nl y.x.nc, .slice y.x.ia y.x.il y.x.ic, .int .i64 y.p, .int .i64 y.o] 30)) (.cells #[.int .i64 y.x.k, .int .i64 y.x.n, .float .f64 y.x.f, .string ⟨y.x.t.toArray⟩, .slice y.x.na y.x.nl y.x.nc, .slice y.x.ia y.x.il y.x.ic] 26))
          have HGb : Hid (Blk (vBox (dBox wr y) y.x) (wr.heap.size + 1) 26 y.x.cs) := by
            have := vBlk (dBox wr y) y.x
            rw [World.size_alloc] at this
            exact this
          have HFc := hid (HFb.out.trans (vFr _ y.x) (fun _ h => h.elim))
          have hsz : w2.heap.size ≤ (vBox (dBox wr y) y.x).heap.size := HFc.out.size
          have hXl2 : X.length ≤ 1000 := by omega
          clear HX hjD hXl
          obtain ⟨⟨k, n, f, t, na, nl, nc, ia, il, ic⟩, p, o⟩ := y
          simp only at *
          go_wp2_with (at_builtin; refine Hid.out ?_)
          refine wpList_app_V (by rfl) _ _ (by rfl) w2.heap.size _ X ⟨k, n, f, t, na, nl, nc, ia, il, ic⟩ _ _ (by rfl) (by rfl) HOb.out HGb.out (by first | exact hsz | simp) hXl2 ?_
          intro g' ic' W' ho hg
          have HO2 := hid ho
          have HF3 : Hid (Fr (fun _ => False) w2 W') := HFc.out.grown hg (fun k hk => .inr (own_lt HOx.out k hk).1)
          clear ho hg
          go_wp2_with fail
          exact ⟨⟨j + 1, _, by omega, by first | rfl | (congr 1), HO2.out, HX2.out, HF3.out⟩, by simp [intOf]; omega⟩
        · have hlt2 : ¬ (j : Int) < ((F.length : Nat) : Int) := by omega
          have HX2 : Hid (X = D.toList.map (·.2.x)) := by
            unfold Hid; rw [HX.out, List.take_of_length_le (by simp; omega)]
          have hXF : X.length = F.length := by rw [HX2.out]; simp; omega
          obtain ⟨g3, c3, cur3, hv3, hb3, hl3, hc3, hf3, ht3⟩ := own_row HOx.out (by omega)
          subst hv3
          have HF3 := hid (HF2.out.trans HFx.out (fun _ h => h.elim))
          have HDm2 : Hid (∀ z ∈ F, DIn w0 z.1 z.2) := HD.out
          have HII : Hid (Rws w0 wr (D.toList.map (·.1.v)) (some ⟨g3, 0, none⟩)) := by
            refine rws_own _ HOx.out ⟨by rw [hXF]; simp; omega, fun i h h' => ?_⟩
            have hiD : i < D.toList.length := by simpa using h
            have e1 : X[i] = D.toList[i].2.x := by
              have := HX2.out
              subst this
              simp
            rw [e1, List.getElem_map]
            exact (HDm.out _ (List.getElem_mem hiD)).1
          have hcap3 : F.length ≤ c3 := by omega
          rw [hXF]
          clear HX HX2
          go_wp2_with fail
          go_ret
          exact ⟨⟨F, _, c3, rfl, hcap3, HMp2.out, fun a b h => HDm2.out (a, b) h, by rw [HDD.out]; exact HII.out⟩, HF3.out⟩
end Go.Proofs.YtniailfcmlongaaGreatDoor.Tr
/- The contract of Merge of no definitions. -/
namespace Go.Proofs.YtniailfcmlongaaGreatDoor.Tr
open Go.RowKit

set_option maxRecDepth 100000 in
set_option maxHeartbeats 4000000 in
theorem Merge_unset (w : World) (t : List UInt8) (ad : Option Addr) (cap : Nat) (hl : t.length ≤ 140737488355328) (hm : Mx w) (k : Ty) (hk : readT t = some k) :
    Calls Tryz.prog 17 #[.string ⟨t.toArray⟩, .slice ad 0 cap] w fun e w' => e = .returned (.tuple #[vZ.v, .int .i64 26]) ∧ Fr (fun _ => False) w w' := by
  have HC := hid (read_any (vBox w vZ) t hl (hm.env (Env.alloc w _)))
  have HF0 := hid (vFr w vZ)
  have HB0 := hid (vBlk w vZ)
  have HAR : Hid (∀ W, Calls Tryz.prog 31 #[.slice ad 0 cap] W fun e w' => e = .returned (.bool true) ∧ Fr (fun _ => False) W w') := fun W => allRight_any W [] ad cap (fun h => absurd rfl h) (by simp)
  rw [hk] at HC
  clear hm hk
  go_enter Tryz.func17, Tryz.ntmps17
  go_wp2_with fail
  refine HC.out.mono ?_
  rintro e w1 ⟨f1, ⟨h1, _⟩ | ⟨k1, b1, h1, rfl, hK1⟩⟩
  · cases h1
  have HF1 := hid (HF0.out.trans f1 (fun _ h => h.elim))
  have HB1 := hid (f1.blk HB0.out (fun h => h))
  clear f1 hK1 h1 HF0 HB0 HC
  go_wp2_with fail
  refine (HAR.out _).mono ?_
  rintro e w2 ⟨rfl, f2⟩
  have HF2 := hid (HF1.out.trans f2 (fun _ h => h.elim))
  have HB2 := hid (f2.blk HB1.out (fun h => h))
  clear f2 HF1 HB1 HAR
  go_wp2_with (refine wpList_storeV vZ (by rfl) _ _ (by rfl) HB2.out (by rfl) (by rfl) ?_; intro w5 b5 f5)
  have HF5 : Hid (Fr (fun _ => False) w w5) := HF2.out.trans f5 (fun j hj => .inr (by omega))
  have HB5 := hid b5
  clear b5 f5
  go_wp2_with fail
  exact bodyPost_ret (resVE rfl rfl HB5.out) rfl ⟨rfl, HF5.out⟩
/-- A row of definitions of one's own. -/
theorem ds_own {w : World} {B cap : Nat} {ad : Option Addr} {F : List Dz} (h : w.ownsRow B 30 8 (.slice ad F.length cap) F.length (flatD F)) (hD : ∀ z ∈ F, DIn w z.1 z.2) : DsIn w (F.map (·.1)) ad := fun hne => by
  have hpos : 0 < F.length := by
    rcases Nat.eq_zero_or_pos F.length with h0 | h0
    · exfalso; apply hne; rw [List.eq_nil_of_length_eq_zero h0]; rfl
    · exact h0
  obtain ⟨g, c, cur, e, _, _, hc, _, ht⟩ := own_row h hpos
  simp only [Value.slice.injEq] at e
  refine ⟨g, 0, e.1, fun i hi => ?_⟩
  have hi' : i < F.length := by simpa using hi
  refine ⟨F[i].2, ?_, ?_⟩
  · have := holds_eight (own_holds F hc ht) i (by simpa using hi')
    simpa using this
  · simp only [List.getElem_map]
    exact hD F[i] (List.getElem_mem hi')
end Go.Proofs.YtniailfcmlongaaGreatDoor.Tr
/- Merge of any definitions, of any type. -/
namespace Go.Proofs.YtniailfcmlongaaGreatDoor.Tr
open Go.RowKit

theorem least_mem : ∀ (L : List Dt), L ≠ [] → (∃ d ∈ L, d.p = leastP L) ∧ ∀ d ∈ L, leastP L ≤ d.p := by
  have key : ∀ (l : List Dt) (a : Int), (l.foldl lessP a = a ∨ ∃ d ∈ l, d.p = l.foldl lessP a) ∧ l.foldl lessP a ≤ a ∧ ∀ d ∈ l, l.foldl lessP a ≤ d.p := by
    intro l
    induction l with
    | nil => intro a; exact ⟨.inl rfl, Int.le_refl _, by simp⟩
    | cons x r ih =>
      intro a
      obtain ⟨h1, h2, h3⟩ := ih (lessP a x)
      have hl : lessP a x ≤ a ∧ lessP a x ≤ x.p ∧ (lessP a x = a ∨ lessP a x = x.p) := by unfold lessP; split <;> omega
      refine ⟨?_, ?_, ?_⟩
      · rcases h1 with h1 | ⟨d, hd, e⟩
        · rcases hl.2.2 with h | h
          · exact .inl (h1.trans h)
          · exact .inr ⟨x, List.mem_cons_self, (h1.trans h).symm⟩
        · exact .inr ⟨d, List.mem_cons_of_mem _ hd, e⟩
      · exact Int.le_trans h2 hl.1
      · intro d hd
        rcases List.mem_cons.1 hd with rfl | hd
        · exact Int.le_trans h2 hl.2.1
        · exact h3 d hd
  intro L hne
  cases L with
  | nil => exact absurd rfl hne
  | cons x r =>
    obtain ⟨h1, h2, h3⟩ := key r x.p
    refine ⟨?_, fun d hd => ?_⟩
    · rcases h1 with h1 | ⟨d, hd, e⟩
      · exact ⟨x, List.mem_cons_self, h1.symm⟩
      · exact ⟨d, List.mem_cons_of_mem _ hd, e⟩
    · rcases List.mem_cons.1 hd with rfl | hd
      · exact h2
      · exact h3 d hd
theorem cntF_pos {L : List Dt} (hne : L ≠ []) : 0 < (cntF L).length := by
  obtain ⟨d, hd, e⟩ := (least_mem L hne).1
  exact List.length_pos_of_mem (List.mem_filter.2 ⟨hd, by simpa using e⟩)
theorem insT_mem (l : List Dt) (d : Dt) : d ∈ insT l ↔ d ∈ l := by
  have h := (Sort.insertionSort_holds (lt := ltOf cfT) swoT l.toArray 0 l.length (Nat.zero_le _) (by simp)).1
  have hs : (Sort.insertionSort (ltOf cfT) l.toArray 0 l.length).size = l.length := by simpa using h.1
  have hp := h.2.2
  unfold insT
  have e1 : ((Sort.insertionSort (ltOf cfT) l.toArray 0 l.length).extract 0 l.length).toList = (Sort.insertionSort (ltOf cfT) l.toArray 0 l.length).toList := by
    rw [Array.toList_extract, List.extract_eq_take_drop]
    simp only [List.drop_zero, Nat.sub_zero]
    rw [List.take_of_length_le (by rw [Array.length_toList, hs]; exact Nat.le_refl _)]
  rw [e1] at hp
  have := hp.mem_iff (a := d)
  simpa using this
theorem cntV_of {L : List Dt} {v : Vt} (h : v ∈ cntV L) : ∃ d ∈ L, d.v = v := by
  obtain ⟨d, hd, rfl⟩ := List.mem_map.1 h
  exact ⟨d, (List.mem_filter.1 ((insT_mem _ d).1 hd)).1, rfl⟩
theorem cntV_ne {L : List Dt} (hne : L ≠ []) : cntV L ≠ [] := fun e => by
  have := cntV_len L
  rw [e] at this
  have h := cntF_pos hne
  simp at this; omega

set_option maxRecDepth 100000 in
set_option maxHeartbeats 4000000 in
theorem Merge_wrong (w : World) (t : List UInt8) (L : List Dt) (ad : Option Addr) (cap : Nat) (hI : DsIn w L ad) (hlim : L.length ≤ 1000) (hr : (L.all fun d => rtB d.v 32) = false) (hl : t.length ≤ 140737488355328) (hm : Mx w) (k : Ty) (hk : readT t = some k) :
    Calls Tryz.prog 17 #[.string ⟨t.toArray⟩, .slice ad L.length cap] w fun e w' => e = .returned (.tuple #[vZ.v, .int .i64 1]) ∧ Fr (fun _ => False) w w' := by
  have HC := hid (read_any (vBox w vZ) t hl (hm.env (Env.alloc w _)))
  have HF0 := hid (vFr w vZ)
  have HB0 := hid (vBlk w vZ)
  have HAR : Hid (∀ W, Env w W → Calls Tryz.prog 31 #[.slice ad L.length cap] W fun e w' => e = .returned (.bool false) ∧ Fr (fun _ => False) W w') := fun W e => by
    have := allRight_any W L ad cap (hI.env e) (by omega)
    rw [hr] at this
    exact this
  rw [hk] at HC
  clear hm hk hI hr
  go_enter Tryz.func17, Tryz.ntmps17
  go_wp2_with fail
  refine HC.out.mono ?_
  rintro e w1 ⟨f1, ⟨h1, _⟩ | ⟨k1, b1, h1, rfl, hK1⟩⟩
  · cases h1
  have HF1 := hid (HF0.out.trans f1 (fun _ h => h.elim))
  have HB1 := hid (f1.blk HB0.out (fun h => h))
  clear f1 hK1 h1 HF0 HB0 HC
  go_wp2_with fail
  refine (HAR.out _ (Env.of HF1.out)).mono ?_
  rintro e w2 ⟨rfl, f2⟩
  have HF2 := hid (HF1.out.trans f2 (fun _ h => h.elim))
  have HB2 := hid (f2.blk HB1.out (fun h => h))
  clear f2 HF1 HB1 HAR
  go_wp2_with (refine wpList_storeV vZ (by rfl) _ _ (by rfl) HB2.out (by rfl) (by rfl) ?_; intro w5 b5 f5)
  have HF5 : Hid (Fr (fun _ => False) w w5) := HF2.out.trans f5 (fun j hj => .inr (by omega))
  have HB5 := hid b5
  clear b5 f5
  go_wp2_with fail
  exact bodyPost_ret (resVE rfl rfl HB5.out) rfl ⟨rfl, HF5.out⟩

set_option maxRecDepth 100000 in
set_option maxHeartbeats 4000000 in
theorem Merge_ofH (w0 w : World) (e0 : Env w0 w) (t : List UInt8) (L : List Dt) (ad : Option Addr) (cap : Nat) (hl : t.length ≤ 140737488355328) (hm : Mx w) (k : Ty) (hk : readT t = some k) (hI : DsW w0 w L ad) (hlim : L.length ≤ 1000) (hne : L ≠ []) (hc0 : 0 < (cntF L).length)
    (hr : (L.all fun d => rtB d.v 32) = true) (hr2 : ∀ v ∈ cntV L, rtB v 32 = true) (T : Vt ⊕ Int) (hT : ((cntV L).all fun u => tkB k u) = false → T = .inr 11)
    (hM : ((cntV L).all fun u => tkB k u) = true → ∀ W b ia ic, Env w0 W → KIn W k b → Rws w0 W (cntV L) ia → (cntV L).length ≤ ic → Calls Tryz.prog 34 #[pv b, .slice ia (cntV L).length ic] W fun e w' => HPost w0 W T e w') :
    Calls Tryz.prog 17 #[.string ⟨t.toArray⟩, .slice ad L.length cap] w fun e w' => HPost w0 w T e w' := by
  have HC := hid (read_any (vBox w vZ) t hl (hm.env (Env.alloc w _)))
  have HF0 := hid (vFr w vZ)
  have HB0 := hid (vBlk w vZ)
  rw [hk] at HC
  have HAR : Hid (∀ W, Env w W → Calls Tryz.prog 31 #[.slice ad L.length cap] W fun e w' => e = .returned (.bool true) ∧ Fr (fun _ => False) W w') := fun W e => by
    have := allRight_any W L ad cap ((hI.env e).ds (e0.trans e)) (by omega)
    rw [hr] at this
    exact this
  have HCt : Hid (∀ W, Env w W → Calls Tryz.prog 32 #[.slice ad L.length cap] W fun e w' => (∃ ia ic, e = .returned (.slice ia (cntV L).length ic) ∧ (cntV L).length ≤ ic ∧ Rws w0 w' (cntV L) ia) ∧ Fr (fun _ => False) W w') := fun W e => (counting_two w0 W (e0.trans e) L ad cap (hI.env e) hlim hne (Nat.le_trans (List.length_filter_le _ _) hlim) hc0).mono fun _ _ ⟨⟨F, ia, ic, h1, h2, h3, h4, h5⟩, hf⟩ => by
    rw [sta_ins] at h5
    have e1 := cnt_of h3 h4
    have e2 : F.length = (cntV L).length := by
      have h : (insZ F.toArray).toList.length = F.length := (Array.length_toList (xs := insZ F.toArray)).trans ((insZ_size F.toArray).trans (by simp))
      rw [← e1, List.length_map, h]
    rw [e1] at h5
    rw [e2] at h1 h2
    exact ⟨⟨ia, ic, h1, h2, h5⟩, hf⟩
  have HTk : Hid (∀ W b ia ic, KIn W k b → IIn W (cntV L) ia → Calls Tryz.prog 33 #[pv b, .slice ia (cntV L).length ic] W fun e w' => e = .returned (.bool ((cntV L).all fun u => tkB k u)) ∧ Fr (fun _ => False) W w') := fun W b ia ic h1 h2 => takesAll_of k (takes_any k (readT_ok hk)) (cntV L) (fun u hu => ⟨32, hr2 u hu⟩) W ia ic b h2 (by
    have : (cntV L).length ≤ 1000 := by
      unfold cntV; rw [List.length_map]
      have e : (insT (cntF L)).length = (cntF L).length := by
        unfold insT
        rw [Array.length_toList]
        have := (Sort.insertionSort_holds (lt := ltOf cfT) swoT (cntF L).toArray 0 (cntF L).length (Nat.zero_le _) (by simp)).1.1
        simpa using this
      rw [e]; exact Nat.le_trans (List.length_filter_le _ _) hlim
    unfold lim; omega) h1
  have HT := hid hT
  have HE0 := hid e0
  have HM := hid hM
  have hL0 : (((L.length : Nat) : Int) == 0) = false := by simp; exact hne
  generalize ((cntV L).all fun u => tkB k u) = q at *
  generalize cntV L = V at *
  clear e0 hm hk hI hne hc0 hr hr2 hT hM
  go_enter Tryz.func17, Tryz.ntmps17
  go_wp2_with fail
  refine HC.out.mono ?_
  rintro e w1 ⟨f1, ⟨h1, _⟩ | ⟨k1, b1, h1, rfl, hK1⟩⟩
  · cases h1
  cases h1
  have HF1 := hid (HF0.out.trans f1 (fun _ h => h.elim))
  have HB1 := hid (f1.blk HB0.out (fun h => h))
  have HK1 := hid hK1
  clear f1 hK1 HF0 HB0 HC
  go_wp2_with fail
  refine (HAR.out _ (Env.of HF1.out)).mono ?_
  rintro e w2 ⟨rfl, f2⟩
  have HF2 := hid (HF1.out.trans f2 (fun _ h => h.elim))
  have HB2 := hid (f2.blk HB1.out (fun h => h))
  have HK2 := hid (KIn.env (Env.of f2) _ _ HK1.out)
  clear f2 HF1 HB1 HK1 HAR
  go_wp2_with fail
  refine (HCt.out _ (Env.of HF2.out)).mono ?_
  rintro e w3 ⟨⟨ia, ic, rfl, hic, hII⟩, f3⟩
  have HF3 := hid (HF2.out.trans f3 (fun _ h => h.elim))
  have HB3 := hid (f3.blk HB2.out (fun h => h))
  have HK3 := hid (KIn.env (Env.of f3) _ _ HK2.out)
  have HI3 := hid hII
  clear f3 HF2 HB2 HK2 HCt hII
  go_wp2_with fail
  refine (HTk.out _ _ _ _ HK3.out (HI3.out.iin (HE0.out.trans (Env.of HF3.out)))).mono ?_
  rintro e w4 ⟨rfl, f4⟩
  have HF4 := hid (HF3.out.trans f4 (fun _ h => h.elim))
  have HB4 := hid (f4.blk HB3.out (fun h => h))
  have HK4 := hid (KIn.env (Env.of f4) _ _ HK3.out)
  have HI4 := hid (HI3.out.env (Env.of f4))
  clear f4 HF3 HB3 HK3 HTk HI3
  cases q with
  | false =>
    have HE := hid (HT.out rfl)
    go_wp2_with (refine wpList_storeV vZ (by rfl) _ _ (by rfl) HB4.out (by rfl) (by rfl) ?_; intro w5 b5 f5)
    have HF5 : Hid (Fr (fun _ => False) w w5) := HF4.out.trans f5 (fun j hj => .inr (by omega))
    have HB5 := hid b5
    clear b5 f5
    go_wp2_with fail
    exact bodyPost_ret (resVE rfl rfl HB5.out) rfl ⟨HF5.out, .inl ⟨11, HE.out, rfl⟩⟩
  | true =>
    have HC5 := hid (HM.out rfl w4 _ ia ic (HE0.out.trans (Env.of HF4.out)) HK4.out HI4.out hic)
    have HSz : Hid (w.heap.size < w4.heap.size) := HB4.out.lt
    clear HM HT
    go_wp2_with fail
    refine HC5.out.mono ?_
    rintro e w6 ⟨f1, ⟨er, e1, rfl⟩ | ⟨v1, x1, e1, rfl, hv1⟩⟩
    · have HF6 := hid (HF4.out.trans f1 (fun _ h => h.elim))
      have HB6 := hid (f1.blk HB4.out (fun h => h))
      have HE := hid e1
      clear f1 e1
      go_wp2_with (refine wpList_storeV vZ (by rfl) _ _ (by rfl) HB6.out (by rfl) (by rfl) ?_; intro w5 b5 f5)
      have HF5 : Hid (Fr (fun _ => False) w w5) := HF6.out.trans f5 (fun j hj => .inr (by omega))
      have HB5 := hid b5
      clear b5 f5
      go_wp2_with fail
      exact bodyPost_ret (resVE rfl rfl HB5.out) rfl ⟨HF5.out, .inl ⟨er, HE.out, rfl⟩⟩
    · have HF6 := hid (HF4.out.trans f1 (fun _ h => h.elim))
      have HB6 := hid (f1.blk HB4.out (fun h => h))
      have HE := hid e1
      have HV := hid hv1
      clear f1 e1 hv1
      obtain ⟨k', n', f', t', na, nl, nc, ia', il, ic'⟩ := x1
      go_wp2_with (refine wpList_storeV ⟨k', n', f', t', na, nl, nc, ia', il, ic'⟩ (by rfl) _ _ (by rfl) HB6.out (by rfl) (by rfl) ?_; intro w5 b5 f5)
      have HF5 : Hid (Fr (fun _ => False) w w5) := HF6.out.trans f5 (fun j hj => .inr (by omega))
      have HB5 := hid b5
      have HFr := hid f5
      clear b5 f5
      go_wp2_with fail
      exact bodyPost_ret (resVE rfl rfl HB5.out) rfl ⟨HF5.out, .inr ⟨v1, _, HE.out, rfl, fun w'' e0 hk2 => HV.out w'' e0 (fun q q1 q2 => by
        have := HSz.out
        rw [hk2 q (by omega) (Nat.lt_of_lt_of_le q2 HFr.out.size)]
        exact HFr.out.block q q2 (by omega))⟩⟩

/-- What Merge tells. -/
def mge (t : List UInt8) (L : List Dt) : Vt ⊕ Int :=
  match readT t with
  | none => .inr 1
  | some k => if (L.all fun d => rtB d.v 32) = true then (if L = [] then .inr 26 else if ((cntV L).all fun u => tkB k u) = true then mrg k (cntV L) else .inr 11) else .inr 1
theorem Merge_any (w0 w : World) (e0 : Env w0 w) (t : List UInt8) (L : List Dt) (ad : Option Addr) (cap : Nat) (hl : t.length ≤ 140737488355328) (hm : Mx w) (hI : DsW w0 w L ad) (hlim : L.length ≤ 1000) :
    Calls Tryz.prog 17 #[.string ⟨t.toArray⟩, .slice ad L.length cap] w fun e w' => HPost w0 w (mge t L) e w' := by
  cases hk : readT t with
  | none =>
    have e : mge t L = .inr 1 := by unfold mge; rw [hk]
    rw [e]
    exact (Merge_arg w t L ad cap hl hm hk).mono fun _ _ h => h.h (fun v hv => by cases hv)
  | some k =>
    by_cases hr : (L.all fun d => rtB d.v 32) = true
    · by_cases hne : L = []
      · have e : mge t L = .inr 26 := by unfold mge; rw [hk]; simp only; rw [if_pos hr, if_pos hne]
        rw [e]
        subst hne
        exact (Merge_unset w t ad cap hl hm k hk).mono fun _ _ h => ⟨h.2, .inl ⟨26, rfl, h.1⟩⟩
      · have hr2 : ∀ v ∈ cntV L, rtB v 32 = true := fun v hv => by
          obtain ⟨d, hd, rfl⟩ := cntV_of hv
          exact List.all_eq_true.1 hr d hd
        have hl2 : (cntV L).length ≤ 1000 := by rw [cntV_len]; exact Nat.le_trans (List.length_filter_le _ _) hlim
        refine Merge_ofH w0 w e0 t L ad cap hl hm k hk hI hlim hne (cntF_pos hne) hr hr2 (mge t L) (fun h => ?_) (fun h W b ia ic eW hK hR hic => ?_)
        · unfold mge; rw [hk]; simp only; rw [if_pos hr, if_neg hne, h]; rfl
        · have e : mge t L = mrg k (cntV L) := by unfold mge; rw [hk]; simp only; rw [if_pos hr, if_neg hne, if_pos h]
          rw [e]
          exact merge_any k (readT_ok hk) w0 W b (cntV L) ia ic eW hK hR (cntV_ne hne) hic hl2 hr2 (List.all_eq_true.1 h)
    · have e : mge t L = .inr 1 := by unfold mge; rw [hk]; simp only; rw [if_neg hr]
      rw [e]
      exact (Merge_wrong w t L ad cap (hI.ds e0) hlim (by simpa using hr) hl hm k hk).mono fun _ _ h => ⟨h.2, .inl ⟨1, rfl, h.1⟩⟩
end Go.Proofs.YtniailfcmlongaaGreatDoor.Tr
