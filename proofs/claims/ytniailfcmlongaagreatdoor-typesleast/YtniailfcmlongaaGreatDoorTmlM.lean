import Derived.Test.YtniailfcmlongaaGreatDoorTsoM
import Derived.Test.YtniailfcmlongaaGreatDoorLspM
import Derived.Deep.AppendLies
/- The contract of counting. -/
namespace Go.Proofs.YtniailfcmlongaaGreatDoor.Tr
open Go.RowKit Go.Sort

theorem infoD : (Tryz.prog.info? 30).map (fun i => (i.zero, i.size, i.bytes)) = some (some (⟨vZ, 0, 0⟩ : Dv).v, 8, 104) := by kernel_rfl
theorem infoV : (Tryz.prog.info? 26).map (fun i => (i.zero, i.size, i.bytes)) = some (some vZ.v, 6, 88) := by kernel_rfl
/-- The cells of a row of definitions. -/
def flatD (F : List Dz) : List Value := F.flatMap encZ
theorem flatD_app (F G : List Dz) : flatD (F ++ G) = flatD F ++ flatD G := List.flatMap_append
theorem flatD_len : ∀ F : List Dz, (flatD F).length = F.length * 8
  | [] => rfl
  | z :: F => by
    show (encZ z ++ flatD F).length = _
    rw [List.length_append, flatD_len F, encZ_len, List.length_cons]; omega
theorem flatD_at : ∀ (F : List Dz) (i j : Nat) (h : i < F.length), j < 8 → (flatD F)[i * 8 + j]? = (encZ F[i])[j]?
  | z :: F, 0, j, _, hj => by
    show (encZ z ++ flatD F)[0 * 8 + j]? = _
    rw [Nat.zero_mul, Nat.zero_add, List.getElem?_append_left (by rw [encZ_len]; exact hj)]; rfl
  | z :: F, i + 1, j, h, hj => by
    show (encZ z ++ flatD F)[(i + 1) * 8 + j]? = _
    rw [List.getElem?_append_right (by rw [encZ_len]; omega), encZ_len, show (i + 1) * 8 + j - 8 = i * 8 + j by omega, flatD_at F i j (by simpa using h) hj]
    rfl
/-- Where a row lies. -/
theorem own_row {w : World} {B n z : Nat} {e : TypeId} {v : Value} {xs : List Value} (h : w.ownsRow B e z v n xs) (hn : 0 < n) : ∃ g cap cur, v = .slice (some ⟨g, 0, none⟩) n cap ∧ B ≤ g ∧ g < w.heap.size ∧ w.heap[g]? = some (.cells cur e (0, 0)) ∧ n ≤ cap ∧ cur.toList.take (n * z) = xs := by
  rcases h.2 with ⟨h0, h1⟩ | ⟨g, c, cur, hv, hb, hg, hc, hm, hs, ht⟩
  · omega
  · refine ⟨g, c, cur, hv, hb, ?_, hg, hc, ht⟩
    rcases Nat.lt_or_ge g w.heap.size with h | h
    · exact h
    · rw [Array.getElem?_eq_none h] at hg; cases hg
theorem own_lt {w : World} {B : Nat} {v : Value} {n z : Nat} {xs : List Value} {e : TypeId} (h : w.ownsRow B e z v n xs) : ∀ k, v.ownBlock = some k → B ≤ k ∧ k < w.heap.size := fun k hk => by
  rcases h.2 with ⟨h0, _⟩ | ⟨g, c, cur, hv, hb, hg, _⟩
  · rw [h0] at hk; cases hk
  rw [hv] at hk
  simp only [Value.ownBlock, Option.some.injEq] at hk
  subst hk
  refine ⟨hb, ?_⟩
  rcases Nat.lt_or_ge g w.heap.size with h | h
  · exact h
  · rw [Array.getElem?_eq_none h] at hg; cases hg
theorem own_holds {w : World} {g : Nat} {cur : Array Value} (F : List Dz) (hg : w.heap[g]? = some (.cells cur 30 (0, 0))) (ht : cur.toList.take (F.length * 8) = flatD F) : HoldsK encZ 8 w g 0 F.toArray := by
  intro j hj
  rw [size_flatK] at hj
  have hj' : j < F.length * 8 := by simpa using hj
  have hi : j / 8 < F.length := by omega
  have hc : cur[j]? = (flatD F)[j]? := by
    rw [← ht, List.getElem?_take, if_pos hj']
    simp
  refine ⟨?_, ?_⟩
  · rw [cell_of_row w g (0 + j) _ _ (0, 0) hg, Nat.zero_add, hc, show j = j / 8 * 8 + j % 8 by omega, flatD_at F (j / 8) (j % 8) hi (by omega), show j / 8 * 8 + j % 8 = j by omega, get_flatK encZ 8 F.toArray j hj]
    have e1 : F.toArray[j / 8]! = F[j / 8] := by
      rw [getElem!_pos _ _ (by simpa using hi)]; simp
    rw [e1]
    have hl : j % 8 < (encZ F[j / 8]).length := by rw [encZ_len]; omega
    rw [List.getElem?_eq_getElem hl, getElem!_pos (encZ F[j / 8]) (j % 8) hl]; rfl
  · simp [World.frozen?, hg]
theorem holds_eight {w : World} {g : Nat} {D : Array Dz} (h : HoldsK encZ 8 w g 0 D) (i : Nat) (hi : i < D.size) : eight w g (0 + i * 8) (D[i]).2 := by
  have hc : ∀ j, j < 8 → w.cell? ⟨g, i * 8 + j, none⟩ = (encZ D[i])[j]? := fun j hj => by
    have h1 := (h (i * 8 + j) (by rw [size_flatK]; omega)).1
    rw [Nat.zero_add, get_flatK encZ 8 D _ (by omega), show (i * 8 + j) / 8 = i by omega, show (i * 8 + j) % 8 = j by omega, getElem!_pos D i hi] at h1
    rw [h1]
    have hl : j < (encZ D[i]).length := by rw [encZ_len]; exact hj
    rw [List.getElem?_eq_getElem hl, getElem!_pos (encZ D[i]) j hl]; rfl
  rw [Nat.zero_add]
  exact ⟨hc 0 (by decide), hc 1 (by decide), hc 2 (by decide), hc 3 (by decide), hc 4 (by decide), hc 5 (by decide), hc 6 (by decide), hc 7 (by decide)⟩

/-- 'append(first, d)'. -/
theorem wpList_app_D {ops : Array Oper} {rest : List Oper} {o : Oper} {a : Act} {W : World} {Q : Exit → Act → World → Prop} (hgd : o.guard = none) (d s : Operand) (ho : o.op = .call { callee := .builtin .append, args := #[d, s], argTypes := #[31, 31] })
    (base : Nat) (v : Value) (F : List Dz) (z : Dz) (g cap : Nat) (hd : a.eval d = v) (hs : a.eval s = .slice (some ⟨g, 0, none⟩) 1 cap) (hown : W.ownsRow base 30 8 v F.length (flatD F)) (hg : Blk W g 30 z.2.cs) (hb : base ≤ W.heap.size) (hl : F.length ≤ 1000)
    (h : ∀ g' ic W', W'.ownsRow base 30 8 (.slice (some ⟨g', 0, none⟩) (F.length + 1) ic) (F ++ [z]).length (flatD (F ++ [z])) → W.grownBy W' v.ownBlock → wpList Tryz.prog ops Q rest (a.put o.dst (.slice (some ⟨g', 0, none⟩) (F.length + 1) ic)) W') : wpList Tryz.prog ops Q (o :: rest) a W := by
  obtain ⟨i0, hi0, hz0, hz1, hz2⟩ := info_parts infoD
  refine wpList_append_lies W hgd d s 31 ho base 30 i0 _ 8 104 Tryz.underlying31 hi0 hz0 hz1 hz2 rfl (by omega) v F.length (flatD F) hd hown ⟨g, 0, none⟩ 1 cap z.2.cs hs rfl (fun j u hu => by rw [Addr.add_mid, Nat.zero_add, hg.cell]; exact hu) (dv_one z.2) (by omega) (by unfold maxLen; omega) (by omega) hb _ rfl ?_
  intro g' cap' W' h1 h2 _ _
  refine h g' cap' W' ?_ h2
  rw [List.length_append, flatD_app]
  exact h1
/-- 'append(l, d.Value)'. -/
theorem wpList_app_V {ops : Array Oper} {rest : List Oper} {o : Oper} {a : Act} {W : World} {Q : Exit → Act → World → Prop} (hgd : o.guard = none) (d s : Operand) (ho : o.op = .call { callee := .builtin .append, args := #[d, s], argTypes := #[24, 24] })
    (base : Nat) (v : Value) (X : List Vv) (x : Vv) (g cap : Nat) (hd : a.eval d = v) (hs : a.eval s = .slice (some ⟨g, 0, none⟩) 1 cap) (hown : W.ownsRow base 26 6 v X.length (flatV X)) (hg : Blk W g 26 x.cs) (hb : base ≤ W.heap.size) (hl : X.length ≤ 1000)
    (h : ∀ g' ic W', W'.ownsRow base 26 6 (.slice (some ⟨g', 0, none⟩) (X.length + 1) ic) (X ++ [x]).length (flatV (X ++ [x])) → W.grownBy W' v.ownBlock → wpList Tryz.prog ops Q rest (a.put o.dst (.slice (some ⟨g', 0, none⟩) (X.length + 1) ic)) W') : wpList Tryz.prog ops Q (o :: rest) a W := by
  obtain ⟨i0, hi0, hz0, hz1, hz2⟩ := info_parts infoV
  refine wpList_append_lies W hgd d s 24 ho base 26 i0 _ 6 88 Tryz.underlying24 hi0 hz0 hz1 hz2 rfl (by omega) v X.length (flatV X) hd hown ⟨g, 0, none⟩ 1 cap x.cs hs rfl (fun j u hu => by rw [Addr.add_mid, Nat.zero_add, hg.cell]; exact hu) (vv_one x) (by omega) (by unfold maxLen; omega) (by omega) hb _ rfl ?_
  intro g' cap' W' h1 h2 _ _
  refine h g' cap' W' ?_ h2
  rw [List.length_append, flatV_app]
  exact h1
theorem iin_own {w : World} {B n cap : Nat} {ad : Option Addr} {X : List Vv} (l : List Vt) (h : w.ownsRow B 26 6 (.slice ad n cap) X.length (flatV X)) (hl : X.length = l.length) (hv : ∀ i (h : i < l.length) (h' : i < X.length), VIn w l[i] X[i]) : IIn w l ad := by
  rcases Nat.eq_zero_or_pos X.length with h0 | hpos
  · have : l = [] := List.eq_nil_of_length_eq_zero (by omega)
    subst this
    rw [IIn]; trivial
  · obtain ⟨g, c, cur, h1, h2, h3, h4, h5, h6⟩ := own_row h hpos
    simp only [Value.slice.injEq] at h1
    rw [h1.1]
    refine IIn_mk l X hl (fun q u hq => ?_) hv
    rw [cell_of_row w g (0 + q) _ _ (0, 0) h4, Nat.zero_add]
    rw [← h6, List.getElem?_take] at hq
    split at hq
    · simpa using hq
    · cases hq

theorem own_alloc {w : World} {B : Nat} {v : Value} {n z : Nat} {xs : List Value} {e : TypeId} (h : w.ownsRow B e z v n xs) (o : Obj) : (w.alloc o).ownsRow B e z v n xs := owns_of_eq h fun k hk => Below.heap_alloc w o k (own_lt h k hk).2
theorem own_fr {F : Nat → Prop} {w W : World} {B : Nat} {v : Value} {n z : Nat} {xs : List Value} {e : TypeId} (h : w.ownsRow B e z v n xs) (f : Fr F w W) (hF : ∀ k, v.ownBlock = some k → ¬ F k) : W.ownsRow B e z v n xs := owns_of_eq h fun k hk => f.block k (own_lt h k hk).2 (hF k hk)
/-- Those that count, as they stood. -/
def cntF (L : List Dt) : List Dt := L.filter fun d => decide (d.p = leastP L)
theorem filter_snoc (L : List Dt) (q : Dt → Bool) (i : Nat) (hi : i < L.length) : (L.take (i + 1)).filter q = (L.take i).filter q ++ if q L[i] = true then [L[i]] else [] := by
  rw [List.take_succ_eq_append_getElem hi, List.filter_append]
  congr 1
  by_cases h : q L[i] = true
  · rw [if_pos h]; simp [h]
  · rw [if_neg h]; simp [h]
theorem dv_field (W : World) (y : Dv) : (Instr.field 30 y.v 1).run Tryz.prog W = .ok (.int .i64 y.p) W := by kernel_rfl

set_option maxRecDepth 100000 in
set_option maxHeartbeats 4000000 in
theorem counting_any (w : World) (L : List Dt) (ad : Option Addr) (cap : Nat) (hI : DsIn w L ad) (hlim : L.length ≤ 1000) (hne : L ≠ []) (h20 : (cntF L).length ≤ 20) (hc0 : 0 < (cntF L).length) :
    Calls Tryz.prog 32 #[.slice ad L.length cap] w fun e w' => (∃ (F : List Dz) (ia : Option Addr) (ic : Nat), e = .returned (.slice ia F.length ic) ∧ F.length ≤ ic ∧ F.map (·.1) = cntF L ∧ (∀ z ∈ F, DIn w' z.1 z.2) ∧ IIn w' ((insZ F.toArray).toList.map (·.1.v)) ia) ∧ Fr (fun _ => False) w w' := by
  have hst := fun (W : World) (a : Addr) (m : Mode) (f : Nat) => run_store Tryz.prog W a (.float .f64 f) m rfl
  have HI := hid hI
  have HM := hid (minFunc_any w L ad cap hI (by omega) hne)
  have HC0 := hid hc0
  have HC20 := hid h20
  unfold cntF at *
  generalize leastP L = lp at *
  clear hI hne hc0 h20
  go_enter Tryz.func32, Tryz.ntmps32
  go_wp2_with fail
  refine HM.out.mono ?_
  rintro e w1 ⟨⟨y, rfl, hyp⟩, f1⟩
  have HF1 := hid f1
  have hfd := fun W => dv_field W y
  rw [hyp] at hfd
  clear f1 hyp
  go_wp2_with fail
  go_loopw [4, 6, 15] (fun fv _ iv wr => ∃ (i : Nat) (F : List Dz), i ≤ L.length ∧ iv = .int .i64 (i : Int) ∧ wr.ownsRow w.heap.size 30 8 fv F.length (flatD F) ∧ F.map (·.1) = (L.take i).filter (fun d => decide (d.p = lp)) ∧ (∀ z ∈ F, DIn w z.1 z.2) ∧ Fr (fun _ => False) w wr) (fun _ _ iv _ => L.length - (intOf iv).toNat)
  case atStart => exact ⟨0, [], Nat.zero_le _, rfl, World.ownsRow_nil _ _ _ _, by simp, by simp, HF1.out⟩
  case round =>
    obtain ⟨i, F, hi, rfl, hO, hM, hD, hF⟩ := hrel
    have HO := hid hO
    have HMp := hid hM
    have HD := hid hD
    have HF := hid hF
    have hFl : F.length ≤ 1000 := by
      have := congrArg List.length hM
      rw [List.length_map] at this
      have h2 := List.length_filter_le (fun d : Dt => decide (d.p = lp)) (L.take i)
      have h3 := List.length_take_le i L
      omega
    clear hO hM hD hF HF1 hfd HM
    by_cases hlt : i < L.length
    · have hlt' : (i : Int) < ((L.length : Nat) : Int) := by omega
      obtain ⟨bb, bo, y, rfl, y1, y2⟩ := HI.out.at i hlt
      obtain ⟨k0, k1, k2, k3, k4, k5, k6, k7⟩ := eight_env y1 (Env.of HF.out)
      have HFb := hid (HF.out.trans (dFr wr y) (fun _ h => h.elim))
      have HDy := hid y2
      have HS := hid (filter_snoc L (fun d => decide (d.p = lp)) i hlt)
      clear y1 y2
      by_cases hp : y.p = lp
      · have hp' : (y.p == lp) = true := by simpa using hp
        have HMp2 : Hid ((F ++ [(L[i], y)]).map (·.1) = (L.take (i + 1)).filter (fun d => decide (d.p = lp))) := by
          unfold Hid
          rw [HS.out, List.map_append, HMp.out, if_pos (by simp only [decide_eq_true_eq]; rw [← HDy.out.2.1]; exact hp)]
          rfl
        have HD2 : Hid (∀ z ∈ F ++ [(L[i], y)], DIn w z.1 z.2) := fun z hz => by
          rcases List.mem_append.1 hz with h | h
          · exact HD.out z h
          · simp only [List.mem_singleton] at h; subst h; exact HDy.out
        have HOb := hid (own_alloc (own_alloc HO.out (.cells #[.int .i64 y.x.k, .int .i64 y.x.n, .float .f64 y.x.f, .string ⟨y.x.t.toArray⟩, .slice y.x.na y.x.nl y.x.nc, .slice y.x.ia y.x.il y.x.ic, .int .i64 y.p, .int .i64 y.o] 30)) (.cells #[.int .i64 y.x.k, .int .i64 y.x.n, .float .f64 y.x.f, .string ⟨y.x.t.toArray⟩, .slice y.x.na y.x.nl y.x.nc, .slice y.x.ia y.x.il y.x.ic, .int .i64 y.p, .int .i64 y.o] 30))
        have HGb : Hid (Blk (dBox (dBox wr y) y) (wr.heap.size + 1) 30 y.cs) := by
          have := dBlk (dBox wr y) y
          rw [World.size_alloc] at this
          exact this
        have HFc := hid (HFb.out.trans (dFr _ y) (fun _ h => h.elim))
        have hsz : w.heap.size ≤ (dBox (dBox wr y) y).heap.size := HFc.out.size
        clear hp HMp HD HDy HS
        obtain ⟨⟨k, n, f, t, na, nl, nc, ia, il, ic⟩, p, o⟩ := y
        simp only at *
        go_wp2_with (at_builtin; refine Hid.out ?_)
        refine wpList_app_D (by rfl) _ _ (by rfl) w.heap.size _ F (L[i], ⟨⟨k, n, f, t, na, nl, nc, ia, il, ic⟩, p, o⟩) _ _ (by rfl) (by rfl) HOb.out HGb.out (by first | exact hsz | simp) hFl ?_
        intro g' ic' W' ho hg
        have HO2 := hid ho
        have HG2 := hid hg
        clear ho hg
        have HF2 : Hid (Fr (fun _ => False) w W') := HFc.out.grown HG2.out (fun k hk => .inr (own_lt HO.out k hk).1)
        go_wp2_with fail
        exact ⟨⟨i + 1, F ++ [(L[i], ⟨⟨k, n, f, t, na, nl, nc, ia, il, ic⟩, p, o⟩)], by omega, by first | rfl | (congr 1), HO2.out, HMp2.out, HD2.out, HF2.out⟩, by simp [intOf]; omega⟩
      · have hp' : (y.p == lp) = false := by simpa using hp
        have HMp2 : Hid (F.map (·.1) = (L.take (i + 1)).filter (fun d => decide (d.p = lp))) := by
          unfold Hid
          rw [HS.out, HMp.out, if_neg (by simp only [decide_eq_true_eq]; rw [← HDy.out.2.1]; exact hp)]
          simp
        have HOb := hid (own_alloc HO.out (.cells #[.int .i64 y.x.k, .int .i64 y.x.n, .float .f64 y.x.f, .string ⟨y.x.t.toArray⟩, .slice y.x.na y.x.nl y.x.nc, .slice y.x.ia y.x.il y.x.ic, .int .i64 y.p, .int .i64 y.o] 30))
        clear hp HMp HDy HS
        obtain ⟨⟨k, n, f, t, na, nl, nc, ia, il, ic⟩, p, o⟩ := y
        simp only at *
        go_wp2_with fail
        exact ⟨⟨i + 1, F, by omega, by first | rfl | (congr 1), HOb.out, HMp2.out, HD.out, HFb.out⟩, by simp [intOf]; omega⟩
    · have hlt' : ¬ (i : Int) < ((L.length : Nat) : Int) := by omega
      have HMp2 : Hid (F.map (·.1) = L.filter (fun d => decide (d.p = lp))) := by
        unfold Hid; rw [HMp.out, List.take_of_length_le (by omega)]
      have hlen : F.length = (L.filter (fun d => decide (d.p = lp))).length := by rw [← HMp2.out, List.length_map]
      have hF0 : 0 < F.length := by rw [hlen]; exact HC0.out
      have hF20 : F.length ≤ 20 := by rw [hlen]; exact HC20.out
      clear hlen
      obtain ⟨g, fc, cur, hv, hgB, hgl, hgc, hfc, hgt⟩ := own_row HO.out hF0
      subst hv
      have HH := hid (own_holds F hgc hgt)
      have HSo := hid (sort_few wr g 0 fc F.toArray HH.out hgl (by simpa using hF20))
      have HDm : Hid (∀ z ∈ (insZ F.toArray).toList, DIn w z.1 z.2) := fun z hz => HD.out z (by have := (insZ_mem F.toArray).mem_iff.1 hz; simpa using this)
      have hDs : (insZ F.toArray).size = F.length := by rw [insZ_size]; simp
      have hFs : F.toArray.size = F.length := by simp
      rw [hFs] at HSo
      generalize hDD : insZ F.toArray = D at *
      have HDD := hid hDD
      clear hDD
      clear hgc hgt HMp hFs
      go_wp2_with fail
      refine HSo.out.mono ?_
      rintro e w2 ⟨rfl, f2, hH2⟩
      have HF2 : Hid (Fr (fun _ => False) w w2) := HF.out.trans f2 (fun j hj => .inr (by omega))
      have HH2 := hid hH2
      have hg2 : g < w2.heap.size := Nat.lt_of_lt_of_le hgl f2.size
      clear f2 hH2 HH HSo
      have HE8 : Hid (∀ i (h : i < F.length), eight w2 g (i * 8) (D[i]'(by omega)).2) := fun i h => by
        have := holds_eight HH2.out i (by omega)
        rw [Nat.zero_add] at this
        exact this
      clear HH2
      go_wp2_with fail
      go_loopw [7, 9, 32] (fun lv _ iv wr' => ∃ (i : Nat) (X : List Vv), i ≤ F.length ∧ iv = .int .i64 (i : Int) ∧ wr'.ownsRow w2.heap.size 26 6 lv X.length (flatV X) ∧ X = (D.toList.take i).map (·.2.x) ∧ Fr (fun _ => False) w2 wr') (fun _ _ iv _ => F.length - (intOf iv).toNat)
      case atStart => exact ⟨0, [], Nat.zero_le _, rfl, World.ownsRow_nil _ _ _ _, by simp, Fr.refl _ _⟩
      case round =>
        obtain ⟨j, X, hj, rfl, hO, hX, hF⟩ := hrel
        have HOx := hid hO
        have HX := hid hX
        have HFx := hid hF
        have hXl : X.length = j := by rw [hX]; simp; omega
        clear hO hX hF HO HF
        by_cases hlt : j < F.length
        · have hlt2 : (j : Int) < ((F.length : Nat) : Int) := by omega
          have hjD : j < D.size := by omega
          have HX2 : Hid (X ++ [D[j].2.x] = (D.toList.take (j + 1)).map (·.2.x)) := by
            unfold Hid
            rw [List.take_succ_eq_append_getElem (by simpa using hjD), List.map_append, ← HX.out]
            simp
          obtain ⟨k0, k1, k2, k3, k4, k5, k6, k7⟩ := eight_env (HE8.out j hlt) (Env.of HFx.out)
          generalize D[j].2 = y at *
          have HFb := hid (HFx.out.trans (dFr wr y) (fun _ h => h.elim))
          have HOb := hid (own_alloc (own_alloc HOx.out (.cells #[.int .i64 y.x.k, .int .i64 y.x.n, .float .f64 y.x.f, .string ⟨y.x.t.toArray⟩, .slice y.x.na y.x.nl y.x.nc, .slice y.x.ia y.x.il y.x.ic, .int .i64 y.p, .int .i64 y.o] 30)) (.cells #[.int .i64 y.x.k, .int .i64 y.x.n, .float .f64 y.x.f, .string ⟨y.x.t.toArray⟩, .slice y.x.na y.x.nl y.x.nc, .slice y.x.ia y.x.il y.x.ic] 26))
          have HGb : Hid (Blk (vBox (dBox wr y) y.x) (wr.heap.size + 1) 26 y.x.cs) := by
            have := vBlk (dBox wr y) y.x
            rw [World.size_alloc] at this
            exact this
          have HFc := hid (HFb.out.trans (vFr _ y.x) (fun _ h => h.elim))
          have hsz : w2.heap.size ≤ (vBox (dBox wr y) y.x).heap.size := HFc.out.size
          have hXl2 : X.length ≤ 1000 := by omega
          clear HX hjD hXl
          obtain ⟨⟨k, n, f, t, na, nl, nc, ia, il, ic⟩, p, o⟩ := y
          simp only at *
          go_wp2_with (at_builtin; refine Hid.out ?_)
          refine wpList_app_V (by rfl) _ _ (by rfl) w2.heap.size _ X ⟨k, n, f, t, na, nl, nc, ia, il, ic⟩ _ _ (by rfl) (by rfl) HOb.out HGb.out (by first | exact hsz | simp) hXl2 ?_
          intro g' ic' W' ho hg
          have HO2 := hid ho
          have HF3 : Hid (Fr (fun _ => False) w2 W') := HFc.out.grown hg (fun k hk => .inr (own_lt HOx.out k hk).1)
          clear ho hg
          go_wp2_with fail
          exact ⟨⟨j + 1, _, by omega, by first | rfl | (congr 1), HO2.out, HX2.out, HF3.out⟩, by simp [intOf]; omega⟩
        · have hlt2 : ¬ (j : Int) < ((F.length : Nat) : Int) := by omega
          have HX2 : Hid (X = D.toList.map (·.2.x)) := by
            unfold Hid; rw [HX.out, List.take_of_length_le (by simp; omega)]
          have hXF : X.length = F.length := by rw [HX2.out]; simp; omega
          obtain ⟨g3, c3, cur3, hv3, hb3, hl3, hc3, hf3, ht3⟩ := own_row HOx.out (by omega)
          subst hv3
          have HF3 := hid (HF2.out.trans HFx.out (fun _ h => h.elim))
          have HDm2 : Hid (∀ z ∈ F, DIn wr z.1 z.2) := fun z hz => (HD.out z hz).env (Env.of HF3.out)
          have HII : Hid (IIn wr (D.toList.map (·.1.v)) (some ⟨g3, 0, none⟩)) := by
            refine iin_own _ HOx.out (by rw [hXF]; simp; omega) (fun i h h' => ?_)
            have hiD : i < D.toList.length := by simpa using h
            have e1 : X[i] = D.toList[i].2.x := by
              have := HX2.out
              subst this
              simp
            rw [e1, List.getElem_map]
            exact ((HDm.out _ (List.getElem_mem hiD)).env (Env.of HF3.out)).1
          have hcap3 : F.length ≤ c3 := by omega
          rw [hXF]
          clear HX HX2
          go_wp2_with fail
          go_ret
          exact ⟨⟨F, _, c3, rfl, hcap3, HMp2.out, fun a b h => HDm2.out (a, b) h, by rw [HDD.out]; exact HII.out⟩, HF3.out⟩
end Go.Proofs.YtniailfcmlongaaGreatDoor.Tr
/- The contracts of mergeEqual. (Written by gen/Tme.py.) -/
namespace Go.Proofs.YtniailfcmlongaaGreatDoor.Tr
open Go.RowKit

/-- What merging leaves: a value, or an error. -/
def MPost (w : World) (r : Vt ⊕ Int) (e : Ending) (w' : World) : Prop :=
  Fr (fun _ => False) w w' ∧ ((∃ n, r = .inr n ∧ e = .returned (.tuple #[vZ.v, .int .i64 n])) ∨ ∃ v x, r = .inl v ∧ e = .returned (.tuple #[x.v, .int .i64 0]) ∧ VIn w' v x)
/-- Values of which each is equal to the first. -/
def meq : List Vt → Vt ⊕ Int
  | [] => .inr 0
  | v :: r => if r.all (fun u => (eqV v u).1) = true then .inl v else .inr 27
theorem vin_bare {w : World} {v : Vt} {x : Vv} (h : VIn w v x) (hn : v.ns = []) (hi : v.its = []) : VIn w v ⟨x.k, x.n, x.f, x.t, none, 0, 0, none, 0, 0⟩ := by
  cases v with
  | mk k n f t ns its =>
    simp only [Vt.ns, Vt.its] at hn hi
    subst hn hi
    rw [VIn] at h ⊢
    exact ⟨h.1, h.2.1, ⟨rfl, by simp, by simp, fun e => absurd rfl e⟩, ⟨rfl, by simp, by simp⟩, by rw [IIn]; trivial⟩
theorem rest_iin {w : World} {v : Vt} {r : List Vt} {b o : Nat} (h : IIn w (v :: r) (some ⟨b, o, none⟩)) : IIn w r (some ⟨b, o + 6, none⟩) := by
  rw [IIn] at h
  obtain ⟨b', o', x, h1, h2, h3, h4⟩ := h
  simp only [Option.some.injEq, Addr.mk.injEq, and_true] at h1
  obtain ⟨rfl, rfl⟩ := h1
  exact h4

set_option maxRecDepth 100000 in
set_option maxHeartbeats 4000000 in
theorem mergeEqual_any (w : World) (v : Vt) (r : List Vt) (ad : Option Addr) (cap : Nat) (hI : IIn w (v :: r) ad) (hcap : r.length + 1 ≤ cap) (hlim : r.length + 1 ≤ 140737488351232) (hR : ∀ u ∈ v :: r, rtB u 32 = true) (hn : v.ns = []) (hi : v.its = []) :
    Calls Tryz.prog 58 #[.slice ad (r.length + 1) cap] w fun e w' => MPost w (meq (v :: r)) e w' := by
  have hst := fun (W : World) (a : Addr) (m : Mode) (f : Nat) => run_store Tryz.prog W a (.float .f64 f) m rfl
  obtain ⟨bb, bo, rfl⟩ := hI.some (by simp)
  have HI := hid (rest_iin hI)
  have h0 := hI.get 0 (by simp)
  obtain ⟨x, x1, x2⟩ := h0
  have x2' : VIn w v x := x2
  have HX := hid x2'
  have HXb := hid (vin_bare x2' hn hi)
  obtain ⟨k0, k1, k2, k3, k4, k5⟩ := (x1.env (Env.alloc w (.cells #[.int .i64 0, .int .i64 0, .float .f64 0, .string ⟨#[]⟩, .slice none 0 0, .slice none 0 0] 26))).six
  simp only [Nat.zero_mul, Nat.add_zero] at k0 k1 k2 k3 k4 k5
  have HF0 : Hid (Fr (fun _ => False) w (vBox (vBox w vZ) x)) := ((Fr.refl _ w).alloc _).alloc _
  have HB0 := hid (two_blk w vZ x)
  have HRr := hid hR
  have HT : Hid (meq (v :: r) = if r.all (fun u => (eqV v u).1) = true then .inl v else .inr 27) := rfl
  generalize meq (v :: r) = T at *
  clear hI x1 x2 x2' hR hn hi
  obtain ⟨k, n, f, t, na, nl, nc, ia, il, ic⟩ := x
  by_cases hc1 : cap = 1
  · subst hc1
    obtain rfl : r = [] := List.eq_nil_of_length_eq_zero (by omega)
    go_enter Tryz.func58, Tryz.ntmps58
    go_wp2_with fail
    go_loopw [6, 7, 8, 15] (fun _ _ _ iv wr => iv = .int .i64 0 ∧ Fr (fun _ => False) w wr ∧ Blk wr w.heap.size 26 vZ.cs ∧ Blk wr (w.heap.size + 1) 26 (Vv.cs ⟨k, n, f, t, na, nl, nc, ia, il, ic⟩)) (fun _ _ _ _ _ => 0)
    case atStart => exact ⟨rfl, HF0.out, HB0.out.1, HB0.out.2⟩
    case round =>
      obtain ⟨rfl, hF, hB1, hB2⟩ := hrel
      clear HF0 HB0 k0 k1 k2 k3 k4 k5
      have HF := hid hF
      have HB := hid (And.intro hB1 hB2)
      clear hF hB1 hB2
      have HT2 : Hid (T = .inl v) := by unfold Hid; rw [HT.out, if_pos (by simp)]
      obtain ⟨c0, c1, c2, c3, c4, c5⟩ := HB.out.2.six
      have z4 := HB.out.2.frozen 4
      have z5 := HB.out.2.frozen 5
      have HBz : Hid (Blk ((wr.setCell ⟨w.heap.size + 1, 4, none⟩ (.slice none 0 0)).setCell ⟨w.heap.size + 1, 5, none⟩ (.slice none 0 0)) w.heap.size 26 vZ.cs) := (HB.out.1.setCell_ne (by show w.heap.size ≠ w.heap.size + 1; omega) _).setCell_ne (by show w.heap.size ≠ w.heap.size + 1; omega) _
      have HFz : Hid (Fr (fun _ => False) w ((wr.setCell ⟨w.heap.size + 1, 4, none⟩ (.slice none 0 0)).setCell ⟨w.heap.size + 1, 5, none⟩ (.slice none 0 0))) := (HF.out.setCell (.inr (by show w.heap.size ≤ w.heap.size + 1; omega)) _).setCell (.inr (by show w.heap.size ≤ w.heap.size + 1; omega)) _
      clear hst
      go_wp2_with (refine wpList_storeV ⟨k, n, f, t, none, 0, 0, none, 0, 0⟩ (by rfl) _ _ (by rfl) HBz.out (by rfl) (by rfl) ?_; intro w5 b5 f5)
      have HF5 : Hid (Fr (fun _ => False) w w5) := HFz.out.trans f5 (fun j hj => .inr (by omega))
      have HV5 := hid (VIn.env (Env.of HF5.out) _ _ HXb.out)
      have HB5 := hid b5
      clear b5 f5
      go_wp2_with fail
      exact bodyPost_ret (resVE rfl rfl HB5.out) rfl ⟨HF5.out, .inr ⟨v, _, HT2.out, rfl, HV5.out⟩⟩
  · go_enter Tryz.func58, Tryz.ntmps58
    go_wp2_with fail
    go_loopw [6, 7, 8, 15] (fun _ _ _ iv wr => ∃ i : Nat, i ≤ r.length ∧ iv = .int .i64 (i : Int) ∧ (∀ j (h : j < r.length), j < i → (eqV v r[j]).1 = true) ∧ Fr (fun _ => False) w wr ∧ Blk wr w.heap.size 26 vZ.cs ∧ Blk wr (w.heap.size + 1) 26 (Vv.cs ⟨k, n, f, t, na, nl, nc, ia, il, ic⟩)) (fun _ _ _ iv _ => r.length - (intOf iv).toNat)
    case atStart => exact ⟨0, by omega, rfl, fun j _ hj => absurd hj (by omega), HF0.out, HB0.out.1, HB0.out.2⟩
    case round =>
      obtain ⟨i, hi, rfl, hA, hF, hB1, hB2⟩ := hrel
      clear HF0 HB0 k0 k1 k2 k3 k4 k5
      have HA := hid hA
      have HF := hid hF
      have HB := hid (And.intro hB1 hB2)
      clear hF hB1 hB2 hA
      by_cases hlt : i < r.length
      · have hlt' : (i : Int) < ((r.length : Nat) : Int) := by omega
        obtain ⟨y, y1, y2⟩ := HI.out.get i hlt
        obtain ⟨k0, k1, k2, k3, k4, k5⟩ := (y1.env (Env.of HF.out)).six
        obtain ⟨c0, c1, c2, c3, c4, c5⟩ := ((HB.out.2.alloc (.cells #[.int .i64 y.k, .int .i64 y.n, .float .f64 y.f, .string ⟨y.t.toArray⟩, .slice y.na y.nl y.nc, .slice y.ia y.il y.ic] 26))).six
        have HFb := hid (HF.out.trans (vFr wr y) (fun _ h => h.elim))
        have HBb := hid (And.intro (HB.out.1.alloc (.cells #[.int .i64 y.k, .int .i64 y.n, .float .f64 y.f, .string ⟨y.t.toArray⟩, .slice y.na y.nl y.nc, .slice y.ia y.il y.ic] 26)) (HB.out.2.alloc (.cells #[.int .i64 y.k, .int .i64 y.n, .float .f64 y.f, .string ⟨y.t.toArray⟩, .slice y.na y.nl y.nc, .slice y.ia y.il y.ic] 26)))
        have HC : Hid (Calls Tryz.prog 82 #[Vv.v ⟨k, n, f, t, na, nl, nc, ia, il, ic⟩, y.v] (vBox wr y) fun e w' => (∃ er : Int, e = .returned (.tuple #[.bool (eqV v r[i]).1, .int .i64 er])) ∧ Fr (fun _ => False) (vBox wr y) w') := by
          have hv1 := VIn.env (Env.of HFb.out) _ _ HX.out
          have hv2 := VIn.env (Env.of HFb.out) _ _ y2
          have h1 := HRr.out v (by simp)
          have h2 := HRr.out r[i] (by simp)
          refine (Equal_any (vBox wr y) _ y _ _ _ (right_any hv1) (right_any hv2) (fun _ _ => equal_of hv1 hv2)).mono ?_
          rintro e w' ⟨rfl, f'⟩
          rw [h1, h2]
          exact ⟨⟨_, rfl⟩, f'⟩
        have HN : Hid ((eqV v r[i]).1 = false → T = .inr 27) := fun h => by
          rw [HT.out, if_neg]
          intro ha
          have := List.all_eq_true.1 ha r[i] (List.getElem_mem hlt)
          rw [h] at this; cases this
        have HN2 : Hid ((eqV v r[i]).1 = true → ∀ j (h : j < r.length), j < i + 1 → (eqV v r[j]).1 = true) := fun h j hj hj' => by
          by_cases e : j = i
          · subst e; exact h
          · exact HA.out j hj (by omega)
        generalize (eqV v r[i]).1 = q at *
        clear y1 y2 HA HI
        obtain ⟨k', n', f', t', na', nl', nc', ia', il', ic'⟩ := y
        simp only [Vv.v] at *
        go_wp2_with fail
        refine HC.out.mono ?_
        rintro e w2 ⟨⟨er, rfl⟩, f2⟩
        have HF2 := hid (HFb.out.trans f2 (fun _ h => h.elim))
        have HB2 := hid (And.intro (f2.blk HBb.out.1 (fun h => h)) (f2.blk HBb.out.2 (fun h => h)))
        clear f2 c0 c1 c2 c3 c4 c5 k0 k1 k2 k3 k4 k5 hst
        cases q with
        | true =>
          have HE2 := hid (HN2.out rfl)
          go_wp2_with fail
          exact ⟨⟨i + 1, by omega, by first | rfl | (congr 1), HE2.out, HF2.out, HB2.out.1, HB2.out.2⟩, by simp [intOf]; omega⟩
        | false =>
          have HE2 := hid (HN.out rfl)
          go_wp2_with (refine wpList_storeV vZ (by rfl) _ _ (by rfl) HB2.out.1 (by rfl) (by rfl) ?_; intro w5 b5 f5)
          have HF5 : Hid (Fr (fun _ => False) w w5) := HF2.out.trans f5 (fun j hj => .inr (by omega))
          have HB5 := hid b5
          clear b5 f5
          go_wp2_with fail
          exact bodyPost_ret (resVE rfl rfl HB5.out) rfl ⟨HF5.out, .inl ⟨27, HE2.out, rfl⟩⟩
      · have hlt' : ¬ (i : Int) < ((r.length : Nat) : Int) := by omega
        have HAl : Hid (r.all (fun u => (eqV v u).1) = true) := List.all_eq_true.2 fun u hu => by
          obtain ⟨j, hj, rfl⟩ := List.getElem_of_mem hu
          exact HA.out j hj (by omega)
        have HT2 : Hid (T = .inl v) := by unfold Hid; rw [HT.out, if_pos HAl.out]
        obtain ⟨c0, c1, c2, c3, c4, c5⟩ := HB.out.2.six
        have z4 := HB.out.2.frozen 4
        have z5 := HB.out.2.frozen 5
        have HBz : Hid (Blk ((wr.setCell ⟨w.heap.size + 1, 4, none⟩ (.slice none 0 0)).setCell ⟨w.heap.size + 1, 5, none⟩ (.slice none 0 0)) w.heap.size 26 vZ.cs) := (HB.out.1.setCell_ne (by show w.heap.size ≠ w.heap.size + 1; omega) _).setCell_ne (by show w.heap.size ≠ w.heap.size + 1; omega) _
        have HFz : Hid (Fr (fun _ => False) w ((wr.setCell ⟨w.heap.size + 1, 4, none⟩ (.slice none 0 0)).setCell ⟨w.heap.size + 1, 5, none⟩ (.slice none 0 0))) := (HF.out.setCell (.inr (by show w.heap.size ≤ w.heap.size + 1; omega)) _).setCell (.inr (by show w.heap.size ≤ w.heap.size + 1; omega)) _
        clear hst
        go_wp2_with (refine wpList_storeV ⟨k, n, f, t, none, 0, 0, none, 0, 0⟩ (by rfl) _ _ (by rfl) HBz.out (by rfl) (by rfl) ?_; intro w5 b5 f5)
        have HF5 : Hid (Fr (fun _ => False) w w5) := HFz.out.trans f5 (fun j hj => .inr (by omega))
        have HV5 := hid (VIn.env (Env.of HF5.out) _ _ HXb.out)
        have HB5 := hid b5
        clear b5 f5
        go_wp2_with fail
        exact bodyPost_ret (resVE rfl rfl HB5.out) rfl ⟨HF5.out, .inr ⟨v, _, HT2.out, rfl, HV5.out⟩⟩
end Go.Proofs.YtniailfcmlongaaGreatDoor.Tr
/- The contracts of textOf, mergeLines. -/
namespace Go.Proofs.YtniailfcmlongaaGreatDoor.Tr
open Go.RowKit

/-- The cells of texts. -/
def strC (ns : List (List UInt8)) : List Value := ns.map fun s => .string ⟨s.toArray⟩
theorem infoS : (Tryz.prog.info? 9).map (fun i => (i.zero, i.size, i.bytes)) = some (some (.string ⟨#[]⟩), 1, 16) := by kernel_rfl
/-- 'append(lines, s)'. -/
theorem wpList_app_S {ops : Array Oper} {rest : List Oper} {o : Oper} {a : Act} {W : World} {Q : Exit → Act → World → Prop} (hgd : o.guard = none) (d s : Operand) (ho : o.op = .call { callee := .builtin .append, args := #[d, s], argTypes := #[23, 23] })
    (base : Nat) (v : Value) (ns : List (List UInt8)) (nm : List UInt8) (g cap : Nat) (hd : a.eval d = v) (hs : a.eval s = .slice (some ⟨g, 0, none⟩) 1 cap) (hown : W.ownsRow base 9 1 v ns.length (strC ns)) (hg : W.cell? ⟨g, 0, none⟩ = some (.string ⟨nm.toArray⟩)) (hb : base ≤ W.heap.size) (hl : ns.length ≤ 1000)
    (h : ∀ g' nc W', W'.ownsRow base 9 1 (.slice (some ⟨g', 0, none⟩) (ns.length + 1) nc) (ns ++ [nm]).length (strC (ns ++ [nm])) → W.grownBy W' v.ownBlock → wpList Tryz.prog ops Q rest (a.put o.dst (.slice (some ⟨g', 0, none⟩) (ns.length + 1) nc)) W') : wpList Tryz.prog ops Q (o :: rest) a W := by
  obtain ⟨i0, hi0, hz0, hz1, hz2⟩ := info_parts infoS
  refine wpList_append_lies W hgd d s 23 ho base 9 i0 _ 1 16 Tryz.underlying23 hi0 hz0 hz1 hz2 rfl (by omega) v ns.length (strC ns) hd hown ⟨g, 0, none⟩ 1 cap [.string ⟨nm.toArray⟩] hs rfl (fun j u hu => by
    cases j with
    | zero => simp only [List.getElem?_cons_zero, Option.some.injEq] at hu; subst hu; rw [Addr.add_mid]; exact hg
    | succ j => simp at hu) (by simp [Value.oneCell']) (by omega) (by unfold maxLen; omega) (by omega) hb _ rfl ?_
  intro g' cap' W' h1 h2 _ _
  refine h g' cap' W' ?_ h2
  rw [List.length_append]
  unfold strC
  rw [List.map_append]
  exact h1

set_option maxRecDepth 100000 in
set_option maxHeartbeats 1000000 in
theorem textOf_any (w : World) (t : List UInt8) : Calls Tryz.prog 76 #[.string ⟨t.toArray⟩] w fun e w' => e = .returned (vS t).v ∧ Fr (fun _ => False) w w' := by
  have HF := hid (vFr w (vS t))
  have hst := fun (W : World) (a : Addr) (m : Mode) (f : Nat) => run_store Tryz.prog W a (.float .f64 f) m rfl
  go_enter Tryz.func76, Tryz.ntmps76
  go_wp2
  exact bodyPost_ret (resV rfl rfl (vBlk w (vS t))) rfl ⟨rfl, HF.out⟩

/-- All texts, with a line feed between. -/
def linesOf (l : List Vt) : List UInt8 := Lib.join (l.map (·.t)) [10]
def mln (l : List Vt) : Vt ⊕ Int := if (linesOf l).length ≤ 1024 then .inl (.mk 4 0 0 (linesOf l) [] []) else .inr 20
theorem vin_text (w : World) (t : List UInt8) (h : t.length ≤ lim) : VIn w (.mk 4 0 0 t [] []) (vS t) := by
  rw [VIn]
  exact ⟨⟨rfl, rfl, rfl, rfl⟩, ⟨⟨by decide, by decide⟩, ⟨by decide, by decide⟩, h, by simp⟩, ⟨rfl, by simp, by simp, fun e => absurd rfl e⟩, ⟨rfl, by simp, by simp⟩, by rw [IIn]; trivial⟩

theorem join_any (w : World) (ns : List (List UInt8)) (g c : Nat) (B : Nat) (hO : w.ownsRow B 9 1 (.slice (some ⟨g, 0, none⟩) ns.length c) ns.length (strC ns)) (h0 : 0 < ns.length) (hl : ns.length ≤ 1000) (hlen : (Lib.join ns [10]).length ≤ 140737488355328) :
    Calls Tryz.prog 75 #[.slice (some ⟨g, 0, none⟩) ns.length c, .string ⟨#[10]⟩] w fun e w' => e = .returned (.string ⟨(Lib.join ns [10]).toArray⟩) ∧ Fr (fun _ => False) w w' := by
  obtain ⟨g', c', cur, hv, hb, hgl, hgc, hcap, ht⟩ := own_row hO h0
  simp only [Value.slice.injEq, Option.some.injEq, Addr.mk.injEq, and_true, true_and] at hv
  obtain ⟨rfl, rfl⟩ := hv
  have hm : (ns.map fun l => ByteArray.mk l.toArray).map (·.data.toList) = ns := by
    rw [List.map_map]
    exact (List.map_congr_left (fun a _ => by simp)).trans (List.map_id ns)
  have h := Tryz.strings_Join g 0 c (ns.map fun l => ByteArray.mk l.toArray) ⟨#[10]⟩ w (fun j x hx => by
    rw [cell_of_row w g (0 + j) _ _ (0, 0) hgc, Nat.zero_add]
    rw [List.getElem?_map] at hx
    have hj : j < ns.length := by
      rcases Nat.lt_or_ge j ns.length with h | h
      · exact h
      · rw [List.getElem?_eq_none h] at hx; cases hx
    rw [List.getElem?_eq_getElem hj] at hx
    simp only [Option.map_some, Option.some.injEq] at hx
    subst hx
    have h2 : (strC ns)[j]? = some (.string ⟨ns[j].toArray⟩) := by unfold strC; rw [List.getElem?_map, List.getElem?_eq_getElem hj]; rfl
    rw [← ht, List.getElem?_take, if_pos (by omega)] at h2
    simpa using h2) hgl (by simp; omega) (by simpa using hcap) (by rw [hm]; exact hlen)
  rw [hm, List.length_map] at h
  exact h.mono fun _ _ ⟨h1, h2⟩ => ⟨h1, h2.os, h2.tape, h2.output, h2.size, fun k hk _ => h2.block k hk⟩
theorem join_len (ns : List (List UInt8)) (h : ∀ s ∈ ns, s.length ≤ 1024) : (Lib.join ns [10]).length ≤ ns.length * 1025 := by
  cases ns with
  | nil => simp [Lib.join_nil]
  | cons a r =>
    rw [Lib.join_cons]
    have hr : (Lib.joinTail [10] r).length ≤ r.length * 1025 := by
      have h' : ∀ s ∈ r, s.length ≤ 1024 := fun s hs => h s (by simp [hs])
      clear h
      induction r with
      | nil => simp [Lib.joinTail]
      | cons b t ih =>
        have := ih (fun s hs => h' s (by simp [hs]))
        have hb := h' b (by simp)
        have e : Lib.joinTail [10] (b :: t) = 10 :: b ++ Lib.joinTail [10] t := by simp [Lib.joinTail]
        rw [e]
        simp only [List.length_append, List.length_cons]
        omega
    have ha := h a (by simp)
    simp only [List.length_append, List.length_cons]
    omega
theorem rt_text {v : Vt} (h : rtB v 32 = true) : v.t.length ≤ 1024 := by
  cases v with
  | mk k n f t ns its =>
    rw [rtB] at h
    show t.length ≤ 1024
    split at h
    · simp only [Bool.and_eq_true] at h
      have := h.2
      unfold bareB at this
      simp only [Bool.and_eq_true, decide_eq_true_eq] at this
      rw [this.1.1.2]; simp
    · split at h
      · simp only [Bool.and_eq_true] at h
        have := h.2
        unfold bareB at this
        simp only [Bool.and_eq_true, decide_eq_true_eq] at this
        rw [this.1.1.2]; simp
      · unfold rightS at h
        have hb : ∀ x : Vv, bareB x = true → x.t = [] := fun x hx => by
          unfold bareB at hx
          simp only [Bool.and_eq_true, decide_eq_true_eq] at hx
          exact hx.1.1.2
        simp only at h
        split at h
        · have := hb _ h; simp only at this; rw [this]; simp
        · split at h
          · simp only [Bool.and_eq_true] at h
            have := hb _ h.2; simp only at this; rw [this]; simp
          · split at h
            · have := hb _ h; simp only at this; rw [this]; simp
            · split at h
              · have := hb _ h; simp only at this; rw [this]; simp
              · split at h
                · simp only [Bool.and_eq_true, decide_eq_true_eq] at h
                  exact h.1
                · cases h

set_option maxRecDepth 100000 in
set_option maxHeartbeats 4000000 in
theorem mergeLines_any (w : World) (l : List Vt) (ad : Option Addr) (cap : Nat) (hI : IIn w l ad) (hne : 0 < l.length) (hlim : l.length ≤ 1000) (hR : ∀ u ∈ l, rtB u 32 = true) :
    Calls Tryz.prog 54 #[.slice ad l.length cap] w fun e w' => MPost w (mln l) e w' := by
  have hst := fun (W : World) (a : Addr) (m : Mode) (f : Nat) => run_store Tryz.prog W a (.float .f64 f) m rfl
  obtain ⟨bb, bo, rfl⟩ := hI.some (by intro e; rw [e] at hne; simp at hne)
  have HI := hid hI
  have HR := hid hR
  have HT : Hid (mln l = if (linesOf l).length ≤ 1024 then .inl (.mk 4 0 0 (linesOf l) [] []) else .inr 20) := rfl
  have HLn : Hid ((Lib.join (l.map (·.t)) [10]).length ≤ 1025000) := by
    have := join_len (l.map (·.t)) (fun s hs => by
      obtain ⟨u, hu, rfl⟩ := List.mem_map.1 hs
      exact rt_text (hR u hu))
    rw [List.length_map] at this
    show (Lib.join (l.map (·.t)) [10]).length ≤ 1025000
    omega
  have HF0 := hid (vFr w vZ)
  have HB0 := hid (vBlk w vZ)
  generalize mln l = T at *
  clear hI hR
  go_enter Tryz.func54, Tryz.ntmps54
  go_wp2_with fail
  go_loopw [4, 6, 10] (fun sv _ iv wr => ∃ (i : Nat) (ns : List (List UInt8)), i ≤ l.length ∧ iv = .int .i64 (i : Int) ∧ wr.ownsRow (w.heap.size + 1) 9 1 sv ns.length (strC ns) ∧ ns = (l.take i).map (·.t) ∧ Fr (fun _ => False) w wr ∧ Blk wr w.heap.size 26 vZ.cs) (fun _ _ iv _ => l.length - (intOf iv).toNat)
  case atStart => exact ⟨0, [], by omega, rfl, World.ownsRow_nil _ _ _ _, by simp, HF0.out, HB0.out⟩
  case round =>
    obtain ⟨i, ns, hi, rfl, hO, hN, hF, hB⟩ := hrel
    clear HF0 HB0
    have HO := hid hO
    have HN := hid hN
    have HF := hid hF
    have HB := hid hB
    have hnl : ns.length ≤ 1000 := by rw [hN]; simp; omega
    clear hO hN hF hB
    by_cases hlt : i < l.length
    · have hlt' : (i : Int) < ((l.length : Nat) : Int) := by omega
      obtain ⟨y, y1, y2⟩ := HI.out.get i hlt
      obtain ⟨k0, k1, k2, k3, k4, k5⟩ := (y1.env (Env.of HF.out)).six
      have HN2 : Hid (ns ++ [y.t] = (l.take (i + 1)).map (·.t)) := by
        unfold Hid
        rw [List.take_succ_eq_append_getElem hlt, List.map_append, ← HN.out, y2.parts.1.2.2.2]
        rfl
      have HFb := hid (HF.out.trans (vFr wr y) (fun _ h => h.elim))
      have HOb := hid (own_alloc (own_alloc HO.out (.cells #[.int .i64 y.k, .int .i64 y.n, .float .f64 y.f, .string ⟨y.t.toArray⟩, .slice y.na y.nl y.nc, .slice y.ia y.il y.ic] 26)) (.cells #[.string ⟨y.t.toArray⟩] 9))
      have HGb : Hid (((vBox wr y).alloc (.cells #[.string ⟨y.t.toArray⟩] 9)).cell? ⟨wr.heap.size + 1, 0, none⟩ = some (.string ⟨y.t.toArray⟩)) := by
        have := (Blk.new (vBox wr y) 9 [.string ⟨y.t.toArray⟩]).cell 0
        rw [World.size_alloc] at this
        exact this
      have HFc : Hid (Fr (fun _ => False) w ((vBox wr y).alloc (.cells #[.string ⟨y.t.toArray⟩] 9))) := HFb.out.alloc _
      have HBc : Hid (Blk ((vBox wr y).alloc (.cells #[.string ⟨y.t.toArray⟩] 9)) w.heap.size 26 vZ.cs) := (HB.out.alloc _).alloc _
      have hsz : w.heap.size + 1 ≤ ((vBox wr y).alloc (.cells #[.string ⟨y.t.toArray⟩] 9)).heap.size := by
        have := HF.out.size
        rw [World.size_alloc, World.size_alloc]; omega
      clear y1 y2 HN
      obtain ⟨k, n, f, t, na, nl, nc, ia, il, ic⟩ := y
      simp only at *
      go_wp2_with (at_builtin; refine Hid.out ?_)
      refine wpList_app_S (by rfl) _ _ (by rfl) (w.heap.size + 1) _ ns t _ _ (by rfl) (by rfl) HOb.out HGb.out hsz hnl ?_
      intro g' ic' W' ho hg
      have HO2 := hid ho
      have HF3 : Hid (Fr (fun _ => False) w W') := HFc.out.grown hg (fun k hk => .inr (by have := (own_lt HO.out k hk).1; omega))
      have HB3 : Hid (Blk W' w.heap.size 26 vZ.cs) := HBc.out.of_eq (hg.block _ HBc.out.lt (fun e => by have := (own_lt HO.out _ e.symm).1; omega))
      clear ho hg
      go_wp2_with fail
      exact ⟨⟨i + 1, _, by omega, by first | rfl | (congr 1), HO2.out, HN2.out, HF3.out, HB3.out⟩, by simp [intOf]; omega⟩
    · have hlt' : ¬ (i : Int) < ((l.length : Nat) : Int) := by omega
      have hN2 : ns = l.map (·.t) := by rw [HN.out, List.take_of_length_le (by omega)]
      have hnp : 0 < ns.length := by rw [hN2, List.length_map]; exact hne
      obtain ⟨g3, c3, cur3, hv3, hb3, hl3, hc3, hf3, ht3⟩ := own_row HO.out hnp
      subst hv3
      have HJ := hid (join_any wr ns g3 c3 _ HO.out hnp hnl (by rw [hN2]; have := HLn.out; omega))
      have HLj : Hid (Lib.join ns [10] = linesOf l) := by unfold Hid; rw [hN2]; rfl
      have hjl : (Lib.join ns [10]).length ≤ 1025000 := by rw [hN2]; exact HLn.out
      rw [HLj.out] at hjl
      rw [HLj.out] at HJ
      generalize linesOf l = s at *
      clear HO HN hc3 ht3 hN2 HLj HLn hst
      go_wp2_with fail
      refine HJ.out.mono ?_
      rintro e w2 ⟨rfl, f2⟩
      have HF2 := hid (HF.out.trans f2 (fun _ h => h.elim))
      have HB2 := hid (f2.blk HB.out (fun h => h))
      clear f2
      by_cases h1024 : 1024 < s.length
      · have h' : decide ((1024 : Int) < ((s.length : Nat) : Int)) = true := by simpa using (show (1024 : Int) < ((s.length : Nat) : Int) by omega)
        have HT2 : Hid (T = .inr 20) := by unfold Hid; rw [HT.out, if_neg (by omega)]
        clear h1024
        go_wp2_with (refine wpList_storeV vZ (by rfl) _ _ (by rfl) HB2.out (by rfl) (by rfl) ?_; intro w5 b5 f5)
        have HF5 : Hid (Fr (fun _ => False) w w5) := HF2.out.trans f5 (fun j hj => .inr (by omega))
        have HB5 := hid b5
        clear b5 f5
        go_wp2_with fail
        exact bodyPost_ret (resVE rfl rfl HB5.out) rfl ⟨HF5.out, .inl ⟨20, HT2.out, rfl⟩⟩
      · have h' : decide ((1024 : Int) < ((s.length : Nat) : Int)) = false := by simpa using (show ((s.length : Nat) : Int) ≤ 1024 by omega)
        have HT2 : Hid (T = .inl (.mk 4 0 0 s [] [])) := by unfold Hid; rw [HT.out, if_pos (by omega)]
        have HVs : Hid (∀ W, VIn W (.mk 4 0 0 s [] []) (vS s)) := fun W => vin_text W s (by unfold lim; omega)
        clear h1024
        go_wp2_with fail
        refine (textOf_any _ s).mono ?_
        rintro e w3 ⟨rfl, f3⟩
        have HF3 := hid (HF2.out.trans f3 (fun _ h => h.elim))
        have HB3 := hid (f3.blk HB2.out (fun h => h))
        clear f3
        go_wp2_with (refine wpList_storeV (vS s) (by rfl) _ _ (by rfl) HB3.out (by rfl) (by rfl) ?_; intro w5 b5 f5)
        have HF5 : Hid (Fr (fun _ => False) w w5) := HF3.out.trans f5 (fun j hj => .inr (by omega))
        have HB5 := hid b5
        clear b5 f5
        go_wp2_with fail
        exact bodyPost_ret (resVE rfl rfl HB5.out) rfl ⟨HF5.out, .inr ⟨_, _, HT2.out, rfl, HVs.out _⟩⟩
end Go.Proofs.YtniailfcmlongaaGreatDoor.Tr
