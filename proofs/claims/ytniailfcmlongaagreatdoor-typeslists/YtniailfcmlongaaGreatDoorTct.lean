/- The contract of counting. -/
import Derived.Test.YtniailfcmlongaaGreatDoorTso
import Derived.Test.YtniailfcmlongaaGreatDoorLsp
import Derived.Deep.AppendLies
namespace Go.Proofs.YtniailfcmlongaaGreatDoor.Tr
open Go.RowKit Go.Sort

theorem infoD : (Tryz.prog.info? 30).map (fun i => (i.zero, i.size, i.bytes)) = some (some (⟨vZ, 0, 0⟩ : Dv).v, 8, 104) := by kernel_rfl
theorem infoV : (Tryz.prog.info? 26).map (fun i => (i.zero, i.size, i.bytes)) = some (some vZ.v, 6, 88) := by kernel_rfl
/-- The cells of a row of definitions. -/
def flatD (F : List Dz) : List Value := F.flatMap encZ
theorem flatD_app (F G : List Dz) : flatD (F ++ G) = flatD F ++ flatD G := List.flatMap_append
theorem flatD_len : ∀ F : List Dz, (flatD F).length = F.length * 8
  | [] => rfl
  | z :: F => by
    show (encZ z ++ flatD F).length = _
    rw [List.length_append, flatD_len F, encZ_len, List.length_cons]; omega
theorem flatD_at : ∀ (F : List Dz) (i j : Nat) (h : i < F.length), j < 8 → (flatD F)[i * 8 + j]? = (encZ F[i])[j]?
  | z :: F, 0, j, _, hj => by
    show (encZ z ++ flatD F)[0 * 8 + j]? = _
    rw [Nat.zero_mul, Nat.zero_add, List.getElem?_append_left (by rw [encZ_len]; exact hj)]; rfl
  | z :: F, i + 1, j, h, hj => by
    show (encZ z ++ flatD F)[(i + 1) * 8 + j]? = _
    rw [List.getElem?_append_right (by rw [encZ_len]; omega), encZ_len, show (i + 1) * 8 + j - 8 = i * 8 + j by omega, flatD_at F i j (by simpa using h) hj]
    rfl
/-- Where a row lies. -/
theorem own_row {w : World} {B n z : Nat} {e : TypeId} {v : Value} {xs : List Value} (h : w.ownsRow B e z v n xs) (hn : 0 < n) : ∃ g cap cur, v = .slice (some ⟨g, 0, none⟩) n cap ∧ B ≤ g ∧ g < w.heap.size ∧ w.heap[g]? = some (.cells cur e (0, 0)) ∧ n ≤ cap ∧ cur.toList.take (n * z) = xs := by
  rcases h.2 with ⟨h0, h1⟩ | ⟨g, c, cur, hv, hb, hg, hc, hm, hs, ht⟩
  · omega
  · refine ⟨g, c, cur, hv, hb, ?_, hg, hc, ht⟩
    rcases Nat.lt_or_ge g w.heap.size with h | h
    · exact h
    · rw [Array.getElem?_eq_none h] at hg; cases hg
theorem own_lt {w : World} {B : Nat} {v : Value} {n z : Nat} {xs : List Value} {e : TypeId} (h : w.ownsRow B e z v n xs) : ∀ k, v.ownBlock = some k → B ≤ k ∧ k < w.heap.size := fun k hk => by
  rcases h.2 with ⟨h0, _⟩ | ⟨g, c, cur, hv, hb, hg, _⟩
  · rw [h0] at hk; cases hk
  rw [hv] at hk
  simp only [Value.ownBlock, Option.some.injEq] at hk
  subst hk
  refine ⟨hb, ?_⟩
  rcases Nat.lt_or_ge g w.heap.size with h | h
  · exact h
  · rw [Array.getElem?_eq_none h] at hg; cases hg
theorem own_holds {w : World} {g : Nat} {cur : Array Value} (F : List Dz) (hg : w.heap[g]? = some (.cells cur 30 (0, 0))) (ht : cur.toList.take (F.length * 8) = flatD F) : HoldsK encZ 8 w g 0 F.toArray := by
  intro j hj
  rw [size_flatK] at hj
  have hj' : j < F.length * 8 := by simpa using hj
  have hi : j / 8 < F.length := by omega
  have hc : cur[j]? = (flatD F)[j]? := by
    rw [← ht, List.getElem?_take, if_pos hj']
    simp
  refine ⟨?_, ?_⟩
  · rw [cell_of_row w g (0 + j) _ _ (0, 0) hg, Nat.zero_add, hc, show j = j / 8 * 8 + j % 8 by omega, flatD_at F (j / 8) (j % 8) hi (by omega), show j / 8 * 8 + j % 8 = j by omega, get_flatK encZ 8 F.toArray j hj]
    have e1 : F.toArray[j / 8]! = F[j / 8] := by
      rw [getElem!_pos _ _ (by simpa using hi)]; simp
    rw [e1]
    have hl : j % 8 < (encZ F[j / 8]).length := by rw [encZ_len]; omega
    rw [List.getElem?_eq_getElem hl, getElem!_pos (encZ F[j / 8]) (j % 8) hl]; rfl
  · simp [World.frozen?, hg]
theorem holds_eight {w : World} {g : Nat} {D : Array Dz} (h : HoldsK encZ 8 w g 0 D) (i : Nat) (hi : i < D.size) : eight w g (0 + i * 8) (D[i]).2 := by
  have hc : ∀ j, j < 8 → w.cell? ⟨g, i * 8 + j, none⟩ = (encZ D[i])[j]? := fun j hj => by
    have h1 := (h (i * 8 + j) (by rw [size_flatK]; omega)).1
    rw [Nat.zero_add, get_flatK encZ 8 D _ (by omega), show (i * 8 + j) / 8 = i by omega, show (i * 8 + j) % 8 = j by omega, getElem!_pos D i hi] at h1
    rw [h1]
    have hl : j < (encZ D[i]).length := by rw [encZ_len]; exact hj
    rw [List.getElem?_eq_getElem hl, getElem!_pos (encZ D[i]) j hl]; rfl
  rw [Nat.zero_add]
  exact ⟨hc 0 (by decide), hc 1 (by decide), hc 2 (by decide), hc 3 (by decide), hc 4 (by decide), hc 5 (by decide), hc 6 (by decide), hc 7 (by decide)⟩

/-- 'append(first, d)'. -/
theorem wpList_app_D {ops : Array Oper} {rest : List Oper} {o : Oper} {a : Act} {W : World} {Q : Exit → Act → World → Prop} (hgd : o.guard = none) (d s : Operand) (ho : o.op = .call { callee := .builtin .append, args := #[d, s], argTypes := #[31, 31] })
    (base : Nat) (v : Value) (F : List Dz) (z : Dz) (g cap : Nat) (hd : a.eval d = v) (hs : a.eval s = .slice (some ⟨g, 0, none⟩) 1 cap) (hown : W.ownsRow base 30 8 v F.length (flatD F)) (hg : Blk W g 30 z.2.cs) (hb : base ≤ W.heap.size) (hl : F.length ≤ 1000)
    (h : ∀ g' ic W', W'.ownsRow base 30 8 (.slice (some ⟨g', 0, none⟩) (F.length + 1) ic) (F ++ [z]).length (flatD (F ++ [z])) → W.grownBy W' v.ownBlock → wpList Tryz.prog ops Q rest (a.put o.dst (.slice (some ⟨g', 0, none⟩) (F.length + 1) ic)) W') : wpList Tryz.prog ops Q (o :: rest) a W := by
  obtain ⟨i0, hi0, hz0, hz1, hz2⟩ := info_parts infoD
  refine wpList_append_lies W hgd d s 31 ho base 30 i0 _ 8 104 Tryz.underlying31 hi0 hz0 hz1 hz2 rfl (by omega) v F.length (flatD F) hd hown ⟨g, 0, none⟩ 1 cap z.2.cs hs rfl (fun j u hu => by rw [Addr.add_mid, Nat.zero_add, hg.cell]; exact hu) (dv_one z.2) (by omega) (by unfold maxLen; omega) (by omega) hb _ rfl ?_
  intro g' cap' W' h1 h2 _ _
  refine h g' cap' W' ?_ h2
  rw [List.length_append, flatD_app]
  exact h1
/-- 'append(l, d.Value)'. -/
theorem wpList_app_V {ops : Array Oper} {rest : List Oper} {o : Oper} {a : Act} {W : World} {Q : Exit → Act → World → Prop} (hgd : o.guard = none) (d s : Operand) (ho : o.op = .call { callee := .builtin .append, args := #[d, s], argTypes := #[24, 24] })
    (base : Nat) (v : Value) (X : List Vv) (x : Vv) (g cap : Nat) (hd : a.eval d = v) (hs : a.eval s = .slice (some ⟨g, 0, none⟩) 1 cap) (hown : W.ownsRow base 26 6 v X.length (flatV X)) (hg : Blk W g 26 x.cs) (hb : base ≤ W.heap.size) (hl : X.length ≤ 1000)
    (h : ∀ g' ic W', W'.ownsRow base 26 6 (.slice (some ⟨g', 0, none⟩) (X.length + 1) ic) (X ++ [x]).length (flatV (X ++ [x])) → W.grownBy W' v.ownBlock → wpList Tryz.prog ops Q rest (a.put o.dst (.slice (some ⟨g', 0, none⟩) (X.length + 1) ic)) W') : wpList Tryz.prog ops Q (o :: rest) a W := by
  obtain ⟨i0, hi0, hz0, hz1, hz2⟩ := info_parts infoV
  refine wpList_append_lies W hgd d s 24 ho base 26 i0 _ 6 88 Tryz.underlying24 hi0 hz0 hz1 hz2 rfl (by omega) v X.length (flatV X) hd hown ⟨g, 0, none⟩ 1 cap x.cs hs rfl (fun j u hu => by rw [Addr.add_mid, Nat.zero_add, hg.cell]; exact hu) (vv_one x) (by omega) (by unfold maxLen; omega) (by omega) hb _ rfl ?_
  intro g' cap' W' h1 h2 _ _
  refine h g' cap' W' ?_ h2
  rw [List.length_append, flatV_app]
  exact h1
theorem iin_own {w : World} {B n cap : Nat} {ad : Option Addr} {X : List Vv} (l : List Vt) (h : w.ownsRow B 26 6 (.slice ad n cap) X.length (flatV X)) (hl : X.length = l.length) (hv : ∀ i (h : i < l.length) (h' : i < X.length), VIn w l[i] X[i]) : IIn w l ad := by
  rcases Nat.eq_zero_or_pos X.length with h0 | hpos
  · have : l = [] := List.eq_nil_of_length_eq_zero (by omega)
    subst this
    rw [IIn]; trivial
  · obtain ⟨g, c, cur, h1, h2, h3, h4, h5, h6⟩ := own_row h hpos
    simp only [Value.slice.injEq] at h1
    rw [h1.1]
    refine IIn_mk l X hl (fun q u hq => ?_) hv
    rw [cell_of_row w g (0 + q) _ _ (0, 0) h4, Nat.zero_add]
    rw [← h6, List.getElem?_take] at hq
    split at hq
    · simpa using hq
    · cases hq

theorem own_alloc {w : World} {B : Nat} {v : Value} {n z : Nat} {xs : List Value} {e : TypeId} (h : w.ownsRow B e z v n xs) (o : Obj) : (w.alloc o).ownsRow B e z v n xs := owns_of_eq h fun k hk => Below.heap_alloc w o k (own_lt h k hk).2
theorem own_fr {F : Nat → Prop} {w W : World} {B : Nat} {v : Value} {n z : Nat} {xs : List Value} {e : TypeId} (h : w.ownsRow B e z v n xs) (f : Fr F w W) (hF : ∀ k, v.ownBlock = some k → ¬ F k) : W.ownsRow B e z v n xs := owns_of_eq h fun k hk => f.block k (own_lt h k hk).2 (hF k hk)
/-- Those that count, as they stood. -/
def cntF (L : List Dt) : List Dt := L.filter fun d => decide (d.p = leastP L)
theorem filter_snoc (L : List Dt) (q : Dt → Bool) (i : Nat) (hi : i < L.length) : (L.take (i + 1)).filter q = (L.take i).filter q ++ if q L[i] = true then [L[i]] else [] := by
  rw [List.take_succ_eq_append_getElem hi, List.filter_append]
  congr 1
  by_cases h : q L[i] = true
  · rw [if_pos h]; simp [h]
  · rw [if_neg h]; simp [h]
theorem dv_field (W : World) (y : Dv) : (Instr.field 30 y.v 1).run Tryz.prog W = .ok (.int .i64 y.p) W := by kernel_rfl

set_option maxRecDepth 100000 in
set_option maxHeartbeats 4000000 in
theorem counting_any (w : World) (L : List Dt) (ad : Option Addr) (cap : Nat) (hI : DsIn w L ad) (hlim : L.length ≤ 1000) (hne : L ≠ []) (h20 : (cntF L).length ≤ 20) (hc0 : 0 < (cntF L).length) :
    Calls Tryz.prog 32 #[.slice ad L.length cap] w fun e w' => (∃ (F : List Dz) (ia : Option Addr) (ic : Nat), e = .returned (.slice ia F.length ic) ∧ F.length ≤ ic ∧ F.map (·.1) = cntF L ∧ (∀ z ∈ F, DIn w' z.1 z.2) ∧ IIn w' ((insZ F.toArray).toList.map (·.1.v)) ia) ∧ Fr (fun _ => False) w w' := by
  have hst := fun (W : World) (a : Addr) (m : Mode) (f : Nat) => run_store Tryz.prog W a (.float .f64 f) m rfl
  have HI := hid hI
  have HM := hid (minFunc_any w L ad cap hI (by omega) hne)
  have HC0 := hid hc0
  have HC20 := hid h20
  unfold cntF at *
  generalize leastP L = lp at *
  clear hI hne hc0 h20
  go_enter Tryz.func32, Tryz.ntmps32
  go_wp2_with fail
  refine HM.out.mono ?_
  rintro e w1 ⟨⟨y, rfl, hyp⟩, f1⟩
  have HF1 := hid f1
  have hfd := fun W => dv_field W y
  rw [hyp] at hfd
  clear f1 hyp
  go_wp2_with fail
  go_loopw [4, 6, 15] (fun fv _ iv wr => ∃ (i : Nat) (F : List Dz), i ≤ L.length ∧ iv = .int .i64 (i : Int) ∧ wr.ownsRow w.heap.size 30 8 fv F.length (flatD F) ∧ F.map (·.1) = (L.take i).filter (fun d => decide (d.p = lp)) ∧ (∀ z ∈ F, DIn w z.1 z.2) ∧ Fr (fun _ => False) w wr) (fun _ _ iv _ => L.length - (intOf iv).toNat)
  case atStart => exact ⟨0, [], Nat.zero_le _, rfl, World.ownsRow_nil _ _ _ _, by simp, by simp, HF1.out⟩
  case round =>
    obtain ⟨i, F, hi, rfl, hO, hM, hD, hF⟩ := hrel
    have HO := hid hO
    have HMp := hid hM
    have HD := hid hD
    have HF := hid hF
    have hFl : F.length ≤ 1000 := by
      have := congrArg List.length hM
      rw [List.length_map] at this
      have h2 := List.length_filter_le (fun d : Dt => decide (d.p = lp)) (L.take i)
      have h3 := List.length_take_le i L
      omega
    clear hO hM hD hF HF1 hfd HM
    by_cases hlt : i < L.length
    · have hlt' : (i : Int) < ((L.length : Nat) : Int) := by omega
      obtain ⟨bb, bo, y, rfl, y1, y2⟩ := HI.out.at i hlt
      obtain ⟨k0, k1, k2, k3, k4, k5, k6, k7⟩ := eight_env y1 (Env.of HF.out)
      have HFb := hid (HF.out.trans (dFr wr y) (fun _ h => h.elim))
      have HDy := hid y2
      have HS := hid (filter_snoc L (fun d => decide (d.p = lp)) i hlt)
      clear y1 y2
      by_cases hp : y.p = lp
      · have hp' : (y.p == lp) = true := by simpa using hp
        have HMp2 : Hid ((F ++ [(L[i], y)]).map (·.1) = (L.take (i + 1)).filter (fun d => decide (d.p = lp))) := by
          unfold Hid
          rw [HS.out, List.map_append, HMp.out, if_pos (by simp only [decide_eq_true_eq]; rw [← HDy.out.2.1]; exact hp)]
          rfl
        have HD2 : Hid (∀ z ∈ F ++ [(L[i], y)], DIn w z.1 z.2) := fun z hz => by
          rcases List.mem_append.1 hz with h | h
          · exact HD.out z h
          · simp only [List.mem_singleton] at h; subst h; exact HDy.out
        have HOb := hid (own_alloc (own_alloc HO.out (.cells #[.int .i64 y.x.k, .int .i64 y.x.n, .float .f64 y.x.f, .string ⟨y.x.t.toArray⟩, .slice y.x.na y.x.nl y.x.nc, .slice y.x.ia y.x.il y.x.ic, .int .i64 y.p, .int .i64 y.o] 30)) (.cells #[.int .i64 y.x.k, .int .i64 y.x.n, .float .f64 y.x.f, .string ⟨y.x.t.toArray⟩, .slice y.x.na y.x.nl y.x.nc, .slice y.x.ia y.x.il y.x.ic, .int .i64 y.p, .int .i64 y.o] 30))
        have HGb : Hid (Blk (dBox (dBox wr y) y) (wr.heap.size + 1) 30 y.cs) := by
          have := dBlk (dBox wr y) y
          rw [World.size_alloc] at this
          exact this
        have HFc := hid (HFb.out.trans (dFr _ y) (fun _ h => h.elim))
        have hsz : w.heap.size ≤ (dBox (dBox wr y) y).heap.size := HFc.out.size
        clear hp HMp HD HDy HS
        obtain ⟨⟨k, n, f, t, na, nl, nc, ia, il, ic⟩, p, o⟩ := y
        simp only at *
        go_wp2_with (at_builtin; refine Hid.out ?_)
        refine wpList_app_D (by rfl) _ _ (by rfl) w.heap.size _ F (L[i], ⟨⟨k, n, f, t, na, nl, nc, ia, il, ic⟩, p, o⟩) _ _ (by rfl) (by rfl) HOb.out HGb.out (by first | exact hsz | simp) hFl ?_
        intro g' ic' W' ho hg
        have HO2 := hid ho
        have HG2 := hid hg
        clear ho hg
        have HF2 : Hid (Fr (fun _ => False) w W') := HFc.out.grown HG2.out (fun k hk => .inr (own_lt HO.out k hk).1)
        go_wp2_with fail
        exact ⟨⟨i + 1, F ++ [(L[i], ⟨⟨k, n, f, t, na, nl, nc, ia, il, ic⟩, p, o⟩)], by omega, by first | rfl | (congr 1), HO2.out, HMp2.out, HD2.out, HF2.out⟩, by simp [intOf]; omega⟩
      · have hp' : (y.p == lp) = false := by simpa using hp
        have HMp2 : Hid (F.map (·.1) = (L.take (i + 1)).filter (fun d => decide (d.p = lp))) := by
          unfold Hid
          rw [HS.out, HMp.out, if_neg (by simp only [decide_eq_true_eq]; rw [← HDy.out.2.1]; exact hp)]
          simp
        have HOb := hid (own_alloc HO.out (.cells #[.int .i64 y.x.k, .int .i64 y.x.n, .float .f64 y.x.f, .string ⟨y.x.t.toArray⟩, .slice y.x.na y.x.nl y.x.nc, .slice y.x.ia y.x.il y.x.ic, .int .i64 y.p, .int .i64 y.o] 30))
        clear hp HMp HDy HS
        obtain ⟨⟨k, n, f, t, na, nl, nc, ia, il, ic⟩, p, o⟩ := y
        simp only at *
        go_wp2_with fail
        exact ⟨⟨i + 1, F, by omega, by first | rfl | (congr 1), HOb.out, HMp2.out, HD.out, HFb.out⟩, by simp [intOf]; omega⟩
    · have hlt' : ¬ (i : Int) < ((L.length : Nat) : Int) := by omega
      have HMp2 : Hid (F.map (·.1) = L.filter (fun d => decide (d.p = lp))) := by
        unfold Hid; rw [HMp.out, List.take_of_length_le (by omega)]
      have hlen : F.length = (L.filter (fun d => decide (d.p = lp))).length := by rw [← HMp2.out, List.length_map]
      have hF0 : 0 < F.length := by rw [hlen]; exact HC0.out
      have hF20 : F.length ≤ 20 := by rw [hlen]; exact HC20.out
      clear hlen
      obtain ⟨g, fc, cur, hv, hgB, hgl, hgc, hfc, hgt⟩ := own_row HO.out hF0
      subst hv
      have HH := hid (own_holds F hgc hgt)
      have HSo := hid (sort_few wr g 0 fc F.toArray HH.out hgl (by simpa using hF20))
      have HDm : Hid (∀ z ∈ (insZ F.toArray).toList, DIn w z.1 z.2) := fun z hz => HD.out z (by have := (insZ_mem F.toArray).mem_iff.1 hz; simpa using this)
      have hDs : (insZ F.toArray).size = F.length := by rw [insZ_size]; simp
      have hFs : F.toArray.size = F.length := by simp
      rw [hFs] at HSo
      generalize hDD : insZ F.toArray = D at *
      have HDD := hid hDD
      clear hDD
      clear hgc hgt HMp hFs
      go_wp2_with fail
      refine HSo.out.mono ?_
      rintro e w2 ⟨rfl, f2, hH2⟩
      have HF2 : Hid (Fr (fun _ => False) w w2) := HF.out.trans f2 (fun j hj => .inr (by omega))
      have HH2 := hid hH2
      have hg2 : g < w2.heap.size := Nat.lt_of_lt_of_le hgl f2.size
      clear f2 hH2 HH HSo
      have HE8 : Hid (∀ i (h : i < F.length), eight w2 g (i * 8) (D[i]'(by omega)).2) := fun i h => by
        have := holds_eight HH2.out i (by omega)
        rw [Nat.zero_add] at this
        exact this
      clear HH2
      go_wp2_with fail
      go_loopw [7, 9, 32] (fun lv _ iv wr' => ∃ (i : Nat) (X : List Vv), i ≤ F.length ∧ iv = .int .i64 (i : Int) ∧ wr'.ownsRow w2.heap.size 26 6 lv X.length (flatV X) ∧ X = (D.toList.take i).map (·.2.x) ∧ Fr (fun _ => False) w2 wr') (fun _ _ iv _ => F.length - (intOf iv).toNat)
      case atStart => exact ⟨0, [], Nat.zero_le _, rfl, World.ownsRow_nil _ _ _ _, by simp, Fr.refl _ _⟩
      case round =>
        obtain ⟨j, X, hj, rfl, hO, hX, hF⟩ := hrel
        have HOx := hid hO
        have HX := hid hX
        have HFx := hid hF
        have hXl : X.length = j := by rw [hX]; simp; omega
        clear hO hX hF HO HF
        by_cases hlt : j < F.length
        · have hlt2 : (j : Int) < ((F.length : Nat) : Int) := by omega
          have hjD : j < D.size := by omega
          have HX2 : Hid (X ++ [D[j].2.x] = (D.toList.take (j + 1)).map (·.2.x)) := by
            unfold Hid
            rw [List.take_succ_eq_append_getElem (by simpa using hjD), List.map_append, ← HX.out]
            simp
          obtain ⟨k0, k1, k2, k3, k4, k5, k6, k7⟩ := eight_env (HE8.out j hlt) (Env.of HFx.out)
          generalize D[j].2 = y at *
          have HFb := hid (HFx.out.trans (dFr wr y) (fun _ h => h.elim))
          have HOb := hid (own_alloc (own_alloc HOx.out (.cells #[.int .i64 y.x.k, .int .i64 y.x.n, .float .f64 y.x.f, .string ⟨y.x.t.toArray⟩, .slice y.x.na y.x.nl y.x.nc, .slice y.x.ia y.x.il y.x.ic, .int .i64 y.p, .int .i64 y.o] 30)) (.cells #[.int .i64 y.x.k, .int .i64 y.x.n, .float .f64 y.x.f, .string ⟨y.x.t.toArray⟩, .slice y.x.na y.x.nl y.x.nc, .slice y.x.ia y.x.il y.x.ic] 26))
          have HGb : Hid (Blk (vBox (dBox wr y) y.x) (wr.heap.size + 1) 26 y.x.cs) := by
            have := vBlk (dBox wr y) y.x
            rw [World.size_alloc] at this
            exact this
          have HFc := hid (HFb.out.trans (vFr _ y.x) (fun _ h => h.elim))
          have hsz : w2.heap.size ≤ (vBox (dBox wr y) y.x).heap.size := HFc.out.size
          have hXl2 : X.length ≤ 1000 := by omega
          clear HX hjD hXl
          obtain ⟨⟨k, n, f, t, na, nl, nc, ia, il, ic⟩, p, o⟩ := y
          simp only at *
          go_wp2_with (at_builtin; refine Hid.out ?_)
          refine wpList_app_V (by rfl) _ _ (by rfl) w2.heap.size _ X ⟨k, n, f, t, na, nl, nc, ia, il, ic⟩ _ _ (by rfl) (by rfl) HOb.out HGb.out (by first | exact hsz | simp) hXl2 ?_
          intro g' ic' W' ho hg
          have HO2 := hid ho
          have HF3 : Hid (Fr (fun _ => False) w2 W') := HFc.out.grown hg (fun k hk => .inr (own_lt HOx.out k hk).1)
          clear ho hg
          go_wp2_with fail
          exact ⟨⟨j + 1, _, by omega, by first | rfl | (congr 1), HO2.out, HX2.out, HF3.out⟩, by simp [intOf]; omega⟩
        · have hlt2 : ¬ (j : Int) < ((F.length : Nat) : Int) := by omega
          have HX2 : Hid (X = D.toList.map (·.2.x)) := by
            unfold Hid; rw [HX.out, List.take_of_length_le (by simp; omega)]
          have hXF : X.length = F.length := by rw [HX2.out]; simp; omega
          obtain ⟨g3, c3, cur3, hv3, hb3, hl3, hc3, hf3, ht3⟩ := own_row HOx.out (by omega)
          subst hv3
          have HF3 := hid (HF2.out.trans HFx.out (fun _ h => h.elim))
          have HDm2 : Hid (∀ z ∈ F, DIn wr z.1 z.2) := fun z hz => (HD.out z hz).env (Env.of HF3.out)
          have HII : Hid (IIn wr (D.toList.map (·.1.v)) (some ⟨g3, 0, none⟩)) := by
            refine iin_own _ HOx.out (by rw [hXF]; simp; omega) (fun i h h' => ?_)
            have hiD : i < D.toList.length := by simpa using h
            have e1 : X[i] = D.toList[i].2.x := by
              have := HX2.out
              subst this
              simp
            rw [e1, List.getElem_map]
            exact ((HDm.out _ (List.getElem_mem hiD)).env (Env.of HF3.out)).1
          have hcap3 : F.length ≤ c3 := by omega
          rw [hXF]
          clear HX HX2
          go_wp2_with fail
          go_ret
          exact ⟨⟨F, _, c3, rfl, hcap3, HMp2.out, fun a b h => HDm2.out (a, b) h, by rw [HDD.out]; exact HII.out⟩, HF3.out⟩
end Go.Proofs.YtniailfcmlongaaGreatDoor.Tr
