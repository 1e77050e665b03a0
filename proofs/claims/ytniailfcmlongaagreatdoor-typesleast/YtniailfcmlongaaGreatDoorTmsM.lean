import Derived.Test.YtniailfcmlongaaGreatDoorTgp
import Derived.Test.YtniailfcmlongaaGreatDoorTga
/- mergeLists over a row that lies in one world, of values of another. -/
namespace Go.Proofs.YtniailfcmlongaaGreatDoor.Tr
open Go.RowKit Go.Maps

set_option maxRecDepth 100000 in
set_option maxHeartbeats 4000000 in
theorem allItems_r (w0 w : World) (e0 : Env w0 w) (l : List Vt) (ad : Option Addr) (cap : Nat) (hI : Rws w0 w l ad) (hlim : l.length ≤ 1000) (h256 : ∀ u ∈ l, u.its.length ≤ 256) :
    Calls Tryz.prog 78 #[.slice ad l.length cap] w fun e w' => (∃ (X : List Vv) (v : Value), e = .returned v ∧ w'.ownsRow w.heap.size 26 6 v X.length (flatV X) ∧ RowIs w0 (allU l) X) ∧ Fr (fun _ => False) w w' := by
  have hst := fun (W : World) (a : Addr) (m : Mode) (f : Nat) => run_store Tryz.prog W a (.float .f64 f) m rfl
  have HI := hid hI
  have H256 := hid h256
  have HE0 := hid e0
  clear hI h256 e0
  go_enter Tryz.func78, Tryz.ntmps78
  go_wp2_with fail
  go_loopw [3, 5, 8] (fun sv _ iv wr => ∃ (i : Nat) (X : List Vv), i ≤ l.length ∧ iv = .int .i64 (i : Int) ∧ wr.ownsRow w.heap.size 26 6 sv X.length (flatV X) ∧ RowIs w0 (allU (l.take i)) X ∧ X.length ≤ i * 256 ∧ Fr (fun _ => False) w wr) (fun _ _ iv _ => l.length - (intOf iv).toNat)
  case atStart => exact ⟨0, [], by omega, rfl, World.ownsRow_nil _ _ _ _, ⟨by simp [allU], fun i h => by simp [allU] at h⟩, by simp, Fr.refl _ _⟩
  case round =>
    obtain ⟨i, X, hi, rfl, hO, hR, hXl, hF⟩ := hrel
    have HO := hid hO
    have HR := hid hR
    have HF := hid hF
    clear hO hR hF
    by_cases hlt : i < l.length
    · have hlt' : (i : Int) < ((l.length : Nat) : Int) := by omega
      obtain ⟨bb, bo, rfl⟩ := HI.out.some (by intro e; rw [e] at hlt; simp at hlt)
      obtain ⟨y, y1, y2⟩ := HI.out.get i hlt
      obtain ⟨k0, k1, k2, k3, k4, k5⟩ := (y1.env (Env.of HF.out)).six
      obtain ⟨Y, hY, hsrc⟩ := rows_of y2
      have hyl : Y.length ≤ 256 := by rw [hY.1]; exact H256.out _ (List.getElem_mem hlt)
      have hil : y.il = Y.length := by rw [hY.1]; exact y2.parts.2.2.2.1.1
      have HFb := hid (HF.out.trans (vFr wr y) (fun _ h => h.elim))
      have HOb : Hid ((vBox wr y).ownsRow w.heap.size 26 6 _ X.length (flatV X)) := own_alloc HO.out _
      have HSb : Hid (Y ≠ [] → ∃ bb bo, y.ia = some ⟨bb, bo, none⟩ ∧ ∀ q u, (flatV Y)[q]? = some u → (vBox wr y).cell? ⟨bb, bo + q, none⟩ = some u) := fun hne => by
        obtain ⟨b, o, e, hc⟩ := hsrc hne
        exact ⟨b, o, e, fun q u hu => (HE0.out.trans (Env.of HFb.out)).cell (hc q u hu)⟩
      have HR2 : Hid (RowIs w0 (allU (l.take (i + 1))) (X ++ Y)) := by
        unfold Hid
        have e : allU (l.take (i + 1)) = allU (l.take i) ++ l[i].its := by
          rw [List.take_succ_eq_append_getElem hlt]
          unfold allU
          rw [List.flatMap_append]
          simp
        rw [e]
        exact HR.out.app hY
      have hsz : w.heap.size ≤ (vBox wr y).heap.size := HFb.out.size
      have hXY : (X ++ Y).length ≤ (i + 1) * 256 := by simp; omega
      have hXm : X.length + Y.length ≤ 1000000 := by omega
      clear y1 y2 hsrc HR
      obtain ⟨k, n, f, t, na, nl, nc, ia, il, ic⟩ := y
      simp only at hil
      subst hil
      simp only [vBox] at *
      go_wp2_with (at_builtin; refine Hid.out ?_)
      refine wpList_app_Vs (by rfl) _ _ (by rfl) w.heap.size _ X Y ia ic (by rfl) (by rfl) HOb.out HSb.out hsz hXm ?_
      intro v' W' ho hg
      have HO2 := hid ho
      have HF3 : Hid (Fr (fun _ => False) w W') := HFb.out.grown hg (fun k hk => .inr (own_lt HO.out k hk).1)
      clear ho hg
      go_wp2_with fail
      exact ⟨⟨i + 1, X ++ Y, by omega, by first | rfl | (congr 1), HO2.out, HR2.out, hXY, HF3.out⟩, by simp [intOf]; omega⟩
    · have hlt' : ¬ (i : Int) < ((l.length : Nat) : Int) := by omega
      have HR2 : Hid (RowIs w0 (allU l) X) := by
        have h := HR.out
        rw [List.take_of_length_le (by omega)] at h
        exact h
      go_wp2_with fail
      go_ret
      exact ⟨⟨X, _, rfl, HO.out, HR2.out⟩, HF.out⟩

set_option maxRecDepth 100000 in
set_option maxHeartbeats 4000000 in
theorem mergeLists_r (w0 w : World) (e0 : Env w0 w) (l : List Vt) (ad : Option Addr) (cap : Nat) (hI : Rws w0 w l ad) (hlim : l.length ≤ 1000) (h256 : ∀ u ∈ l, u.its.length ≤ 256) :
    Calls Tryz.prog 55 #[.slice ad l.length cap] w fun e w' => LPost w0 w (allU l) e w' := by
  have HC := hid (allItems_r w0 (vBox w vZ) (e0.trans (Env.alloc w _)) l ad cap (hI.env (Env.alloc w _)) hlim h256)
  have HF0 := hid (vFr w vZ)
  have HB0 := hid (vBlk w vZ)
  have HL := hid (allU_len l h256)
  clear hI h256 e0
  go_enter Tryz.func55, Tryz.ntmps55
  go_wp2_with fail
  refine HC.out.mono ?_
  rintro e w1 ⟨⟨X, v, rfl, hO, hR⟩, f1⟩
  obtain ⟨ia, ic, rfl⟩ := own_len hO
  have hXl : X.length ≤ 1000000 := by have := HL.out; rw [hR.1]; omega
  have HR := hid hR
  have HO := hid hO
  have HF1 := hid (HF0.out.trans f1 (fun _ h => h.elim))
  have HB1 := hid (f1.blk HB0.out (fun h => h))
  have HC2 := hid (boundedList_any w1 ia X.length ic hXl)
  clear f1 hO hR HC
  go_wp2_with fail
  refine HC2.out.mono ?_
  rintro e w2 ⟨f2, ⟨h256, rfl⟩ | ⟨h256, rfl⟩⟩
  · have HF2 := hid (HF1.out.trans f2 (fun _ h => h.elim))
    have HB2 := hid (f2.blk HB1.out (fun h => h))
    have HH : Hid (256 < (allU l).length) := by unfold Hid; rw [← HR.out.1]; exact h256
    clear f2 h256
    go_wp2_with (refine wpList_storeV vZ (by rfl) _ _ (by rfl) HB2.out (by rfl) (by rfl) ?_; intro w5 b5 f5)
    have HF5 : Hid (Fr (fun _ => False) w w5) := HF2.out.trans f5 (fun j hj => .inr (by omega))
    have HB5 := hid b5
    clear b5 f5
    go_wp2_with fail
    exact bodyPost_ret (resVE rfl rfl HB5.out) rfl ⟨HF5.out, .inl ⟨HH.out, rfl⟩⟩
  · have HF2 := hid (HF1.out.trans f2 (fun _ h => h.elim))
    have HB2 := hid (f2.blk HB1.out (fun h => h))
    have HH : Hid ((allU l).length ≤ 256) := by unfold Hid; rw [← HR.out.1]; exact h256
    have HO2 := hid (own_fr HO.out f2 (fun _ _ h => h))
    clear f2 h256
    go_wp2_with (refine wpList_storeV ⟨5, 0, 0, [], none, 0, 0, ia, X.length, ic⟩ (by rfl) _ _ (by rfl) HB2.out (by rfl) (by rfl) ?_; intro w5 b5 f5)
    have HF5 : Hid (Fr (fun _ => False) w w5) := HF2.out.trans f5 (fun j hj => .inr (by omega))
    have HO5 : Hid (w5.ownsRow w.heap.size 26 6 (.slice ia X.length ic) X.length (flatV X)) := own_down (own_keep HO2.out (by simp) f5) (by simp)
    have HB5 := hid b5
    clear b5 f5
    go_wp2_with fail
    exact bodyPost_ret (resVE rfl rfl HB5.out) rfl ⟨HF5.out, .inr ⟨HH.out, X, ia, ic, rfl, HO5.out, HR.out⟩⟩

theorem LPost.h {w0 w w' : World} {U : List Vt} {e : Ending} (h : LPost w0 w U e w') : HPost w0 w (bndV U) e w' := by
  refine ⟨h.1, ?_⟩
  rcases h.2 with ⟨h1, h2⟩ | ⟨h1, X, ia, ic, h2, h3, h4⟩
  · exact .inl ⟨20, by unfold bndV; rw [if_pos h1], h2⟩
  · refine .inr ⟨.mk 5 0 0 [] [] U, _, by unfold bndV; rw [if_neg (by omega)], h2, fun w'' e0 hk => ?_⟩
    have hc := own_cap h3
    rw [h4.1] at hc ⊢
    exact vin_list (iin_held U h3 h4.1 hk (fun i h h' => VIn.env e0 _ _ (h4.2 i h h'))) h1 hc

end Go.Proofs.YtniailfcmlongaaGreatDoor.Tr
/- The contract of mergeSets, over what merge makes of the items. -/
namespace Go.Proofs.YtniailfcmlongaaGreatDoor.Tr
open Go.RowKit Go.Maps

/-- What each of some names makes, or the first error. -/
def msL (f : List UInt8 → Vt ⊕ Int) : List (List UInt8) → List Vt ⊕ Int
  | [] => .inl []
  | x :: r => match f x with
    | .inr n => .inr n
    | .inl v => match msL f r with
      | .inr n => .inr n
      | .inl vs => .inl (v :: vs)
/-- What sets make. -/
def msets (f : List Vt → Vt ⊕ Int) (l : List Vt) : Vt ⊕ Int :=
  if 256 < (gnm l).length then .inr 20 else match msL (fun x => f (undV x l)) (gnm l) with
    | .inr n => .inr n
    | .inl vs => .inl (.mk 6 0 0 [] (gnm l) vs)
theorem msL_from (g : List UInt8 → Vt ⊕ Int) : ∀ (N : List (List UInt8)) (R : List (Vt × Vv)) (hl : R.length ≤ N.length), (∀ q (hq : q < R.length), g (N[q]'(by omega)) = .inl R[q].1) →
    msL g N = match msL g (N.drop R.length) with
      | .inr n => .inr n
      | .inl vs => .inl (R.map (·.1) ++ vs)
  | N, [], _, _ => by simp only [List.length_nil, List.drop_zero, List.map_nil, List.nil_append]; cases msL g N <;> rfl
  | [], _ :: _, hl, _ => by simp at hl
  | x :: N, e :: R, hl, h => by
    have h0 := h 0 (by simp)
    simp only [List.getElem_cons_zero] at h0
    have ih := msL_from g N R (by simpa using hl) (fun q hq => by
      have := h (q + 1) (by simpa using hq)
      simpa using this)
    simp only [msL, List.length_cons, List.drop_succ_cons, List.map_cons, List.cons_append]
    rw [h0]
    simp only
    rw [ih]
    cases msL g (N.drop R.length) <;> rfl
theorem nmD_at {N : List (List UInt8)} {q : Nat} (h : q < N.length) : N.getD q [] = N[q] := by rw [List.getD_eq_getElem?_getD, List.getElem?_eq_getElem h]; rfl
theorem ms_err {f : List Vt → Vt ⊕ Int} {l : List Vt} {R : List (Vt × Vv)} {n : Int} (hb : ¬ 256 < (gnm l).length) (hl : R.length < (gnm l).length) (h : ∀ q (hq : q < R.length), f (undV ((gnm l).getD q []) l) = .inl R[q].1) (he : f (undV ((gnm l).getD R.length []) l) = .inr n) : msets f l = .inr n := by
  unfold msets
  rw [if_neg hb, msL_from _ (gnm l) R (by omega) (fun q hq => by have := h q hq; rw [nmD_at (by omega)] at this; exact this), List.drop_eq_getElem_cons hl]
  rw [nmD_at hl] at he
  simp only [msL]
  rw [he]
theorem ms_ok {f : List Vt → Vt ⊕ Int} {l : List Vt} {R : List (Vt × Vv)} (hb : ¬ 256 < (gnm l).length) (hl : R.length = (gnm l).length) (h : ∀ q (hq : q < R.length), f (undV ((gnm l).getD q []) l) = .inl R[q].1) : msets f l = .inl (.mk 6 0 0 [] (gnm l) (R.map (·.1))) := by
  unfold msets
  rw [if_neg hb, msL_from _ (gnm l) R (by omega) (fun q hq => by have := h q hq; rw [nmD_at (by omega)] at this; exact this), List.drop_eq_nil_of_le (by omega)]
  simp [msL]
/-- 'append(items, v)', and where it lies. -/
theorem wpList_app_VL {ops : Array Oper} {rest : List Oper} {o : Oper} {a : Act} {W : World} {Q : Exit → Act → World → Prop} (hgd : o.guard = none) (d s : Operand) (ho : o.op = .call { callee := .builtin .append, args := #[d, s], argTypes := #[24, 24] })
    (base : Nat) (v : Value) (X : List Vv) (x : Vv) (g cap : Nat) (hd : a.eval d = v) (hs : a.eval s = .slice (some ⟨g, 0, none⟩) 1 cap) (hown : W.ownsRow base 26 6 v X.length (flatV X)) (hg : Blk W g 26 x.cs) (hb : base ≤ W.heap.size) (hl : X.length ≤ 1000)
    (h : ∀ g' ic W', W'.ownsRow base 26 6 (.slice (some ⟨g', 0, none⟩) (X.length + 1) ic) (X ++ [x]).length (flatV (X ++ [x])) → W.grownBy W' v.ownBlock → (v.ownBlock = some g' ∨ W.heap.size ≤ g') → wpList Tryz.prog ops Q rest (a.put o.dst (.slice (some ⟨g', 0, none⟩) (X.length + 1) ic)) W') : wpList Tryz.prog ops Q (o :: rest) a W := by
  obtain ⟨i0, hi0, hz0, hz1, hz2⟩ := info_parts infoV
  refine wpList_append_lies W hgd d s 24 ho base 26 i0 _ 6 88 Tryz.underlying24 hi0 hz0 hz1 hz2 rfl (by omega) v X.length (flatV X) hd hown ⟨g, 0, none⟩ 1 cap x.cs hs rfl (fun j u hu => by rw [Addr.add_mid, Nat.zero_add, hg.cell]; exact hu) (vv_one x) (by omega) (by unfold maxLen; omega) (by omega) hb _ rfl ?_
  intro g' cap' W' h1 h2 h3 _
  refine h g' cap' W' ?_ h2 (h3.imp id (fun e => by omega))
  rw [List.length_append, flatV_app]
  exact h1
/-- What mergeSets keeps from round to round. -/
structure MsK (w0 w wg : World) (na : Option Addr) (nl nc : Nat) (R : List (Vt × Vv)) (ia : Option Addr) (ic : Nat) (wr : World) : Prop where
  fr : Fr (fun _ => False) w wr
  eg : Env wg wr
  bv : Blk wr wg.heap.size 26 (Vv.mk 6 0 0 [] na nl nc ia R.length ic).cs
  vs : wr.ownsRow (wg.heap.size + 1) 26 6 (.slice ia R.length ic) (R.map (·.2)).length (flatV (R.map (·.2)))
  hd : ∀ e ∈ R, ∀ w'', Env w0 w'' → (∀ k, wg.heap.size < k → k < wr.heap.size → (Value.slice ia R.length ic).ownBlock ≠ some k → w''.heap[k]? = wr.heap[k]?) → VIn w'' e.1 e.2
theorem ms_next {w0 w wg wr wA wB w9 W4 : World} {na : Option Addr} {nl nc : Nat} {R : List (Vt × Vv)} {va : Option Addr} {gV vc ic2 : Nat} {v : Vt} {x : Vv} (HK : MsK w0 w wg na nl nc R va vc wr) (hsz : w.heap.size ≤ wg.heap.size) (hA : wr.heap.size ≤ wA.heap.size) (hB : Fr (fun _ => False) wB w9) (hh : Hld w0 wA wB v x) (h9 : Fr (fun _ => False) wr w9) (F4 : Fr (fun k => (Value.slice va R.length vc).ownBlock = some k) w9 W4)
    (V4 : W4.ownsRow (wg.heap.size + 1) 26 6 (.slice (some ⟨gV, 0, none⟩) ((R.map (·.2)).length + 1) ic2) (R.map (·.2) ++ [x]).length (flatV (R.map (·.2) ++ [x])))
    (lV : (Value.slice va R.length vc).ownBlock = some gV ∨ w9.heap.size ≤ gV) :
    MsK w0 w wg na nl nc (R ++ [(v, x)]) (some ⟨gV, 0, none⟩) ic2 (W4.setCell ⟨wg.heap.size, 5, none⟩ (.slice (some ⟨gV, 0, none⟩) ((R.map (·.2)).length + 1) ic2)) := by
  have hrow : ∀ k, (Value.slice va R.length vc).ownBlock = some k → wg.heap.size + 1 ≤ k ∧ k < wr.heap.size := fun k h => own_lt HK.vs k h
  have hb4 : Blk W4 wg.heap.size 26 (Vv.mk 6 0 0 [] na nl nc va R.length vc).cs := F4.blk (h9.blk HK.bv (fun h => h)) (fun h => by have := (hrow _ h).1; omega)
  have hl : (R ++ [(v, x)]).length = R.length + 1 := by simp
  have hV : (R ++ [(v, x)]).map (·.2) = R.map (·.2) ++ [x] := by simp
  have hml : (R.map (·.2)).length = R.length := List.length_map _
  obtain ⟨W6, hW6⟩ : ∃ W6, W6 = W4.setCell ⟨wg.heap.size, 5, none⟩ (.slice (some ⟨gV, 0, none⟩) ((R.map (·.2)).length + 1) ic2) := ⟨_, rfl⟩
  have f6 : Fr (· = wg.heap.size) W4 W6 := by rw [hW6]; exact (Fr.refl (· = wg.heap.size) W4).setCell (.inl rfl) _
  have hbv := hb4.setCell 5 (.slice (some ⟨gV, 0, none⟩) ((R.map (·.2)).length + 1) ic2)
  rw [← hW6] at hbv ⊢
  have hs46 : W4.heap.size ≤ W6.heap.size := f6.size
  have hs94 := F4.size
  have hsr9 := h9.size
  have hsB9 := hB.size
  have hgr := HK.eg.1
  refine ⟨((HK.fr.trans h9 (fun _ h => h.elim)).trans F4 (fun i hi => .inr (by have := hrow i hi; omega))).trans f6 (fun i hi => .inr (by omega)), ⟨by omega, fun k hk => ?_⟩, ?_, ?_, ?_⟩
  · rw [f6.block k (by omega) (by omega), F4.block k (by omega) (fun h => by have := (hrow k h).1; omega), h9.block k (by omega) (fun h => h)]
    exact HK.eg.2 k hk
  · rw [hml] at hbv
    rw [hl]
    exact hbv
  · rw [hl, hV]
    have := own_keep (b := wg.heap.size) V4 (by omega) f6
    rw [hml] at this
    exact this
  · intro e he w'' e0 hk
    have step : ∀ k, wg.heap.size < k → k < w9.heap.size → (Value.slice va R.length vc).ownBlock ≠ some k → w''.heap[k]? = w9.heap[k]? := by
      intro k k1 k2 n2
      have e2 : gV ≠ k := by
        rintro rfl
        rcases lV with h | h
        · exact n2 h
        · omega
      rw [hk k k1 (by omega) (by simp only [Value.ownBlock]; intro h; injection h with h; exact e2 h), f6.block k (by omega) (by omega)]
      exact F4.block k k2 n2
    rcases List.mem_append.1 he with he | he
    · exact HK.hd e he w'' e0 (fun k k1 k2 n2 => (step k k1 (by omega) n2).trans (h9.block k k2 (fun h => h)))
    · obtain rfl := List.mem_singleton.1 he
      refine hh w'' e0 (fun k k1 k2 => (step k ?_ (by omega) ?_).trans (hB.block k k2 (fun h => h)))
      · have := HK.bv.lt; omega
      · intro h; have := (hrow k h).2; omega
def MsSt (w0 w wg : World) (f : List Vt → Vt ⊕ Int) (l : List Vt) (na : Option Addr) (nc : Nat) (iv : Value) (wr : World) : Prop := ∃ (R : List (Vt × Vv)) (ia : Option Addr) (ic : Nat), R.length ≤ (gnm l).length ∧ iv = .int .i64 (R.length : Int) ∧ (∀ q (hq : q < R.length), f (undV ((gnm l).getD q []) l) = .inl R[q].1) ∧ MsK w0 w wg na (gnm l).length nc R ia ic wr

set_option maxRecDepth 100000 in
set_option maxHeartbeats 16000000 in
theorem mergeSets_any (w0 w : World) (e0 : Env w0 w) (kb : Nat) (f : List Vt → Vt ⊕ Int) (l : List Vt) (ad : Option Addr) (cap : Nat) (hI : Rws w0 w l ad) (hlim : l.length ≤ 1000) (hA : Ats l) (hn : ∀ x ∈ l, ∀ s ∈ x.ns, s.length ≤ lim)
    (hM : ∀ x ∈ gnm l, ∀ W ad cap, Env w W → Rws w0 W (undV x l) ad → (undV x l).length ≤ cap → Calls Tryz.prog 34 #[pv kb, .slice ad (undV x l).length cap] W fun e w' => HPost w0 W (f (undV x l)) e w') (hE : ∀ x ∈ gnm l, ∀ n, f (undV x l) = .inr n → (n != 0) = true) :
    Calls Tryz.prog 56 #[pv kb, .slice ad l.length cap] w fun e w' => HPost w0 w (msets f l) e w' := by
  have hst := fun (W : World) (a : Addr) (m : Mode) (f : Nat) => run_store Tryz.prog W a (.float .f64 f) m rfl
  have HF0 := hid (vFr w vZ)
  have HB0 := hid (vBlk w vZ)
  have HC := hid (gather_any w0 (vBox w vZ) (e0.trans (Env.alloc w _)) l ad cap (hI.env (Env.alloc w _)) hlim hA)
  have HM := hid hM
  have HEr := hid hE
  have HNl : Hid (∀ s ∈ gnm l, s.length ≤ lim) := fun s hs => by
    have h1 := gnm_mem.1 hs
    obtain ⟨u, h2, h3⟩ := List.mem_flatMap.1 h1
    exact hn u h2 s h3
  clear hI hlim hA hM hE hn e0
  go_enter Tryz.func56, Tryz.ntmps56
  go_wp2_with fail
  refine HC.out.mono ?_
  rintro e w1 ⟨f1, na, nc, sb, H, X, rfl, hsb, hrow, hFam⟩
  have HF1 := hid (HF0.out.trans f1 (fun _ h => h.elim))
  have HB1 := hid (f1.blk HB0.out (fun h => h))
  have HRow := hid hrow
  have HFam := hid hFam
  have HSb : Hid (w.heap.size + 1 ≤ sb) := by have := hsb; rw [World.size_alloc] at this; exact this
  clear f1 hsb hrow hFam HC
  by_cases hbig : 256 < (gnm l).length
  · have q1 : decide ((256 : Int) < ((gnm l).length : Int)) = true := decide_eq_true (by omega)
    have HR : Hid (msets f l = .inr 20) := by unfold Hid msets; rw [if_pos hbig]
    clear hbig
    go_wp2_with (refine wpList_storeV vZ (by rfl) _ _ (by rfl) HB1.out (by rfl) (by rfl) ?_; intro w5 b5 f5)
    have HF5 : Hid (Fr (fun _ => False) w w5) := HF1.out.trans f5 (fun j hj => .inr (by omega))
    have HB5 := hid b5
    clear b5 f5
    go_wp2_with fail
    exact bodyPost_ret (resVE rfl rfl HB5.out) rfl ⟨HF5.out, .inl ⟨20, HR.out, rfl⟩⟩
  · have q1 : decide ((256 : Int) < ((gnm l).length : Int)) = false := decide_eq_false (by omega)
    have HBig := hid hbig
    have HK0 : Hid (MsK w0 w w1 na (gnm l).length nc [] none 0 (vBox w1 ⟨6, 0, 0, [], na, (gnm l).length, nc, none, 0, 0⟩)) := ⟨HF1.out.trans (vFr w1 _) (fun _ h => h.elim), Env.alloc w1 _, vBlk w1 _, World.ownsRow_nil _ _ _ _, fun e he => by simp at he⟩
    have HWs : Hid (w.heap.size + 1 ≤ w1.heap.size) := HB1.out.lt
    have hNb : ((gnm l).length : Int) ≤ 256 := by omega
    clear hbig
    simp only [vBox] at *
    go_wp2_with fail
    go_loopw [10, 11, 12, 26] (fun _ _ _ iv wr => MsSt w0 w w1 f l na nc iv wr) (fun _ _ _ iv _ => (gnm l).length - (intOf iv).toNat)
    case atStart => exact ⟨[], none, 0, by simp, rfl, fun q hq => by simp at hq, HK0.out⟩
    case round =>
      obtain ⟨R, va, vc, hR, rfl, hPr, hK⟩ := hrel
      have HK := hid hK
      have HPr := hid hPr
      clear hK hPr HK0
      by_cases hlt : R.length < (gnm l).length
      · have q2 : (R.length : Int) < ((gnm l).length : Int) := by omega
        have q0 : (0 : Int) ≤ (R.length : Int) := by omega
        have hown := HFam.out.own R.length hlt
        obtain ⟨ha, hc, hHa⟩ := own_len hown
        have hri := HFam.out.ri R.length hlt
        have kc := HK.out.eg.cell (HFam.out.cell hlt)
        rw [hHa] at kc hown
        have hcap := own_cap hown
        have hRw : Rws w0 wr (undV (gnm l)[R.length] l) ha := (rws_own _ hown hri).env HK.out.eg
        have hCm := HM.out (gnm l)[R.length] (List.getElem_mem hlt) wr ha hc (Env.of HK.out.fr) hRw (by rw [← hri.1]; exact hcap)
        rw [← hri.1] at hCm
        rw [← nmD_at hlt] at hCm
        have HCm := hid hCm
        have HLt := hid hlt
        have HEi := hid (HEr.out ((gnm l).getD R.length []) (by rw [nmD_at hlt]; exact List.getElem_mem hlt))
        have HOk : Hid (∀ v x, f (undV ((gnm l).getD R.length []) l) = .inl v → ∀ q (hq : q < (R ++ [(v, x)]).length), f (undV ((gnm l).getD q []) l) = .inl (R ++ [(v, x)])[q].1) := by
          intro v x hv q hq
          by_cases hlq : q < R.length
          · rw [List.getElem_append_left hlq]; exact HPr.out q hlq
          · obtain rfl : q = R.length := by simp at hq; omega
            rw [List.getElem_append_right (Nat.le_refl _), hv]
            simp
        have HNo : Hid (∀ n, f (undV ((gnm l).getD R.length []) l) = .inr n → msets f l = .inr n) := fun n hn => ms_err HBig.out HLt.out HPr.out hn
        generalize f (undV ((gnm l).getD R.length []) l) = T at *
        generalize (X R.length).length = xl at *
        clear hown hHa hri hcap hRw hCm hlt HM
        go_wp2_with fail
        refine HCm.out.mono ?_
        rintro e w2 ⟨f2, ⟨nn, hr, rfl⟩ | ⟨v, x, hr, rfl, hv⟩⟩
        · have HF2 := hid ((HK.out.fr.trans f2 (fun _ h => h.elim)).trans (vFr w2 vZ) (fun _ h => h.elim))
          have HBz : Hid (Blk (vBox w2 vZ) w.heap.size 26 vZ.cs) := by
            refine (HB1.out.of_eq ?_)
            have h1 := HWs.out
            have h2 := HK.out.eg.1
            rw [Below.heap_alloc w2 _ w.heap.size (by have := f2.size; omega), f2.block w.heap.size (by omega) (fun h => h)]
            exact HK.out.eg.2 _ (by omega)
          have HE : Hid (msets f l = .inr nn) := HNo.out nn hr
          have qn := HEi.out nn hr
          clear f2 hr HCm kc HOk HNo HEi
          simp only [vBox, vZ] at *
          go_wp2_with (refine wpList_storeV vZ (by rfl) _ _ (by rfl) HBz.out (by rfl) (by rfl) ?_; intro w5 b5 f5)
          have HF5 : Hid (Fr (fun _ => False) w w5) := HF2.out.trans f5 (fun j hj => .inr (by omega))
          have HB5 := hid b5
          clear b5 f5
          go_wp2_with fail
          exact bodyPost_ret (resVE rfl rfl HB5.out) rfl ⟨HF5.out, .inl ⟨nn, HE.out, rfl⟩⟩
        · have HF9 := hid (f2.trans (vFr w2 x) (fun _ h => h.elim))
          have HW9 := hid (vBlk w2 x)
          have HFb9 := hid (vFr w2 x)
          have HHld := hid hv
          have HPn := hid (HOk.out v x hr)
          have h9b := HF9.out.blk HK.out.bv (fun h => h)
          have c5 := h9b.cell 5
          simp only [List.getElem?_cons_succ, List.getElem?_cons_zero] at c5
          have HO9 : Hid ((vBox w2 x).ownsRow (w1.heap.size + 1) 26 6 (.slice va R.length vc) (R.map (·.2)).length (flatV (R.map (·.2)))) := own_fr HK.out.vs HF9.out (fun _ _ h => h)
          have HOc := hid (own_alloc HO9.out (.cells #[.int .i64 x.k, .int .i64 x.n, .float .f64 x.f, .string ⟨x.t.toArray⟩, .slice x.na x.nl x.nc, .slice x.ia x.il x.ic] 26))
          have HGc : Hid (Blk (vBox (vBox w2 x) x) (w2.heap.size + 1) 26 x.cs) := by
            have := vBlk (vBox w2 x) x
            rw [World.size_alloc] at this
            exact this
          have HFc := hid (vFr (vBox w2 x) x)
          have hsz : w1.heap.size + 1 ≤ (vBox (vBox w2 x) x).heap.size := by
            have h1 := HK.out.bv.lt
            have h2 := HF9.out.size
            have h3 := HFc.out.size
            omega
          have hRl : (R.map (·.2)).length ≤ 1000 := by rw [List.length_map]; omega
          have H9b := hid h9b
          have q3 : ((0 : Int) != 0) = false := by decide
          clear f2 hr HCm kc hv HOk HNo HEi h9b
          obtain ⟨xk, xn, xf, xt, xna, xnl, xnc, xia, xil, xic⟩ := x
          simp only [vBox] at *
          go_wp2_with (at_builtin; refine Hid.out ?_)
          refine wpList_app_VL (by rfl) _ _ (by rfl) (w1.heap.size + 1) _ (R.map (·.2)) ⟨xk, xn, xf, xt, xna, xnl, xnc, xia, xil, xic⟩ _ _ (by rfl) (by rfl) HOc.out HGc.out hsz hRl ?_
          intro g' ic' W4 ho hg hloc
          have HF4 := hid (((HFc.out.mono (fun _ h => h.elim)) : Fr (fun k => (Value.slice va R.length vc).ownBlock = some k) _ _).grown hg (fun k hk => .inl hk))
          have HlV := hloc.imp id (fun h => Nat.le_trans HFc.out.size h)
          have hN := ms_next HK.out (Nat.le_of_succ_le HWs.out) (Nat.le_refl _) HFb9.out HHld.out HF9.out HF4.out ho HlV
          rw [show (R.map (·.2)).length = R.length from List.length_map _] at hN
          have HN := hid hN
          clear hN
          have hb4 := HF4.out.blk H9b.out (fun h => by have := (own_lt HK.out.vs _ h).1; omega)
          have hc4 := hb4.cell 5
          have hz4 := hb4.frozen 5
          simp only [List.getElem?_cons_succ, List.getElem?_cons_zero] at hc4
          clear ho hg hloc HlV hb4 c5 HF4 HO9 HOc
          go_wp2_with fail
          exact ⟨⟨R ++ [_], _, _, by have := HLt.out; simp; omega, by simp, HPn.out, HN.out⟩, by have := HLt.out; simp [intOf]; omega⟩
      · have q2 : decide ((R.length : Int) < ((gnm l).length : Int)) = false := decide_eq_false (by omega)
        have hRl : R.length = (gnm l).length := by omega
        have HE := hid (ms_ok HBig.out hRl HPr.out)
        obtain ⟨g0, g1, g2, g3, g4, g5⟩ := HK.out.bv.six
        have HRl := hid hRl
        have HBz : Hid (Blk wr w.heap.size 26 vZ.cs) := HB1.out.of_eq (HK.out.eg.2 _ (by have := HWs.out; omega))
        clear hRl hR
        go_wp2_with (refine wpList_storeV ⟨6, 0, 0, [], na, (gnm l).length, nc, va, R.length, vc⟩ (by rfl) _ _ (by rfl) HBz.out (by rfl) (by rfl) ?_; intro w5 b5 f5)
        have HF5 : Hid (Fr (fun _ => False) w w5) := HK.out.fr.trans f5 (fun j hj => .inr (by omega))
        have HB5 := hid b5
        have HV5 := hid (own_down (B' := w.heap.size) (own_keep HK.out.vs (by have := HWs.out; omega) f5) (by have := HWs.out; omega))
        have HFr5 := hid f5
        clear b5 f5
        go_wp2_with fail
        refine bodyPost_ret (resVE rfl rfl HB5.out) rfl ⟨HF5.out, .inr ⟨_, ⟨6, 0, 0, [], na, (gnm l).length, nc, va, R.length, vc⟩, HE.out, rfl, fun w'' e0 hk => ?_⟩⟩
        have hV5 := HV5.out
        have hcN := own_cap HRow.out
        have hcV : (R.map (·.2)).length ≤ vc := by have := hV5; rw [List.length_map] at this ⊢; exact own_cap this
        have hw1 := HWs.out
        have hg1 := HK.out.eg.1
        have hs5 := HFr5.out.size
        have back : ∀ k, w.heap.size + 1 ≤ k → k < wr.heap.size → w''.heap[k]? = wr.heap[k]? := fun k k1 k2 => (hk k (by omega) (by omega)).trans (HFr5.out.block k k2 (by omega))
        have hS : Strs w'' na (gnm l) := by
          refine strs_held HRow.out (fun k k1 k2 => ?_)
          rw [World.size_alloc] at k1
          exact (back k k1 (by omega)).trans (HK.out.eg.2 k k2)
        have hIn : IIn w'' (R.map (·.1)) va := iin_held (R.map (·.1)) hV5 (by simp) hk (fun i h h' => by
          have hi : i < R.length := by simpa using h
          have e1 : (R.map (·.1))[i] = R[i].1 := by simp
          have e2 : (R.map (·.2))[i] = R[i].2 := by simp
          rw [e1, e2]
          exact HK.out.hd R[i] (List.getElem_mem hi) w'' e0 (fun k k1 k2 _ => back k (by omega) k2))
        rw [VIn]
        have hb := HBig.out
        refine ⟨⟨rfl, rfl, rfl, rfl⟩, ⟨by unfold I64; omega, by unfold I64; omega, by simp [lim], HNl.out⟩, ⟨rfl, hcN, by unfold lim; omega, hS⟩, ⟨by simp, by simpa using hcV, by simp [lim]; have := HRl.out; omega⟩, hIn⟩

end Go.Proofs.YtniailfcmlongaaGreatDoor.Tr
