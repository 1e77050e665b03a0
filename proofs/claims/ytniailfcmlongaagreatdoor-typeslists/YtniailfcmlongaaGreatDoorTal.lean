/- The contracts of allItems, listOf, boundedList, mergeLists. -/
import Derived.Test.YtniailfcmlongaaGreatDoorTmg
namespace Go.Proofs.YtniailfcmlongaaGreatDoor.Tr
open Go.RowKit

/-- The items of all lists. -/
def allU (l : List Vt) : List Vt := l.flatMap (·.its)
/-- The rows X are the values U. -/
def RowIs (w : World) (U : List Vt) (X : List Vv) : Prop := X.length = U.length ∧ ∀ i (h : i < U.length) (h' : i < X.length), VIn w U[i] X[i]
theorem RowIs.env {w W : World} {U : List Vt} {X : List Vv} (h : RowIs w U X) (e : Env w W) : RowIs W U X := ⟨h.1, fun i h1 h2 => VIn.env e _ _ (h.2 i h1 h2)⟩
theorem RowIs.app {w : World} {U V : List Vt} {X Y : List Vv} (h : RowIs w U X) (g : RowIs w V Y) : RowIs w (U ++ V) (X ++ Y) := by
  refine ⟨by simp [h.1, g.1], fun i h1 h2 => ?_⟩
  by_cases hi : i < U.length
  · rw [List.getElem_append_left hi, List.getElem_append_left (by rw [h.1]; exact hi)]
    exact h.2 i hi (by rw [h.1]; exact hi)
  · rw [List.getElem_append_right (by omega), List.getElem_append_right (by rw [h.1]; omega)]
    have e : i - X.length = i - U.length := by rw [h.1]
    simp only [e]
    exact g.2 _ (by simp at h1; omega) (by simp at h2; have := h.1; omega)
theorem rows_of {w : World} {v : Vt} {x : Vv} (h : VIn w v x) : ∃ Y : List Vv, RowIs w v.its Y ∧ (Y ≠ [] → ∃ bb bo, x.ia = some ⟨bb, bo, none⟩ ∧ ∀ q u, (flatV Y)[q]? = some u → w.cell? ⟨bb, bo + q, none⟩ = some u) := by
  have hp := h.parts.2.2.2.2
  by_cases h0 : v.its = []
  · exact ⟨[], ⟨by rw [h0]; rfl, fun i h1 => by rw [h0] at h1; simp at h1⟩, fun e => absurd rfl e⟩
  · obtain ⟨b, o, e⟩ := hp.some h0
    rw [e] at hp
    obtain ⟨Y, hl, hY⟩ := hp.rows
    exact ⟨Y, ⟨hl, fun i h1 h2 => (hY i h1 h2).2⟩, fun _ => ⟨b, o, e, rows_cells hl hY⟩⟩

/-- 'append(items, v.Items...)'. -/
theorem wpList_app_Vs {ops : Array Oper} {rest : List Oper} {o : Oper} {a : Act} {W : World} {Q : Exit → Act → World → Prop} (hgd : o.guard = none) (d s : Operand) (ho : o.op = .call { callee := .builtin .append, args := #[d, s], argTypes := #[24, 24] })
    (base : Nat) (v : Value) (X Y : List Vv) (ad : Option Addr) (cap : Nat) (hd : a.eval d = v) (hs : a.eval s = .slice ad Y.length cap) (hown : W.ownsRow base 26 6 v X.length (flatV X)) (hsrc : Y ≠ [] → ∃ bb bo, ad = some ⟨bb, bo, none⟩ ∧ ∀ q u, (flatV Y)[q]? = some u → W.cell? ⟨bb, bo + q, none⟩ = some u) (hb : base ≤ W.heap.size) (hl : X.length + Y.length ≤ 1000000)
    (h : ∀ v' W', W'.ownsRow base 26 6 v' (X ++ Y).length (flatV (X ++ Y)) → W.grownBy W' v.ownBlock → wpList Tryz.prog ops Q rest (a.put o.dst v') W') : wpList Tryz.prog ops Q (o :: rest) a W := by
  obtain ⟨i0, hi0, hz0, hz1, hz2⟩ := info_parts infoV
  by_cases hy : Y = []
  · subst hy
    have hl : ∀ (x : Addr), (loadCells x 0).run Tryz.prog W = .ok #[] W := fun x => by simpa using run_loadCells_list (P := Tryz.prog) W x [] (by simp)
    have hrun : (Builtin.append_ #[24, 24] o.type #[v, .slice ad 0 cap]).run Tryz.prog W = .ok v W := by
      rcases hown.2 with ⟨rfl, h00⟩ | ⟨g, cap', cur, rfl, _, _, hnc, _⟩
      · cases ad <;> simp [Builtin.append_, run_underlying Tryz.underlying24, sizeOf, typeInfo, hi0, Builtin.lenOf, Builtin.firstCells, hl]
      · cases ad <;> simp [Builtin.append_, run_underlying Tryz.underlying24, sizeOf, typeInfo, hi0, Builtin.lenOf, Builtin.firstCells, hnc, storeCells, hl]
    refine wpList_plain hgd fun K hK => ?_
    unfold Oper.wp
    simp only [List.length_nil] at hs
    simp [execOp, ho, resolve, invoke, builtin, hd, hs, hrun, Result.andThen]
    exact hK _ _ (h v W (by simpa using hown) ⟨rfl, rfl, rfl, Nat.le_refl _, fun _ _ _ => rfl⟩)
  · obtain ⟨bb, bo, rfl, hr⟩ := hsrc hy
    have hpos : 0 < Y.length := List.length_pos_iff.2 hy
    refine wpList_append_lies W hgd d s 24 ho base 26 i0 _ 6 88 Tryz.underlying24 hi0 hz0 hz1 hz2 rfl (by omega) v X.length (flatV X) hd hown ⟨bb, bo, none⟩ Y.length cap (flatV Y) hs (by rw [flatV_len]) (fun j u hu => by rw [Addr.add_mid]; exact hr j u hu) (fun u hu => by
      obtain ⟨q, hq, e⟩ := List.getElem_of_mem hu
      obtain ⟨i, j, hi, hj, _, e2⟩ := flatV_inv Y q u (by rw [List.getElem?_eq_getElem hq, e])
      match j, hj, e2 with
      | 0, _, e2 => cases e2; rfl
      | 1, _, e2 => cases e2; rfl
      | 2, _, e2 => cases e2; rfl
      | 3, _, e2 => cases e2; rfl
      | 4, _, e2 => cases e2; rfl
      | 5, _, e2 => cases e2; rfl) hpos (by unfold maxLen; omega) (by omega) hb _ rfl ?_
    intro g cap' W' h1 h2 _ _
    refine h _ _ ?_ h2
    rw [List.length_append, flatV_app]
    exact h1

set_option maxRecDepth 100000 in
set_option maxHeartbeats 4000000 in
theorem allItems_any (w0 w : World) (e0 : Env w0 w) (l : List Vt) (ad : Option Addr) (cap : Nat) (hI : IIn w0 l ad) (hlim : l.length ≤ 1000) (h256 : ∀ u ∈ l, u.its.length ≤ 256) :
    Calls Tryz.prog 78 #[.slice ad l.length cap] w fun e w' => (∃ (X : List Vv) (v : Value), e = .returned v ∧ w'.ownsRow w.heap.size 26 6 v X.length (flatV X) ∧ RowIs w0 (allU l) X) ∧ Fr (fun _ => False) w w' := by
  have hst := fun (W : World) (a : Addr) (m : Mode) (f : Nat) => run_store Tryz.prog W a (.float .f64 f) m rfl
  have HI := hid hI
  have H256 := hid h256
  have HE0 := hid e0
  clear hI h256 e0
  go_enter Tryz.func78, Tryz.ntmps78
  go_wp2_with fail
  go_loopw [3, 5, 8] (fun sv _ iv wr => ∃ (i : Nat) (X : List Vv), i ≤ l.length ∧ iv = .int .i64 (i : Int) ∧ wr.ownsRow w.heap.size 26 6 sv X.length (flatV X) ∧ RowIs w0 (allU (l.take i)) X ∧ X.length ≤ i * 256 ∧ Fr (fun _ => False) w wr) (fun _ _ iv _ => l.length - (intOf iv).toNat)
  case atStart => exact ⟨0, [], by omega, rfl, World.ownsRow_nil _ _ _ _, ⟨by simp [allU], fun i h => by simp [allU] at h⟩, by simp, Fr.refl _ _⟩
  case round =>
    obtain ⟨i, X, hi, rfl, hO, hR, hXl, hF⟩ := hrel
    have HO := hid hO
    have HR := hid hR
    have HF := hid hF
    clear hO hR hF
    by_cases hlt : i < l.length
    · have hlt' : (i : Int) < ((l.length : Nat) : Int) := by omega
      obtain ⟨bb, bo, rfl⟩ := HI.out.some (by intro e; rw [e] at hlt; simp at hlt)
      obtain ⟨y, y1, y2⟩ := HI.out.get i hlt
      obtain ⟨k0, k1, k2, k3, k4, k5⟩ := (y1.env (HE0.out.trans (Env.of HF.out))).six
      obtain ⟨Y, hY, hsrc⟩ := rows_of y2
      have hyl : Y.length ≤ 256 := by rw [hY.1]; exact H256.out _ (List.getElem_mem hlt)
      have hil : y.il = Y.length := by rw [hY.1]; exact y2.parts.2.2.2.1.1
      have HFb := hid (HF.out.trans (vFr wr y) (fun _ h => h.elim))
      have HOb : Hid ((vBox wr y).ownsRow w.heap.size 26 6 _ X.length (flatV X)) := own_alloc HO.out _
      have HSb : Hid (Y ≠ [] → ∃ bb bo, y.ia = some ⟨bb, bo, none⟩ ∧ ∀ q u, (flatV Y)[q]? = some u → (vBox wr y).cell? ⟨bb, bo + q, none⟩ = some u) := fun hne => by
        obtain ⟨b, o, e, hc⟩ := hsrc hne
        exact ⟨b, o, e, fun q u hu => (HE0.out.trans (Env.of HFb.out)).cell (hc q u hu)⟩
      have HR2 : Hid (RowIs w0 (allU (l.take (i + 1))) (X ++ Y)) := by
        unfold Hid
        have e : allU (l.take (i + 1)) = allU (l.take i) ++ l[i].its := by
          rw [List.take_succ_eq_append_getElem hlt]
          unfold allU
          rw [List.flatMap_append]
          simp
        rw [e]
        exact HR.out.app hY
      have hsz : w.heap.size ≤ (vBox wr y).heap.size := HFb.out.size
      have hXY : (X ++ Y).length ≤ (i + 1) * 256 := by simp; omega
      have hXm : X.length + Y.length ≤ 1000000 := by omega
      clear y1 y2 hsrc HR
      obtain ⟨k, n, f, t, na, nl, nc, ia, il, ic⟩ := y
      simp only at hil
      subst hil
      simp only [vBox] at *
      go_wp2_with (at_builtin; refine Hid.out ?_)
      refine wpList_app_Vs (by rfl) _ _ (by rfl) w.heap.size _ X Y ia ic (by rfl) (by rfl) HOb.out HSb.out hsz hXm ?_
      intro v' W' ho hg
      have HO2 := hid ho
      have HF3 : Hid (Fr (fun _ => False) w W') := HFb.out.grown hg (fun k hk => .inr (own_lt HO.out k hk).1)
      clear ho hg
      go_wp2_with fail
      exact ⟨⟨i + 1, X ++ Y, by omega, by first | rfl | (congr 1), HO2.out, HR2.out, hXY, HF3.out⟩, by simp [intOf]; omega⟩
    · have hlt' : ¬ (i : Int) < ((l.length : Nat) : Int) := by omega
      have HR2 : Hid (RowIs w0 (allU l) X) := by
        have h := HR.out
        rw [List.take_of_length_le (by omega)] at h
        exact h
      go_wp2_with fail
      go_ret
      exact ⟨⟨X, _, rfl, HO.out, HR2.out⟩, HF.out⟩

set_option maxRecDepth 100000 in
set_option maxHeartbeats 1000000 in
theorem listOf_any (w : World) (ia : Option Addr) (il ic : Nat) : Calls Tryz.prog 96 #[.slice ia il ic] w fun e w' => e = .returned (⟨5, 0, 0, [], none, 0, 0, ia, il, ic⟩ : Vv).v ∧ Fr (fun _ => False) w w' := by
  have HF := hid (vFr w ⟨5, 0, 0, [], none, 0, 0, ia, il, ic⟩)
  have hst := fun (W : World) (a : Addr) (m : Mode) (f : Nat) => run_store Tryz.prog W a (.float .f64 f) m rfl
  go_enter Tryz.func96, Tryz.ntmps96
  go_wp2
  exact bodyPost_ret (resV rfl rfl (vBlk w ⟨5, 0, 0, [], none, 0, 0, ia, il, ic⟩)) rfl ⟨rfl, HF.out⟩

/-- What comes of a list that is made: too long, or its rows lie in new memory. -/
def LPost (w0 w : World) (U : List Vt) (e : Ending) (w' : World) : Prop :=
  Fr (fun _ => False) w w' ∧ ((256 < U.length ∧ e = .returned (.tuple #[vZ.v, .int .i64 20])) ∨ (U.length ≤ 256 ∧ ∃ (X : List Vv) (ia : Option Addr) (ic : Nat), e = .returned (.tuple #[(⟨5, 0, 0, [], none, 0, 0, ia, X.length, ic⟩ : Vv).v, .int .i64 0]) ∧ w'.ownsRow w.heap.size 26 6 (.slice ia X.length ic) X.length (flatV X) ∧ RowIs w0 U X))
theorem own_keep {w w' : World} {b B : Nat} {e : TypeId} {z : Nat} {v : Value} {n : Nat} {xs : List Value} (h : w.ownsRow B e z v n xs) (hb : b < B) (f : Fr (· = b) w w') : w'.ownsRow B e z v n xs :=
  own_fr h f fun k hk e => by have := (own_lt h k hk).1; omega
theorem own_down {w : World} {B B' : Nat} {e : TypeId} {z : Nat} {v : Value} {n : Nat} {xs : List Value} (h : w.ownsRow B e z v n xs) (hb : B' ≤ B) : w.ownsRow B' e z v n xs := by
  refine ⟨h.1, ?_⟩
  rcases h.2 with h0 | ⟨g, cap, cur, h0, hB, hr⟩
  · exact .inl h0
  · exact .inr ⟨g, cap, cur, h0, by omega, hr⟩

theorem own_len {B : Nat} {w : World} {e : TypeId} {s : Nat} {v : Value} {n : Nat} {xs : List Value} (h : w.ownsRow B e s v n xs) : ∃ a cap, v = .slice a n cap := by
  rcases h.2 with ⟨h0, h1⟩ | ⟨g, cap, _, hv, _⟩
  · exact ⟨none, 0, by rw [h0, h1]⟩
  · exact ⟨_, cap, hv⟩

set_option maxRecDepth 100000 in
set_option maxHeartbeats 4000000 in
theorem boundedList_any (w : World) (ia : Option Addr) (n ic : Nat) (hn : n ≤ 1000000) :
    Calls Tryz.prog 77 #[.slice ia n ic] w fun e w' => Fr (fun _ => False) w w' ∧ ((256 < n ∧ e = .returned (.tuple #[vZ.v, .int .i64 20])) ∨ (n ≤ 256 ∧ e = .returned (.tuple #[(⟨5, 0, 0, [], none, 0, 0, ia, n, ic⟩ : Vv).v, .int .i64 0]))) := by
  have HF0 := hid (vFr w vZ)
  have HB0 := hid (vBlk w vZ)
  by_cases h : 256 < n
  · have h' : decide ((256 : Int) < (n : Int)) = true := decide_eq_true (by omega)
    have HH := hid h
    clear h
    go_enter Tryz.func77, Tryz.ntmps77
    go_wp2_with (refine wpList_storeV vZ (by rfl) _ _ (by rfl) HB0.out (by rfl) (by rfl) ?_; intro w5 b5 f5)
    have HF5 : Hid (Fr (fun _ => False) w w5) := HF0.out.trans f5 (fun j hj => .inr (by omega))
    have HB5 := hid b5
    clear b5 f5
    go_wp2_with fail
    exact bodyPost_ret (resVE rfl rfl HB5.out) rfl ⟨HF5.out, .inl ⟨HH.out, rfl⟩⟩
  · have h' : decide ((256 : Int) < (n : Int)) = false := decide_eq_false (by omega)
    have HH : Hid (n ≤ 256) := by unfold Hid; omega
    clear h
    go_enter Tryz.func77, Tryz.ntmps77
    go_wp2_with fail
    refine (listOf_any _ ia n ic).mono ?_
    rintro e w1 ⟨rfl, f1⟩
    have HF1 := hid (HF0.out.trans f1 (fun _ h => h.elim))
    have HB1 := hid (f1.blk HB0.out (fun h => h))
    clear f1
    go_wp2_with (refine wpList_storeV ⟨5, 0, 0, [], none, 0, 0, ia, n, ic⟩ (by rfl) _ _ (by rfl) HB1.out (by rfl) (by rfl) ?_; intro w5 b5 f5)
    have HF5 : Hid (Fr (fun _ => False) w w5) := HF1.out.trans f5 (fun j hj => .inr (by omega))
    have HB5 := hid b5
    clear b5 f5
    go_wp2_with fail
    exact bodyPost_ret (resVE rfl rfl HB5.out) rfl ⟨HF5.out, .inr ⟨HH.out, rfl⟩⟩

theorem allU_len (l : List Vt) (h256 : ∀ u ∈ l, u.its.length ≤ 256) : (allU l).length ≤ l.length * 256 := by
  induction l with
  | nil => simp [allU]
  | cons a r ih =>
    have h1 := h256 a (by simp)
    have h2 := ih (fun u hu => h256 u (by simp [hu]))
    unfold allU at *
    rw [List.flatMap_cons, List.length_append, List.length_cons]
    omega

set_option maxRecDepth 100000 in
set_option maxHeartbeats 4000000 in
theorem mergeLists_any (w0 w : World) (e0 : Env w0 w) (l : List Vt) (ad : Option Addr) (cap : Nat) (hI : IIn w0 l ad) (hlim : l.length ≤ 1000) (h256 : ∀ u ∈ l, u.its.length ≤ 256) :
    Calls Tryz.prog 55 #[.slice ad l.length cap] w fun e w' => LPost w0 w (allU l) e w' := by
  have HC := hid (allItems_any w0 (vBox w vZ) (e0.trans (Env.alloc w _)) l ad cap hI hlim h256)
  have HF0 := hid (vFr w vZ)
  have HB0 := hid (vBlk w vZ)
  have HL := hid (allU_len l h256)
  clear hI h256 e0
  go_enter Tryz.func55, Tryz.ntmps55
  go_wp2_with fail
  refine HC.out.mono ?_
  rintro e w1 ⟨⟨X, v, rfl, hO, hR⟩, f1⟩
  obtain ⟨ia, ic, rfl⟩ := own_len hO
  have hXl : X.length ≤ 1000000 := by have := HL.out; rw [hR.1]; omega
  have HR := hid hR
  have HO := hid hO
  have HF1 := hid (HF0.out.trans f1 (fun _ h => h.elim))
  have HB1 := hid (f1.blk HB0.out (fun h => h))
  have HC2 := hid (boundedList_any w1 ia X.length ic hXl)
  clear f1 hO hR HC
  go_wp2_with fail
  refine HC2.out.mono ?_
  rintro e w2 ⟨f2, ⟨h256, rfl⟩ | ⟨h256, rfl⟩⟩
  · have HF2 := hid (HF1.out.trans f2 (fun _ h => h.elim))
    have HB2 := hid (f2.blk HB1.out (fun h => h))
    have HH : Hid (256 < (allU l).length) := by unfold Hid; rw [← HR.out.1]; exact h256
    clear f2 h256
    go_wp2_with (refine wpList_storeV vZ (by rfl) _ _ (by rfl) HB2.out (by rfl) (by rfl) ?_; intro w5 b5 f5)
    have HF5 : Hid (Fr (fun _ => False) w w5) := HF2.out.trans f5 (fun j hj => .inr (by omega))
    have HB5 := hid b5
    clear b5 f5
    go_wp2_with fail
    exact bodyPost_ret (resVE rfl rfl HB5.out) rfl ⟨HF5.out, .inl ⟨HH.out, rfl⟩⟩
  · have HF2 := hid (HF1.out.trans f2 (fun _ h => h.elim))
    have HB2 := hid (f2.blk HB1.out (fun h => h))
    have HH : Hid ((allU l).length ≤ 256) := by unfold Hid; rw [← HR.out.1]; exact h256
    have HO2 := hid (own_fr HO.out f2 (fun _ _ h => h))
    clear f2 h256
    go_wp2_with (refine wpList_storeV ⟨5, 0, 0, [], none, 0, 0, ia, X.length, ic⟩ (by rfl) _ _ (by rfl) HB2.out (by rfl) (by rfl) ?_; intro w5 b5 f5)
    have HF5 : Hid (Fr (fun _ => False) w w5) := HF2.out.trans f5 (fun j hj => .inr (by omega))
    have HO5 : Hid (w5.ownsRow w.heap.size 26 6 (.slice ia X.length ic) X.length (flatV X)) := own_down (own_keep HO2.out (by simp) f5) (by simp)
    have HB5 := hid b5
    clear b5 f5
    go_wp2_with fail
    exact bodyPost_ret (resVE rfl rfl HB5.out) rfl ⟨HF5.out, .inr ⟨HH.out, X, ia, ic, rfl, HO5.out, HR.out⟩⟩

set_option maxRecDepth 100000 in
set_option maxHeartbeats 4000000 in
theorem merge_list (w0 w : World) (b : Nat) (ad : Option Addr) (n cap : Nat) (U : List Vt) (hk : w.cell? ⟨b, 0, none⟩ = some (.string ⟨(sList : List UInt8).toArray⟩)) (hC : Calls Tryz.prog 55 #[.slice ad n cap] (vBox w vZ) fun e w' => LPost w0 (vBox w vZ) U e w') :
    Calls Tryz.prog 34 #[pv b, .slice ad n cap] w fun e w' => LPost w0 w U e w' := by
  have HC := hid hC
  have HF0 := hid (vFr w vZ)
  have HB0 := hid (vBlk w vZ)
  have c0 : (w.alloc (.cells #[.int .i64 0, .int .i64 0, .float .f64 0, .string ⟨#[]⟩, .slice none 0 0, .slice none 0 0] 26)).cell? ⟨b, 0, none⟩ = some (.string ⟨(sList : List UInt8).toArray⟩) := (Env.alloc w _).cell hk
  clear hC hk
  go_enter Tryz.func34, Tryz.ntmps34
  go_wp2_with fail
  refine HC.out.mono ?_
  rintro e w1 ⟨f1, ⟨h256, rfl⟩ | ⟨h256, X, ia, ic, rfl, hO, hR⟩⟩
  · have HF1 := hid (HF0.out.trans f1 (fun _ h => h.elim))
    have HB1 := hid (f1.blk HB0.out (fun h => h))
    have HH := hid h256
    clear f1 h256
    go_wp2_with (refine wpList_storeV vZ (by rfl) _ _ (by rfl) HB1.out (by rfl) (by rfl) ?_; intro w5 b5 f5)
    have HF5 : Hid (Fr (fun _ => False) w w5) := HF1.out.trans f5 (fun j hj => .inr (by omega))
    have HB5 := hid b5
    clear b5 f5
    go_wp2_with fail
    exact bodyPost_ret (resVE rfl rfl HB5.out) rfl ⟨HF5.out, .inl ⟨HH.out, rfl⟩⟩
  · have HF1 := hid (HF0.out.trans f1 (fun _ h => h.elim))
    have HB1 := hid (f1.blk HB0.out (fun h => h))
    have HH := hid h256
    have HO := hid hO
    have HR := hid hR
    clear f1 h256 hO hR
    go_wp2_with (refine wpList_storeV ⟨5, 0, 0, [], none, 0, 0, ia, X.length, ic⟩ (by rfl) _ _ (by rfl) HB1.out (by rfl) (by rfl) ?_; intro w5 b5 f5)
    have HF5 : Hid (Fr (fun _ => False) w w5) := HF1.out.trans f5 (fun j hj => .inr (by omega))
    have HO5 : Hid (w5.ownsRow w.heap.size 26 6 (.slice ia X.length ic) X.length (flatV X)) := own_down (own_keep HO.out (by simp) f5) (by simp)
    have HB5 := hid b5
    clear b5 f5
    go_wp2_with fail
    exact bodyPost_ret (resVE rfl rfl HB5.out) rfl ⟨HF5.out, .inr ⟨HH.out, X, ia, ic, rfl, HO5.out, HR.out⟩⟩
end Go.Proofs.YtniailfcmlongaaGreatDoor.Tr
