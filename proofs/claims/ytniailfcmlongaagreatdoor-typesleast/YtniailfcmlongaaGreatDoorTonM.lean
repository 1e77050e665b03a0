import Derived.Test.YtniailfcmlongaaGreatDoorTmgM
import Derived.Maps.Own
import Derived.Maps.OwnOps
import Derived.Maps.Views
/- The contracts of allItems, listOf, boundedList, mergeLists. -/
namespace Go.Proofs.YtniailfcmlongaaGreatDoor.Tr
open Go.RowKit

/-- The items of all lists. -/
def allU (l : List Vt) : List Vt := l.flatMap (·.its)
/-- The rows X are the values U. -/
def RowIs (w : World) (U : List Vt) (X : List Vv) : Prop := X.length = U.length ∧ ∀ i (h : i < U.length) (h' : i < X.length), VIn w U[i] X[i]
theorem RowIs.env {w W : World} {U : List Vt} {X : List Vv} (h : RowIs w U X) (e : Env w W) : RowIs W U X := ⟨h.1, fun i h1 h2 => VIn.env e _ _ (h.2 i h1 h2)⟩
theorem RowIs.app {w : World} {U V : List Vt} {X Y : List Vv} (h : RowIs w U X) (g : RowIs w V Y) : RowIs w (U ++ V) (X ++ Y) := by
  refine ⟨by simp [h.1, g.1], fun i h1 h2 => ?_⟩
  by_cases hi : i < U.length
  · rw [List.getElem_append_left hi, List.getElem_append_left (by rw [h.1]; exact hi)]
    exact h.2 i hi (by rw [h.1]; exact hi)
  · rw [List.getElem_append_right (by omega), List.getElem_append_right (by rw [h.1]; omega)]
    have e : i - X.length = i - U.length := by rw [h.1]
    simp only [e]
    exact g.2 _ (by simp at h1; omega) (by simp at h2; have := h.1; omega)
theorem rows_of {w : World} {v : Vt} {x : Vv} (h : VIn w v x) : ∃ Y : List Vv, RowIs w v.its Y ∧ (Y ≠ [] → ∃ bb bo, x.ia = some ⟨bb, bo, none⟩ ∧ ∀ q u, (flatV Y)[q]? = some u → w.cell? ⟨bb, bo + q, none⟩ = some u) := by
  have hp := h.parts.2.2.2.2
  by_cases h0 : v.its = []
  · exact ⟨[], ⟨by rw [h0]; rfl, fun i h1 => by rw [h0] at h1; simp at h1⟩, fun e => absurd rfl e⟩
  · obtain ⟨b, o, e⟩ := hp.some h0
    rw [e] at hp
    obtain ⟨Y, hl, hY⟩ := hp.rows
    exact ⟨Y, ⟨hl, fun i h1 h2 => (hY i h1 h2).2⟩, fun _ => ⟨b, o, e, rows_cells hl hY⟩⟩

/-- 'append(items, v.Items...)'. -/
theorem wpList_app_Vs {ops : Array Oper} {rest : List Oper} {o : Oper} {a : Act} {W : World} {Q : Exit → Act → World → Prop} (hgd : o.guard = none) (d s : Operand) (ho : o.op = .call { callee := .builtin .append, args := #[d, s], argTypes := #[24, 24] })
    (base : Nat) (v : Value) (X Y : List Vv) (ad : Option Addr) (cap : Nat) (hd : a.eval d = v) (hs : a.eval s = .slice ad Y.length cap) (hown : W.ownsRow base 26 6 v X.length (flatV X)) (hsrc : Y ≠ [] → ∃ bb bo, ad = some ⟨bb, bo, none⟩ ∧ ∀ q u, (flatV Y)[q]? = some u → W.cell? ⟨bb, bo + q, none⟩ = some u) (hb : base ≤ W.heap.size) (hl : X.length + Y.length ≤ 1000000)
    (h : ∀ v' W', W'.ownsRow base 26 6 v' (X ++ Y).length (flatV (X ++ Y)) → W.grownBy W' v.ownBlock → wpList Tryz.prog ops Q rest (a.put o.dst v') W') : wpList Tryz.prog ops Q (o :: rest) a W := by
  obtain ⟨i0, hi0, hz0, hz1, hz2⟩ := info_parts infoV
  by_cases hy : Y = []
  · subst hy
    have hl : ∀ (x : Addr), (loadCells x 0).run Tryz.prog W = .ok #[] W := fun x => by simpa using run_loadCells_list (P := Tryz.prog) W x [] (by simp)
    have hrun : (Builtin.append_ #[24, 24] o.type #[v, .slice ad 0 cap]).run Tryz.prog W = .ok v W := by
      rcases hown.2 with ⟨rfl, h00⟩ | ⟨g, cap', cur, rfl, _, _, hnc, _⟩
      · cases ad <;> simp [Builtin.append_, run_underlying Tryz.underlying24, sizeOf, typeInfo, hi0, Builtin.lenOf, Builtin.firstCells, hl]
      · cases ad <;> simp [Builtin.append_, run_underlying Tryz.underlying24, sizeOf, typeInfo, hi0, Builtin.lenOf, Builtin.firstCells, hnc, storeCells, hl]
    refine wpList_plain hgd fun K hK => ?_
    unfold Oper.wp
    simp only [List.length_nil] at hs
    simp [execOp, ho, resolve, invoke, builtin, hd, hs, hrun, Result.andThen]
    exact hK _ _ (h v W (by simpa using hown) ⟨rfl, rfl, rfl, Nat.le_refl _, fun _ _ _ => rfl⟩)
  · obtain ⟨bb, bo, rfl, hr⟩ := hsrc hy
    have hpos : 0 < Y.length := List.length_pos_iff.2 hy
    refine wpList_append_lies W hgd d s 24 ho base 26 i0 _ 6 88 Tryz.underlying24 hi0 hz0 hz1 hz2 rfl (by omega) v X.length (flatV X) hd hown ⟨bb, bo, none⟩ Y.length cap (flatV Y) hs (by rw [flatV_len]) (fun j u hu => by rw [Addr.add_mid]; exact hr j u hu) (fun u hu => by
      obtain ⟨q, hq, e⟩ := List.getElem_of_mem hu
      obtain ⟨i, j, hi, hj, _, e2⟩ := flatV_inv Y q u (by rw [List.getElem?_eq_getElem hq, e])
      match j, hj, e2 with
      | 0, _, e2 => cases e2; rfl
      | 1, _, e2 => cases e2; rfl
      | 2, _, e2 => cases e2; rfl
      | 3, _, e2 => cases e2; rfl
      | 4, _, e2 => cases e2; rfl
      | 5, _, e2 => cases e2; rfl) hpos (by unfold maxLen; omega) (by omega) hb _ rfl ?_
    intro g cap' W' h1 h2 _ _
    refine h _ _ ?_ h2
    rw [List.length_append, flatV_app]
    exact h1

set_option maxRecDepth 100000 in
set_option maxHeartbeats 4000000 in
theorem allItems_any (w0 w : World) (e0 : Env w0 w) (l : List Vt) (ad : Option Addr) (cap : Nat) (hI : IIn w0 l ad) (hlim : l.length ≤ 1000) (h256 : ∀ u ∈ l, u.its.length ≤ 256) :
    Calls Tryz.prog 78 #[.slice ad l.length cap] w fun e w' => (∃ (X : List Vv) (v : Value), e = .returned v ∧ w'.ownsRow w.heap.size 26 6 v X.length (flatV X) ∧ RowIs w0 (allU l) X) ∧ Fr (fun _ => False) w w' := by
  have hst := fun (W : World) (a : Addr) (m : Mode) (f : Nat) => run_store Tryz.prog W a (.float .f64 f) m rfl
  have HI := hid hI
  have H256 := hid h256
  have HE0 := hid e0
  clear hI h256 e0
  go_enter Tryz.func78, Tryz.ntmps78
  go_wp2_with fail
  go_loopw [3, 5, 8] (fun sv _ iv wr => ∃ (i : Nat) (X : List Vv), i ≤ l.length ∧ iv = .int .i64 (i : Int) ∧ wr.ownsRow w.heap.size 26 6 sv X.length (flatV X) ∧ RowIs w0 (allU (l.take i)) X ∧ X.length ≤ i * 256 ∧ Fr (fun _ => False) w wr) (fun _ _ iv _ => l.length - (intOf iv).toNat)
  case atStart => exact ⟨0, [], by omega, rfl, World.ownsRow_nil _ _ _ _, ⟨by simp [allU], fun i h => by simp [allU] at h⟩, by simp, Fr.refl _ _⟩
  case round =>
    obtain ⟨i, X, hi, rfl, hO, hR, hXl, hF⟩ := hrel
    have HO := hid hO
    have HR := hid hR
    have HF := hid hF
    clear hO hR hF
    by_cases hlt : i < l.length
    · have hlt' : (i : Int) < ((l.length : Nat) : Int) := by omega
      obtain ⟨bb, bo, rfl⟩ := HI.out.some (by intro e; rw [e] at hlt; simp at hlt)
      obtain ⟨y, y1, y2⟩ := HI.out.get i hlt
      obtain ⟨k0, k1, k2, k3, k4, k5⟩ := (y1.env (HE0.out.trans (Env.of HF.out))).six
      obtain ⟨Y, hY, hsrc⟩ := rows_of y2
      have hyl : Y.length ≤ 256 := by rw [hY.1]; exact H256.out _ (List.getElem_mem hlt)
      have hil : y.il = Y.length := by rw [hY.1]; exact y2.parts.2.2.2.1.1
      have HFb := hid (HF.out.trans (vFr wr y) (fun _ h => h.elim))
      have HOb : Hid ((vBox wr y).ownsRow w.heap.size 26 6 _ X.length (flatV X)) := own_alloc HO.out _
      have HSb : Hid (Y ≠ [] → ∃ bb bo, y.ia = some ⟨bb, bo, none⟩ ∧ ∀ q u, (flatV Y)[q]? = some u → (vBox wr y).cell? ⟨bb, bo + q, none⟩ = some u) := fun hne => by
        obtain ⟨b, o, e, hc⟩ := hsrc hne
        exact ⟨b, o, e, fun q u hu => (HE0.out.trans (Env.of HFb.out)).cell (hc q u hu)⟩
      have HR2 : Hid (RowIs w0 (allU (l.take (i + 1))) (X ++ Y)) := by
        unfold Hid
        have e : allU (l.take (i + 1)) = allU (l.take i) ++ l[i].its := by
          rw [List.take_succ_eq_append_getElem hlt]
          unfold allU
          rw [List.flatMap_append]
          simp
        rw [e]
        exact HR.out.app hY
      have hsz : w.heap.size ≤ (vBox wr y).heap.size := HFb.out.size
      have hXY : (X ++ Y).length ≤ (i + 1) * 256 := by simp; omega
      have hXm : X.length + Y.length ≤ 1000000 := by omega
      clear y1 y2 hsrc HR
      obtain ⟨k, n, f, t, na, nl, nc, ia, il, ic⟩ := y
      simp only at hil
      subst hil
      simp only [vBox] at *
      go_wp2_with (at_builtin; refine Hid.out ?_)
      refine wpList_app_Vs (by rfl) _ _ (by rfl) w.heap.size _ X Y ia ic (by rfl) (by rfl) HOb.out HSb.out hsz hXm ?_
      intro v' W' ho hg
      have HO2 := hid ho
      have HF3 : Hid (Fr (fun _ => False) w W') := HFb.out.grown hg (fun k hk => .inr (own_lt HO.out k hk).1)
      clear ho hg
      go_wp2_with fail
      exact ⟨⟨i + 1, X ++ Y, by omega, by first | rfl | (congr 1), HO2.out, HR2.out, hXY, HF3.out⟩, by simp [intOf]; omega⟩
    · have hlt' : ¬ (i : Int) < ((l.length : Nat) : Int) := by omega
      have HR2 : Hid (RowIs w0 (allU l) X) := by
        have h := HR.out
        rw [List.take_of_length_le (by omega)] at h
        exact h
      go_wp2_with fail
      go_ret
      exact ⟨⟨X, _, rfl, HO.out, HR2.out⟩, HF.out⟩

set_option maxRecDepth 100000 in
set_option maxHeartbeats 1000000 in
theorem listOf_any (w : World) (ia : Option Addr) (il ic : Nat) : Calls Tryz.prog 96 #[.slice ia il ic] w fun e w' => e = .returned (⟨5, 0, 0, [], none, 0, 0, ia, il, ic⟩ : Vv).v ∧ Fr (fun _ => False) w w' := by
  have HF := hid (vFr w ⟨5, 0, 0, [], none, 0, 0, ia, il, ic⟩)
  have hst := fun (W : World) (a : Addr) (m : Mode) (f : Nat) => run_store Tryz.prog W a (.float .f64 f) m rfl
  go_enter Tryz.func96, Tryz.ntmps96
  go_wp2
  exact bodyPost_ret (resV rfl rfl (vBlk w ⟨5, 0, 0, [], none, 0, 0, ia, il, ic⟩)) rfl ⟨rfl, HF.out⟩

/-- What comes of a list that is made: too long, or its rows lie in new memory. -/
def LPost (w0 w : World) (U : List Vt) (e : Ending) (w' : World) : Prop :=
  Fr (fun _ => False) w w' ∧ ((256 < U.length ∧ e = .returned (.tuple #[vZ.v, .int .i64 20])) ∨ (U.length ≤ 256 ∧ ∃ (X : List Vv) (ia : Option Addr) (ic : Nat), e = .returned (.tuple #[(⟨5, 0, 0, [], none, 0, 0, ia, X.length, ic⟩ : Vv).v, .int .i64 0]) ∧ w'.ownsRow w.heap.size 26 6 (.slice ia X.length ic) X.length (flatV X) ∧ RowIs w0 U X))
theorem own_keep {w w' : World} {b B : Nat} {e : TypeId} {z : Nat} {v : Value} {n : Nat} {xs : List Value} (h : w.ownsRow B e z v n xs) (hb : b < B) (f : Fr (· = b) w w') : w'.ownsRow B e z v n xs :=
  own_fr h f fun k hk e => by have := (own_lt h k hk).1; omega
theorem own_down {w : World} {B B' : Nat} {e : TypeId} {z : Nat} {v : Value} {n : Nat} {xs : List Value} (h : w.ownsRow B e z v n xs) (hb : B' ≤ B) : w.ownsRow B' e z v n xs := by
  refine ⟨h.1, ?_⟩
  rcases h.2 with h0 | ⟨g, cap, cur, h0, hB, hr⟩
  · exact .inl h0
  · exact .inr ⟨g, cap, cur, h0, by omega, hr⟩

theorem own_len {B : Nat} {w : World} {e : TypeId} {s : Nat} {v : Value} {n : Nat} {xs : List Value} (h : w.ownsRow B e s v n xs) : ∃ a cap, v = .slice a n cap := by
  rcases h.2 with ⟨h0, h1⟩ | ⟨g, cap, _, hv, _⟩
  · exact ⟨none, 0, by rw [h0, h1]⟩
  · exact ⟨_, cap, hv⟩

set_option maxRecDepth 100000 in
set_option maxHeartbeats 4000000 in
theorem boundedList_any (w : World) (ia : Option Addr) (n ic : Nat) (hn : n ≤ 1000000) :
    Calls Tryz.prog 77 #[.slice ia n ic] w fun e w' => Fr (fun _ => False) w w' ∧ ((256 < n ∧ e = .returned (.tuple #[vZ.v, .int .i64 20])) ∨ (n ≤ 256 ∧ e = .returned (.tuple #[(⟨5, 0, 0, [], none, 0, 0, ia, n, ic⟩ : Vv).v, .int .i64 0]))) := by
  have HF0 := hid (vFr w vZ)
  have HB0 := hid (vBlk w vZ)
  by_cases h : 256 < n
  · have h' : decide ((256 : Int) < (n : Int)) = true := decide_eq_true (by omega)
    have HH := hid h
    clear h
    go_enter Tryz.func77, Tryz.ntmps77
    go_wp2_with (refine wpList_storeV vZ (by rfl) _ _ (by rfl) HB0.out (by rfl) (by rfl) ?_; intro w5 b5 f5)
    have HF5 : Hid (Fr (fun _ => False) w w5) := HF0.out.trans f5 (fun j hj => .inr (by omega))
    have HB5 := hid b5
    clear b5 f5
    go_wp2_with fail
    exact bodyPost_ret (resVE rfl rfl HB5.out) rfl ⟨HF5.out, .inl ⟨HH.out, rfl⟩⟩
  · have h' : decide ((256 : Int) < (n : Int)) = false := decide_eq_false (by omega)
    have HH : Hid (n ≤ 256) := by unfold Hid; omega
    clear h
    go_enter Tryz.func77, Tryz.ntmps77
    go_wp2_with fail
    refine (listOf_any _ ia n ic).mono ?_
    rintro e w1 ⟨rfl, f1⟩
    have HF1 := hid (HF0.out.trans f1 (fun _ h => h.elim))
    have HB1 := hid (f1.blk HB0.out (fun h => h))
    clear f1
    go_wp2_with (refine wpList_storeV ⟨5, 0, 0, [], none, 0, 0, ia, n, ic⟩ (by rfl) _ _ (by rfl) HB1.out (by rfl) (by rfl) ?_; intro w5 b5 f5)
    have HF5 : Hid (Fr (fun _ => False) w w5) := HF1.out.trans f5 (fun j hj => .inr (by omega))
    have HB5 := hid b5
    clear b5 f5
    go_wp2_with fail
    exact bodyPost_ret (resVE rfl rfl HB5.out) rfl ⟨HF5.out, .inr ⟨HH.out, rfl⟩⟩

theorem allU_len (l : List Vt) (h256 : ∀ u ∈ l, u.its.length ≤ 256) : (allU l).length ≤ l.length * 256 := by
  induction l with
  | nil => simp [allU]
  | cons a r ih =>
    have h1 := h256 a (by simp)
    have h2 := ih (fun u hu => h256 u (by simp [hu]))
    unfold allU at *
    rw [List.flatMap_cons, List.length_append, List.length_cons]
    omega

set_option maxRecDepth 100000 in
set_option maxHeartbeats 4000000 in
theorem mergeLists_any (w0 w : World) (e0 : Env w0 w) (l : List Vt) (ad : Option Addr) (cap : Nat) (hI : IIn w0 l ad) (hlim : l.length ≤ 1000) (h256 : ∀ u ∈ l, u.its.length ≤ 256) :
    Calls Tryz.prog 55 #[.slice ad l.length cap] w fun e w' => LPost w0 w (allU l) e w' := by
  have HC := hid (allItems_any w0 (vBox w vZ) (e0.trans (Env.alloc w _)) l ad cap hI hlim h256)
  have HF0 := hid (vFr w vZ)
  have HB0 := hid (vBlk w vZ)
  have HL := hid (allU_len l h256)
  clear hI h256 e0
  go_enter Tryz.func55, Tryz.ntmps55
  go_wp2_with fail
  refine HC.out.mono ?_
  rintro e w1 ⟨⟨X, v, rfl, hO, hR⟩, f1⟩
  obtain ⟨ia, ic, rfl⟩ := own_len hO
  have hXl : X.length ≤ 1000000 := by have := HL.out; rw [hR.1]; omega
  have HR := hid hR
  have HO := hid hO
  have HF1 := hid (HF0.out.trans f1 (fun _ h => h.elim))
  have HB1 := hid (f1.blk HB0.out (fun h => h))
  have HC2 := hid (boundedList_any w1 ia X.length ic hXl)
  clear f1 hO hR HC
  go_wp2_with fail
  refine HC2.out.mono ?_
  rintro e w2 ⟨f2, ⟨h256, rfl⟩ | ⟨h256, rfl⟩⟩
  · have HF2 := hid (HF1.out.trans f2 (fun _ h => h.elim))
    have HB2 := hid (f2.blk HB1.out (fun h => h))
    have HH : Hid (256 < (allU l).length) := by unfold Hid; rw [← HR.out.1]; exact h256
    clear f2 h256
    go_wp2_with (refine wpList_storeV vZ (by rfl) _ _ (by rfl) HB2.out (by rfl) (by rfl) ?_; intro w5 b5 f5)
    have HF5 : Hid (Fr (fun _ => False) w w5) := HF2.out.trans f5 (fun j hj => .inr (by omega))
    have HB5 := hid b5
    clear b5 f5
    go_wp2_with fail
    exact bodyPost_ret (resVE rfl rfl HB5.out) rfl ⟨HF5.out, .inl ⟨HH.out, rfl⟩⟩
  · have HF2 := hid (HF1.out.trans f2 (fun _ h => h.elim))
    have HB2 := hid (f2.blk HB1.out (fun h => h))
    have HH : Hid ((allU l).length ≤ 256) := by unfold Hid; rw [← HR.out.1]; exact h256
    have HO2 := hid (own_fr HO.out f2 (fun _ _ h => h))
    clear f2 h256
    go_wp2_with (refine wpList_storeV ⟨5, 0, 0, [], none, 0, 0, ia, X.length, ic⟩ (by rfl) _ _ (by rfl) HB2.out (by rfl) (by rfl) ?_; intro w5 b5 f5)
    have HF5 : Hid (Fr (fun _ => False) w w5) := HF2.out.trans f5 (fun j hj => .inr (by omega))
    have HO5 : Hid (w5.ownsRow w.heap.size 26 6 (.slice ia X.length ic) X.length (flatV X)) := own_down (own_keep HO2.out (by simp) f5) (by simp)
    have HB5 := hid b5
    clear b5 f5
    go_wp2_with fail
    exact bodyPost_ret (resVE rfl rfl HB5.out) rfl ⟨HF5.out, .inr ⟨HH.out, X, ia, ic, rfl, HO5.out, HR.out⟩⟩

set_option maxRecDepth 100000 in
set_option maxHeartbeats 4000000 in
theorem merge_list (w0 w : World) (b : Nat) (ad : Option Addr) (n cap : Nat) (U : List Vt) (hk : w.cell? ⟨b, 0, none⟩ = some (.string ⟨(sList : List UInt8).toArray⟩)) (hC : Calls Tryz.prog 55 #[.slice ad n cap] (vBox w vZ) fun e w' => LPost w0 (vBox w vZ) U e w') :
    Calls Tryz.prog 34 #[pv b, .slice ad n cap] w fun e w' => LPost w0 w U e w' := by
  have HC := hid hC
  have HF0 := hid (vFr w vZ)
  have HB0 := hid (vBlk w vZ)
  have c0 : (w.alloc (.cells #[.int .i64 0, .int .i64 0, .float .f64 0, .string ⟨#[]⟩, .slice none 0 0, .slice none 0 0] 26)).cell? ⟨b, 0, none⟩ = some (.string ⟨(sList : List UInt8).toArray⟩) := (Env.alloc w _).cell hk
  clear hC hk
  go_enter Tryz.func34, Tryz.ntmps34
  go_wp2_with fail
  refine HC.out.mono ?_
  rintro e w1 ⟨f1, ⟨h256, rfl⟩ | ⟨h256, X, ia, ic, rfl, hO, hR⟩⟩
  · have HF1 := hid (HF0.out.trans f1 (fun _ h => h.elim))
    have HB1 := hid (f1.blk HB0.out (fun h => h))
    have HH := hid h256
    clear f1 h256
    go_wp2_with (refine wpList_storeV vZ (by rfl) _ _ (by rfl) HB1.out (by rfl) (by rfl) ?_; intro w5 b5 f5)
    have HF5 : Hid (Fr (fun _ => False) w w5) := HF1.out.trans f5 (fun j hj => .inr (by omega))
    have HB5 := hid b5
    clear b5 f5
    go_wp2_with fail
    exact bodyPost_ret (resVE rfl rfl HB5.out) rfl ⟨HF5.out, .inl ⟨HH.out, rfl⟩⟩
  · have HF1 := hid (HF0.out.trans f1 (fun _ h => h.elim))
    have HB1 := hid (f1.blk HB0.out (fun h => h))
    have HH := hid h256
    have HO := hid hO
    have HR := hid hR
    clear f1 h256 hO hR
    go_wp2_with (refine wpList_storeV ⟨5, 0, 0, [], none, 0, 0, ia, X.length, ic⟩ (by rfl) _ _ (by rfl) HB1.out (by rfl) (by rfl) ?_; intro w5 b5 f5)
    have HF5 : Hid (Fr (fun _ => False) w w5) := HF1.out.trans f5 (fun j hj => .inr (by omega))
    have HO5 : Hid (w5.ownsRow w.heap.size 26 6 (.slice ia X.length ic) X.length (flatV X)) := own_down (own_keep HO.out (by simp) f5) (by simp)
    have HB5 := hid b5
    clear b5 f5
    go_wp2_with fail
    exact bodyPost_ret (resVE rfl rfl HB5.out) rfl ⟨HF5.out, .inr ⟨HH.out, X, ia, ic, rfl, HO5.out, HR.out⟩⟩
end Go.Proofs.YtniailfcmlongaaGreatDoor.Tr
/- The contract of under. -/
namespace Go.Proofs.YtniailfcmlongaaGreatDoor.Tr
open Go.RowKit

/-- What stands under a name. -/
def getN (x : List UInt8) : List (List UInt8) → List Vt → Option Vt
  | n :: ns, v :: its => if n = x then some v else getN x ns its
  | _, _ => none
/-- What stands under a name in those sets that have it. -/
def undV (x : List UInt8) (l : List Vt) : List Vt := l.filterMap fun v => getN x v.ns v.its
theorem idx_get (x : List UInt8) : ∀ (ns : List (List UInt8)) (its : List Vt) (i : Nat), ns.length = its.length →
    (∃ k, ∃ h : k < its.length, Lib.idxFromS (ns.map fun l => ByteArray.mk l.toArray) ⟨x.toArray⟩ i = ((i + k : Nat) : Int) ∧ getN x ns its = some its[k]) ∨ (Lib.idxFromS (ns.map fun l => ByteArray.mk l.toArray) ⟨x.toArray⟩ i = -1 ∧ getN x ns its = none)
  | [], [], i, _ => .inr ⟨rfl, rfl⟩
  | [], _ :: _, _, h => by simp at h
  | _ :: _, [], _, h => by simp at h
  | n :: ns, v :: its, i, h => by
    simp only [List.map_cons, Lib.idxFromS]
    have hB : (ByteArray.mk n.toArray = ByteArray.mk x.toArray) ↔ n = x := by
      constructor
      · intro e; injection e with e; injection e
      · rintro rfl; rfl
    by_cases e : n = x
    · rw [if_pos (hB.2 e)]
      exact .inl ⟨0, by simp, by simp, by simp [getN, e]⟩
    · rw [if_neg (fun h => e (hB.1 h))]
      rcases idx_get x ns its (i + 1) (by simpa using h) with ⟨k, hk, h1, h2⟩ | ⟨h1, h2⟩
      · exact .inl ⟨k + 1, by simpa using hk, by rw [h1]; congr 1; omega, by simp only [getN, if_neg e, h2, List.getElem_cons_succ]⟩
      · exact .inr ⟨h1, by simp only [getN, if_neg e, h2]⟩
theorem index_any {w : World} {v : Vt} {y : Vv} (hv : VIn w v y) (x : List UInt8) (hl : v.ns.length = v.its.length) :
    (∃ k, ∃ h : k < v.its.length, getN x v.ns v.its = some v.its[k] ∧ ∀ W, Env w W → Calls Tryz.prog 67 #[.slice y.na y.nl y.nc, .string ⟨x.toArray⟩] W fun e w' => e = .returned (.int .i64 (k : Int)) ∧ W = w') ∨
    (getN x v.ns v.its = none ∧ ∀ W, Env w W → Calls Tryz.prog 67 #[.slice y.na y.nl y.nc, .string ⟨x.toArray⟩] W fun e w' => e = .returned (.int .i64 (-1)) ∧ W = w') := by
  obtain ⟨_, _, ⟨h1, h2, h3, h4⟩, _⟩ := hv.parts
  have hC : ∀ W, Env w W → Calls Tryz.prog 67 #[.slice y.na y.nl y.nc, .string ⟨x.toArray⟩] W fun e w' => e = .returned (.int .i64 (Lib.idxFromS (v.ns.map fun l => ByteArray.mk l.toArray) ⟨x.toArray⟩ 0)) ∧ W = w' := by
    intro W e
    by_cases h0 : v.ns = []
    · rw [h1, h0]
      exact (Tryz.slices_Index_string_empty y.na y.nc ⟨x.toArray⟩ W).mono (fun _ _ h => ⟨h.1, h.2.symm⟩)
    · obtain ⟨b, o, ha, hc⟩ := h4.env e h0
      rw [ha, h1]
      refine (Tryz.slices_Index_string b o v.ns.length y.nc (v.ns.map fun l => ByteArray.mk l.toArray) ⟨x.toArray⟩ W (by simp) (by unfold lim at h3; omega) (fun j hj => ?_)).mono (fun _ _ h => ⟨?_, h.2.symm⟩)
      · have hj' : j < v.ns.length := by simpa using hj
        rw [hc j hj']
        simp [hj']
      · rw [h.1, List.take_of_length_le (by simp)]; rfl
  rcases idx_get x v.ns v.its 0 hl with ⟨k, hk, e1, e2⟩ | ⟨e1, e2⟩
  · rw [e1] at hC
    refine .inl ⟨k, hk, e2, fun W e => ?_⟩
    have := hC W e
    rw [Nat.zero_add] at this
    exact this
  · rw [e1] at hC
    exact .inr ⟨e2, hC⟩
theorem undV_snoc (x : List UInt8) (l : List Vt) (i : Nat) (h : i < l.length) : undV x (l.take (i + 1)) = undV x (l.take i) ++ (getN x l[i].ns l[i].its).toList := by
  unfold undV
  rw [List.take_succ_eq_append_getElem h, List.filterMap_append]
  congr 1

set_option maxRecDepth 100000 in
set_option maxHeartbeats 4000000 in
theorem under_any (w0 w : World) (e0 : Env w0 w) (x : List UInt8) (l : List Vt) (ad : Option Addr) (cap : Nat) (hI : IIn w0 l ad) (hlim : l.length ≤ 1000) (hns : ∀ u ∈ l, u.ns.length = u.its.length) :
    Calls Tryz.prog 81 #[.string ⟨x.toArray⟩, .slice ad l.length cap] w fun e w' => (∃ (X : List Vv) (v : Value), e = .returned v ∧ w'.ownsRow w.heap.size 26 6 v X.length (flatV X) ∧ RowIs w0 (undV x l) X) ∧ Fr (fun _ => False) w w' := by
  have hst := fun (W : World) (a : Addr) (m : Mode) (f : Nat) => run_store Tryz.prog W a (.float .f64 f) m rfl
  have HI := hid hI
  have HNs := hid hns
  have HE0 := hid e0
  clear hI hns e0
  go_enter Tryz.func81, Tryz.ntmps81
  go_wp2_with fail
  go_loopw [5, 7, 8, 11] (fun sv _ _ iv wr => ∃ (i : Nat) (X : List Vv), i ≤ l.length ∧ iv = .int .i64 (i : Int) ∧ wr.ownsRow w.heap.size 26 6 sv X.length (flatV X) ∧ RowIs w0 (undV x (l.take i)) X ∧ X.length ≤ i ∧ Fr (fun _ => False) w wr) (fun _ _ _ iv _ => l.length - (intOf iv).toNat)
  case atStart => exact ⟨0, [], by omega, rfl, World.ownsRow_nil _ _ _ _, ⟨by simp [undV], fun i h => by simp [undV] at h⟩, by simp, Fr.refl _ _⟩
  case round =>
    obtain ⟨i, X, hi, rfl, hO, hR, hXl, hF⟩ := hrel
    have HO := hid hO
    have HR := hid hR
    have HF := hid hF
    clear hO hR hF
    by_cases hlt : i < l.length
    · have hlt' : (i : Int) < ((l.length : Nat) : Int) := by omega
      obtain ⟨bb, bo, rfl⟩ := HI.out.some (by intro e; rw [e] at hlt; simp at hlt)
      obtain ⟨y, y1, y2⟩ := HI.out.get i hlt
      obtain ⟨k0, k1, k2, k3, k4, k5⟩ := (y1.env (HE0.out.trans (Env.of HF.out))).six
      have hnsi := HNs.out l[i] (List.getElem_mem hlt)
      have HFb := hid (HF.out.trans (vFr wr y) (fun _ h => h.elim))
      have HOb : Hid ((vBox wr y).ownsRow w.heap.size 26 6 _ X.length (flatV X)) := own_alloc HO.out _
      have HEb := hid (HE0.out.trans (Env.of HFb.out))
      rcases index_any y2 x hnsi with ⟨j, hj, hg, hC⟩ | ⟨hg, hC⟩
      · have HC := hid (hC (vBox wr y) HEb.out)
        obtain ⟨b2, o2, z, z0, z1, z2⟩ := y2.item j hj
        obtain ⟨j0, j1, j2, j3, j4, j5⟩ := (z1.env HEb.out).six
        have hil : y.il = l[i].its.length := y2.parts.2.2.2.1.1
        have HFc := hid (HFb.out.trans (vFr (vBox wr y) z) (fun _ h => h.elim))
        have HOc : Hid ((vBox (vBox wr y) z).ownsRow w.heap.size 26 6 _ X.length (flatV X)) := own_alloc HOb.out _
        have HGc : Hid (Blk (vBox (vBox wr y) z) (wr.heap.size + 1) 26 z.cs) := by
          have := vBlk (vBox wr y) z
          rw [World.size_alloc] at this
          exact this
        have HR2 : Hid (RowIs w0 (undV x (l.take (i + 1))) (X ++ [z])) := by
          unfold Hid
          rw [undV_snoc x l i hlt, hg]
          exact HR.out.app ⟨rfl, fun q h1 h2 => by
            obtain rfl : q = 0 := by simpa using h1
            exact z2⟩
        have hsz : w.heap.size ≤ (vBox (vBox wr y) z).heap.size := HFc.out.size
        have hX1 : (X ++ [z]).length ≤ i + 1 := by simp; omega
        have hX2 : X.length ≤ 1000 := by omega
        have hjl : (j : Int) < ((l[i].its.length : Nat) : Int) := by omega
        have hj0 : (0 : Int) ≤ (j : Int) := by omega
        have hj1 : decide ((j : Int) ≥ 0) = true := decide_eq_true (by omega)
        clear y1 y2 z1 z2 hC hg HR HFb HOb hnsi
        generalize l[i].its.length = il0 at *
        obtain ⟨k, n, f, t, na, nl, nc, ia, il, ic⟩ := y
        obtain ⟨zk, zn, zf, zt, zna, znl, znc, zia, zil, zic⟩ := z
        simp only at hil z0
        subst hil z0
        simp only [vBox] at *
        go_wp2_with fail
        refine HC.out.mono ?_
        rintro e w' ⟨rfl, rfl⟩
        clear HC
        go_wp2_with (at_builtin; refine Hid.out ?_)
        refine wpList_app_V (by rfl) _ _ (by rfl) w.heap.size _ X ⟨zk, zn, zf, zt, zna, znl, znc, zia, zil, zic⟩ _ _ (by rfl) (by rfl) HOc.out HGc.out (by first | exact hsz | simp) hX2 ?_
        intro g' ic' W' ho hg
        have HO2 := hid ho
        have HF3 : Hid (Fr (fun _ => False) w W') := HFc.out.grown hg (fun k hk => .inr (own_lt HO.out k hk).1)
        clear ho hg
        go_wp2_with fail
        exact ⟨⟨i + 1, _, by omega, by first | rfl | (congr 1), HO2.out, HR2.out, hX1, HF3.out⟩, by simp [intOf]; omega⟩
      · have HC := hid (hC (vBox wr y) HEb.out)
        have HR2 : Hid (RowIs w0 (undV x (l.take (i + 1))) X) := by
          unfold Hid
          rw [undV_snoc x l i hlt, hg]
          simpa using HR.out
        clear y1 y2 hC hg HR hnsi
        obtain ⟨k, n, f, t, na, nl, nc, ia, il, ic⟩ := y
        simp only [vBox] at *
        go_wp2_with fail
        refine HC.out.mono ?_
        rintro e w' ⟨rfl, rfl⟩
        clear HC
        go_wp2_with fail
        exact ⟨⟨i + 1, X, by omega, by first | rfl | (congr 1), HOb.out, HR2.out, by omega, HFb.out⟩, by simp [intOf]; omega⟩
    · have hlt' : ¬ (i : Int) < ((l.length : Nat) : Int) := by omega
      have HR2 : Hid (RowIs w0 (undV x l) X) := by
        have h := HR.out
        rw [List.take_of_length_le (by omega)] at h
        exact h
      go_wp2_with fail
      go_ret
      exact ⟨⟨X, _, rfl, HO.out, HR2.out⟩, HF.out⟩

end Go.Proofs.YtniailfcmlongaaGreatDoor.Tr
/- The contract of once. -/
namespace Go.Proofs.YtniailfcmlongaaGreatDoor.Tr
open Go.RowKit Go.Maps

/-- A text as a value. -/
def txV (t : List UInt8) : Vt := .mk 4 0 0 t [] []
def onS (acc : List (List UInt8)) (t : List UInt8) : List (List UInt8) := if t ∈ acc then acc else acc ++ [t]
/-- Each text where it came first. -/
def onL (ts : List (List UInt8)) : List (List UInt8) := ts.foldl onS []
theorem onL_snoc (ts : List (List UInt8)) (t : List UInt8) : onL (ts ++ [t]) = onS (onL ts) t := by simp [onL, List.foldl_append]
theorem onS_mem {acc : List (List UInt8)} {t s : List UInt8} : s ∈ onS acc t ↔ s ∈ acc ∨ s = t := by
  unfold onS
  split
  · rename_i h
    constructor
    · exact .inl
    · rintro (h1 | rfl)
      · exact h1
      · exact h
  · simp
theorem fold_mem : ∀ (ts acc : List (List UInt8)) (s : List UInt8), s ∈ ts.foldl onS acc ↔ s ∈ acc ∨ s ∈ ts
  | [], acc, s => by simp
  | t :: ts, acc, s => by
    rw [List.foldl_cons, fold_mem ts (onS acc t) s, onS_mem, List.mem_cons, or_assoc]
theorem onL_mem {ts : List (List UInt8)} {s : List UInt8} : s ∈ onL ts ↔ s ∈ ts := by
  unfold onL; rw [fold_mem]; simp
/-- The texts of values, each where it came first. -/
def oncV (l : List Vt) : List Vt := (onL (l.map (·.t))).map txV

theorem lawS : Keyed Tryz.prog 9 := string_keyed Tryz.underlying9
theorem zero3 (w : World) : (zeroValue 3).run Tryz.prog w = .ok (.int .i64 0) w := by kernel_rfl
/-- The map that counts texts. -/
def Cnts (D : DataW Unit) (ts : List (List UInt8)) : Prop := IsMap D ∧ ∀ t, D.atKey (.string t) (.lit (.int .i64 0)) = .lit (.int .i64 (ts.count t : Int))
theorem Cnts.zero : Cnts (.map []) [] := ⟨isMap_empty, fun t => by simp [DataW.atKey]⟩
theorem Cnts.step {D : DataW Unit} {ts : List (List UInt8)} (h : Cnts D ts) (t : List UInt8) : Cnts (D.put (.string t) (.lit (.int .i64 ((ts.count t : Int) + 1)))) (ts ++ [t]) := by
  refine ⟨h.1.put _ _, fun s => ?_⟩
  by_cases e : s = t
  · subst e
    rw [atKey_put_same h.1 (by simp [WideAt.IsKeyLit])]
    simp [List.count_append]
  · rw [atKey_put_other (by intro e2; injection e2 with e2; exact e e2), h.2 s]
    simp [List.count_append, Ne.symm e]

theorem _root_.Go.World.ownsMap.fr {P : Program} {w w' : World} {k b n : Nat} {R : Value → Option (DataW Unit × List MemPlace)} {D : DataW Unit} (h : w.ownsMap P k R b n D) (f : Fr (fun _ => False) w w') : w'.ownsMap P k R b n D := by
  have hb := h.lt
  obtain ⟨es, clock, h1, h2⟩ := h
  exact ⟨es, clock, (f.block b hb (fun h => h)).trans h1, h2⟩
/-- 'append(l, v)', of a long row. -/
theorem wpList_app_VM {ops : Array Oper} {rest : List Oper} {o : Oper} {a : Act} {W : World} {Q : Exit → Act → World → Prop} (hgd : o.guard = none) (d s : Operand) (ho : o.op = .call { callee := .builtin .append, args := #[d, s], argTypes := #[24, 24] })
    (base : Nat) (v : Value) (X : List Vv) (x : Vv) (g cap : Nat) (hd : a.eval d = v) (hs : a.eval s = .slice (some ⟨g, 0, none⟩) 1 cap) (hown : W.ownsRow base 26 6 v X.length (flatV X)) (hg : Blk W g 26 x.cs) (hb : base ≤ W.heap.size) (hl : X.length ≤ 1000000)
    (h : ∀ g' ic W', W'.ownsRow base 26 6 (.slice (some ⟨g', 0, none⟩) (X.length + 1) ic) (X ++ [x]).length (flatV (X ++ [x])) → W.grownBy W' v.ownBlock → wpList Tryz.prog ops Q rest (a.put o.dst (.slice (some ⟨g', 0, none⟩) (X.length + 1) ic)) W') : wpList Tryz.prog ops Q (o :: rest) a W := by
  obtain ⟨i0, hi0, hz0, hz1, hz2⟩ := info_parts infoV
  refine wpList_append_lies W hgd d s 24 ho base 26 i0 _ 6 88 Tryz.underlying24 hi0 hz0 hz1 hz2 rfl (by omega) v X.length (flatV X) hd hown ⟨g, 0, none⟩ 1 cap x.cs hs rfl (fun j u hu => by rw [Addr.add_mid, Nat.zero_add, hg.cell]; exact hu) (vv_one x) (by omega) (by unfold maxLen; omega) (by omega) hb _ rfl ?_
  intro g' cap' W' h1 h2 _ _
  refine h g' cap' W' ?_ h2
  rw [List.length_append, flatV_app]
  exact h1

set_option maxRecDepth 100000 in
set_option maxHeartbeats 4000000 in
theorem once_any (w0 w : World) (e0 : Env w0 w) (l : List Vt) (ad : Option Addr) (cap : Nat) (hI : IIn w0 l ad) (hlim : l.length ≤ 1000000) (hts : ∀ u ∈ l, u.t.length ≤ 1024) :
    Calls Tryz.prog 99 #[.slice ad l.length cap] w fun e w' => (∃ (X : List Vv) (v : Value), e = .returned v ∧ w'.ownsRow w.heap.size 26 6 v X.length (flatV X) ∧ RowIs w0 (oncV l) X) ∧ Fr (fun _ => False) w w' := by
  have hst := fun (W : World) (a : Addr) (m : Mode) (f : Nat) => run_store Tryz.prog W a (.float .f64 f) m rfl
  have hmm := @run_makeMap Tryz.prog
  have HI := hid hI
  have HTs := hid hts
  have HE0 := hid e0
  clear hI hts e0
  go_enter Tryz.func99, Tryz.ntmps99
  go_wp2_with fail
  go_loopw [4, 6, 10] (fun sv _ iv wr => ∃ (i : Nat) (D : DataW Unit), i ≤ l.length ∧ iv = .int .i64 (i : Int) ∧ wr.ownsRow (w.heap.size + 1) 26 6 sv (onL ((l.take i).map (·.t))).length (flatV ((onL ((l.take i).map (·.t))).map vS)) ∧ wr.ownsMap Tryz.prog 9 (plainElem Tryz.prog 3) w.heap.size i D ∧ Cnts D ((l.take i).map (·.t)) ∧ (onL ((l.take i).map (·.t))).length ≤ i ∧ Fr (fun _ => False) w wr) (fun _ _ iv _ => l.length - (intOf iv).toNat)
  case atStart => exact ⟨0, .map [], by omega, rfl, World.ownsRow_nil _ _ _ _, World.ownsMap_made _ _ _ _, Cnts.zero, by simp [onL], (Fr.refl _ _).alloc _⟩
  case round =>
    obtain ⟨i, D, hi, rfl, hO, hM, hC, hXl, hF⟩ := hrel
    have HO := hid hO
    have HM := hid hM
    have HCn := hid hC
    have HF := hid hF
    clear hO hM hC hF hmm
    by_cases hlt : i < l.length
    · have hlt' : (i : Int) < ((l.length : Nat) : Int) := by omega
      obtain ⟨bb, bo, rfl⟩ := HI.out.some (by intro e; rw [e] at hlt; simp at hlt)
      obtain ⟨y, y1, y2⟩ := HI.out.get i hlt
      obtain ⟨k0, k1, k2, k3, k4, k5⟩ := (y1.env (HE0.out.trans (Env.of HF.out))).six
      have hyt : y.t = l[i].t := y2.parts.1.2.2.2
      have htl : y.t.length ≤ 1024 := by rw [hyt]; exact HTs.out _ (List.getElem_mem hlt)
      have hmp : (l.take (i + 1)).map (·.t) = (l.take i).map (·.t) ++ [y.t] := by
        rw [List.take_succ_eq_append_getElem hlt, List.map_append, hyt]; rfl
      obtain ⟨ts, hts⟩ : ∃ ts, ts = (l.take i).map (·.t) := ⟨_, rfl⟩
      rw [← hts] at HO HCn hXl hmp
      have hcl : ts.count y.t ≤ i := by
        have h1 := List.count_le_length (a := y.t) (l := ts)
        have h2 : ts.length ≤ i := by rw [hts]; simp; omega
        omega
      have HFb := hid (HF.out.trans (vFr wr y) (fun _ h => h.elim))
      have HMb : Hid ((vBox wr y).ownsMap Tryz.prog 9 (plainElem Tryz.prog 3) w.heap.size i D) := HM.out.alloc _
      have HOb : Hid ((vBox wr y).ownsRow (w.heap.size + 1) 26 6 _ (onL ts).length (flatV ((onL ts).map vS))) := own_alloc HO.out _
      have hkey : keyOf Tryz.prog 9 (.string ⟨y.t.toArray⟩) = some (.string y.t) := by
        have := WideMaps.keyOf_string_mk (P := Tryz.prog) (k := 9) Tryz.underlying9 (s := ⟨y.t.toArray⟩) (by unfold maxLen; simp [ByteArray.size]; omega)
        simpa using this
      have HB := hid (vBlk wr y)
      have hbne : w.heap.size < wr.heap.size := HM.out.lt
      have HCs := hid (HCn.out.step y.t)
      have HK := hid hmp
      have hat0 := HCn.out.2 y.t
      clear y1 y2 HM HO HF HCn hmp hts hyt
      obtain ⟨k, n, f, t, na, nl, nc, ia, il, ic⟩ := y
      simp only [vBox] at *
      obtain ⟨cn, hcn⟩ : ∃ cn : Nat, cn = ts.count t := ⟨_, rfl⟩
      rw [← hcn] at hcl hat0 HCs
      have HCe := hid hcn
      clear hcn
      go_wp2_with (at_lookup; refine Hid.out ?_)
      refine wpList_lookup_own_int _ rfl _ _ 112 rfl 9 3 .i64 lawS Tryz.underlying112 Tryz.underlying3 (zero3 _) w.heap.size i D rfl HMb.out _ _ rfl hkey ?_
      intro c hat hwc
      obtain rfl : c = (cn : Int) := by rw [hat0] at hat; injection hat with hat; injection hat with _ hat; exact hat.symm
      clear hat hwc hat0
      have HKey := hid hkey
      clear hkey
      go_wp2_with (at_mapUpdate; refine Hid.out ?_)
      refine wpList_mapUpdate_own _ rfl _ _ _ 112 rfl 9 3 lawS Tryz.underlying112 _ w.heap.size i D rfl HMb.out (by unfold maxLen; omega) _ _ _ rfl rfl HKey.out _ [] (plainElem_int Tryz.underlying3 (by first | exact WalkArith.wf_i64 (by omega) | exact wrap64_wf _)) ?_
      intro w1 hown1 hgrow1
      have f1 : Fr (· = w.heap.size) _ w1 := (Fr.refl (· = w.heap.size) _).grown hgrow1 (fun k hk => .inl (by injection hk with hk; exact hk.symm))
      have b1 := f1.blk HB.out (by omega)
      have c3 := b1.cell 3
      have HO1 := hid (own_fr HOb.out f1 (fun k hk e => by have := (own_lt HOb.out k hk).1; omega))
      have HF1 : Hid (Fr (fun _ => False) w w1) := HFb.out.grown hgrow1 (fun k hk => .inr (by injection hk; omega))
      have HM1 := hid hown1
      have hat1 := HCs.out.2 t
      clear f1 b1 hown1 hgrow1 HMb HOb HFb HB k0 k1 k2 k3 k4 k5
      simp only [List.getElem?_cons_succ, List.getElem?_cons_zero] at c3
      go_wp2_with (at_lookup; refine Hid.out ?_)
      refine wpList_lookup_own_int _ rfl _ _ 112 rfl 9 3 .i64 lawS Tryz.underlying112 Tryz.underlying3 (zero3 _) w.heap.size (i + 1) _ rfl HM1.out _ _ rfl HKey.out ?_
      intro c hat hwc
      obtain rfl : c = (cn : Int) + 1 := by
        rw [hat1] at hat
        injection hat with hat
        injection hat with _ hat
        have h2 := HCe.out
        rw [List.count_append] at hat
        simp at hat
        omega
      clear hat hwc hat1
      by_cases hmem : t ∈ ts
      · have hp : 0 < ts.count t := List.count_pos_iff.2 hmem
        have q1 : ((cn : Int) + 1 == 1) = false := by rw [beq_eq_false_iff_ne]; have := HCe.out; omega
        have e1 : onL (ts ++ [t]) = onL ts := by rw [onL_snoc]; unfold onS; rw [if_pos (onL_mem.2 hmem)]
        have HO2 := HO1.out
        have HCs2 := HCs.out
        have hmk := HK.out
        clear hp hmem
        go_wp2_with fail
        refine ⟨⟨i + 1, _, by omega, by first | rfl | (congr 1), ?_, HM1.out, ?_, ?_, HF1.out⟩, by simp [intOf]; omega⟩
        · rw [hmk, e1]; exact HO2
        · rw [hmk]; exact HCs2
        · rw [hmk, e1]; omega
      · have hp : ts.count t = 0 := List.count_eq_zero.2 hmem
        have q1 : ((cn : Int) + 1 == 1) = true := by rw [beq_iff_eq]; have := HCe.out; omega
        have e1 : onL (ts ++ [t]) = onL ts ++ [t] := by rw [onL_snoc]; unfold onS; rw [if_neg (fun h => hmem (onL_mem.1 h))]
        have HE1 := hid e1
        clear hp hmem e1
        go_wp2_with fail
        refine (textOf_any w1 t).mono ?_
        rintro e w2 ⟨rfl, f2⟩
        have HF2 := hid (HF1.out.trans f2 (fun _ h => h.elim))
        have HO2 := hid (own_fr HO1.out f2 (fun _ _ h => h))
        have HM2 : Hid (w2.ownsMap Tryz.prog 9 (plainElem Tryz.prog 3) w.heap.size (i + 1) _) := HM1.out.fr f2
        have HFc := hid (HF2.out.trans (vFr w2 (vS t)) (fun _ h => h.elim))
        have h9 := own_alloc HO2.out (.cells #[.int .i64 (vS t).k, .int .i64 (vS t).n, .float .f64 (vS t).f, .string ⟨(vS t).t.toArray⟩, .slice (vS t).na (vS t).nl (vS t).nc, .slice (vS t).ia (vS t).il (vS t).ic] 26)
        rw [show (onL ts).length = ((onL ts).map vS).length from (List.length_map _).symm] at h9
        have HOc := hid h9
        clear h9
        have HMc := hid (HM2.out.alloc (.cells #[.int .i64 (vS t).k, .int .i64 (vS t).n, .float .f64 (vS t).f, .string ⟨(vS t).t.toArray⟩, .slice (vS t).na (vS t).nl (vS t).nc, .slice (vS t).ia (vS t).il (vS t).ic] 26))
        have HGc := hid (vBlk w2 (vS t))
        have hsz : w.heap.size + 1 ≤ (vBox w2 (vS t)).heap.size := Nat.succ_le_of_lt HMc.out.lt
        have hX2 : ((onL ts).map vS).length ≤ 1000000 := by simp; omega
        clear f2 HM1 HO1 HF1 c3
        simp only [vBox, vS] at *
        go_wp2_with (at_builtin; refine Hid.out ?_)
        refine wpList_app_VM (by rfl) _ _ (by rfl) (w.heap.size + 1) _ ((onL ts).map vS) (vS t) _ _ (by rfl) (by rfl) HOc.out HGc.out (by first | exact hsz | simp) hX2 ?_
        intro g' ic' W' ho hg
        have HO3 := hid ho
        have HF3 : Hid (Fr (fun _ => False) w W') := HFc.out.grown hg (fun k hk => .inr (by have := (own_lt HOc.out k hk).1; omega))
        have HM3 := hid (HMc.out.kept hg (fun e => by have := (own_lt HOc.out _ e.symm).1; omega))
        clear ho hg
        go_wp2_with fail
        refine ⟨⟨i + 1, _, by omega, by first | rfl | (congr 1), ?_, HM3.out, ?_, ?_, HF3.out⟩, by simp [intOf]; omega⟩
        · rw [HK.out, HE1.out, List.map_append, List.length_append]
          have := HO3.out
          simp only [List.length_append, List.length_map] at this
          simpa using this
        · rw [HK.out]; exact HCs.out
        · rw [HK.out, HE1.out]; simp; omega
    · have hlt' : ¬ (i : Int) < ((l.length : Nat) : Int) := by omega
      have h := HO.out
      rw [List.take_of_length_le (by omega)] at h
      have HO2 := hid h
      clear h
      go_wp2_with fail
      go_ret
      refine ⟨⟨(onL (l.map (·.t))).map vS, _, rfl, ?_, ?_⟩, HF.out⟩
      · rw [List.length_map]; exact own_down HO2.out (by omega)
      · refine ⟨by simp [oncV], fun q h1 h2 => ?_⟩
        unfold oncV at h1 ⊢
        rw [List.getElem_map, List.getElem_map]
        refine vin_text w0 _ ?_
        have hm : (onL (l.map (·.t)))[q]'(by simpa using h2) ∈ l.map (·.t) := onL_mem.1 (List.getElem_mem _)
        obtain ⟨u, hu, e⟩ := List.mem_map.1 hm
        rw [← e]
        have := HTs.out u hu
        unfold lim; omega

end Go.Proofs.YtniailfcmlongaaGreatDoor.Tr
