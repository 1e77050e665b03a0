/- The walk of TypesLists. -/
import Derived.Test.YtniailfcmlongaaGreatDoorTsw
import Derived.Test.YtniailfcmlongaaGreatDoorTlp
import Derived.Test.YtniailfcmlongaaGreatDoorTlq
import Derived.Laws.MakeOwn
import Derived.Laws.OwnMore
import Derived.Test.YtniailfcmlongaaGreatDoorTll
import Derived.Deep.DeepCutAuto
namespace Go.Proofs.YtniailfcmlongaaGreatDoor.Tr
open Go.RowKit

/-- What holds of the definitions made so far. -/
structure OutI (w wr : World) (T : List (List (List UInt8))) (O : List Int) (i : Nat) (dv : Value) (F : List Dz) : Prop where
  len : F.length = i
  is : F.map (·.1) = (dfs T O i).1
  row : wr.ownsRow w.heap.size 30 8 dv F.length (flatD F)
  safe : ∀ z ∈ F, ∀ W', Fr (fun k => dv.ownBlock = some k) wr W' → DIn W' z.1 z.2
  fr : Fr (fun _ => False) w wr
/-- What holds of the list that is being made. -/
structure InnI (wr wi : World) (S : List (List UInt8)) (ia : Option Addr) (ic : Nat) : Prop where
  bv : Blk wi wr.heap.size 26 (Vv.cs ⟨5, 0, 0, [], none, 0, 0, ia, S.length, ic⟩)
  row : wi.ownsRow (wr.heap.size + 1) 26 6 (.slice ia S.length ic) (S.map vS).length (flatV (S.map vS))
  fr : Fr (fun _ => False) wr wi

theorem vin_ls {W : World} {B : Nat} {S : List (List UInt8)} {ia : Option Addr} {ic : Nat} (h : W.ownsRow B 26 6 (.slice ia S.length ic) (S.map vS).length (flatV (S.map vS))) (h1 : S.length ≤ 256) (h2 : ∀ s ∈ S, s.length ≤ 1024) : VIn W (lsV S) ⟨5, 0, 0, [], none, 0, 0, ia, S.length, ic⟩ := by
  unfold lsV
  rw [VIn]
  have hc : S.length ≤ ic := by
    rcases Nat.eq_zero_or_pos (S.map vS).length with h0 | hpos
    · rw [List.length_map] at h0; omega
    · obtain ⟨g, c, cur, e, _, _, _, hle, _⟩ := own_row h hpos
      simp only [Value.slice.injEq] at e
      rw [List.length_map] at hle
      omega
  refine ⟨⟨rfl, rfl, rfl, rfl⟩, ⟨⟨by decide, by decide⟩, ⟨by decide, by decide⟩, by simp, by simp⟩, ⟨rfl, by simp, by simp, fun e => absurd rfl e⟩, ⟨by simp, by simpa using hc, by simp [lim]; omega⟩, ?_⟩
  refine iin_own (S.map txV) h (by simp) (fun i h1' h2' => ?_)
  simp only [List.getElem_map]
  exact vin_text W _ (by have := h2 (S[i]'(by simpa using h1')) (List.getElem_mem _); unfold lim; omega)
theorem out_next {w wr wi WD : World} {T : List (List (List UInt8))} {O : List Int} {i : Nat} {F : List Dz} {da ia : Option Addr} {dc ic g' ic' : Nat} {S : List (List UInt8)} {o : Int} (hI : OutI w wr T O i (.slice da F.length dc) F) (hJ : InnI wr wi S ia ic)
    (hF : Fr (fun q => (Value.slice da F.length dc).ownBlock = some q) wi WD) (hO : WD.ownsRow w.heap.size 30 8 (.slice (some ⟨g', 0, none⟩) (F.length + 1) ic') (F ++ [((⟨lsV S, 100, o⟩ : Dt), (⟨⟨5, 0, 0, [], none, 0, 0, ia, S.length, ic⟩, 100, o⟩ : Dv))]).length (flatD (F ++ [((⟨lsV S, 100, o⟩ : Dt), (⟨⟨5, 0, 0, [], none, 0, 0, ia, S.length, ic⟩, 100, o⟩ : Dv))])))
    (hR : WD.ownsRow (wr.heap.size + 1) 26 6 (.slice ia S.length ic) (S.map vS).length (flatV (S.map vS))) (hG : ∀ q, (Value.slice (some ⟨g', 0, none⟩) (F.length + 1) ic').ownBlock = some q → (Value.slice da F.length dc).ownBlock = some q ∨ wi.heap.size ≤ q)
    (hD : (dfs T O (i + 1)).1 = (dfs T O i).1 ++ [⟨lsV S, 100, o⟩]) (h1 : S.length ≤ 256) (h2 : ∀ s ∈ S, s.length ≤ 1024) (ho : I64 o) : OutI w WD T O (i + 1) (.slice (some ⟨g', 0, none⟩) (F.length + 1) ic') (F ++ [((⟨lsV S, 100, o⟩ : Dt), (⟨⟨5, 0, 0, [], none, 0, 0, ia, S.length, ic⟩, 100, o⟩ : Dv))]) := by
  have hOl : ∀ q, (Value.slice da F.length dc).ownBlock = some q → w.heap.size ≤ q ∧ q < wr.heap.size := fun q hq => own_lt hI.row q hq
  have hws := hI.fr.size
  have hsz := hJ.fr.size
  refine ⟨by rw [List.length_append, hI.len]; rfl, by rw [List.map_append, hI.is, hD]; rfl, hO, fun z hz W' hW => ?_, (hI.fr.trans hJ.fr (fun _ h => h.elim)).trans hF (fun q hq => .inr (hOl q hq).1)⟩
  rcases List.mem_append.1 hz with hz | hz
  · exact hI.safe z hz W' (((hJ.fr.mono (fun _ h => h.elim)).trans hF (fun q hq => .inl hq)).trans hW (fun q hq => by
      rcases hG q hq with h | h
      · exact .inl h
      · exact .inr (by omega)))
  · simp only [List.mem_singleton] at hz
    subst hz
    have hR' := own_fr hR hW (fun q hq hq' => by
      have a1 := own_lt hR q hq
      have a2 := own_lt hJ.row q hq
      rcases hG q hq' with h | h
      · have := hOl q h; omega
      · omega)
    exact ⟨vin_ls hR' h1 h2, rfl, rfl, ⟨show (-9223372036854775808 : Int) ≤ 100 by decide, show (100 : Int) ≤ 9223372036854775807 by decide⟩, ho⟩

theorem mk_bools (w : World) (m : Nat) (hm : m ≤ 1024) : (Instr.makeSlice 46 (.int .i64 (m : Int)) (.int .i64 (m : Int))).run Tryz.prog w = .ok (.slice (some ⟨w.heap.size, 0, none⟩) m m) (w.alloc (.cells (List.replicate m (Value.bool false)).toArray 4)) := by
  obtain ⟨i, hi⟩ := Option.isSome_iff_exists.1 (by kernel_rfl : (Tryz.prog.info? 4).isSome = true)
  have hz : (Tryz.prog.info? 4).bind (·.zero) = some (.bool false) := by kernel_rfl
  have hs : (Tryz.prog.info? 4).map (·.size) = some 1 := by kernel_rfl
  have hb : (Tryz.prog.info? 4).map (·.bytes) = some 1 := by kernel_rfl
  rw [hi] at hz hs hb
  simp only [Option.bind_some, Option.map_some, Option.some.injEq] at hz hs hb
  have h := run_make (P := Tryz.prog) w 46 4 i (.bool false) Tryz.underlying46 hi hz .i64 .i64 m m (by omega) (Int.le_refl _) (by rw [hb]; omega) (by omega)
  rw [h, hs]
  simp only [Int.toNat_natCast, Nat.mul_one]
  have e : madeCells (Value.bool false).cells m = (List.replicate m (Value.bool false)).toArray := by
    apply Array.toList_inj.1
    exact toList_madeCells_one (.bool false) m
  rw [e]
/-- The memory behind the making of 'used'. -/
def lsW (w : World) (ia : Option Addr) (n ic m : Nat) : World := (w.alloc (.cells #[.int .i64 5, .int .i64 0, .float .f64 0, .string ⟨#[]⟩, .slice none 0 0, .slice ia n ic] 26)).alloc (.cells (List.replicate m (Value.bool false)).toArray 4)
/-- What holds between the rounds. -/
structure RI (w3 wr : World) (ia : Option Addr) (n ic : Nat) (L : List Dt) (r : Nat) : Prop where
  bu : Blk wr (w3.heap.size + 1) 4 ((usd L r).map Value.bool)
  fr : Fr (· = w3.heap.size + 1) (lsW w3 ia n ic L.length) wr
theorem lsW_fr (w : World) (ia : Option Addr) (n ic m : Nat) : Fr (fun _ => False) w (lsW w ia n ic m) := ((Fr.refl _ w).alloc _).alloc _
theorem RI.env {w3 wr : World} {ia : Option Addr} {n ic : Nat} {L : List Dt} {r : Nat} (h : RI w3 wr ia n ic L r) : Env w3 wr := (Env.of (lsW_fr w3 ia n ic L.length)).fr h.fr (fun j hj => by omega)
theorem RI.frw {w w3 wr : World} {ia : Option Addr} {n ic : Nat} {L : List Dt} {r : Nat} (h : RI w3 wr ia n ic L r) (f : Fr (fun _ => False) w w3) : Fr (fun _ => False) w wr := (f.trans (lsW_fr w3 ia n ic L.length) (fun _ h => h.elim)).trans h.fr (fun j hj => .inr (by have := f.size; omega))
theorem RI.bv {w3 wr : World} {ia : Option Addr} {n ic : Nat} {L : List Dt} {r : Nat} (h : RI w3 wr ia n ic L r) : wr.cell? ⟨w3.heap.size, 5, none⟩ = some (.slice ia n ic) := by
  have hb : Blk (lsW w3 ia n ic L.length) w3.heap.size 26 (Vv.cs ⟨5, 0, 0, [], none, 0, 0, ia, n, ic⟩) := (vBlk w3 ⟨5, 0, 0, [], none, 0, 0, ia, n, ic⟩).alloc _
  exact (h.fr.blk hb (fun e => by omega)).cell 5
theorem ri_zero (w3 : World) (ia : Option Addr) (n ic : Nat) (L : List Dt) : RI w3 (lsW w3 ia n ic L.length) ia n ic L 0 := by
  refine ⟨?_, Fr.refl _ _⟩
  rw [usd_zero, List.map_replicate]
  have h := Blk.new (w3.alloc (.cells #[.int .i64 5, .int .i64 0, .float .f64 0, .string ⟨#[]⟩, .slice none 0 0, .slice ia n ic] 26)) 4 (List.replicate L.length (Value.bool false))
  rw [World.size_alloc] at h
  exact h
theorem row_at {w : World} {B : Nat} {X : List Vv} {ia : Option Addr} {ic : Nat} (h : w.ownsRow B 26 6 (.slice ia X.length ic) X.length (flatV X)) (a : Nat) (ha : a < X.length) : ∃ g, ia = some ⟨g, 0, none⟩ ∧ w.cell? ⟨g, a * 6 + 3, none⟩ = some (.string ⟨X[a].t.toArray⟩) := by
  obtain ⟨g, c, cur, e, _, _, hc, _, ht⟩ := own_row h (by omega)
  simp only [Value.slice.injEq] at e
  refine ⟨g, e.1, ?_⟩
  rw [cell_of_row w g (a * 6 + 3) _ _ (0, 0) hc]
  have h2 : (flatV X)[a * 6 + 3]? = some (.string ⟨X[a].t.toArray⟩) := by rw [flatV_at X a 3 ha (by decide)]; rfl
  rw [← ht, List.getElem?_take, if_pos (by omega)] at h2
  simpa using h2

set_option maxRecDepth 100000 in
set_option maxHeartbeats 8000000 in
theorem typesLists_walk (w : World) (T : List (List (List UInt8))) (O : List Int) (ta oa : Option Addr) (tc oc : Nat) (hT : Txs w ta T) (hO : Ods w oa O) (hm : Mx w) :
    Calls Tryz.prog 7 #[.slice ta T.length tc, .slice oa O.length oc] w fun e w' => e = .returned (.bool true) ∧ Fr (fun _ => False) w w' := by
  have hst := fun (W : World) (a : Addr) (m : Mode) (f : Nat) => run_store Tryz.prog W a (.float .f64 f) m rfl
  have HS := hid (shown_any w hm)
  have HM := hid hm
  have HT := hid hT
  have HO := hid hO
  clear hm hT hO
  go_enter Tryz.func7, Tryz.ntmps7
  go_wp2_with fail
  refine HS.out.mono ?_
  rintro e w1 ⟨rfl, f1⟩
  have HF1 := hid f1
  clear f1 HS
  go_upto_block 0 with fail
  go_cut [6, 7] (fun dv nv wx => ∃ (i : Nat) (F : List Dz) (da : Option Addr) (dc : Nat), dv = .slice da F.length dc ∧ nv = .int .i64 ((dfs T O i).2 : Int) ∧ i ≤ 20 ∧ OutI w wx T O i dv F)
  case first =>
    go_wp2_with fail
    go_loopw [6, 7, 8, 9, 10] (fun dv nv iv _ _ wr => ∃ (i : Nat) (F : List Dz), i ≤ T.length ∧ i ≤ O.length ∧ i ≤ 20 ∧ iv = .int .i64 (i : Int) ∧ nv = .int .i64 ((dfs T O i).2 : Int) ∧ OutI w wr T O i dv F) (fun _ _ iv _ _ _ => 20 - (intOf iv).toNat)
    case atStart => exact ⟨0, [], Nat.zero_le _, Nat.zero_le _, Nat.zero_le _, rfl, rfl, rfl, rfl, World.ownsRow_nil _ _ _ _, fun z hz => by simp at hz, HF1.out⟩
    case round =>
      obtain ⟨i, F, hiT, hiO, hi20, rfl, rfl, hI⟩ := hrel
      obtain ⟨da, dc, hdv⟩ := own_len hI.row
      subst hdv
      have HI := hid hI
      have hn256 : (dfs T O i).2 ≤ 256 := (dfs_len T O i).2
      clear hI HF1
      rename World => wr
      by_cases hgo : i < T.length ∧ i < O.length ∧ i < 20
      · obtain ⟨g1, g2, g3⟩ := hgo
        have g1' : (i : Int) < ((T.length : Nat) : Int) := by omega
        have g2' : (i : Int) < ((O.length : Nat) : Int) := by omega
        have g3' : (i : Int) < 20 := by omega
        obtain ⟨tb, tq, e1, ht⟩ := HT.out (by intro e; rw [e] at g1; simp at g1)
        subst e1
        obtain ⟨ai, ci, ct, hstr, hlim0, hlen0⟩ := ht i g1
        obtain ⟨ob, oo, e2, ho⟩ := HO.out (by intro e; rw [e] at g2; simp at g2)
        subst e2
        obtain ⟨co, ho64⟩ := ho i g2
        have HCt := hid ct
        have HCo := hid co
        have HStr := hid hstr
        have HLen := hid hlen0
        have hlim : T[i].length ≤ 140737488351232 := hlim0
        have HD : Hid (dfs T O (i + 1) = ((dfs T O i).1 ++ [⟨lsV (takeS T[i] (dfs T O i).2), 100, O[i]⟩], (dfs T O i).2 + (takeS T[i] (dfs T O i).2).length)) := by
          unfold Hid
          rw [dfs, List.getD_eq_getElem?_getD, List.getElem?_eq_getElem g1, List.getD_eq_getElem?_getD, List.getElem?_eq_getElem g2]
          rfl
        have HO64 := hid ho64
        generalize hn0 : (dfs T O i).2 = n0 at *
        clear hn0
        generalize hTi : T[i] = t at *
        clear hTi ct co hstr hlen0 hlim0 ho64 ht ho
        have HB0 := hid (vBlk wr ⟨5, 0, 0, [], none, 0, 0, none, 0, 0⟩)
        have HF0 := hid (vFr wr ⟨5, 0, 0, [], none, 0, 0, none, 0, 0⟩)
        go_wp2_with fail
        go_loopw [7, 10] (fun nv kv wi => ∃ (k : Nat) (ia : Option Addr) (ic : Nat), k ≤ t.length ∧ kv = .int .i64 (k : Int) ∧ nv = .int .i64 ((n0 : Int) + ((takeS (t.take k) n0).length : Int)) ∧ InnI wr wi (takeS (t.take k) n0) ia ic) (fun _ kv _ => t.length - (intOf kv).toNat)
        case atStart => exact ⟨0, none, 0, Nat.zero_le _, rfl, by simp [takeS], HB0.out, World.ownsRow_nil _ _ _ _, HF0.out⟩
        case round =>
          obtain ⟨k, ia, ic, hk, rfl, rfl, hJ⟩ := hrel
          have HJ := hid hJ
          have ct := (Env.of (HI.out.fr.trans hJ.fr (fun _ h => h.elim))).cell HCt.out
          have hsl := (takeS_ok (t.take k) n0 hn256).1
          clear hJ
          rename World => wi
          by_cases hgk : k < t.length ∧ n0 + (takeS (t.take k) n0).length < 256
          · obtain ⟨q1, q2⟩ := hgk
            have q1' : (k : Int) < ((t.length : Nat) : Int) := by omega
            have q2' : (n0 : Int) + ((takeS (t.take k) n0).length : Int) < 256 := by omega
            obtain ⟨sb, so, e3, hs⟩ := HStr.out (by intro e; rw [e] at q1; simp at q1)
            subst e3
            have HCs := hid (hs k q1)
            have cs := (Env.of (HI.out.fr.trans HJ.out.fr (fun _ h => h.elim))).cell (hs k q1)
            have HSn := hid (takeS_snoc t n0 k q1)
            generalize takeS (t.take k) n0 = S at *
            generalize t[k] = s at *
            by_cases h1024 : s.length ≤ 1024
            · have h1024' : decide (((s.length : Nat) : Int) ≤ 1024) = true := decide_eq_true (by omega)
              rw [if_pos ⟨q2, h1024⟩] at HSn
              have hS256 : S.length ≤ 256 := by omega
              clear hs h1024 q2 hsl hn256
              go_wp2_with fail
              have HOi := hid HJ.out.row
              have HOl : Hid (∀ q, (Value.slice ia S.length ic).ownBlock = some q → wr.heap.size + 1 ≤ q ∧ q < wi.heap.size) := fun q hq => own_lt HJ.out.row q hq
              have HWs : Hid (w.heap.size ≤ wr.heap.size) := HI.out.fr.size
              have HEi : Hid (Env w wi) := Env.of (HI.out.fr.trans HJ.out.fr (fun _ h => h.elim))
              have HKS : Hid (∀ W, Fr (fun q => (Value.slice ia S.length ic).ownBlock = some q ∨ q = wr.heap.size) wi W → W.cell? ⟨tb, tq + i, none⟩ = some (.slice (some ⟨sb, so, none⟩) t.length ci) ∧ W.cell? ⟨sb, so + k, none⟩ = some (.string ⟨s.toArray⟩)) := fun W hf => by
                have henv : Env w W := HEi.out.fr hf (fun q hq => by rcases hq with hq | hq; (· have := HOl.out q hq; have := HWs.out; omega); (· have := HWs.out; omega))
                exact ⟨henv.cell HCt.out, henv.cell HCs.out⟩
              have HKK : Hid (∀ W, Fr (fun q => (Value.slice ia S.length ic).ownBlock = some q) wi W → (W.cell? ⟨tb, tq + i, none⟩ = some (.slice (some ⟨sb, so, none⟩) t.length ci) ∧ W.cell? ⟨sb, so + k, none⟩ = some (.string ⟨s.toArray⟩)) ∧ W.cell? ⟨wr.heap.size, 5, none⟩ = some (.slice ia S.length ic)) := fun W hf => ⟨HKS.out W (hf.mono (fun q h => .inl h)), (hf.blk HJ.out.bv (fun h => by have := HOl.out _ h; omega)).cell 5⟩
              have hX1000 : (S.map vS).length ≤ 1000 := by rw [List.length_map]; omega
              refine wp_region_noPanic ?_
              refine region_till (fun W => W.cell? ⟨tb, tq + i, none⟩ = some (.slice (some ⟨sb, so, none⟩) t.length ci) ∧ W.cell? ⟨sb, so + k, none⟩ = some (.string ⟨s.toArray⟩)) (fun W => W.cell? ⟨wr.heap.size, 5, none⟩ = some (.slice ia S.length ic)) 13 (by kernel_rfl) ?_
              have HFA : Hid (Fr (fun q => (Value.slice ia S.length ic).ownBlock = some q) wi wi.drew) := (Fr.refl _ wi).drew
              have HOA : Hid (wi.drew.ownsRow (wr.heap.size + 1) 26 6 (.slice ia S.length ic) (S.map vS).length (flatV (S.map vS))) := HOi.out
              generalize wi.drew = WA at *
              refine takeT (fun _ => True) (i := 0) (d := some 59) (.pointer (some ⟨wr.heap.size, 5, none⟩)) rfl (by kernel_rfl) (by decide) (by kernel_rfl) (by kernel_rfl) (by kernel_rfl) (fun _ _ _ _ h => h) ((HKK.out _ HFA.out).1) (fun _ => (HKK.out _ HFA.out).2) (.inl (fun _ _ => trivial)) (fun o ho => by cases ho; exact .inl ⟨by rfl, fun w hSw => by (go_simp)⟩) ?_
              try simp only [Act.put, List.setIfInBounds_toArray, List.set_cons_zero, List.set_cons_succ]
              refine takeT (fun W => W.cell? ⟨wr.heap.size, 5, none⟩ = some (.slice ia S.length ic)) (i := 1) (d := some 60) (.slice ia S.length ic) rfl (by kernel_rfl) (by decide) (by kernel_rfl) (by kernel_rfl) (by kernel_rfl) (fun _ _ _ _ h => h) ((HKK.out _ HFA.out).1) (fun _ => (HKK.out _ HFA.out).2) (.inr ⟨fun _ h1 h2 => h2, by kernel_rfl, by kernel_rfl⟩) (fun o ho => by cases ho; exact .inl ⟨by rfl, fun w hSw => by (have hs5 := hSw; go_simp)⟩) ?_
              try simp only [Act.put, List.setIfInBounds_toArray, List.set_cons_zero, List.set_cons_succ]
              refine takeT (fun _ => True) (i := 2) (d := some 61) (.slice (some ⟨tb, tq, none⟩) T.length tc) rfl (by kernel_rfl) (by decide) (by kernel_rfl) (by kernel_rfl) (by kernel_rfl) (fun _ _ _ _ h => h) ((HKK.out _ HFA.out).1) (fun _ => (HKK.out _ HFA.out).2) (.inl (fun _ _ => trivial)) (fun o ho => by cases ho; exact .inl ⟨by rfl, fun w hSw => by (go_simp)⟩) ?_
              try simp only [Act.put, List.setIfInBounds_toArray, List.set_cons_zero, List.set_cons_succ]
              refine takeT (fun _ => True) (i := 3) (d := some 62) (.int .i64 (i : Int)) rfl (by kernel_rfl) (by decide) (by kernel_rfl) (by kernel_rfl) (by kernel_rfl) (fun _ _ _ _ h => h) ((HKK.out _ HFA.out).1) (fun _ => (HKK.out _ HFA.out).2) (.inl (fun _ _ => trivial)) (fun o ho => by cases ho; exact .inl ⟨by rfl, fun w hSw => by (go_simp)⟩) ?_
              try simp only [Act.put, List.setIfInBounds_toArray, List.set_cons_zero, List.set_cons_succ]
              refine takeT (fun _ => True) (i := 4) (d := some 63) (.pointer (some ⟨tb, tq + i, none⟩)) rfl (by kernel_rfl) (by decide) (by kernel_rfl) (by kernel_rfl) (by kernel_rfl) (fun _ _ _ _ h => h) ((HKK.out _ HFA.out).1) (fun _ => (HKK.out _ HFA.out).2) (.inl (fun _ _ => trivial)) (fun o ho => by cases ho; exact .inl ⟨by rfl, fun w hSw => by (go_simp)⟩) ?_
              try simp only [Act.put, List.setIfInBounds_toArray, List.set_cons_zero, List.set_cons_succ]
              refine takeT (fun W => W.cell? ⟨tb, tq + i, none⟩ = some (.slice (some ⟨sb, so, none⟩) t.length ci) ∧ W.cell? ⟨sb, so + k, none⟩ = some (.string ⟨s.toArray⟩)) (i := 5) (d := some 64) (.slice (some ⟨sb, so, none⟩) t.length ci) rfl (by kernel_rfl) (by decide) (by kernel_rfl) (by kernel_rfl) (by kernel_rfl) (fun _ _ _ _ h => h) ((HKK.out _ HFA.out).1) (fun _ => (HKK.out _ HFA.out).2) (.inl (fun _ h => h)) (fun o ho => by cases ho; exact .inl ⟨by rfl, fun w hSw => by (obtain ⟨hs5, hs6⟩ := hSw; go_simp)⟩) ?_
              try simp only [Act.put, List.setIfInBounds_toArray, List.set_cons_zero, List.set_cons_succ]
              refine takeT (fun _ => True) (i := 6) (d := some 65) (.int .i64 (k : Int)) rfl (by kernel_rfl) (by decide) (by kernel_rfl) (by kernel_rfl) (by kernel_rfl) (fun _ _ _ _ h => h) ((HKK.out _ HFA.out).1) (fun _ => (HKK.out _ HFA.out).2) (.inl (fun _ _ => trivial)) (fun o ho => by cases ho; exact .inl ⟨by rfl, fun w hSw => by (go_simp)⟩) ?_
              try simp only [Act.put, List.setIfInBounds_toArray, List.set_cons_zero, List.set_cons_succ]
              refine takeT (fun _ => True) (i := 7) (d := some 66) (.pointer (some ⟨sb, so + k, none⟩)) rfl (by kernel_rfl) (by decide) (by kernel_rfl) (by kernel_rfl) (by kernel_rfl) (fun _ _ _ _ h => h) ((HKK.out _ HFA.out).1) (fun _ => (HKK.out _ HFA.out).2) (.inl (fun _ _ => trivial)) (fun o ho => by cases ho; exact .inl ⟨by rfl, fun w hSw => by (go_simp)⟩) ?_
              try simp only [Act.put, List.setIfInBounds_toArray, List.set_cons_zero, List.set_cons_succ]
              refine takeT (fun W => W.cell? ⟨tb, tq + i, none⟩ = some (.slice (some ⟨sb, so, none⟩) t.length ci) ∧ W.cell? ⟨sb, so + k, none⟩ = some (.string ⟨s.toArray⟩)) (i := 8) (d := some 67) (.string ⟨s.toArray⟩) rfl (by kernel_rfl) (by decide) (by kernel_rfl) (by kernel_rfl) (by kernel_rfl) (fun _ _ _ _ h => h) ((HKK.out _ HFA.out).1) (fun _ => (HKK.out _ HFA.out).2) (.inl (fun _ h => h)) (fun o ho => by cases ho; exact .inl ⟨by rfl, fun w hSw => by (obtain ⟨hs5, hs6⟩ := hSw; go_simp)⟩) ?_
              try simp only [Act.put, List.setIfInBounds_toArray, List.set_cons_zero, List.set_cons_succ]
              refine oneT (i := 9) (by kernel_rfl) (by decide) (fun o ho K' hK => ?_)
              cases ho
              rw [if_pos (by rfl)]
              go_simp
              refine (text_any _ s).mono ?_
              rintro e WB ⟨rfl, fB⟩
              have HFB := hid (HFA.out.trans (fB.mono (fun _ h => h.elim)) (fun _ h => .inl h))
              have HOB := hid (own_fr HOA.out fB (fun _ _ h => h))
              refine hK.out _ _ (HKK.out _ HFB.out).1 (fun _ _ => (HKK.out _ HFB.out).2) ?_
              clear hK K' fB
              try simp only [Act.put, List.setIfInBounds_toArray, List.set_cons_zero, List.set_cons_succ]
              refine oneT (i := 10) (by kernel_rfl) (by decide) (fun o ho K' hK => ?_)
              cases ho
              rw [if_pos (by rfl)]
              go_simp
              have HFC : Hid (Fr (fun q => (Value.slice ia S.length ic).ownBlock = some q) wi (WB.alloc (.cells #[.int .i64 4, .int .i64 0, .float .f64 0, .string ⟨s.toArray⟩, .slice none 0 0, .slice none 0 0] 26))) := HFB.out.alloc _
              have HGC : Hid (Blk (WB.alloc (.cells #[.int .i64 4, .int .i64 0, .float .f64 0, .string ⟨s.toArray⟩, .slice none 0 0, .slice none 0 0] 26)) WB.heap.size 26 (vS s).cs) := Blk.new _ _ _
              have HOC : Hid ((WB.alloc (.cells #[.int .i64 4, .int .i64 0, .float .f64 0, .string ⟨s.toArray⟩, .slice none 0 0, .slice none 0 0] 26)).ownsRow (wr.heap.size + 1) 26 6 (.slice ia S.length ic) (S.map vS).length (flatV (S.map vS))) := own_alloc HOB.out _
              have HZC : Hid (wr.heap.size + 1 ≤ (WB.alloc (.cells #[.int .i64 4, .int .i64 0, .float .f64 0, .string ⟨s.toArray⟩, .slice none 0 0, .slice none 0 0] 26)).heap.size) := by unfold Hid; have h1 := HFC.out.size; have h2 := HJ.out.bv.lt; omega
              refine hK.out _ _ (HKK.out _ HFC.out).1 (fun _ _ => (HKK.out _ HFC.out).2) ?_
              clear hK K'
              try simp only [Act.put, List.setIfInBounds_toArray, List.set_cons_zero, List.set_cons_succ]
              generalize WB.alloc (.cells #[.int .i64 4, .int .i64 0, .float .f64 0, .string ⟨s.toArray⟩, .slice none 0 0, .slice none 0 0] 26) = WC at *
              refine oneT (i := 11) (by kernel_rfl) (by decide) (fun o ho K' hK => ?_)
              cases ho
              rw [if_pos (by rfl)]
              refine wp_app_value _ _ rfl (wr.heap.size + 1) _ (S.map vS) (vS s) _ _ (by rfl) (by rfl) HOC.out HGC.out HZC.out hX1000 ?_
              intro ia2 ic2 WD ho2 hg2
              rw [show (S.map vS).length + 1 = S.length + 1 by rw [List.length_map]] at ho2
              rw [show (S.map vS).length + 1 = S.length + 1 by rw [List.length_map]]
              have HFD := hid (HFC.out.grown hg2 (fun q hq => .inl hq))
              have HOD := hid ho2
              refine hK.out _ _ (HKK.out _ HFD.out).1 (fun _ _ => (HKK.out _ HFD.out).2) ?_
              clear hK K' hg2 ho2
              try simp only [Act.put, List.setIfInBounds_toArray]
              refine takeT (fun _ => True) (i := 12) (d := some 71) (.pointer (some ⟨wr.heap.size, 5, none⟩)) rfl (by kernel_rfl) (by decide) (by kernel_rfl) (by kernel_rfl) (by kernel_rfl) (fun _ _ _ _ h => h) ((HKK.out _ HFD.out).1) (fun _ => (HKK.out _ HFD.out).2) (.inl (fun _ _ => trivial)) (fun o ho => by cases ho; exact .inl ⟨by rfl, fun w hSw => by (go_simp)⟩) ?_
              try simp only [Act.put]
              have hbD := HFD.out.blk HJ.out.bv (fun h => by have := HOl.out _ h; omega)
              have hc5 := hbD.cell 5
              have hz5 := hbD.frozen 5
              have HbE := hid (hbD.setCell 5 (.slice ia2 (S.length + 1) ic2))
              have HFE : Hid (Fr (fun q => (Value.slice ia S.length ic).ownBlock = some q ∨ q = wr.heap.size) wi (WD.setCell ⟨wr.heap.size, 5, none⟩ (.slice ia2 (S.length + 1) ic2))) := (HFD.out.mono (fun q h => .inl h)).setCell (.inl (.inr rfl)) _
              have HOE : Hid ((WD.setCell ⟨wr.heap.size, 5, none⟩ (.slice ia2 (S.length + 1) ic2)).ownsRow (wr.heap.size + 1) 26 6 (.slice ia2 (S.length + 1) ic2) (S.map vS ++ [vS s]).length (flatV (S.map vS ++ [vS s]))) := own_keep HOD.out (Nat.lt_succ_self _) ((Fr.refl (· = wr.heap.size) WD).setCell (.inl rfl) _)
              have HFr : Hid (Fr (fun _ => False) wr (WD.setCell ⟨wr.heap.size, 5, none⟩ (.slice ia2 (S.length + 1) ic2))) := HJ.out.fr.trans HFE.out (fun q hq => .inr (by rcases hq with hq | hq; (· have := HOl.out q hq; omega); (· omega)))
              clear hbD
              refine oneT (i := 13) (by kernel_rfl) (by decide) (fun o ho K' hK => ?_)
              cases ho
              rw [if_pos (by rfl)]
              go_simp
              refine hK.out _ _ (HKS.out _ HFE.out) (fun h => absurd rfl h) ?_
              clear hK K'
              try simp only [Act.put, List.setIfInBounds_toArray, List.set_cons_zero, List.set_cons_succ]
              refine doneT (by kernel_rfl) (NoPanic.normal ?_)
              generalize WD.setCell ⟨wr.heap.size, 5, none⟩ (.slice ia2 (S.length + 1) ic2) = WE at *
              clear hc5 hz5 HKK HKS HFA HFB HFC HFD HFE HOA HOB HOC HOD HGC HZC HOi HOl HEi ct cs
              go_wp2_with fail
              have hsl2 : (S ++ [s]).length = S.length + 1 := by simp
              refine ⟨⟨k + 1, ia2, ic2, by omega, by first | rfl | (congr 1), by first | (rw [HSn.out, hsl2]; congr 1; done) | (rw [HSn.out, hsl2]; congr 1; omega), ?_⟩, by simp [intOf]; omega⟩
              rw [HSn.out]
              refine ⟨?_, ?_, HFr.out⟩
              · rw [hsl2]; exact HbE.out
              · rw [hsl2, List.map_append]; exact HOE.out
            · have h1024' : decide (((s.length : Nat) : Int) ≤ 1024) = false := decide_eq_false (by omega)
              rw [if_neg (fun e => h1024 e.2)] at HSn
              clear hs h1024 q2 hsl hn256
              go_wp2_with fail
              exact ⟨⟨k + 1, ia, ic, by omega, by first | rfl | (congr 1), by rw [HSn.out], by rw [HSn.out]; exact HJ.out⟩, by simp [intOf]; omega⟩
          · have HSe : Hid (takeS (t.take k) n0 = takeS t n0) := by
              unfold Hid
              by_cases hk1 : k < t.length
              · exact (takeS_full t n0 k (by omega)).symm
              · rw [List.take_of_length_le (by omega)]
            have HSk : Hid ((takeS (t.take k) n0).length ≤ 256 ∧ ∀ s ∈ takeS (t.take k) n0, s.length ≤ 1024) := ⟨by omega, (takeS_ok (t.take k) n0 hn256).2⟩
            have hex : (k : Int) < ((t.length : Nat) : Int) ∧ decide ((n0 : Int) + ((takeS (t.take k) n0).length : Int) < 256) = false ∨ ¬ (k : Int) < ((t.length : Nat) : Int) := by
              by_cases hk1 : k < t.length
              · exact .inl ⟨by omega, decide_eq_false (by omega)⟩
              · exact .inr (by omega)
            clear hgk hsl hn256 hlim
            generalize takeS (t.take k) n0 = S at *
            rcases hex with ⟨x1, x2⟩ | x1
            · go_wp2_with fail
              have HOl : Hid (∀ q, (Value.slice da F.length dc).ownBlock = some q → w.heap.size ≤ q ∧ q < wr.heap.size) := fun q hq => own_lt HI.out.row q hq
              have HEi : Hid (Env w wi) := Env.of (HI.out.fr.trans HJ.out.fr (fun _ h => h.elim))
              have HKK : Hid (∀ W, Fr (fun q => (Value.slice da F.length dc).ownBlock = some q) wi W → (six W wr.heap.size ⟨5, 0, 0, [], none, 0, 0, ia, S.length, ic⟩ ∧ W.cell? ⟨ob, oo + i, none⟩ = some (.int .i64 O[i])) ∧ True) := fun W hf => ⟨⟨(hf.blk HJ.out.bv (fun h => by have := HOl.out _ h; omega)).six, (HEi.out.fr hf (fun q hq => (HOl.out q hq).1)).cell HCo.out⟩, trivial⟩
              have hF1000 : F.length ≤ 1000 := by rw [HI.out.len]; omega
              refine wp_region_noPanic ?_
              refine region_till (fun W => six W wr.heap.size ⟨5, 0, 0, [], none, 0, 0, ia, S.length, ic⟩ ∧ W.cell? ⟨ob, oo + i, none⟩ = some (.int .i64 O[i])) (fun _ => True) 9 (by kernel_rfl) ?_
              have HFA : Hid (Fr (fun q => (Value.slice da F.length dc).ownBlock = some q) wi wi.drew) := (Fr.refl _ wi).drew
              have HOA : Hid (wi.drew.ownsRow w.heap.size 30 8 (.slice da F.length dc) F.length (flatD F)) := own_fr HI.out.row HJ.out.fr.drew (fun _ _ h => h)
              have HRA : Hid (wi.drew.ownsRow (wr.heap.size + 1) 26 6 (.slice ia S.length ic) (S.map vS).length (flatV (S.map vS))) := HJ.out.row
              have HZA : Hid (wi.heap.size ≤ wi.drew.heap.size) := HFA.out.size
              generalize wi.drew = WA at *
              refine takeT (fun _ => True) (i := 0) (d := some 74) (.slice da F.length dc) rfl (by kernel_rfl) (by decide) (by kernel_rfl) (by kernel_rfl) (by kernel_rfl) (fun _ _ _ _ h => h) ((HKK.out _ HFA.out).1) (fun _ => (HKK.out _ HFA.out).2) (.inl (fun _ _ => trivial)) (fun o ho => by cases ho; exact .inl ⟨by rfl, fun w hSw => by (go_simp)⟩) ?_
              try simp only [Act.put, List.setIfInBounds_toArray, List.set_cons_zero, List.set_cons_succ]
              refine takeT (fun W => six W wr.heap.size ⟨5, 0, 0, [], none, 0, 0, ia, S.length, ic⟩ ∧ W.cell? ⟨ob, oo + i, none⟩ = some (.int .i64 O[i])) (i := 1) (d := some 75) ((⟨5, 0, 0, [], none, 0, 0, ia, S.length, ic⟩ : Vv).v) rfl (by kernel_rfl) (by decide) (by kernel_rfl) (by kernel_rfl) (by kernel_rfl) (fun _ _ _ _ h => h) ((HKK.out _ HFA.out).1) (fun _ => (HKK.out _ HFA.out).2) (.inl (fun _ h => h)) (fun o ho => by cases ho; exact .inl ⟨by rfl, fun w hSw => by (obtain ⟨⟨hs0, hs1, hs2, hs3, hs4, hs5⟩, hs6⟩ := hSw; go_simp)⟩) ?_
              try simp only [Act.put, List.setIfInBounds_toArray, List.set_cons_zero, List.set_cons_succ]
              refine takeT (fun _ => True) (i := 2) (d := some 76) (.slice (some ⟨ob, oo, none⟩) O.length oc) rfl (by kernel_rfl) (by decide) (by kernel_rfl) (by kernel_rfl) (by kernel_rfl) (fun _ _ _ _ h => h) ((HKK.out _ HFA.out).1) (fun _ => (HKK.out _ HFA.out).2) (.inl (fun _ _ => trivial)) (fun o ho => by cases ho; exact .inl ⟨by rfl, fun w hSw => by (go_simp)⟩) ?_
              try simp only [Act.put, List.setIfInBounds_toArray, List.set_cons_zero, List.set_cons_succ]
              refine takeT (fun _ => True) (i := 3) (d := some 77) (.int .i64 (i : Int)) rfl (by kernel_rfl) (by decide) (by kernel_rfl) (by kernel_rfl) (by kernel_rfl) (fun _ _ _ _ h => h) ((HKK.out _ HFA.out).1) (fun _ => (HKK.out _ HFA.out).2) (.inl (fun _ _ => trivial)) (fun o ho => by cases ho; exact .inl ⟨by rfl, fun w hSw => by (go_simp)⟩) ?_
              try simp only [Act.put, List.setIfInBounds_toArray, List.set_cons_zero, List.set_cons_succ]
              refine takeT (fun _ => True) (i := 4) (d := some 78) (.pointer (some ⟨ob, oo + i, none⟩)) rfl (by kernel_rfl) (by decide) (by kernel_rfl) (by kernel_rfl) (by kernel_rfl) (fun _ _ _ _ h => h) ((HKK.out _ HFA.out).1) (fun _ => (HKK.out _ HFA.out).2) (.inl (fun _ _ => trivial)) (fun o ho => by cases ho; exact .inl ⟨by rfl, fun w hSw => by (go_simp)⟩) ?_
              try simp only [Act.put, List.setIfInBounds_toArray, List.set_cons_zero, List.set_cons_succ]
              refine takeT (fun W => six W wr.heap.size ⟨5, 0, 0, [], none, 0, 0, ia, S.length, ic⟩ ∧ W.cell? ⟨ob, oo + i, none⟩ = some (.int .i64 O[i])) (i := 5) (d := some 79) (.int .i64 O[i]) rfl (by kernel_rfl) (by decide) (by kernel_rfl) (by kernel_rfl) (by kernel_rfl) (fun _ _ _ _ h => h) ((HKK.out _ HFA.out).1) (fun _ => (HKK.out _ HFA.out).2) (.inl (fun _ h => h)) (fun o ho => by cases ho; exact .inl ⟨by rfl, fun w hSw => by (obtain ⟨⟨hs0, hs1, hs2, hs3, hs4, hs5⟩, hs6⟩ := hSw; go_simp)⟩) ?_
              try simp only [Act.put, List.setIfInBounds_toArray, List.set_cons_zero, List.set_cons_succ]
              refine takeT (fun _ => True) (i := 6) (d := some 80) ((⟨⟨5, 0, 0, [], none, 0, 0, ia, S.length, ic⟩, 100, O[i]⟩ : Dv).v) rfl (by kernel_rfl) (by decide) (by kernel_rfl) (by kernel_rfl) (by kernel_rfl) (fun _ _ _ _ h => h) ((HKK.out _ HFA.out).1) (fun _ => (HKK.out _ HFA.out).2) (.inl (fun _ _ => trivial)) (fun o ho => by cases ho; exact .inl ⟨by rfl, fun w hSw => by (go_simp)⟩) ?_
              try simp only [Act.put, List.setIfInBounds_toArray, List.set_cons_zero, List.set_cons_succ]
              refine oneT (i := 7) (by kernel_rfl) (by decide) (fun o ho K' hK => ?_)
              cases ho
              rw [if_pos (by rfl)]
              go_simp
              have HFC : Hid (Fr (fun q => (Value.slice da F.length dc).ownBlock = some q) wi (WA.alloc (.cells #[.int .i64 5, .int .i64 0, .float .f64 0, .string ⟨#[]⟩, .slice none 0 0, .slice ia S.length ic, .int .i64 100, .int .i64 O[i]] 30))) := HFA.out.alloc _
              have HGC : Hid (Blk (WA.alloc (.cells #[.int .i64 5, .int .i64 0, .float .f64 0, .string ⟨#[]⟩, .slice none 0 0, .slice ia S.length ic, .int .i64 100, .int .i64 O[i]] 30)) WA.heap.size 30 (Dv.cs ⟨⟨5, 0, 0, [], none, 0, 0, ia, S.length, ic⟩, 100, O[i]⟩)) := Blk.new _ _ _
              have HOC : Hid ((WA.alloc (.cells #[.int .i64 5, .int .i64 0, .float .f64 0, .string ⟨#[]⟩, .slice none 0 0, .slice ia S.length ic, .int .i64 100, .int .i64 O[i]] 30)).ownsRow w.heap.size 30 8 (.slice da F.length dc) F.length (flatD F)) := own_alloc HOA.out _
              have HRC : Hid ((WA.alloc (.cells #[.int .i64 5, .int .i64 0, .float .f64 0, .string ⟨#[]⟩, .slice none 0 0, .slice ia S.length ic, .int .i64 100, .int .i64 O[i]] 30)).ownsRow (wr.heap.size + 1) 26 6 (.slice ia S.length ic) (S.map vS).length (flatV (S.map vS))) := own_alloc HRA.out _
              have HZC : Hid (wi.heap.size ≤ (WA.alloc (.cells #[.int .i64 5, .int .i64 0, .float .f64 0, .string ⟨#[]⟩, .slice none 0 0, .slice ia S.length ic, .int .i64 100, .int .i64 O[i]] 30)).heap.size) := by unfold Hid; rw [World.size_alloc]; have := HZA.out; omega
              refine hK.out _ _ (HKK.out _ HFC.out).1 (fun _ _ => trivial) ?_
              clear hK K'
              try simp only [Act.put, List.setIfInBounds_toArray, List.set_cons_zero, List.set_cons_succ]
              generalize WA.alloc (.cells #[.int .i64 5, .int .i64 0, .float .f64 0, .string ⟨#[]⟩, .slice none 0 0, .slice ia S.length ic, .int .i64 100, .int .i64 O[i]] 30) = WC at *
              refine oneT (i := 8) (by kernel_rfl) (by decide) (fun o ho K' hK => ?_)
              cases ho
              rw [if_pos (by rfl)]
              refine wp_app_def _ _ rfl w.heap.size _ F (⟨lsV S, 100, O[i]⟩, ⟨⟨5, 0, 0, [], none, 0, 0, ia, S.length, ic⟩, 100, O[i]⟩) _ _ (by rfl) (by rfl) HOC.out HGC.out (by have h1 := HZC.out; have h2 := HEi.out.1; omega) hF1000 ?_
              intro g' ic' WD ho2 hg2 hg3
              have HFD := hid (HFC.out.grown hg2 (fun q hq => .inl hq))
              have HOD := hid ho2
              have HRD : Hid (WD.ownsRow (wr.heap.size + 1) 26 6 (.slice ia S.length ic) (S.map vS).length (flatV (S.map vS))) := owns_of_eq HRC.out (fun q hq => hg2.block q (own_lt HRC.out q hq).2 (fun e => by have h1 := (own_lt HRC.out q hq).1; have h2 := HOl.out q e.symm; omega))
              have HG3 : Hid (∀ q, (Value.slice (some ⟨g', 0, none⟩) (F.length + 1) ic').ownBlock = some q → (Value.slice da F.length dc).ownBlock = some q ∨ wi.heap.size ≤ q) := fun q hq => by
                simp only [Value.ownBlock, Option.some.injEq] at hq
                subst hq
                rcases hg3 with h | h
                · exact .inl h
                · exact .inr (by have := HZC.out; omega)
              refine hK.out _ _ (HKK.out _ HFD.out).1 (fun _ _ => trivial) ?_
              clear hK K' hg2 ho2 hg3
              try simp only [Act.put, List.setIfInBounds_toArray]
              refine oneT (i := 9) (by kernel_rfl) (by decide) (fun o ho K' hK => ?_)
              cases ho
              rw [if_pos (by rfl)]
              go_simp
              refine hK.out _ _ (HKK.out _ HFD.out).1 (fun h => absurd rfl h) ?_
              clear hK K'
              try simp only [Act.put, List.setIfInBounds_toArray, List.set_cons_zero, List.set_cons_succ]
              refine doneT (by kernel_rfl) (NoPanic.normal ?_)
              clear HKK HFA HFC HOA HOC HGC HRA HRC HZA HZC
              go_wp2_with fail
              refine ⟨⟨i + 1, _, by omega, by omega, by omega, by first | rfl | (congr 1), ?_, out_next HI.out HJ.out HFD.out HOD.out HRD.out HG3.out (by rw [HD.out, HSe.out]) HSk.out.1 HSk.out.2 HO64.out⟩, by simp [intOf]; omega⟩
              rw [HD.out, HSe.out]
              rfl
            · go_wp2_with fail
              have HOl : Hid (∀ q, (Value.slice da F.length dc).ownBlock = some q → w.heap.size ≤ q ∧ q < wr.heap.size) := fun q hq => own_lt HI.out.row q hq
              have HEi : Hid (Env w wi) := Env.of (HI.out.fr.trans HJ.out.fr (fun _ h => h.elim))
              have HKK : Hid (∀ W, Fr (fun q => (Value.slice da F.length dc).ownBlock = some q) wi W → (six W wr.heap.size ⟨5, 0, 0, [], none, 0, 0, ia, S.length, ic⟩ ∧ W.cell? ⟨ob, oo + i, none⟩ = some (.int .i64 O[i])) ∧ True) := fun W hf => ⟨⟨(hf.blk HJ.out.bv (fun h => by have := HOl.out _ h; omega)).six, (HEi.out.fr hf (fun q hq => (HOl.out q hq).1)).cell HCo.out⟩, trivial⟩
              have hF1000 : F.length ≤ 1000 := by rw [HI.out.len]; omega
              refine wp_region_noPanic ?_
              refine region_till (fun W => six W wr.heap.size ⟨5, 0, 0, [], none, 0, 0, ia, S.length, ic⟩ ∧ W.cell? ⟨ob, oo + i, none⟩ = some (.int .i64 O[i])) (fun _ => True) 9 (by kernel_rfl) ?_
              have HFA : Hid (Fr (fun q => (Value.slice da F.length dc).ownBlock = some q) wi wi.drew) := (Fr.refl _ wi).drew
              have HOA : Hid (wi.drew.ownsRow w.heap.size 30 8 (.slice da F.length dc) F.length (flatD F)) := own_fr HI.out.row HJ.out.fr.drew (fun _ _ h => h)
              have HRA : Hid (wi.drew.ownsRow (wr.heap.size + 1) 26 6 (.slice ia S.length ic) (S.map vS).length (flatV (S.map vS))) := HJ.out.row
              have HZA : Hid (wi.heap.size ≤ wi.drew.heap.size) := HFA.out.size
              generalize wi.drew = WA at *
              refine takeT (fun _ => True) (i := 0) (d := some 74) (.slice da F.length dc) rfl (by kernel_rfl) (by decide) (by kernel_rfl) (by kernel_rfl) (by kernel_rfl) (fun _ _ _ _ h => h) ((HKK.out _ HFA.out).1) (fun _ => (HKK.out _ HFA.out).2) (.inl (fun _ _ => trivial)) (fun o ho => by cases ho; exact .inl ⟨by rfl, fun w hSw => by (go_simp)⟩) ?_
              try simp only [Act.put, List.setIfInBounds_toArray, List.set_cons_zero, List.set_cons_succ]
              refine takeT (fun W => six W wr.heap.size ⟨5, 0, 0, [], none, 0, 0, ia, S.length, ic⟩ ∧ W.cell? ⟨ob, oo + i, none⟩ = some (.int .i64 O[i])) (i := 1) (d := some 75) ((⟨5, 0, 0, [], none, 0, 0, ia, S.length, ic⟩ : Vv).v) rfl (by kernel_rfl) (by decide) (by kernel_rfl) (by kernel_rfl) (by kernel_rfl) (fun _ _ _ _ h => h) ((HKK.out _ HFA.out).1) (fun _ => (HKK.out _ HFA.out).2) (.inl (fun _ h => h)) (fun o ho => by cases ho; exact .inl ⟨by rfl, fun w hSw => by (obtain ⟨⟨hs0, hs1, hs2, hs3, hs4, hs5⟩, hs6⟩ := hSw; go_simp)⟩) ?_
              try simp only [Act.put, List.setIfInBounds_toArray, List.set_cons_zero, List.set_cons_succ]
              refine takeT (fun _ => True) (i := 2) (d := some 76) (.slice (some ⟨ob, oo, none⟩) O.length oc) rfl (by kernel_rfl) (by decide) (by kernel_rfl) (by kernel_rfl) (by kernel_rfl) (fun _ _ _ _ h => h) ((HKK.out _ HFA.out).1) (fun _ => (HKK.out _ HFA.out).2) (.inl (fun _ _ => trivial)) (fun o ho => by cases ho; exact .inl ⟨by rfl, fun w hSw => by (go_simp)⟩) ?_
              try simp only [Act.put, List.setIfInBounds_toArray, List.set_cons_zero, List.set_cons_succ]
              refine takeT (fun _ => True) (i := 3) (d := some 77) (.int .i64 (i : Int)) rfl (by kernel_rfl) (by decide) (by kernel_rfl) (by kernel_rfl) (by kernel_rfl) (fun _ _ _ _ h => h) ((HKK.out _ HFA.out).1) (fun _ => (HKK.out _ HFA.out).2) (.inl (fun _ _ => trivial)) (fun o ho => by cases ho; exact .inl ⟨by rfl, fun w hSw => by (go_simp)⟩) ?_
              try simp only [Act.put, List.setIfInBounds_toArray, List.set_cons_zero, List.set_cons_succ]
              refine takeT (fun _ => True) (i := 4) (d := some 78) (.pointer (some ⟨ob, oo + i, none⟩)) rfl (by kernel_rfl) (by decide) (by kernel_rfl) (by kernel_rfl) (by kernel_rfl) (fun _ _ _ _ h => h) ((HKK.out _ HFA.out).1) (fun _ => (HKK.out _ HFA.out).2) (.inl (fun _ _ => trivial)) (fun o ho => by cases ho; exact .inl ⟨by rfl, fun w hSw => by (go_simp)⟩) ?_
              try simp only [Act.put, List.setIfInBounds_toArray, List.set_cons_zero, List.set_cons_succ]
              refine takeT (fun W => six W wr.heap.size ⟨5, 0, 0, [], none, 0, 0, ia, S.length, ic⟩ ∧ W.cell? ⟨ob, oo + i, none⟩ = some (.int .i64 O[i])) (i := 5) (d := some 79) (.int .i64 O[i]) rfl (by kernel_rfl) (by decide) (by kernel_rfl) (by kernel_rfl) (by kernel_rfl) (fun _ _ _ _ h => h) ((HKK.out _ HFA.out).1) (fun _ => (HKK.out _ HFA.out).2) (.inl (fun _ h => h)) (fun o ho => by cases ho; exact .inl ⟨by rfl, fun w hSw => by (obtain ⟨⟨hs0, hs1, hs2, hs3, hs4, hs5⟩, hs6⟩ := hSw; go_simp)⟩) ?_
              try simp only [Act.put, List.setIfInBounds_toArray, List.set_cons_zero, List.set_cons_succ]
              refine takeT (fun _ => True) (i := 6) (d := some 80) ((⟨⟨5, 0, 0, [], none, 0, 0, ia, S.length, ic⟩, 100, O[i]⟩ : Dv).v) rfl (by kernel_rfl) (by decide) (by kernel_rfl) (by kernel_rfl) (by kernel_rfl) (fun _ _ _ _ h => h) ((HKK.out _ HFA.out).1) (fun _ => (HKK.out _ HFA.out).2) (.inl (fun _ _ => trivial)) (fun o ho => by cases ho; exact .inl ⟨by rfl, fun w hSw => by (go_simp)⟩) ?_
              try simp only [Act.put, List.setIfInBounds_toArray, List.set_cons_zero, List.set_cons_succ]
              refine oneT (i := 7) (by kernel_rfl) (by decide) (fun o ho K' hK => ?_)
              cases ho
              rw [if_pos (by rfl)]
              go_simp
              have HFC : Hid (Fr (fun q => (Value.slice da F.length dc).ownBlock = some q) wi (WA.alloc (.cells #[.int .i64 5, .int .i64 0, .float .f64 0, .string ⟨#[]⟩, .slice none 0 0, .slice ia S.length ic, .int .i64 100, .int .i64 O[i]] 30))) := HFA.out.alloc _
              have HGC : Hid (Blk (WA.alloc (.cells #[.int .i64 5, .int .i64 0, .float .f64 0, .string ⟨#[]⟩, .slice none 0 0, .slice ia S.length ic, .int .i64 100, .int .i64 O[i]] 30)) WA.heap.size 30 (Dv.cs ⟨⟨5, 0, 0, [], none, 0, 0, ia, S.length, ic⟩, 100, O[i]⟩)) := Blk.new _ _ _
              have HOC : Hid ((WA.alloc (.cells #[.int .i64 5, .int .i64 0, .float .f64 0, .string ⟨#[]⟩, .slice none 0 0, .slice ia S.length ic, .int .i64 100, .int .i64 O[i]] 30)).ownsRow w.heap.size 30 8 (.slice da F.length dc) F.length (flatD F)) := own_alloc HOA.out _
              have HRC : Hid ((WA.alloc (.cells #[.int .i64 5, .int .i64 0, .float .f64 0, .string ⟨#[]⟩, .slice none 0 0, .slice ia S.length ic, .int .i64 100, .int .i64 O[i]] 30)).ownsRow (wr.heap.size + 1) 26 6 (.slice ia S.length ic) (S.map vS).length (flatV (S.map vS))) := own_alloc HRA.out _
              have HZC : Hid (wi.heap.size ≤ (WA.alloc (.cells #[.int .i64 5, .int .i64 0, .float .f64 0, .string ⟨#[]⟩, .slice none 0 0, .slice ia S.length ic, .int .i64 100, .int .i64 O[i]] 30)).heap.size) := by unfold Hid; rw [World.size_alloc]; have := HZA.out; omega
              refine hK.out _ _ (HKK.out _ HFC.out).1 (fun _ _ => trivial) ?_
              clear hK K'
              try simp only [Act.put, List.setIfInBounds_toArray, List.set_cons_zero, List.set_cons_succ]
              generalize WA.alloc (.cells #[.int .i64 5, .int .i64 0, .float .f64 0, .string ⟨#[]⟩, .slice none 0 0, .slice ia S.length ic, .int .i64 100, .int .i64 O[i]] 30) = WC at *
              refine oneT (i := 8) (by kernel_rfl) (by decide) (fun o ho K' hK => ?_)
              cases ho
              rw [if_pos (by rfl)]
              refine wp_app_def _ _ rfl w.heap.size _ F (⟨lsV S, 100, O[i]⟩, ⟨⟨5, 0, 0, [], none, 0, 0, ia, S.length, ic⟩, 100, O[i]⟩) _ _ (by rfl) (by rfl) HOC.out HGC.out (by have h1 := HZC.out; have h2 := HEi.out.1; omega) hF1000 ?_
              intro g' ic' WD ho2 hg2 hg3
              have HFD := hid (HFC.out.grown hg2 (fun q hq => .inl hq))
              have HOD := hid ho2
              have HRD : Hid (WD.ownsRow (wr.heap.size + 1) 26 6 (.slice ia S.length ic) (S.map vS).length (flatV (S.map vS))) := owns_of_eq HRC.out (fun q hq => hg2.block q (own_lt HRC.out q hq).2 (fun e => by have h1 := (own_lt HRC.out q hq).1; have h2 := HOl.out q e.symm; omega))
              have HG3 : Hid (∀ q, (Value.slice (some ⟨g', 0, none⟩) (F.length + 1) ic').ownBlock = some q → (Value.slice da F.length dc).ownBlock = some q ∨ wi.heap.size ≤ q) := fun q hq => by
                simp only [Value.ownBlock, Option.some.injEq] at hq
                subst hq
                rcases hg3 with h | h
                · exact .inl h
                · exact .inr (by have := HZC.out; omega)
              refine hK.out _ _ (HKK.out _ HFD.out).1 (fun _ _ => trivial) ?_
              clear hK K' hg2 ho2 hg3
              try simp only [Act.put, List.setIfInBounds_toArray]
              refine oneT (i := 9) (by kernel_rfl) (by decide) (fun o ho K' hK => ?_)
              cases ho
              rw [if_pos (by rfl)]
              go_simp
              refine hK.out _ _ (HKK.out _ HFD.out).1 (fun h => absurd rfl h) ?_
              clear hK K'
              try simp only [Act.put, List.setIfInBounds_toArray, List.set_cons_zero, List.set_cons_succ]
              refine doneT (by kernel_rfl) (NoPanic.normal ?_)
              clear HKK HFA HFC HOA HOC HGC HRA HRC HZA HZC
              go_wp2_with fail
              refine ⟨⟨i + 1, _, by omega, by omega, by omega, by first | rfl | (congr 1), ?_, out_next HI.out HJ.out HFD.out HOD.out HRD.out HG3.out (by rw [HD.out, HSe.out]) HSk.out.1 HSk.out.2 HO64.out⟩, by simp [intOf]; omega⟩
              rw [HD.out, HSe.out]
              rfl
      · have hex : ¬ (i : Int) < ((T.length : Nat) : Int) ∨ ((i : Int) < ((T.length : Nat) : Int) ∧ ¬ (i : Int) < ((O.length : Nat) : Int)) ∨ ((i : Int) < ((T.length : Nat) : Int) ∧ (i : Int) < ((O.length : Nat) : Int) ∧ ¬ (i : Int) < 20) := by omega
        have HI20 := hid hi20
        clear hgo hn256 hiT hiO hi20
        rcases hex with x1 | ⟨x1, x2⟩ | ⟨x1, x2, x3⟩
        all_goals
          go_wp2_with fail
          all_goals go_meet
          exact ⟨i, F, da, dc, rfl, rfl, HI20.out, HI.out⟩
  case rest =>
    obtain ⟨i, F, da, dc, rfl, rfl, hi20, hI⟩ := hcut
    have HI := hid hI
    have HI20 := hid hi20
    clear hI hi20 HF1
    have hrd : readT [108, 105, 115, 116, 32, 115, 116, 114, 105, 110, 103] = some (.list (.bare sString)) := rfl
    by_cases h0 : i = 0
    · subst h0
      obtain rfl : F = [] := List.eq_nil_of_length_eq_zero HI.out.len
      have HC := hid (Merge_unset wc [108, 105, 115, 116, 32, 115, 116, 114, 105, 110, 103] da dc (by decide) (HM.out.env (Env.of HI.out.fr)) _ hrd)
      clear hrd
      go_wp2_with fail
      refine HC.out.mono ?_
      rintro e w3 ⟨rfl, f3⟩
      have HF4 := hid ((HI.out.fr.trans f3 (fun _ h => h.elim)).trans (vFr w3 vZ) (fun _ h => h.elim))
      clear f3
      go_wp2_with fail
      go_ret
      exact ⟨rfl, HF4.out⟩
    · obtain ⟨L, hL⟩ : ∃ L, L = (dfs T O i).1 := ⟨_, rfl⟩
      obtain ⟨n0, hn0⟩ : ∃ n, n = (dfs T O i).2 := ⟨_, rfl⟩
      have hLn : L.length = i := by rw [hL]; exact (dfs_len T O i).1
      have hne : L ≠ [] := fun e => h0 (by rw [← hLn, e]; rfl)
      have hok : ∀ d ∈ L, DfOk d := fun d hd => dfs_ok T O i d (hL ▸ hd)
      have hp : ∀ d ∈ L, d.p = 100 := fun d hd => (hok d hd).1
      have hn256 : n0 ≤ 256 := by rw [hn0]; exact (dfs_len T O i).2
      have hUl : (allU (cntV L)).length = n0 := by rw [cntV_sum hne hp, hL, hn0]; exact dfs_sum T O i
      have hDs : DsIn wc L da := by
        have h := ds_own HI.out.row (fun z hz => HI.out.safe z hz wc (Fr.refl _ _))
        rw [HI.out.is, ← hL] at h
        exact h
      have hi20 := HI20.out
      have hcV : ∀ u ∈ cntV L, ∃ d ∈ L, u = d.v := fun u hu => by
        rw [cntV_tag hne hp] at hu
        obtain ⟨z, hz, rfl⟩ := List.mem_map.1 hu
        have hm := (tagS_perm L).mem_iff.1 hz
        rw [List.mem_zipIdx_iff_getElem?] at hm
        exact ⟨z.1, List.mem_of_getElem? hm, rfl⟩
      have hFL : F.length = L.length := by rw [hLn]; exact HI.out.len
      have HMg : Hid (Calls Tryz.prog 17 #[.string ⟨#[108, 105, 115, 116, 32, 115, 116, 114, 105, 110, 103]⟩, .slice da F.length dc] wc fun e w' => TPost wc (allU (cntV L)) e w') := by
        unfold Hid
        rw [hFL]
        exact Merge_list wc [108, 105, 115, 116, 32, 115, 116, 114, 105, 110, 103] L da dc (by decide) (HM.out.env (Env.of HI.out.fr)) (.bare sString) hrd hDs (by omega) hne (by rw [cnt_all hne hp]; omega) (by rw [cnt_all hne hp]; omega) (List.all_eq_true.2 fun d hd => (hok d hd).2.1)
          (fun u hu => by obtain ⟨d, hd, rfl⟩ := hcV u hu; exact (hok d hd).2.1) (List.all_eq_true.2 fun u hu => by obtain ⟨d, hd, rfl⟩ := hcV u hu; exact (hok d hd).2.2)
      have HDs := hid hDs
      have HUl := hid hUl
      have HTg : Hid (cntV L = (tagS L).map (·.1.v)) := cntV_tag hne hp
      have HOk := hid hok
      have HFr := hid HI.out.fr
      have HNe := hid hne
      rw [← hn0]
      rw [hFL]
      rw [hFL] at HMg
      clear hcV hDs hUl hok hp hne hL hn0 hrd h0 HI hFL
      have hL20 : L.length ≤ 20 := by omega
      have hL0 : (((L.length : Nat) : Int) == 0) = false := by simp; exact HNe.out
      clear hLn hi20 HI20
      go_wp2_with fail
      refine HMg.out.mono ?_
      rintro e w3 ⟨f3, ⟨h256, rfl⟩ | ⟨h256, X, ia, ic, rfl, hO, hXl, hXt⟩⟩
      · exfalso
        have := HUl.out
        omega
      have hXn : X.length = n0 := by rw [hXl]; exact HUl.out
      subst hXn
      have HO3 := hid hO
      have HF3 := hid (HFr.out.trans f3 (fun _ h => h.elim))
      have HDs3 := hid (HDs.out.env (Env.of f3))
      have HXt : Hid (∀ r (hr : r < (tagS L).length) k (hk : k < (tagS L)[r].1.v.its.length), ∃ h' : atN L r + k < X.length, X[atN L r + k].t = ((tagS L)[r].1.v.its[k]).t) := fun r hr k hk => by
        have e := allU_at hr hk
        rw [← HTg.out] at e
        obtain ⟨h1, h2⟩ := List.getElem?_eq_some_iff.1 e
        have h3 : atN L r + k < X.length := by rw [hXl]; exact h1
        exact ⟨h3, by rw [hXt _ h1 h3, h2]⟩
      clear f3 h256 hO hXl hXt HMg HFr HDs HUl HTg
      have hmk := mk_bools (w3.alloc (.cells #[.int .i64 5, .int .i64 0, .float .f64 0, .string ⟨#[]⟩, .slice none 0 0, .slice ia X.length ic] 26)) L.length (by omega)
      go_wp2_with fail
      clear hmk
      obtain ⟨db, dof, rfl, hda⟩ := HDs3.out HNe.out
      have HDA := hid hda
      clear hda HDs3
      go_loopw [13, 15, 16, 17, 18] (fun av rv _ _ _ wr => ∃ r : Nat, r ≤ L.length ∧ rv = .int .i64 (r : Int) ∧ av = .int .i64 (atN L r : Int) ∧ RI w3 wr ia X.length ic L r) (fun _ rv _ _ _ _ => L.length - (intOf rv).toNat)
      case atStart => exact ⟨0, Nat.zero_le _, rfl, rfl, ri_zero w3 ia X.length ic L⟩
      case round =>
        obtain ⟨r, hr, rfl, rfl, hR⟩ := hrel
        have HR := hid hR
        clear hR
        rename World => wr
        by_cases hlt : r < L.length
        · have hlt' : (r : Int) < ((L.length : Nat) : Int) := by omega
          go_wp2_with fail
          go_loopw [16, 17] (fun nv iv wi => ∃ (i : Nat) (nx : Option Nat), i ≤ L.length ∧ iv = .int .i64 (i : Int) ∧ nv = .int .i64 (nxI nx) ∧ Best L r i nx ∧ Fr (fun _ => False) wr wi) (fun _ iv _ => L.length - (intOf iv).toNat)
          case atStart => exact ⟨0, none, Nat.zero_le _, rfl, rfl, best_zero L r, Fr.refl _ _⟩
          case round =>
            obtain ⟨i, nx, hi, rfl, rfl, hB, hFi⟩ := hrel
            have HB := hid hB
            have HFi := hid hFi
            clear hB hFi
            rename World => wi
            by_cases hli : i < L.length
            · have hli' : (i : Int) < ((L.length : Nat) : Int) := by omega
              have hU : wi.cell? ⟨w3.heap.size + 1, i, none⟩ = some (.bool (usB L r i)) := by
                have h := (HFi.out.blk HR.out.bu (fun h => h)).cell i
                rw [h, List.getElem?_map, usd_get L r i hli]; rfl
              have HEv : Hid (Env w3 wi) := HR.out.env.trans (Env.of HFi.out)
              cases hu : usB L r i with
              | true =>
                have HB2 := hid (best_used HB.out hu)
                rw [hu] at hU
                clear hu HB
                generalize hni : nxI nx = ni
                go_wp2_with fail
                go_quiet (fail)
                have HE3 : Hid (Fr (fun _ => False) wr (wi.drewN nq)) := HFi.out.drewN nq
                go_wp2_with fail
                exact ⟨⟨i + 1, nx, by omega, by first | rfl | (congr 1), by rw [hni], HB2.out, HE3.out⟩, by simp [intOf]; omega⟩
              | false =>
                rw [hu] at hU
                cases nx with
                | none =>
                  have HB2 := hid (best_first hli HB.out hu)
                  clear hu HB
                  simp only [nxI]
                  go_wp2_with fail
                  go_quiet (fail)
                  have HE3 : Hid (Fr (fun _ => False) wr (wi.drewN nq)) := HFi.out.drewN nq
                  go_wp2_with fail
                  exact ⟨⟨i + 1, some i, by omega, by first | rfl | (congr 1), rfl, HB2.out, HE3.out⟩, by simp [intOf]; omega⟩
                | some b =>
                  have hbl : b < L.length := HB.out.1
                  obtain ⟨y, y1, y2⟩ := HDA.out i hli
                  obtain ⟨z, z1, z2⟩ := HDA.out b hbl
                  obtain ⟨-, -, -, -, -, -, -, k7⟩ := eight_env y1 HEv.out
                  obtain ⟨-, -, -, -, -, -, -, j7⟩ := eight_env z1 HEv.out
                  rw [y2.2.2.1] at k7
                  rw [z2.2.2.1] at j7
                  have hb' : (b : Int) < ((L.length : Nat) : Int) := by omega
                  have hb0 : decide ((b : Int) < 0) = false := by simp
                  clear y1 z1 y2 z2
                  simp only [nxI]
                  by_cases ho : L[i].o < L[b].o
                  · have HB2 := hid (best_new hli HB.out hu hbl ho)
                    have ho' : decide (L[i].o < L[b].o) = true := by simpa using ho
                    clear hu HB ho
                    generalize L[i].o = oi at *
                    generalize L[b].o = ob at *
                    go_wp2_with fail
                    go_quiet (fail)
                    have HE3 : Hid (Fr (fun _ => False) wr (wi.drewN nq)) := HFi.out.drewN nq
                    go_wp2_with fail
                    exact ⟨⟨i + 1, some i, by omega, by first | rfl | (congr 1), rfl, HB2.out, HE3.out⟩, by simp [intOf]; omega⟩
                  · have HB2 := hid (best_keep hli HB.out hbl ho)
                    have ho' : decide (L[i].o < L[b].o) = false := by simpa using ho
                    clear hu HB ho
                    generalize L[i].o = oi at *
                    generalize L[b].o = ob at *
                    go_wp2_with fail
                    go_quiet (fail)
                    have HE3 : Hid (Fr (fun _ => False) wr (wi.drewN nq)) := HFi.out.drewN nq
                    go_wp2_with fail
                    exact ⟨⟨i + 1, some b, by omega, by first | rfl | (congr 1), rfl, HB2.out, HE3.out⟩, by simp [intOf]; omega⟩
            · have hli' : ¬ (i : Int) < ((L.length : Nat) : Int) := by omega
              obtain rfl : i = L.length := by omega
              obtain ⟨b, rfl, hbl, hr', hrb⟩ := best_is hlt HB.out
              have hb' : (b : Int) < ((L.length : Nat) : Int) := by omega
              have hBu : Blk wi (w3.heap.size + 1) 4 ((usd L r).map Value.bool) := HFi.out.blk HR.out.bu (fun h => h)
              have hcb := hBu.cell b
              rw [List.getElem?_map, usd_get L r b hbl, Option.map_some] at hcb
              have hzb := hBu.frozen b
              have HRn : Hid (RI w3 (wi.setCell ⟨w3.heap.size + 1, b, none⟩ (.bool true)) ia X.length ic L (r + 1)) := by
                refine ⟨?_, ((HR.out.fr.trans HFi.out (fun _ h => h.elim))).setCell (.inl rfl) _⟩
                rw [← usd_next hr' hrb, List.map_set]
                exact hBu.setCell b (.bool true)
              have hL1 : (tagS L)[r].1 = L[b] := by
                obtain ⟨h1, h2⟩ := tagS_at L r hr'
                rw [h2]
                congr 1
              have HXk : Hid (∀ k (hk : k < L[b].v.its.length), ∃ h' : atN L r + k < X.length, X[atN L r + k].t = (L[b].v.its[k]).t) := fun k hk => by
                have h := HXt.out r hr' k (by rw [hL1]; exact hk)
                obtain ⟨h1, h2⟩ := h
                refine ⟨h1, h2.trans ?_⟩
                simp only [hL1]
              have HAt : Hid (atN L (r + 1) = atN L r + L[b].v.its.length) := by
                unfold Hid
                rw [atN_next hr', hL1]
              clear hBu hL1 hrb HB HR HFi HXt
              simp only [nxI]
              go_wp2_with fail
              generalize wi.setCell ⟨w3.heap.size + 1, b, none⟩ (.bool true) = wu at *
              clear hcb hzb
              obtain ⟨y, y1, y2⟩ := HDA.out b hbl
              have HY1 := hid y1
              have HY2 := hid y2.1
              have hil : y.x.il = L[b].v.its.length := y2.1.parts.2.2.2.1.1
              clear y1 y2
              generalize L[b].v = u at *
              go_loopw [13, 18] (fun av kv wk => ∃ (k a : Nat), k ≤ u.its.length ∧ a = atN L r + k ∧ kv = .int .i64 (k : Int) ∧ av = .int .i64 (a : Int) ∧ Fr (fun _ => False) wu wk) (fun _ kv _ => u.its.length - (intOf kv).toNat)
              case atStart => exact ⟨0, atN L r, Nat.zero_le _, rfl, rfl, rfl, Fr.refl _ _⟩
              case round =>
                obtain ⟨k, a, hk, ha, rfl, rfl, hFk⟩ := hrel
                have HFk := hid hFk
                clear hFk
                rename World => wk
                have HEv : Hid (Env w3 wk) := HRn.out.env.trans (Env.of HFk.out)
                obtain ⟨-, -, -, -, -, k5, -, -⟩ := eight_env HY1.out HEv.out
                rw [hil] at k5
                by_cases hlk : k < u.its.length
                · have hlk' : (k : Int) < ((u.its.length : Nat) : Int) := by omega
                  obtain ⟨hax, hte⟩ := HXk.out k hlk
                  obtain ⟨g, rfl, hx⟩ := row_at HO3.out (atN L r + k) hax
                  obtain ⟨ib, io, z, hia, z1, z2⟩ := HY2.out.item k hlk
                  have hbv := (Env.of HFk.out).cell HRn.out.bv
                  have hx' := HEv.out.cell hx
                  have hz' := HEv.out.cell (z1.six.2.2.2.1)
                  rw [z2.parts.1.2.2.2, ← hte] at hz'
                  rw [hia] at k5
                  generalize X[atN L r + k].t = te at *
                  rw [← ha] at hx' hax
                  have ha' : (a : Int) < ((X.length : Nat) : Int) := by omega
                  have hk256 : k ≤ 256 := by omega
                  have HA := hid ha
                  clear hx hte z1 z2 hia ha
                  go_wp2_with fail
                  go_quiet (fail)
                  have HE3 : Hid (Fr (fun _ => False) wu (wk.drewN nq)) := HFk.out.drewN nq
                  go_wp2_with fail
                  exact ⟨⟨k + 1, a + 1, by omega, by have := HA.out; omega, by first | rfl | (congr 1), by first | rfl | (congr 1), HE3.out⟩, by simp [intOf]; omega⟩
                · have hlk' : ¬ (k : Int) < ((u.its.length : Nat) : Int) := by omega
                  obtain rfl : k = u.its.length := by omega
                  have HRe : Hid (RI w3 wk ia X.length ic L (r + 1)) := ⟨HFk.out.blk HRn.out.bu (fun h => h), HRn.out.fr.trans HFk.out (fun _ h => h.elim)⟩
                  rw [← HAt.out] at ha
                  subst ha
                  go_wp2_with fail
                  exact ⟨⟨r + 1, by omega, by first | rfl | (congr 1), rfl, HRe.out⟩, by simp [intOf]; omega⟩
        · have hlt' : ¬ (r : Int) < ((L.length : Nat) : Int) := by omega
          have HFe := hid (HR.out.frw HF3.out)
          go_wp2_with fail
          go_ret
          exact ⟨rfl, HFe.out⟩
end Go.Proofs.YtniailfcmlongaaGreatDoor.Tr
