/- The contract of gather. (Written by gen/gentga.py.) -/
import Derived.Test.YtniailfcmlongaaGreatDoorTgp
import Derived.Test.YtniailfcmlongaaGreatDoorShi
import Derived.Laws.MakeOwn
namespace Go.Proofs.YtniailfcmlongaaGreatDoor.Tr
open Go.RowKit Go.Maps Go.Sort

/-- Sets that are right. -/
structure Ats (l : List Vt) : Prop where
  ns : ∀ u ∈ l, u.ns.length = u.its.length
  ln : ∀ u ∈ l, u.ns.length ≤ 256
  nd : ∀ u ∈ l, u.ns.Nodup
  nl : ∀ u ∈ l, ∀ t ∈ u.ns, t.length ≤ 1024
def upd {α : Type} (f : Nat → α) (a : Nat) (v : α) : Nat → α := fun b => if b = a then v else f b
/-- Rows under names, each in memory of its own. -/
structure Fam (w0 : World) (sb : Nat) (N : List (List UInt8)) (U : List UInt8 → List Vt) (H : Nat → Value) (X : Nat → List Vv) (wr : World) : Prop where
  blk : Blk wr sb 24 ((List.range N.length).map H)
  own : ∀ a, a < N.length → wr.ownsRow (sb + 1) 26 6 (H a) (X a).length (flatV (X a))
  ap : ∀ a b, a < N.length → b < N.length → a ≠ b → ∀ k, (H a).ownBlock = some k → (H b).ownBlock ≠ some k
  ri : ∀ a (h : a < N.length), RowIs w0 (U N[a]) (X a)
theorem set_range (n a : Nat) (H : Nat → Value) (v : Value) : ((List.range n).map H).set a v = (List.range n).map (upd H a v) := by
  refine List.ext_getElem (by simp) (fun i h1 h2 => ?_)
  rw [List.getElem_set]
  simp only [List.getElem_map, List.getElem_range, upd]
  by_cases e : a = i
  · rw [if_pos e, if_pos e.symm]
  · rw [if_neg e, if_neg (Ne.symm e)]
theorem Fam.cell {w0 : World} {sb : Nat} {N : List (List UInt8)} {U : List UInt8 → List Vt} {H : Nat → Value} {X : Nat → List Vv} {wr : World} (h : Fam w0 sb N U H X wr) {a : Nat} (ha : a < N.length) : wr.cell? ⟨sb, a, none⟩ = some (H a) := by
  rw [h.blk.cell a]; simp [ha]
theorem Fam.fr {w0 : World} {sb : Nat} {N : List (List UInt8)} {U : List UInt8 → List Vt} {H : Nat → Value} {X : Nat → List Vv} {wr W : World} (h : Fam w0 sb N U H X wr) (f : Fr (fun _ => False) wr W) : Fam w0 sb N U H X W :=
  ⟨f.blk h.blk (fun h => h), fun a ha => own_fr (h.own a ha) f (fun _ _ h => h), h.ap, h.ri⟩
theorem Fam.to {w0 : World} {sb : Nat} {N : List (List UInt8)} {U U' : List UInt8 → List Vt} {H : Nat → Value} {X : Nat → List Vv} {wr : World} (h : Fam w0 sb N U H X wr) (e : ∀ x, U x = U' x) : Fam w0 sb N U' H X wr :=
  ⟨h.blk, h.own, h.ap, fun a ha => by rw [← e]; exact h.ri a ha⟩
theorem fam_next {w0 wr W6 : World} {sb a0 : Nat} {N : List (List UInt8)} {U U' : List UInt8 → List Vt} {H : Nat → Value} {X : Nat → List Vv} {h' : Value} {x : Vv} (hF : Fam w0 sb N U H X wr) (ha : a0 < N.length)
    (f6 : Fr (fun k => (H a0).ownBlock = some k ∨ k = sb) wr W6) (b6 : Blk W6 sb 24 ((List.range N.length).map (upd H a0 h'))) (V6 : W6.ownsRow (sb + 1) 26 6 h' (X a0 ++ [x]).length (flatV (X a0 ++ [x])))
    (loc : ∀ k, h'.ownBlock = some k → (H a0).ownBlock = some k ∨ wr.heap.size ≤ k) (hU : ∀ a (h : a < N.length), a ≠ a0 → U' N[a] = U N[a]) {u : Vt} (hU0 : U' N[a0] = U N[a0] ++ [u]) (hu : VIn w0 u x) :
    Fam w0 sb N U' (upd H a0 h') (upd X a0 (X a0 ++ [x])) W6 := by
  refine ⟨b6, fun a h => ?_, fun a b h1 h2 hne k hk => ?_, fun a h => ?_⟩
  · unfold upd
    by_cases e : a = a0
    · rw [if_pos e, if_pos e]; exact V6
    · rw [if_neg e, if_neg e]
      refine own_fr (hF.own a h) f6 (fun k hk hh => ?_)
      rcases hh with hh | hh
      · exact hF.ap a a0 h ha e k hk hh
      · have := (own_lt (hF.own a h) k hk).1; omega
  · unfold upd at hk ⊢
    by_cases e1 : a = a0
    · have e2 : b ≠ a0 := fun e => hne (e1.trans e.symm)
      rw [if_pos e1] at hk
      rw [if_neg e2]
      intro hb
      rcases loc k hk with h | h
      · exact hF.ap a0 b ha h2 (Ne.symm e2) k h hb
      · have := (own_lt (hF.own b h2) k hb).2; omega
    · rw [if_neg e1] at hk
      by_cases e2 : b = a0
      · rw [if_pos e2]
        intro hb
        rcases loc k hb with h | h
        · exact hF.ap a a0 h1 ha e1 k hk h
        · have := (own_lt (hF.own a h1) k hk).2; omega
      · rw [if_neg e2]; exact hF.ap a b h1 h2 hne k hk
  · unfold upd
    by_cases e : a = a0
    · subst e
      rw [if_pos rfl, hU0]
      exact (hF.ri a h).app ⟨rfl, fun q q1 q2 => by
        obtain rfl : q = 0 := by simpa using q1
        exact hu⟩
    · rw [if_neg e, hU a h e]; exact hF.ri a h
theorem mk_rows (w : World) (m : Nat) (hm : m ≤ 1000000) : (Instr.makeSlice 89 (.int .i64 (m : Int)) (.int .i64 (m : Int))).run Tryz.prog w = .ok (.slice (some ⟨w.heap.size, 0, none⟩) m m) (w.alloc (.cells (List.replicate m (Value.slice none 0 0)).toArray 24)) := by
  obtain ⟨i, hi⟩ := Option.isSome_iff_exists.1 (by kernel_rfl : (Tryz.prog.info? 24).isSome = true)
  have hz : (Tryz.prog.info? 24).bind (·.zero) = some (.slice none 0 0) := by kernel_rfl
  have hs : (Tryz.prog.info? 24).map (·.size) = some 1 := by kernel_rfl
  have hb : (Tryz.prog.info? 24).map (·.bytes) = some 24 := by kernel_rfl
  rw [hi] at hz hs hb
  simp only [Option.bind_some, Option.map_some, Option.some.injEq] at hz hs hb
  have h := run_make (P := Tryz.prog) w 89 24 i (.slice none 0 0) Tryz.underlying89 hi hz .i64 .i64 m m (by omega) (Int.le_refl _) (by rw [hb]; omega) (by omega)
  rw [h, hs]
  simp only [Int.toNat_natCast, Nat.mul_one]
  have e : madeCells (Value.slice none 0 0).cells m = (List.replicate m (Value.slice none 0 0)).toArray := by
    apply Array.toList_inj.1
    exact toList_madeCells_one (.slice none 0 0) m
  rw [e]
theorem fam_start {w0 w : World} {N : List (List UInt8)} {U : List UInt8 → List Vt} (hU : ∀ x, U x = []) : Fam w0 w.heap.size N U (fun _ => .slice none 0 0) (fun _ => []) (w.alloc (.cells (List.replicate N.length (Value.slice none 0 0)).toArray 24)) := by
  refine ⟨?_, fun a _ => World.ownsRow_nil _ _ _ _, fun a b _ _ _ k hk => (by cases hk), fun a h => ⟨by rw [hU]; rfl, fun i h1 => by rw [hU] at h1; simp at h1⟩⟩
  have e : (List.range N.length).map (fun _ => Value.slice none 0 0) = List.replicate N.length (Value.slice none 0 0) := List.eq_replicate_iff.2 ⟨by simp, fun b hb => by
    obtain ⟨_, _, h⟩ := List.mem_map.1 hb
    exact h.symm⟩
  rw [e]
  exact Blk.new w _ _
theorem results2T {fn : Func} {t1 t2 : Tmp} (h : fn.results = #[.tmp t1, .tmp t2]) {tmps : Array Value} {W : World} {v1 v2 : Value} (h1 : tmps.getD t1 undef = v1) (h2 : tmps.getD t2 undef = v2) :
    (results fn tmps).run Tryz.prog W = .ok (.tuple #[v1, v2]) W := by
  have e1 : tmps[t1]?.getD undef = v1 := by simpa using h1
  have e2 : tmps[t2]?.getD undef = v2 := by simpa using h2
  simp [results, h, e1, e2, go_sem]
/-- Storing a value wherever there is room. -/
theorem wp_store6 {o : Oper} {a : Act} {W : World} {K : Act → World → Prop} {Q : Exit → Act → World → Prop} (x0 : Vv) (x y : Operand) (ho : o.op = .store 26 x y) {g off : Nat} (ht : W.there g off 6) (hx : a.eval x = .pointer (some ⟨g, off, none⟩)) (hy : a.eval y = x0.v) (h : K (a.put o.dst undef) (W.setCells g off x0.cs)) : o.wp Tryz.prog a W K Q := by
  have hs : (Instr.storeAt 26 (.pointer (some ⟨g, off, none⟩)) x0.v).run Tryz.prog W = .ok () (W.setCells g off x0.cs) := by
    have h := run_storeAt_mid (P := Tryz.prog) W g off 26 x0.cs.toArray ht sizeV (all_oneCell_toArray (vv_one x0))
    rw [show x0.v = .agg x0.cs.toArray from rfl]; simpa using h
  unfold Oper.wp execOp
  simp only [ho, hx, hy, hs, Sem.run_bind, Sem.run_pure, Result.andThen_ok]
  exact h
theorem und_len (x : List UInt8) (l : List Vt) (i j : Nat) (hi : i ≤ 999) : (upU x l i j).length ≤ 1000 := by
  have h1 : (undV x (l.take i)).length ≤ i := Nat.le_trans (List.length_filterMap_le _ _) (by rw [List.length_take]; omega)
  unfold upU
  rw [List.length_append]
  cases l[i]? with
  | none => simp; omega
  | some v =>
    simp only
    generalize getN x (v.ns.take j) (v.its.take j) = o
    cases o with
    | none => simp; omega
    | some u => simp; omega
theorem cell_env {w W : World} {a : Addr} {v : Value} (f : Fr (fun _ => False) w W) (h : w.cell? a = some v) : W.cell? a = some v := (Env.of f).cell h
theorem loc_in {wr : World} {v : Value} {g n c sb : Nat} (h : ∀ k, (Value.slice (some ⟨g, 0, none⟩) n c).ownBlock = some k → v.ownBlock = some k ∨ wr.heap.size ≤ k) : (v.ownBlock = some g ∨ g = sb) ∨ wr.heap.size ≤ g := by
  rcases h g rfl with h | h
  · exact .inl (.inl h)
  · exact .inr h
theorem enc_str (R : List (List UInt8)) : R.map encStr = strC R := rfl
def GPost (w0 w : World) (l : List Vt) (e : Ending) (w' : World) : Prop :=
  Fr (fun _ => False) w w' ∧ ∃ (na : Option Addr) (nc sb : Nat) (H : Nat → Value) (X : Nat → List Vv), e = .returned (.tuple #[.slice na (gnm l).length nc, .slice (some ⟨sb, 0, none⟩) (gnm l).length (gnm l).length]) ∧ w.heap.size ≤ sb ∧ w'.ownsRow w.heap.size 9 1 (.slice na (gnm l).length nc) (gnm l).length (strC (gnm l)) ∧ Fam w0 sb (gnm l) (fun x => undV x l) H X w'
/-- The map while it is filled with names. -/
def Gm (w : World) (n : Nat) (ts : List (List UInt8)) (wr : World) : Prop := ∃ D : DataW Unit, wr.ownsMap Tryz.prog 9 (plainElem Tryz.prog 3) w.heap.size n D ∧ Kys D ts ∧ Fr (fun _ => False) w wr
/-- The map while it is filled with places. -/
def Gp (w : World) (c : Nat) (N : List (List UInt8)) (nv : Value) (i : Nat) (wr : World) : Prop := ∃ D : DataW Unit, wr.ownsMap Tryz.prog 9 (plainElem Tryz.prog 3) w.heap.size (c + i) D ∧ Plz D N i ∧ wr.ownsRow (w.heap.size + 1) 9 1 nv N.length (strC N) ∧ Fr (fun _ => False) w wr
/-- The rows while they are filled. -/
def Gr (w0 w : World) (c sb : Nat) (D : DataW Unit) (N : List (List UInt8)) (nv : Value) (U : List UInt8 → List Vt) (wr : World) : Prop := ∃ (H : Nat → Value) (X : Nat → List Vv), Fam w0 sb N U H X wr ∧ wr.ownsMap Tryz.prog 9 (plainElem Tryz.prog 3) w.heap.size c D ∧ wr.ownsRow (w.heap.size + 1) 9 1 nv N.length (strC N) ∧ (∀ k, nv.ownBlock = some k → k < sb) ∧ Fr (fun _ => False) w wr
/-- .. while one set is gone through. -/
def Gi (w0 w : World) (c sb vb : Nat) (cs : List Value) (D : DataW Unit) (N : List (List UInt8)) (nv : Value) (U : List UInt8 → List Vt) (wr : World) : Prop := ∃ (H : Nat → Value) (X : Nat → List Vv), Fam w0 sb N U H X wr ∧ wr.ownsMap Tryz.prog 9 (plainElem Tryz.prog 3) w.heap.size c D ∧ wr.ownsRow (w.heap.size + 1) 9 1 nv N.length (strC N) ∧ (∀ k, nv.ownBlock = some k → k < sb) ∧ Fr (fun _ => False) w wr ∧ Blk wr vb 26 cs ∧ ∀ a, a < N.length → (H a).ownBlock ≠ some vb
theorem gi_next {w0 w wr W6 : World} {c sb vb a0 : Nat} {cs : List Value} {D : DataW Unit} {N : List (List UInt8)} {nv : Value} {U U' : List UInt8 → List Vt} {H : Nat → Value} {X : Nat → List Vv} {h' : Value} {x : Vv}
    (h1 : Fam w0 sb N U H X wr) (h3 : wr.ownsMap Tryz.prog 9 (plainElem Tryz.prog 3) w.heap.size c D) (h4 : wr.ownsRow (w.heap.size + 1) 9 1 nv N.length (strC N)) (h5 : ∀ k, nv.ownBlock = some k → k < sb) (h6 : Fr (fun _ => False) w wr) (h7 : Blk wr vb 26 cs) (h8 : ∀ a, a < N.length → (H a).ownBlock ≠ some vb)
    (hsb : w.heap.size + 1 ≤ sb) (hvb : sb < vb) (ha : a0 < N.length)
    (f6 : Fr (fun k => (H a0).ownBlock = some k ∨ k = sb) wr W6) (b6 : Blk W6 sb 24 ((List.range N.length).map (upd H a0 h'))) (V6 : W6.ownsRow (sb + 1) 26 6 h' (X a0 ++ [x]).length (flatV (X a0 ++ [x])))
    (loc : ∀ k, h'.ownBlock = some k → (H a0).ownBlock = some k ∨ wr.heap.size ≤ k) (hU : ∀ a (h : a < N.length), a ≠ a0 → U' N[a] = U N[a]) {u : Vt} (hU0 : U' N[a0] = U N[a0] ++ [u]) (hu : VIn w0 u x) : Gi w0 w c sb vb cs D N nv U' W6 := by
  have hrow : ∀ k, (H a0).ownBlock = some k → sb + 1 ≤ k := fun k hk => (own_lt (h1.own a0 ha) k hk).1
  refine ⟨_, _, fam_next h1 ha f6 b6 V6 loc hU hU0 hu, ?_, ?_, h5, h6.trans f6 (fun k hk => .inr (by rcases hk with hk | hk; (· have := hrow k hk; omega); (· omega))), f6.blk h7 (fun h => by rcases h with h | h; (· exact h8 a0 ha h); (· omega)), fun a hl => ?_⟩
  · obtain ⟨es, clock, g1, g2⟩ := h3
    have hlt : w.heap.size < wr.heap.size := World.ownsMap.lt ⟨es, clock, g1, g2⟩
    exact ⟨es, clock, (f6.block _ hlt (fun h => by rcases h with h | h; (· have := hrow _ h; omega); (· omega))).trans g1, g2⟩
  · exact own_fr h4 f6 (fun k hk h => by have := h5 k hk; rcases h with h | h; (· have := hrow k h; omega); (· omega))
  · unfold upd
    by_cases e : a = a0
    · rw [if_pos e]
      intro hb
      rcases loc vb hb with h | h
      · exact h8 a0 ha h
      · have := h7.lt; omega
    · rw [if_neg e]; exact h8 a hl
theorem keyS {t : List UInt8} (h : t.length ≤ 1024) : keyOf Tryz.prog 9 (.string ⟨t.toArray⟩) = some (.string t) := by
  have := WideMaps.keyOf_string_mk (P := Tryz.prog) (k := 9) Tryz.underlying9 (s := ⟨t.toArray⟩) (by unfold maxLen; simp [ByteArray.size]; omega)
  simpa using this

set_option maxRecDepth 100000 in
set_option maxHeartbeats 16000000 in
set_option linter.unusedSimpArgs false in
theorem gather_any (w0 w : World) (e0 : Env w0 w) (l : List Vt) (ad : Option Addr) (cap : Nat) (hI : Rws w0 w l ad) (hlim : l.length ≤ 1000) (hA : Ats l) :
    Calls Tryz.prog 79 #[.slice ad l.length cap] w fun e w' => GPost w0 w l e w' := by
  have hst := fun (W : World) (a : Addr) (m : Mode) (f : Nat) => run_store Tryz.prog W a (.float .f64 f) m rfl
  have hmm := @run_makeMap Tryz.prog
  have HI := hid hI
  have HA := hid hA
  have HE0 := hid e0
  have hal : ∀ i, (allN (l.take i)).length ≤ i * 256 := fun i => Nat.le_trans (allN_len _ (fun u hu => hA.ln u (List.mem_of_mem_take hu))) (Nat.mul_le_mul_right _ (by rw [List.length_take]; omega))
  have HAl := hid hal
  have HLim := hid hlim
  clear hI hA e0 hal
  go_enter Tryz.func79, Tryz.ntmps79
  go_wp2_with fail
  go_loopw [6, 8, 19] (fun _ _ iv wr => ∃ i : Nat, i ≤ l.length ∧ iv = .int .i64 (i : Int) ∧ Gm w (allN (l.take i)).length (allN (l.take i)) wr) (fun _ _ iv _ => l.length - (intOf iv).toNat)
  case atStart => exact ⟨0, by omega, rfl, .map [], World.ownsMap_made _ _ _ _, Kys.zero, (Fr.refl _ _).alloc _⟩
  case round =>
    obtain ⟨i, hi, rfl, hG⟩ := hrel
    have HG := hid hG
    clear hG hmm
    by_cases hlt : i < l.length
    · have hlt' : (i : Int) < ((l.length : Nat) : Int) := by omega
      obtain ⟨bb, bo, rfl⟩ := HI.out.some (by intro e; rw [e] at hlt; simp at hlt)
      obtain ⟨y, y1, y2⟩ := HI.out.get i hlt
      obtain ⟨D0, hM0, hK0, hF0⟩ := HG.out
      obtain ⟨k0, k1, k2, k3, k4, k5⟩ := (y1.env (Env.of hF0)).six
      have hnl : y.nl = l[i].ns.length := y2.parts.2.2.1.1
      have HSt := hid y2.parts.2.2.1.2.2.2
      have HLn := hid (HA.out.ln l[i] (List.getElem_mem hlt))
      have HNl := hid (HA.out.nl l[i] (List.getElem_mem hlt))
      have HG1 : Hid (Gm w ((allN (l.take i)).length + 0) (allN (l.take i) ++ l[i].ns.take 0) (vBox wr y)) := ⟨D0, hM0.alloc _, by simpa using hK0, hF0.trans (vFr wr y) (fun _ h => h.elim)⟩
      have HFy := hid hF0
      have HBy := hid (vBlk wr y)
      have HEnd : Hid (allN (l.take (i + 1)) = allN (l.take i) ++ l[i].ns) := allN_snoc l i hlt
      have HB0 := hid (HAl.out i)
      generalize l[i].ns = ns at *
      clear y1 y2 hM0 hK0 HG
      obtain ⟨k, n, f, t, na, nl, nc, ia, il, ic⟩ := y
      simp only at hnl HSt
      subst hnl
      simp only [vBox] at *
      obtain ⟨A0, hA0⟩ : ∃ A0, A0 = allN (l.take i) := ⟨_, rfl⟩
      rw [← hA0] at HG1 HEnd HB0
      clear hA0
      obtain ⟨wo, hwo⟩ : ∃ wo, wo = wr := ⟨_, rfl⟩
      subst hwo
      go_wp2_with fail
      go_loopw [8, 26] (fun _ jv wr => ∃ j : Nat, j ≤ ns.length ∧ jv = .int .i64 (j : Int) ∧ Gm w (A0.length + j) (A0 ++ ns.take j) wr) (fun _ jv _ => ns.length - (intOf jv).toNat)
      case atStart => exact ⟨0, by omega, rfl, HG1.out⟩
      case round =>
        obtain ⟨j, hj, rfl, hG⟩ := hrel
        have HG := hid hG
        clear hG HG1
        by_cases hjl : j < ns.length
        · have hjl' : (j : Int) < ((ns.length : Nat) : Int) := by omega
          obtain ⟨D, hM, hK, hF⟩ := HG.out
          obtain ⟨nb, no, rfl, hc⟩ := (HSt.out.env (HE0.out.trans (Env.of hF))) (by intro e; rw [e] at hjl; simp at hjl)
          have kn := hc j hjl
          have hkey := keyS (HNl.out ns[j] (List.getElem_mem hjl))
          have HNx : Hid (∀ W', W'.ownsMap Tryz.prog 9 (plainElem Tryz.prog 3) w.heap.size (A0.length + j + 1) (D.put (.string ns[j]) (.lit (.int .i64 0))) → wr.grownBy W' (some w.heap.size) → Gm w (A0.length + (j + 1)) (A0 ++ ns.take (j + 1)) W') := fun W' h1 h2 => ⟨_, h1, by
            rw [List.take_succ_eq_append_getElem hjl, ← List.append_assoc]
            exact hK.step _ _, hF.grown h2 (fun k hk => .inr (by injection hk; omega))⟩
          have HM := hid hM
          have hbnd : A0.length + j ≤ 1000000 := by have h1 := HB0.out; have h2 := HLn.out; have h3 := HLim.out; omega
          generalize ns[j] = nm at *
          clear hc hM hK hF
          go_wp2_with (at_mapUpdate; refine Hid.out ?_)
          refine wpList_mapUpdate_own _ rfl _ _ _ 112 rfl 9 3 lawS Tryz.underlying112 _ w.heap.size (A0.length + j) D rfl HM.out (by unfold maxLen; omega) _ _ _ rfl rfl hkey _ [] (plainElem_int Tryz.underlying3 (by decide)) ?_
          intro w1 hown1 hgrow1
          have HG2 := hid (HNx.out w1 hown1 hgrow1)
          clear hown1 hgrow1 HM HNx hkey kn
          go_wp2_with fail
          exact ⟨⟨j + 1, by omega, by first | rfl | (congr 1), HG2.out⟩, by simp [intOf]; omega⟩
        · have hjl' : ¬ ((j : Int) < ((ns.length : Nat) : Int)) := by omega
          obtain rfl : j = ns.length := by omega
          have HG2 : Hid (Gm w (allN (l.take (i + 1))).length (allN (l.take (i + 1))) wr) := by
            unfold Hid
            rw [HEnd.out]
            have := HG.out
            rw [List.take_of_length_le (Nat.le_refl _)] at this
            rw [List.length_append]
            exact this
          go_wp2_with fail
          exact ⟨⟨i + 1, by omega, by first | rfl | (congr 1), HG2.out⟩, by simp [intOf]; omega⟩
    · have hlt' : ¬ ((i : Int) < ((l.length : Nat) : Int)) := by omega
      obtain ⟨D, hM, hK, hF⟩ := HG.out
      rw [List.take_of_length_le (by omega)] at hM hK
      have hall := HAl.out l.length
      rw [List.take_of_length_le (Nat.le_refl _)] at hall
      have hcb : (allN l).length ≤ 256000 := by have := HLim.out; omega
      have hsz : Maps.size D ≤ 256000 := by
        obtain ⟨es, clock, _, _, h3, h4⟩ := hM
        rw [h4, Maps.size_eq, length_sorted]
        simp; omega
      have HKeys := hid ((callsIn_wide (n := 5)).1 (Tryz.maps_Keys_98 (some w.heap.size) wr))
      have HSort := hid ((callsIn_wide (n := 5)).1 (Tryz.slices_Sorted_keys_97_98 w.heap.size _ D _ wr hM (by unfold maxLen; omega) (by omega)))
      have HM := hid hM
      have HK := hid hK
      have HF := hid hF
      have HC := hid hcb
      clear hM hK hF hall hsz hcb HG
      go_wp2_with fail
      refine HKeys.out.mono ?_
      rintro e w1 ⟨rfl, rfl⟩
      go_wp2_with fail
      refine HSort.out.mono ?_
      rintro e w2 ⟨v, ss, rfl, hS, hrow, hnil, hb⟩
      have hss := sort_eq (HK.out.perm hS)
      have hsl : ss.length = (gnm l).length := by rw [← hss, List.length_mergeSort]
      rw [hss, enc_str, hsl] at hrow
      have HFw2 := hid ((HF.out.alloc (.cells #[.map (some w.heap.size)] 112)).trans (fr_below hb) (fun _ h => h.elim))
      have HM2 := hid ((HM.out.alloc (.cells #[.map (some w.heap.size)] 112)).fr (fr_below hb))
      obtain ⟨na, nc, rfl⟩ := own_len hrow
      have HRow : Hid (w2.ownsRow (w.heap.size + 1) 9 1 (.slice na (gnm l).length nc) (gnm l).length (strC (gnm l))) := own_down hrow (by have := HM.out.lt; rw [World.size_alloc]; omega)
      have HGn : Hid ((gnm l).length ≤ 256000) := Nat.le_trans (gnm_len l) HC.out
      have HNd := hid (gnm_nodup l)
      have HNm : Hid (∀ x ∈ gnm l, x.length ≤ 1024) := fun x hx => by
        have h1 := gnm_mem.1 hx
        unfold allN at h1
        obtain ⟨u, h2, h3⟩ := List.mem_flatMap.1 h1
        exact HA.out.nl u h2 x h3
      have HIn : Hid (∀ u ∈ l, ∀ x ∈ u.ns, x ∈ gnm l) := fun u hu x hx => gnm_mem.2 (List.mem_flatMap.2 ⟨u, hu, hx⟩)
      have HP0 : Hid (Gp w (allN l).length (gnm l) (.slice na (gnm l).length nc) 0 w2) := ⟨D, HM2.out, ⟨HK.out.1.isMap, fun a _ h => by omega⟩, HRow.out, HFw2.out⟩
      obtain ⟨N, hN⟩ : ∃ N, N = gnm l := ⟨_, rfl⟩
      rw [← hN] at HRow HGn HNd HNm HIn HP0
      have HNE := hid hN
      rw [← hN]
      clear hN hss hsl hS hrow hnil hb HSort HKeys HM HK HM2 HFw2 HF
      go_wp2_with fail
      go_loopw [9, 10, 39] (fun _ _ iv wr => ∃ i : Nat, i ≤ N.length ∧ iv = .int .i64 (i : Int) ∧ Gp w (allN l).length N (.slice na N.length nc) i wr) (fun _ _ iv _ => N.length - (intOf iv).toNat)
      case atStart => exact ⟨0, by omega, rfl, HP0.out⟩
      case round =>
        obtain ⟨i, hi, rfl, hG⟩ := hrel
        have HG := hid hG
        clear hG HP0 HRow
        by_cases hil : i < N.length
        · have hil' : (i : Int) < ((N.length : Nat) : Int) := by omega
          obtain ⟨D, hM, hP, hR, hF⟩ := HG.out
          obtain ⟨nb, no, hna, hc⟩ := strs_own2 hR (by intro e; rw [e] at hil; simp at hil)
          subst hna
          have kn := hc i hil
          have hkey := keyS (HNm.out N[i] (List.getElem_mem hil))
          have hbnd : (allN l).length + i ≤ 1000000 := by have h1 := HC.out; have h2 := HGn.out; omega
          have HNx : Hid (∀ W', W'.ownsMap Tryz.prog 9 (plainElem Tryz.prog 3) w.heap.size ((allN l).length + i + 1) (D.put (.string N[i]) (.lit (.int .i64 (i : Int)))) → wr.grownBy W' (some w.heap.size) → Gp w (allN l).length N (.slice (some ⟨nb, no, none⟩) N.length nc) (i + 1) W') := fun W' h1 h2 => ⟨_, h1, hP.step HNd.out hil, own_fr hR ((Fr.refl (· = w.heap.size) wr).grown h2 (fun k hk => .inl (by injection hk with hk; exact hk.symm))) (fun k hk e => by have := (own_lt hR k hk).1; omega), hF.grown h2 (fun k hk => .inr (by injection hk; omega))⟩
          have HM := hid hM
          have HWf : Hid ((Lit.int .i64 (i : Int)).wf = true) := WalkArith.wf_i64 (by have := HGn.out; omega)
          generalize N[i] = nm at *
          clear hc hM hP hR hF
          go_wp2_with (at_mapUpdate; refine Hid.out ?_)
          refine wpList_mapUpdate_own _ rfl _ _ _ 112 rfl 9 3 lawS Tryz.underlying112 _ w.heap.size ((allN l).length + i) D rfl HM.out (by unfold maxLen; omega) _ _ _ rfl rfl hkey _ [] (plainElem_int Tryz.underlying3 HWf.out) ?_
          intro w1 hown1 hgrow1
          have HG2 := hid (HNx.out w1 hown1 hgrow1)
          clear hown1 hgrow1 HM HNx hkey kn
          go_wp2_with fail
          exact ⟨⟨i + 1, by omega, by first | rfl | (congr 1), HG2.out⟩, by simp [intOf]; omega⟩
        · have hil' : ¬ ((i : Int) < ((N.length : Nat) : Int)) := by omega
          obtain rfl : i = N.length := by omega
          obtain ⟨D, hM, hP, hR, hF⟩ := HG.out
          have hmk := mk_rows wr N.length (by have := HGn.out; omega)
          have HPl := hid hP
          have HGr : Hid (Gr w0 w ((allN l).length + N.length) wr.heap.size D N (.slice na N.length nc) (fun x => upU x l 0 0) (wr.alloc (.cells (List.replicate N.length (Value.slice none 0 0)).toArray 24))) := ⟨_, _, fam_start (fun x => by rw [upU_zero]; simp [undV]), hM.alloc _, own_alloc hR _, fun k hk => (own_lt hR k hk).2, hF.alloc _⟩
          have HSb : Hid (w.heap.size + 1 ≤ wr.heap.size) := hM.lt
          generalize wr.heap.size = sb at *
          generalize (List.replicate N.length (Value.slice none 0 0)).toArray = Z at *
          clear hM hP hR hF HG hil
          go_wp2_with fail
          generalize wr.alloc (.cells Z 24) = wz at *
          clear hmk
          go_loopw [12, 13, 14, 15, 53] (fun _ _ _ _ iv wr => ∃ i : Nat, i ≤ l.length ∧ iv = .int .i64 (i : Int) ∧ Gr w0 w ((allN l).length + N.length) sb D N (.slice na N.length nc) (fun x => upU x l i 0) wr) (fun _ _ _ _ iv _ => l.length - (intOf iv).toNat)
          case atStart => exact ⟨0, by omega, rfl, HGr.out⟩
          case round =>
            obtain ⟨i, hi, rfl, hG⟩ := hrel
            have HG := hid hG
            clear hG HGr
            by_cases hlt : i < l.length
            · have hlt' : (i : Int) < ((l.length : Nat) : Int) := by omega
              obtain ⟨bb, bo, rfl⟩ := HI.out.some (by intro e; rw [e] at hlt; simp at hlt)
              obtain ⟨y, y1, y2⟩ := HI.out.get i hlt
              have hF0 : Fr (fun _ => False) w wr := by obtain ⟨_, _, _, _, _, _, h⟩ := HG.out; exact h
              obtain ⟨k0, k1, k2, k3, k4, k5⟩ := (y1.env (Env.of hF0)).six
              have hnl : y.nl = l[i].ns.length := y2.parts.2.2.1.1
              have hil2 : y.il = l[i].its.length := y2.parts.2.2.2.1.1
              have HSt := hid y2.parts.2.2.1.2.2.2
              have HIt := hid (fun j hj => y2.item j hj)
              have hA1 := HA.out.ns l[i] (List.getElem_mem hlt)
              have HLn := hid (HA.out.ln l[i] (List.getElem_mem hlt))
              have HNd1 := hid (HA.out.nd l[i] (List.getElem_mem hlt))
              have HNl := hid (HA.out.nl l[i] (List.getElem_mem hlt))
              have HIn1 := hid (HIn.out l[i] (List.getElem_mem hlt))
              have HA1 := hid hA1
              have HStp := hid (fun x j hj => upU_step x l i j hlt HA1.out hj HNd1.out)
              have HEnd := hid (fun x => upU_end x l i hlt HA1.out)
              have HBy := hid (vBlk wr y)
              have HG1 : Hid (Gi w0 w ((allN l).length + N.length) sb wr.heap.size y.cs D N (.slice na N.length nc) (fun x => upU x l i 0) (vBox wr y)) := by
                obtain ⟨H, X, h1, h3, h4, h5, h6⟩ := HG.out
                exact ⟨H, X, h1.fr (vFr wr y), h3.alloc _, own_alloc h4 _, h5, h6.trans (vFr wr y) (fun _ h => h.elim), vBlk wr y, fun a ha e => by have := (own_lt (h1.own a ha) _ e).2; omega⟩
              have HBk : Hid (w.heap.size < wr.heap.size ∧ sb < wr.heap.size) := by
                obtain ⟨H, X, h1, h3, h4, h5, h6⟩ := HG.out
                exact ⟨h3.lt, h1.blk.lt⟩
              clear y1 y2 HG hF0
              obtain ⟨k, n, f, t, yna, nl, ync, ia, il, ic⟩ := y
              simp only at hnl hil2 HSt HIt
              rw [← hA1] at hil2
              subst hnl hil2
              clear hA1
              simp only [vBox] at *
              obtain ⟨wo, hwo⟩ : ∃ wo, wo = wr := ⟨_, rfl⟩
              subst hwo
              go_wp2_with fail
              generalize wo.alloc (.cells #[.int .i64 k, .int .i64 n, .float .f64 f, .string ⟨t.toArray⟩, .slice yna l[i].ns.length ync, .slice ia l[i].ns.length ic] 26) = wy at *
              generalize wo.heap.size = vb at *
              have HVb : Hid (sb < vb) := HBk.out.2
              clear k0 k1 k2 k3 k4 k5 HBy
              go_loopw [13, 14, 15, 60] (fun _ _ _ jv wr => ∃ j : Nat, j ≤ l[i].ns.length ∧ jv = .int .i64 (j : Int) ∧ Gi w0 w ((allN l).length + N.length) sb vb (Vv.mk k n f t yna l[i].ns.length ync ia l[i].ns.length ic).cs D N (.slice na N.length nc) (fun x => upU x l i j) wr) (fun _ _ _ jv _ => l[i].ns.length - (intOf jv).toNat)
              case atStart => exact ⟨0, by omega, rfl, HG1.out⟩
              case round =>
                obtain ⟨j, hj, rfl, hG⟩ := hrel
                have HG := hid hG
                clear hG HG1
                by_cases hjl : j < l[i].ns.length
                · have hjl' : (j : Int) < ((l[i].ns.length : Nat) : Int) := by omega
                  have hj0 : (0 : Int) ≤ (j : Int) := by omega
                  have hjb : (j : Int) ≤ 256 := by have := HLn.out; omega
                  obtain ⟨H, X, h1, h3, h4, h5, h6, h7, h8⟩ := HG.out
                  obtain ⟨nb, no, hna, hc⟩ := (HSt.out.env (HE0.out.trans (Env.of h6))) (by intro e; rw [e] at hjl; simp at hjl)
                  subst hna
                  have kn := hc j hjl
                  have hkey := keyS (HNl.out l[i].ns[j] (List.getElem_mem hjl))
                  obtain ⟨a0, ha0, hNa⟩ := List.getElem_of_mem (HIn1.out l[i].ns[j] (List.getElem_mem hjl))
                  obtain ⟨ib, io, x, hia, hx1, hx2⟩ := HIt.out j (by have := HA1.out; omega)
                  subst hia
                  have HSix := hid (hx1.env (HE0.out.trans (Env.of h6)))
                  have HVx := hid hx2
                  have hat := HPl.out.2 a0 ha0 ha0
                  rw [hNa] at hat
                  have HUp : Hid ((∀ a (h : a < N.length), a ≠ a0 → upU N[a] l i (j + 1) = upU N[a] l i j) ∧ upU N[a0] l i (j + 1) = upU N[a0] l i j ++ [l[i].its[j]'(by have := HA1.out; omega)]) := ⟨fun a h hne => by rw [HStp.out N[a] j hjl, if_neg (fun e => hne (nodup_inj HNd.out h ha0 (e.symm.trans hNa.symm)))], by rw [HStp.out N[a0] j hjl, if_pos hNa.symm]⟩
                  obtain ⟨ra, rc, hHa⟩ := own_len (h1.own a0 ha0)
                  have hXl : (X a0).length ≤ 1000 := by rw [(h1.ri a0 ha0).1]; exact und_len _ _ _ _ (by have := HLim.out; omega)
                  have kh := h1.cell ha0
                  rw [hHa] at kh
                  have kv := h7.cell 5
                  simp only [List.getElem?_cons_succ, List.getElem?_cons_zero] at kv
                  have H1 := hid h1
                  have H3 := hid h3
                  have H4 := hid h4
                  have H5 := hid h5
                  have H6 := hid h6
                  have H7 := hid h7
                  have H8 := hid h8
                  have HHa := hid hHa
                  have HAt := hid hat
                  have HKey := hid hkey
                  have qa0 : (0 : Int) ≤ (a0 : Int) := by omega
                  have qa1 : (a0 : Int) < (N.length : Int) := by omega
                  have HA0 := hid ha0
                  have HXl := hid hXl
                  obtain ⟨XL, hXL⟩ : ∃ XL, XL = (X a0).length := ⟨_, rfl⟩
                  rw [← hXL] at kh
                  have HXL := hid hXL
                  have HKh := hid kh
                  have HKv := hid kv
                  have HNa := hid hNa
                  obtain ⟨nm, hnm⟩ : ∃ nm, nm = l[i].ns[j] := ⟨_, rfl⟩
                  rw [← hnm] at kn HKey HAt
                  clear hc hx1 hx2 hat hNa h1 h3 h4 h5 h6 h7 h8 hHa hXl hXL hkey hnm kh kv
                  go_wp2_with (at_lookup; refine Hid.out ?_)
                  refine wpList_lookup_own_int _ rfl _ _ 112 rfl 9 3 .i64 lawS Tryz.underlying112 Tryz.underlying3 (zero3 _) w.heap.size _ D rfl H3.out _ _ rfl HKey.out ?_
                  intro c hat hwc
                  obtain rfl : c = (a0 : Int) := by rw [HAt.out] at hat; injection hat with hat; injection hat with _ hat; exact hat.symm
                  clear hat hwc
                  go_wp2_with fail
                  have HTT : Hid (∀ W, Fr (fun _ => False) wr W → (fun W => W.cell? ⟨sb, a0, none⟩ = some (.slice ra XL rc) ∧ W.cell? ⟨vb, 5, none⟩ = some (.slice (some ⟨ib, io, none⟩) l[i].ns.length ic) ∧ sixB W ib (io + j * 6) x) W) := fun W fr => ⟨cell_env fr HKh.out, cell_env fr HKv.out, (HSix.out.env (Env.of fr)).six⟩
                  refine wp_region_noPanic ?_
                  refine region_till (fun _ => True) (fun W => W.cell? ⟨sb, a0, none⟩ = some (.slice ra XL rc) ∧ W.cell? ⟨vb, 5, none⟩ = some (.slice (some ⟨ib, io, none⟩) l[i].ns.length ic) ∧ sixB W ib (io + j * 6) x) 11 (by kernel_rfl) ?_
                  have HF0 : Hid (Fr (fun _ => False) wr wr.drew) := (Fr.refl _ wr).drew
                  have HOA : Hid (wr.drew.ownsRow (sb + 1) 26 6 (.slice ra XL rc) (X a0).length (flatV (X a0))) := by
                    have := H1.out.own a0 HA0.out
                    rw [HHa.out, ← HXL.out] at this
                    unfold Hid; rw [← HXL.out]; exact this
                  generalize wr.drew = W0 at *
                  refine takeT (fun _ => True) (i := 0) (d := some 68) (.slice (some ⟨sb, 0, none⟩) N.length N.length) rfl (by kernel_rfl) (by decide) (by kernel_rfl) (by kernel_rfl) (by kernel_rfl) (fun _ _ _ _ h => h) trivial (fun _ => HTT.out _ HF0.out) (.inl (fun _ _ => trivial)) (fun o ho => by cases ho; exact .inl ⟨by rfl, fun w hSw => by (go_simp)⟩) ?_
                  simp only [Act.put, List.setIfInBounds_toArray, List.set_cons_zero, List.set_cons_succ]
                  refine takeT (fun _ => True) (i := 1) (d := some 69) (.int .i64 (a0 : Int)) rfl (by kernel_rfl) (by decide) (by kernel_rfl) (by kernel_rfl) (by kernel_rfl) (fun _ _ _ _ h => h) trivial (fun _ => HTT.out _ HF0.out) (.inl (fun _ _ => trivial)) (fun o ho => by cases ho; exact .inl ⟨by rfl, fun w hSw => by (go_simp)⟩) ?_
                  simp only [Act.put, List.setIfInBounds_toArray, List.set_cons_zero, List.set_cons_succ]
                  refine takeT (fun _ => True) (i := 2) (d := some 70) (.pointer (some ⟨sb, a0, none⟩)) rfl (by kernel_rfl) (by decide) (by kernel_rfl) (by kernel_rfl) (by kernel_rfl) (fun _ _ _ _ h => h) trivial (fun _ => HTT.out _ HF0.out) (.inl (fun _ _ => trivial)) (fun o ho => by cases ho; exact .inl ⟨by rfl, fun w hSw => by (go_simp)⟩) ?_
                  simp only [Act.put, List.setIfInBounds_toArray, List.set_cons_zero, List.set_cons_succ]
                  refine takeT (fun W => W.cell? ⟨sb, a0, none⟩ = some (.slice ra XL rc) ∧ W.cell? ⟨vb, 5, none⟩ = some (.slice (some ⟨ib, io, none⟩) l[i].ns.length ic) ∧ sixB W ib (io + j * 6) x) (i := 3) (d := some 71) (.slice ra XL rc) rfl (by kernel_rfl) (by decide) (by kernel_rfl) (by kernel_rfl) (by kernel_rfl) (fun _ _ _ _ h => h) trivial (fun _ => HTT.out _ HF0.out) (.inr ⟨fun _ h1 h2 => h2, by kernel_rfl, by kernel_rfl⟩) (fun o ho => by cases ho; exact .inl ⟨by rfl, fun w hSw => by (obtain ⟨hs5, hs7, hs0, hs1, hs2, hs3, hs4, hs6⟩ := hSw; go_simp)⟩) ?_
                  simp only [Act.put, List.setIfInBounds_toArray, List.set_cons_zero, List.set_cons_succ]
                  refine takeT (fun _ => True) (i := 4) (d := some 72) (.pointer (some ⟨vb, 5, none⟩)) rfl (by kernel_rfl) (by decide) (by kernel_rfl) (by kernel_rfl) (by kernel_rfl) (fun _ _ _ _ h => h) trivial (fun _ => HTT.out _ HF0.out) (.inl (fun _ _ => trivial)) (fun o ho => by cases ho; exact .inl ⟨by rfl, fun w hSw => by (go_simp)⟩) ?_
                  simp only [Act.put, List.setIfInBounds_toArray, List.set_cons_zero, List.set_cons_succ]
                  refine takeT (fun W => W.cell? ⟨sb, a0, none⟩ = some (.slice ra XL rc) ∧ W.cell? ⟨vb, 5, none⟩ = some (.slice (some ⟨ib, io, none⟩) l[i].ns.length ic) ∧ sixB W ib (io + j * 6) x) (i := 5) (d := some 73) (.slice (some ⟨ib, io, none⟩) l[i].ns.length ic) rfl (by kernel_rfl) (by decide) (by kernel_rfl) (by kernel_rfl) (by kernel_rfl) (fun _ _ _ _ h => h) trivial (fun _ => HTT.out _ HF0.out) (.inr ⟨fun _ h1 h2 => h2, by kernel_rfl, by kernel_rfl⟩) (fun o ho => by cases ho; exact .inl ⟨by rfl, fun w hSw => by (obtain ⟨hs5, hs7, hs0, hs1, hs2, hs3, hs4, hs6⟩ := hSw; go_simp)⟩) ?_
                  simp only [Act.put, List.setIfInBounds_toArray, List.set_cons_zero, List.set_cons_succ]
                  refine takeT (fun _ => True) (i := 6) (d := some 74) (.int .i64 (j : Int)) rfl (by kernel_rfl) (by decide) (by kernel_rfl) (by kernel_rfl) (by kernel_rfl) (fun _ _ _ _ h => h) trivial (fun _ => HTT.out _ HF0.out) (.inl (fun _ _ => trivial)) (fun o ho => by cases ho; exact .inl ⟨by rfl, fun w hSw => by (go_simp)⟩) ?_
                  simp only [Act.put, List.setIfInBounds_toArray, List.set_cons_zero, List.set_cons_succ]
                  refine takeT (fun _ => True) (i := 7) (d := some 75) (.pointer (some ⟨ib, io + j * 6, none⟩)) rfl (by kernel_rfl) (by decide) (by kernel_rfl) (by kernel_rfl) (by kernel_rfl) (fun _ _ _ _ h => h) trivial (fun _ => HTT.out _ HF0.out) (.inl (fun _ _ => trivial)) (fun o ho => by cases ho; exact .inl ⟨by rfl, fun w hSw => by (go_simp)⟩) ?_
                  simp only [Act.put, List.setIfInBounds_toArray, List.set_cons_zero, List.set_cons_succ]
                  refine takeT (fun W => W.cell? ⟨sb, a0, none⟩ = some (.slice ra XL rc) ∧ W.cell? ⟨vb, 5, none⟩ = some (.slice (some ⟨ib, io, none⟩) l[i].ns.length ic) ∧ sixB W ib (io + j * 6) x) (i := 8) (d := some 76) (x.v) rfl (by kernel_rfl) (by decide) (by kernel_rfl) (by kernel_rfl) (by kernel_rfl) (fun _ _ _ _ h => h) trivial (fun _ => HTT.out _ HF0.out) (.inr ⟨fun _ h1 h2 => h2, by kernel_rfl, by kernel_rfl⟩) (fun o ho => by cases ho; exact .inl ⟨by rfl, fun w hSw => by (obtain ⟨hs5, hs7, hs0, hs1, hs2, hs3, hs4, hs6⟩ := hSw; go_simp)⟩) ?_
                  simp only [Act.put, List.setIfInBounds_toArray, List.set_cons_zero, List.set_cons_succ]
                  refine takeT (fun _ => True) (i := 9) (d := some 77) (.int .i64 (XL : Int)) rfl (by kernel_rfl) (by decide) (by kernel_rfl) (by kernel_rfl) (by kernel_rfl) (fun _ _ _ _ h => h) trivial (fun _ => HTT.out _ HF0.out) (.inl (fun _ _ => trivial)) (fun o ho => by cases ho; exact .inl ⟨by rfl, fun w hSw => by (go_simp)⟩) ?_
                  simp only [Act.put, List.setIfInBounds_toArray, List.set_cons_zero, List.set_cons_succ]
                  refine oneT (i := 10) (by kernel_rfl) (by decide) (fun o ho K' hK => ?_)
                  cases ho
                  rw [if_pos (by rfl)]
                  go_simp
                  have HF1 : Hid (Fr (fun _ => False) wr (W0.alloc (.cells #[.int .i64 0, .int .i64 0, .float .f64 0, .string ⟨#[]⟩, .slice none 0 0, .slice none 0 0] 26))) := HF0.out.alloc _
                  have HG1 : Hid (Blk (W0.alloc (.cells #[.int .i64 0, .int .i64 0, .float .f64 0, .string ⟨#[]⟩, .slice none 0 0, .slice none 0 0] 26)) W0.heap.size 26 vZ.cs) := Blk.new _ _ _
                  have HO1 : Hid ((W0.alloc (.cells #[.int .i64 0, .int .i64 0, .float .f64 0, .string ⟨#[]⟩, .slice none 0 0, .slice none 0 0] 26)).ownsRow _ _ _ _ _ _) := own_alloc HOA.out _
                  have HZ1 : Hid (wr.heap.size ≤ (W0.alloc (.cells #[.int .i64 0, .int .i64 0, .float .f64 0, .string ⟨#[]⟩, .slice none 0 0, .slice none 0 0] 26)).heap.size) := HF1.out.size
                  refine hK.out _ _ trivial (fun _ _ => HTT.out _ HF1.out) ?_
                  clear hK K'
                  try simp only [Act.put, List.setIfInBounds_toArray, List.set_cons_zero, List.set_cons_succ]
                  generalize W0.alloc (.cells #[.int .i64 0, .int .i64 0, .float .f64 0, .string ⟨#[]⟩, .slice none 0 0, .slice none 0 0] 26) = W1 at *
                  refine oneT (i := 11) (by kernel_rfl) (by decide) (fun o ho K' hK => ?_)
                  cases ho
                  rw [if_pos (by rfl)]
                  refine wp_app_valueL _ _ rfl (sb + 1) _ (X a0) vZ _ _ (by rfl) (by rfl) HO1.out HG1.out (by have h1 := H7.out.lt; have h2 := HZ1.out; have h3 := HVb.out; omega) HXl.out ?_
                  intro g' ic' W2 ho2 hg2 hloc
                  rw [← HXL.out] at ho2 ⊢
                  have HL2 : Hid (∀ k, (Value.slice (some ⟨g', 0, none⟩) (XL + 1) ic').ownBlock = some k → (H a0).ownBlock = some k ∨ wr.heap.size ≤ k) := fun k hk => by
                    injection hk with hk
                    simp only at hk
                    subst hk
                    rw [HHa.out, ← HXL.out]
                    exact hloc.imp id (fun h => Nat.le_trans HZ1.out h)
                  have HF2 : Hid (Fr (fun k => (H a0).ownBlock = some k ∨ k = sb) wr W2) := (HF1.out.mono (fun _ h => h.elim)).grown hg2 (fun k hk => .inl (.inl (by rw [HHa.out, ← HXL.out]; exact hk)))
                  have HO2 := hid ho2
                  have hgb : sb + 1 ≤ g' := (own_lt ho2 g' rfl).1
                  have HLast := hid (own_last (x := x) ho2 HXL.out.symm)
                  have hb2 : Blk W2 sb 24 ((List.range N.length).map H) := by
                    have h1 := hg2.block sb (by have h1 := HZ1.out; have h2 := H1.out.blk.lt; omega) (fun e => by have := (own_lt HO1.out sb e.symm).1; omega)
                    have h2 := HF1.out.blk H1.out.blk (fun h => h)
                    exact h2.of_eq h1
                  have HB2 := hid hb2
                  have hc2 := hb2.cell a0
                  rw [List.getElem?_map, List.getElem?_range HA0.out] at hc2
                  simp only [Option.map_some] at hc2
                  have hz2 := hb2.frozen a0
                  have HGb := hid hgb
                  have qx0 : (0 : Int) ≤ (XL : Int) := by omega
                  have qx1 : (XL : Int) < (XL : Int) + 1 := by omega
                  have qx2 : (XL : Int) < ((XL + 1 : Nat) : Int) := by omega
                  refine hK.out _ _ trivial (fun h _ => absurd rfl h) ?_
                  clear hK K' hg2 hloc ho2 hb2 hgb
                  try simp only [Act.put, List.setIfInBounds_toArray, List.set_cons_zero, List.set_cons_succ]
                  refine takeT (fun _ => True) (i := 12) (d := some 80) (.pointer (some ⟨g', XL * 6, none⟩)) rfl (by kernel_rfl) (by decide) (by kernel_rfl) (by kernel_rfl) (by kernel_rfl) (fun _ _ _ _ h => h) trivial (fun h => absurd h (by decide +kernel)) (.inl (fun _ _ => trivial)) (fun o ho => by cases ho; exact .inl ⟨by rfl, fun w hSw => by (go_simp)⟩) ?_
                  simp only [Act.put, List.setIfInBounds_toArray, List.set_cons_zero, List.set_cons_succ]
                  refine takeT (fun _ => True) (i := 14) (d := some 81) (.pointer (some ⟨sb, a0, none⟩)) rfl (by kernel_rfl) (by decide) (by kernel_rfl) (by kernel_rfl) (by kernel_rfl) (fun _ _ _ _ h => h) trivial (fun h => absurd h (by decide +kernel)) (.inl (fun _ _ => trivial)) (fun o ho => by cases ho; exact .inl ⟨by rfl, fun w hSw => by (go_simp)⟩) ?_
                  simp only [Act.put, List.setIfInBounds_toArray, List.set_cons_zero, List.set_cons_succ]
                  refine twoT (i := 13) (j := 15) (by kernel_rfl) (by decide) (by decide) (fun o ho K' hK => ?_) (fun o ho K' hK => ?_)
                  · skip
                    cases ho
                    rw [if_pos (by rfl)]
                    refine wp_store6 x _ _ rfl HLast.out.2 (by rfl) (by rfl) ?_
                    refine hK.out _ _ trivial (fun _ h => absurd h (by decide +kernel)) ?_
                    clear hK K'
                    try simp only [Act.put, List.setIfInBounds_toArray, List.set_cons_zero, List.set_cons_succ]
                    have HBa : Hid (Blk (W2.setCells g' (XL * 6) x.cs) sb 24 ((List.range N.length).map H)) := HB2.out.setCells_ne (by have := HGb.out; omega) _ _
                    have hca := HBa.out.cell a0
                    rw [List.getElem?_map, List.getElem?_range HA0.out] at hca
                    simp only [Option.map_some] at hca
                    have hza := HBa.out.frozen a0
                    have HB6 : Hid (Blk ((W2.setCells g' (XL * 6) x.cs).setCell ⟨sb, a0, none⟩ (.slice (some ⟨g', 0, none⟩) (XL + 1) ic')) sb 24 ((List.range N.length).map (upd H a0 (.slice (some ⟨g', 0, none⟩) (XL + 1) ic')))) := by
                      have := HBa.out.setCell a0 (.slice (some ⟨g', 0, none⟩) (XL + 1) ic')
                      rw [set_range] at this; exact this
                    have HF6 : Hid (Fr (fun k => (H a0).ownBlock = some k ∨ k = sb) wr ((W2.setCells g' (XL * 6) x.cs).setCell ⟨sb, a0, none⟩ (.slice (some ⟨g', 0, none⟩) (XL + 1) ic'))) := (HF2.out.setCells (loc_in HL2.out) _ _).setCell (.inl (.inr rfl)) _
                    have HV6 : Hid (((W2.setCells g' (XL * 6) x.cs).setCell ⟨sb, a0, none⟩ (.slice (some ⟨g', 0, none⟩) (XL + 1) ic')).ownsRow (sb + 1) 26 6 (.slice (some ⟨g', 0, none⟩) (XL + 1) ic') (X a0 ++ [x]).length (flatV (X a0 ++ [x]))) := own_keep (b := sb) HLast.out.1 (by omega) ((Fr.refl (· = sb) _).setCell (.inl rfl) _)
                    refine oneT (i := 15) (by kernel_rfl) (by decide) (fun o ho K' hK => ?_)
                    cases ho
                    rw [if_pos (by rfl)]
                    go_simp
                    refine hK.out _ _ trivial (fun _ h => absurd h (by decide +kernel)) ?_
                    clear hK K' hca hza
                    try simp only [Act.put, List.setIfInBounds_toArray, List.set_cons_zero, List.set_cons_succ]
                    refine doneT (by kernel_rfl) (NoPanic.normal ?_)
                    have HGi := hid (gi_next (U' := fun x => upU x l i (j + 1)) H1.out H3.out H4.out H5.out H6.out H7.out H8.out HSb.out HVb.out HA0.out HF6.out HB6.out HV6.out HL2.out HUp.out.1 HUp.out.2 HVx.out)
                    generalize ((W2.setCells g' (XL * 6) x.cs).setCell ⟨sb, a0, none⟩ (.slice (some ⟨g', 0, none⟩) (XL + 1) ic')) = W6 at *
                    clear hc2 hz2
                    go_wp2_with fail
                    exact ⟨⟨j + 1, by omega, by simp, HGi.out⟩, by simp [intOf]; omega⟩
                  · skip
                    cases ho
                    rw [if_pos (by rfl)]
                    go_simp
                    refine hK.out _ _ trivial (fun _ h => absurd h (by decide +kernel)) ?_
                    clear hK K'
                    try simp only [Act.put, List.setIfInBounds_toArray, List.set_cons_zero, List.set_cons_succ]
                    have HBb : Hid (Blk (W2.setCell ⟨sb, a0, none⟩ (.slice (some ⟨g', 0, none⟩) (XL + 1) ic')) sb 24 ((List.range N.length).map (upd H a0 (.slice (some ⟨g', 0, none⟩) (XL + 1) ic')))) := by
                      have := HB2.out.setCell a0 (.slice (some ⟨g', 0, none⟩) (XL + 1) ic')
                      rw [set_range] at this; exact this
                    have HOb : Hid ((W2.setCell ⟨sb, a0, none⟩ (.slice (some ⟨g', 0, none⟩) (XL + 1) ic')).ownsRow (sb + 1) 26 6 (.slice (some ⟨g', 0, none⟩) (XL + 1) ic') (X a0 ++ [vZ]).length (flatV (X a0 ++ [vZ]))) := own_keep (b := sb) HO2.out (by omega) ((Fr.refl (· = sb) _).setCell (.inl rfl) _)
                    have HLb := hid (own_last (x := x) HOb.out HXL.out.symm)
                    have HB6 : Hid (Blk ((W2.setCell ⟨sb, a0, none⟩ (.slice (some ⟨g', 0, none⟩) (XL + 1) ic')).setCells g' (XL * 6) x.cs) sb 24 ((List.range N.length).map (upd H a0 (.slice (some ⟨g', 0, none⟩) (XL + 1) ic')))) := HBb.out.setCells_ne (by have := HGb.out; omega) _ _
                    have HF6 : Hid (Fr (fun k => (H a0).ownBlock = some k ∨ k = sb) wr ((W2.setCell ⟨sb, a0, none⟩ (.slice (some ⟨g', 0, none⟩) (XL + 1) ic')).setCells g' (XL * 6) x.cs)) := (HF2.out.setCell (.inl (.inr rfl)) _).setCells (loc_in HL2.out) _ _
                    have HV6 := hid HLb.out.1
                    refine oneT (i := 13) (by kernel_rfl) (by decide) (fun o ho K' hK => ?_)
                    cases ho
                    rw [if_pos (by rfl)]
                    refine wp_store6 x _ _ rfl HLb.out.2 (by rfl) (by rfl) ?_
                    refine hK.out _ _ trivial (fun _ h => absurd h (by decide +kernel)) ?_
                    clear hK K'
                    try simp only [Act.put, List.setIfInBounds_toArray, List.set_cons_zero, List.set_cons_succ]
                    refine doneT (by kernel_rfl) (NoPanic.normal ?_)
                    have HGi := hid (gi_next (U' := fun x => upU x l i (j + 1)) H1.out H3.out H4.out H5.out H6.out H7.out H8.out HSb.out HVb.out HA0.out HF6.out HB6.out HV6.out HL2.out HUp.out.1 HUp.out.2 HVx.out)
                    generalize ((W2.setCell ⟨sb, a0, none⟩ (.slice (some ⟨g', 0, none⟩) (XL + 1) ic')).setCells g' (XL * 6) x.cs) = W6 at *
                    clear hc2 hz2
                    go_wp2_with fail
                    exact ⟨⟨j + 1, by omega, by simp, HGi.out⟩, by simp [intOf]; omega⟩
                · have hjl' : ¬ ((j : Int) < ((l[i].ns.length : Nat) : Int)) := by omega
                  obtain rfl : j = l[i].ns.length := by omega
                  have HG2 : Hid (Gr w0 w ((allN l).length + N.length) sb D N (.slice na N.length nc) (fun x => upU x l (i + 1) 0) wr) := by
                    obtain ⟨H, X, h1, h3, h4, h5, h6, h7, h8⟩ := HG.out
                    exact ⟨H, X, h1.to (fun x => by rw [HEnd.out x, upU_zero]), h3, h4, h5, h6⟩
                  go_wp2_with fail
                  exact ⟨⟨i + 1, by omega, by first | rfl | (congr 1), HG2.out⟩, by simp [intOf]; omega⟩
            · have hlt' : ¬ ((i : Int) < ((l.length : Nat) : Int)) := by omega
              obtain ⟨H, X, h1, h3, h4, h5, h6⟩ := HG.out
              have HF1 : Hid (Fam w0 sb N (fun x => undV x l) H X wr) := h1.to (fun x => by rw [upU_zero, List.take_of_length_le (by omega)])
              have HRw := hid (own_down (B' := w.heap.size) h4 (by omega))
              have HFr := hid h6
              clear h1 h3 h4 h5 h6 HG
              go_wp2_with fail
              refine bodyPost_ret (results2T rfl rfl rfl) rfl ?_
              refine ⟨HFr.out, na, nc, sb, H, X, ?_, by have := HSb.out; omega, ?_, ?_⟩
              · rw [← HNE.out]; rfl
              · rw [← HNE.out]; exact HRw.out
              · rw [← HNE.out]; exact HF1.out

end Go.Proofs.YtniailfcmlongaaGreatDoor.Tr
