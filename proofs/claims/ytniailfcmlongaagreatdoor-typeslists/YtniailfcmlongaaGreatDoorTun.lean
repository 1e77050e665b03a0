/- areParts, takes over unit, takes of every type, Of. -/
import Derived.Test.YtniailfcmlongaaGreatDoorTtl
namespace Go.Proofs.YtniailfcmlongaaGreatDoor.Tr
open Go.RowKit

theorem partsB_drop (ns : List (List UInt8)) (its : List Vt) (i : Nat) (h1 : i < ns.length) (h2 : i < its.length) : partsB (ns.drop i) (its.drop i) = (partB ns[i] its[i] && partsB (ns.drop (i + 1)) (its.drop (i + 1))) := by
  rw [List.drop_eq_getElem_cons h1, List.drop_eq_getElem_cons h2, partsB]

theorem partsB_nil (its : List Vt) : partsB [] its = true := by cases its <;> rfl

theorem tk_part {name : List UInt8} {t : Ty} (h : partT name = some t) : TkOf t := by
  unfold partT at h
  split at h
  · cases h; exact tk_bare _ (.inr (.inr (.inl rfl)))
  · split at h
    · cases h; exact takes_list _ (tk_bare _ (.inr (.inr (.inl rfl))))
    · cases h

set_option maxRecDepth 100000 in
set_option maxHeartbeats 4000000 in
theorem areParts_any (w : World) (v : Vt) (x : Vv) (hE : evenV v) (hlen : v.ns.length = v.its.length) (hx : VIn w v x) : Calls Tryz.prog 44 #[x.v] w fun e w' => e = .returned (.bool (partsB v.ns v.its)) ∧ Fr (fun _ => False) w w' := by
  have HB := hid (vBlk w x)
  have HF := hid (vFr w x)
  have HX := hid hx
  have hp := hx.parts
  have HN := hid hp.2.2.1.2.2.2
  have HL := hid hp.2.1.2.2.2
  have HEv := hid hE
  have hnl : x.nl = v.ns.length := hp.2.2.1.1
  have hil : x.il = v.its.length := hp.2.2.2.1.1
  have hlim : v.ns.length ≤ 140737488351232 := hp.2.2.1.2.2.1
  have hlim2 : v.its.length ≤ 140737488351232 := hp.2.2.2.1.2.2
  have HLn := hid hlen
  clear hp hE hx hlen
  obtain ⟨k, n, f, t, na, nl, nc, ia, il, ic⟩ := x
  simp only [Vv.v] at *
  subst hnl hil
  go_enter Tryz.func44, Tryz.ntmps44
  go_wp2_with fail
  go_loopw [3, 4, 5, 9] (fun _ _ _ iv wr => ∃ i : Nat, i ≤ v.ns.length ∧ iv = .int .i64 (i : Int) ∧ partsB v.ns v.its = partsB (v.ns.drop i) (v.its.drop i) ∧ Fr (fun _ => False) w wr ∧ Blk wr w.heap.size 26 (Vv.cs ⟨k, n, f, t, na, v.ns.length, nc, ia, v.its.length, ic⟩)) (fun _ _ _ iv _ => v.ns.length - (intOf iv).toNat)
  case atStart => exact ⟨0, by omega, rfl, by simp, HF.out, HB.out⟩
  case round =>
    obtain ⟨i, hi, rfl, hS, hF, hB⟩ := hrel
    clear HB HF
    have HB := hid hB
    have HF := hid hF
    have HS := hid hS
    clear hB hF hS
    by_cases hlt : i < v.ns.length
    · have hlt' : (i : Int) < ((v.ns.length : Nat) : Int) := by omega
      have hlt2 : i < v.its.length := by have := HLn.out; omega
      have hlt3 : (i : Int) < ((v.its.length : Nat) : Int) := by omega
      obtain ⟨bn, on, e1, hc⟩ := HN.out (by intro e; rw [e] at hlt; simp at hlt)
      subst e1
      have cn := (Env.of HF.out).cell (hc i hlt)
      obtain ⟨bi, oi, y, e2, e3, e4⟩ := HX.out.item i hlt2
      subst e2
      have HP : Hid (partsB v.ns v.its = (partB v.ns[i] v.its[i] && partsB (v.ns.drop (i + 1)) (v.its.drop (i + 1)))) := by
        unfold Hid; rw [HS.out, partsB_drop _ _ _ hlt hlt2]
      have HPO := hid (partOf_any wr v.ns[i])
      have HTK : Hid (∀ t, partT v.ns[i] = some t → ∀ W b, Env wr W → KIn W t b → Calls Tryz.prog 27 #[pv b, y.v] W fun e w' => e = .returned (.bool (partB v.ns[i] v.its[i])) ∧ Fr (fun _ => False) W w') := fun t ht W b e hk => by
        rw [part_tk, ht]
        exact tk_part ht v.its[i] y W b (even_item HEv.out (List.getElem_mem hlt2)) (VIn.env ((Env.of HF.out).trans e) _ _ e4) hk
      have HNo : Hid (partT v.ns[i] = none → partB v.ns[i] v.its[i] = false) := fun h => by rw [part_tk, h]
      have HY := hid (e3.env (Env.of HF.out))
      generalize partB v.ns[i] v.its[i] = q at *
      generalize v.ns[i] = name at *
      clear HS e3 e4 hc
      go_wp2_with fail
      refine HPO.out.mono ?_
      rintro e w2 ⟨f2, ⟨e5, rfl⟩ | ⟨t5, b5, e5, rfl, k5⟩⟩
      · have HF2 := hid (HF.out.trans f2 (fun _ h => h.elim))
        have HR := hid (HNo.out e5)
        clear f2 e5
        go_wp2_with fail
        go_ret
        exact ⟨by rw [HP.out, HR.out]; rfl, HF2.out⟩
      · have HF2 := hid (HF.out.trans f2 (fun _ h => h.elim))
        have HB2 := hid (f2.blk HB.out (fun h => h))
        have HC := hid (HTK.out t5 e5 w2 b5 (Env.of f2) k5)
        obtain ⟨c0, c1, c2, c3, c4, c5⟩ := HB2.out.six
        obtain ⟨d0, d1, d2, d3, d4, d5⟩ := (HY.out.env (Env.of f2)).six
        clear f2 e5 k5 HTK HNo
        go_wp2_with fail
        refine HC.out.mono ?_
        rintro e w3 ⟨rfl, f3⟩
        have HF3 := hid (HF2.out.trans f3 (fun _ h => h.elim))
        have HB3 := hid (f3.blk HB2.out (fun h => h))
        clear f3 c0 c1 c2 c3 c4 c5 d0 d1 d2 d3 d4 d5
        cases q with
        | false =>
          go_wp2_with fail
          go_ret
          exact ⟨by rw [HP.out]; rfl, HF3.out⟩
        | true =>
          go_wp2_with fail
          exact ⟨⟨i + 1, by omega, by first | rfl | (congr 1), by rw [HP.out]; rfl, HF3.out, HB3.out⟩, by simp [intOf]; omega⟩
    · have hlt' : ¬ (i : Int) < ((v.ns.length : Nat) : Int) := by omega
      have HR : Hid (partsB v.ns v.its = true) := by
        unfold Hid
        rw [HS.out, List.drop_eq_nil_of_le (by omega)]
        exact partsB_nil _
      go_wp2_with fail
      go_ret
      exact ⟨by rw [HR.out]; rfl, HF.out⟩

set_option maxRecDepth 100000 in
set_option maxHeartbeats 4000000 in
theorem takes_unit : TkOf (.bare sUnit) := by
  intro v x w b hE hx hK
  have hp := hx.parts
  have HF := hid (vFr w x)
  have HB := hid (vBlk w x)
  have c0 : (vBox w x).cell? ⟨b, 0, none⟩ = some (.string ⟨sUnit.toArray⟩) := takes_env x hK
  have HC : Hid (x.k = 6 → ∀ W, Env w W → Calls Tryz.prog 44 #[x.v] W fun e w' => e = .returned (.bool (partsB v.ns v.its)) ∧ Fr (fun _ => False) W w') := fun h W e => areParts_any W v x hE (even_set hE (by rw [← hp.1.1]; exact h)) (VIn.env e _ _ hx)
  have HT : Hid (tkB (.bare sUnit) v = (decide (x.k = 6) && partsB v.ns v.its)) := by unfold Hid; rw [tkB, if_pos rfl, hp.1.1]
  generalize tkB (.bare sUnit) v = T at *
  generalize partsB v.ns v.its = q at *
  have HEw := hid (Env.alloc w (.cells #[.int .i64 x.k, .int .i64 x.n, .float .f64 x.f, .string ⟨x.t.toArray⟩, .slice x.na x.nl x.nc, .slice x.ia x.il x.ic] 26))
  obtain ⟨z0, z1, z2, z3, z4, z5⟩ := HB.out.six
  clear hp hx hE hK
  obtain ⟨k, n, f, tx, na, nl, nc, ia, il, ic⟩ := x
  simp only [Vv.v, vBox] at *
  by_cases h5 : k = 6
  · have h5' : (k == 6) = true := by simpa using h5
    have HT2 : Hid (T = q) := by unfold Hid; rw [HT.out, decide_eq_true h5]; rfl
    have HC2 := hid (HC.out h5 _ HEw.out)
    clear HT h5 HC
    go_enter Tryz.func27, Tryz.ntmps27
    go_wp2_with fail
    refine HC2.out.mono ?_
    rintro e w2 ⟨rfl, f2⟩
    have HF2 := hid (HF.out.trans f2 (fun _ h => h.elim))
    clear f2
    go_wp2_with fail
    go_ret
    exact ⟨by rw [HT2.out]; rfl, HF2.out⟩
  · have h5' : (k == 6) = false := by simpa using h5
    have HT2 : Hid (T = false) := by unfold Hid; rw [HT.out, decide_eq_false h5]; rfl
    clear HT h5 HC
    go_enter Tryz.func27, Tryz.ntmps27
    go_wp2_with fail
    go_ret
    exact ⟨by rw [HT2.out]; rfl, HF.out⟩

/-- Words that may stand bare. -/
def bareW (s : List UInt8) : Prop := s = sBool ∨ s = sFloat ∨ s = sString ∨ s = sLines ∨ s = sUnit
/-- Types that can be read. -/
def tyOk : Ty → Prop
  | .bare s => bareW s
  | .int _ _ => True
  | .enum _ => True
  | .list t => tyOk t
  | .attrs t => tyOk t
theorem takes_any : ∀ t, tyOk t → TkOf t
  | .bare s, h => by
    have h' : bareW s := h
    rcases h' with h | h | h | h | h
    · exact tk_bare s (.inl h)
    · exact tk_bare s (.inr (.inl h))
    · exact tk_bare s (.inr (.inr (.inl h)))
    · exact tk_bare s (.inr (.inr (.inr h)))
    · subst h; exact takes_unit
  | .int lo hi, _ => tk_int lo hi
  | .enum ws, _ => takes_enum ws
  | .list t, h => takes_list t (takes_any t h)
  | .attrs t, h => takes_attrs t (takes_any t h)
theorem tyOf_ok : ∀ (ws : List (List UInt8)) (t : Ty), tyOf ws = some t → tyOk t
  | [], t, h => by cases h
  | s :: ws, t, h => by
    rw [tyOf] at h
    split at h
    · rename_i hb
      split at h
      · cases h; exact hb
      · cases h
    · split at h
      · unfold intTy at h
        split at h
        · cases h; trivial
        · split at h
          · split at h
            · cases h; trivial
            · cases h
          · cases h
        · cases h
      · split at h
        · split at h
          · cases h; trivial
          · cases h
        · split at h
          · obtain ⟨t', h1, rfl⟩ := Option.map_eq_some_iff.1 h
            exact tyOf_ok ws t' h1
          · split at h
            · obtain ⟨t', h1, rfl⟩ := Option.map_eq_some_iff.1 h
              exact tyOf_ok ws t' h1
            · cases h
theorem readT_ok {s : List UInt8} {t : Ty} (h : readT s = some t) : tyOk t := by
  unfold readT at h
  split at h
  · exact tyOf_ok _ t h
  · cases h

/-- What Of tells. -/
def ofB (t : List UInt8) (v : Vt) : Bool := match readT t with | none => false | some k => rtB v 32 && tkB k v

set_option maxRecDepth 100000 in
set_option maxHeartbeats 4000000 in
theorem tOf_any (w : World) (t : List UInt8) (hl : t.length ≤ 140737488355328) (hm : Mx w) (v : Vt) (x : Vv) (hx : VIn w v x) : Calls Tryz.prog 14 #[.string ⟨t.toArray⟩, x.v] w fun e w' => e = .returned (.bool (ofB t v)) ∧ Fr (fun _ => False) w w' := by
  have HC := hid (read_any (vBox w x) t hl (hm.env (Env.alloc w _)))
  have HFv := hid (vFr w x)
  have HB := hid (vBlk w x)
  have HRt : Hid (∀ W, Env w W → Calls Tryz.prog 26 #[x.v] W fun e w' => e = .returned (.bool (rtB v 32)) ∧ Fr (fun _ => False) W w') := fun W e => right_any hx W e
  have HTk : Hid (∀ k, readT t = some k → rtB v 32 = true → ∀ W b, Env w W → KIn W k b → Calls Tryz.prog 27 #[pv b, x.v] W fun e w' => e = .returned (.bool (tkB k v)) ∧ Fr (fun _ => False) W w') := fun k hk hr W b e hK => takes_any k (readT_ok hk) v x W b ⟨32, hr⟩ (VIn.env e _ _ hx) hK
  have HT : Hid (ofB t v = match readT t with | none => false | some k => rtB v 32 && tkB k v) := rfl
  generalize ofB t v = T at *
  generalize readT t = R at *
  generalize rtB v 32 = r at *
  clear hm hx
  obtain ⟨k, n, f, tx, na, nl, nc, ia, il, ic⟩ := x
  simp only [Vv.v] at *
  go_enter Tryz.func14, Tryz.ntmps14
  go_wp2_with fail
  refine HC.out.mono ?_
  rintro e w1 ⟨f1, ⟨rfl, rfl⟩ | ⟨kd, b, rfl, rfl, hK⟩⟩
  · have HF := hid (HFv.out.trans f1 (fun _ h => h.elim))
    clear f1
    go_wp2_with fail
    go_ret
    exact ⟨by rw [HT.out]; rfl, HF.out⟩
  · have HF := hid (HFv.out.trans f1 (fun _ h => h.elim))
    have HK := hid hK
    have HB1 := hid (f1.blk HB.out (fun h => h))
    obtain ⟨c0, c1, c2, c3, c4, c5⟩ := HB1.out.six
    clear f1 hK
    go_wp2_with fail
    refine (HRt.out _ (Env.of HF.out)).mono ?_
    rintro e w2 ⟨rfl, f2⟩
    have HF2 := hid (HF.out.trans f2 (fun _ h => h.elim))
    have HK2 := hid (KIn.env (Env.of f2) _ _ HK.out)
    have HB2 := hid (f2.blk HB1.out (fun h => h))
    clear f2 c0 c1 c2 c3 c4 c5
    obtain ⟨c0, c1, c2, c3, c4, c5⟩ := HB2.out.six
    cases r with
    | false =>
      go_wp2_with fail
      go_ret
      exact ⟨by rw [HT.out]; rfl, HF2.out⟩
    | true =>
      have HC2 := hid (HTk.out kd rfl rfl w2 b (Env.of HF2.out) HK2.out)
      have HT2 : Hid (T = tkB kd v) := by unfold Hid; rw [HT.out]; rfl
      generalize tkB kd v = q at *
      clear HT HTk
      go_wp2_with fail
      refine HC2.out.mono ?_
      rintro e w3 ⟨rfl, f3⟩
      have HF3 := hid (HF2.out.trans f3 (fun _ h => h.elim))
      clear f3
      go_wp2_with fail
      go_ret
      exact ⟨by rw [HT2.out]; rfl, HF3.out⟩
end Go.Proofs.YtniailfcmlongaaGreatDoor.Tr
