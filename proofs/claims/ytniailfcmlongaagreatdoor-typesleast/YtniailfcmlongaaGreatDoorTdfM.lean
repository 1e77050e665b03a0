import Derived.Test.YtniailfcmlongaaGreatDoorTtkM
import Derived.Test.YtniailfcmlongaaGreatDoorTofM
import Derived.Test.YtniailfcmlongaaGreatDoorDplM
/- takes over every type; Of. (Written by Ttl.py.) -/
namespace Go.Proofs.YtniailfcmlongaaGreatDoor.Tr
open Go.RowKit

theorem even_item {v u : Vt} (h : evenV v) (hu : u ∈ v.its) : evenV u := by
  obtain ⟨n, hn⟩ := h
  cases v with
  | mk k a f t ns its =>
    rw [rtB] at hn
    have hu' : u ∈ its := hu
    split at hn
    · simp only [Bool.and_eq_true] at hn
      exact ⟨n - 1, (rtL_all _ its).1 hn.1.2 u hu'⟩
    · split at hn
      · simp only [Bool.and_eq_true] at hn
        exact ⟨n - 1, (rtL_all _ its).1 hn.1.2.2 u hu'⟩
      · have := (rightS_empty hn).2
        simp only at this
        rw [List.length_eq_zero_iff] at this
        subst this; simp at hu'
theorem even_set {v : Vt} (h : evenV v) (hk : v.k = 6) : v.ns.length = v.its.length := by
  obtain ⟨n, hn⟩ := h
  cases v with
  | mk k a f t ns its =>
    simp only [Vt.k] at hk
    subst hk
    rw [rtB, if_neg (by decide), if_pos rfl] at hn
    simp only [Bool.and_eq_true, decide_eq_true_eq] at hn
    exact hn.1.1.1

set_option maxRecDepth 100000 in
set_option maxHeartbeats 4000000 in
theorem takes_enum (ws : List (List UInt8)) : TkOf (.enum ws) := by
  intro v x w b hE hx hK
  have hp := hx.parts
  obtain ⟨k0, ad, cap, k3, hfew, hS⟩ := hK
  have HF := hid (vFr w x)
  have HB := hid (vBlk w x)
  have HEk := hid (Env.alloc w (.cells #[.int .i64 x.k, .int .i64 x.n, .float .f64 x.f, .string ⟨x.t.toArray⟩, .slice x.na x.nl x.nc, .slice x.ia x.il x.ic] 26))
  have c0 := takes_env x k0
  have c3 := takes_env x k3
  have HC : Hid (∀ n, Calls Tryz.prog 43 #[.slice ad ws.length cap, .string ⟨x.t.toArray⟩] ((vBox w x).drewN n) fun e w' => e = .returned (.bool (ws.contains x.t)) ∧ w' = (vBox w x).drewN n) := fun n => (contains_any ((vBox w x).drewN n) ad ws.length cap ws ((hS.env HEk.out).env (Env.of ((Fr.refl _ _).drewN n))) (Nat.le_refl _) (by omega) x.t).mono (by
    rintro e w' ⟨rfl, rfl⟩
    exact ⟨by rw [List.take_length], rfl⟩)
  have HT : Hid (tkB (.enum ws) v = (decide (x.k = 4) && ws.contains x.t)) := by unfold Hid; rw [tkB, hp.1.1, hp.1.2.2.2]
  generalize tkB (.enum ws) v = T at *
  generalize ws.contains x.t = q at *
  clear hp hx hE k0 k3 hS
  obtain ⟨k, n, f, t, na, nl, nc, ia, il, ic⟩ := x
  simp only [Vv.v, vBox] at *
  by_cases h4 : k = 4
  · have h4' : (k == 4) = true := by simpa using h4
    have HT2 : Hid (T = q) := by unfold Hid; rw [HT.out, decide_eq_true h4]; rfl
    clear HT h4
    go_enter Tryz.func27, Tryz.ntmps27
    go_wp2_with fail
    go_quiet (first | (go_at_call 43; exact Calls.quiet_of_same (HC.out _)))
    have HF2 := hid (HF.out.drewN nq)
    go_wp2_with fail
    go_ret
    exact ⟨by rw [HT2.out]; rfl, HF2.out⟩
  · have h4' : (k == 4) = false := by simpa using h4
    have HT2 : Hid (T = false) := by unfold Hid; rw [HT.out, decide_eq_false h4]; rfl
    clear HT h4
    go_enter Tryz.func27, Tryz.ntmps27
    go_wp2_with fail
    go_quiet (fail)
    have HF2 := hid (HF.out.drewN nq)
    go_wp2_with fail
    go_ret
    exact ⟨by rw [HT2.out]; rfl, HF2.out⟩

set_option maxRecDepth 100000 in
set_option maxHeartbeats 4000000 in
theorem takes_list (t : Ty) (hT : TkOf t) : TkOf (.list t) := by
  intro v x w b hE hx hK
  have hp := hx.parts
  obtain ⟨k0, c, k4, hKc⟩ := hK
  have HF := hid (vFr w x)
  have HB := hid (vBlk w x)
  have c0 := takes_env x k0
  have c4 := takes_env x k4
  have HC : Hid (∀ W, Env w W → Calls Tryz.prog 33 #[pv c, .slice x.ia x.il x.ic] W fun e w' => e = .returned (.bool (v.its.all fun u => tkB t u)) ∧ Fr (fun _ => False) W w') := fun W e => by
    rw [hp.2.2.2.1.1]
    exact takesAll_of t hT v.its (fun u hu => even_item hE hu) W x.ia x.ic c (IIn.env e _ _ hp.2.2.2.2) hp.2.2.2.1.2.2 (KIn.env e _ _ hKc)
  have HKc : Hid (∀ W, Fr (fun _ => False) (vBox w x) W → W.cell? ⟨b, 4, none⟩ = some (pv c) ∧ W.cell? ⟨w.heap.size, 0, none⟩ = some (.int .i64 x.k) ∧ W.cell? ⟨w.heap.size, 5, none⟩ = some (.slice x.ia x.il x.ic)) := fun W f => ⟨(Env.of f).cell (takes_env x k4), (Env.of f).cell (HB.out.cell 0), (Env.of f).cell (HB.out.cell 5)⟩
  have HT : Hid (tkB (.list t) v = (decide (x.k = 5) && v.its.all fun u => tkB t u)) := by unfold Hid; rw [tkB, hp.1.1]
  have HEw := hid (Env.alloc w (.cells #[.int .i64 x.k, .int .i64 x.n, .float .f64 x.f, .string ⟨x.t.toArray⟩, .slice x.na x.nl x.nc, .slice x.ia x.il x.ic] 26))
  generalize tkB (.list t) v = T at *
  generalize (v.its.all fun u => tkB t u) = q at *
  clear hp hx hE k0 k4 hKc hT
  obtain ⟨k, n, f, tx, na, nl, nc, ia, il, ic⟩ := x
  simp only [Vv.v, vBox] at *
  by_cases h5 : k = 5
  · have h5' : (k == 5) = true := by simpa using h5
    have HT2 : Hid (T = q) := by unfold Hid; rw [HT.out, decide_eq_true h5]; rfl
    clear HT h5
    go_enter Tryz.func27, Tryz.ntmps27
    go_wp2_with fail
    go_region_held3 (fun W => W.cell? ⟨b, 4, none⟩ = some (pv c) ∧ W.cell? ⟨w.heap.size, 0, none⟩ = some (.int .i64 k) ∧ W.cell? ⟨w.heap.size, 5, none⟩ = some (.slice ia il ic))
      (first | exact HKc.out _ (Fr.refl _ _).drew | exact HKc.out _ F1.out)
      (first | (go_at_call 33; refine (HC.out _ (HEw.out.trans (Env.of ((Fr.refl _ _).drew)))).mono ?_; rintro e w2 ⟨rfl, f2⟩; have F1 : Hid (Fr (fun _ => False) _ w2) := (Fr.refl _ _).drew.trans f2 (fun _ h => h.elim)) | fail)
    have HF2 := hid (HF.out.trans F1.out (fun _ h => h.elim))
    go_wp2_with fail
    go_ret
    exact ⟨by rw [HT2.out]; rfl, HF2.out⟩
  · have h5' : (k == 5) = false := by simpa using h5
    have HT2 : Hid (T = false) := by unfold Hid; rw [HT.out, decide_eq_false h5]; rfl
    clear HT h5
    go_enter Tryz.func27, Tryz.ntmps27
    go_wp2_with fail
    go_quiet (fail)
    have HF2 := hid (HF.out.drewN nq)
    go_wp2_with fail
    go_ret
    exact ⟨by rw [HT2.out]; rfl, HF2.out⟩

set_option maxRecDepth 100000 in
set_option maxHeartbeats 4000000 in
theorem takes_attrs (t : Ty) (hT : TkOf t) : TkOf (.attrs t) := by
  intro v x w b hE hx hK
  have hp := hx.parts
  obtain ⟨k0, c, k4, hKc⟩ := hK
  have HF := hid (vFr w x)
  have HB := hid (vBlk w x)
  have c0 := takes_env x k0
  have c4 := takes_env x k4
  have HC : Hid (∀ W, Env w W → Calls Tryz.prog 33 #[pv c, .slice x.ia x.il x.ic] W fun e w' => e = .returned (.bool (v.its.all fun u => tkB t u)) ∧ Fr (fun _ => False) W w') := fun W e => by
    rw [hp.2.2.2.1.1]
    exact takesAll_of t hT v.its (fun u hu => even_item hE hu) W x.ia x.ic c (IIn.env e _ _ hp.2.2.2.2) hp.2.2.2.1.2.2 (KIn.env e _ _ hKc)
  have HKc : Hid (∀ W, Fr (fun _ => False) (vBox w x) W → W.cell? ⟨b, 4, none⟩ = some (pv c) ∧ W.cell? ⟨w.heap.size, 0, none⟩ = some (.int .i64 x.k) ∧ W.cell? ⟨w.heap.size, 5, none⟩ = some (.slice x.ia x.il x.ic)) := fun W f => ⟨(Env.of f).cell (takes_env x k4), (Env.of f).cell (HB.out.cell 0), (Env.of f).cell (HB.out.cell 5)⟩
  have HT : Hid (tkB (.attrs t) v = (decide (x.k = 6) && v.its.all fun u => tkB t u)) := by unfold Hid; rw [tkB, hp.1.1]
  have HEw := hid (Env.alloc w (.cells #[.int .i64 x.k, .int .i64 x.n, .float .f64 x.f, .string ⟨x.t.toArray⟩, .slice x.na x.nl x.nc, .slice x.ia x.il x.ic] 26))
  generalize tkB (.attrs t) v = T at *
  generalize (v.its.all fun u => tkB t u) = q at *
  clear hp hx hE k0 k4 hKc hT
  obtain ⟨k, n, f, tx, na, nl, nc, ia, il, ic⟩ := x
  simp only [Vv.v, vBox] at *
  by_cases h5 : k = 6
  · have h5' : (k == 6) = true := by simpa using h5
    have HT2 : Hid (T = q) := by unfold Hid; rw [HT.out, decide_eq_true h5]; rfl
    clear HT h5
    go_enter Tryz.func27, Tryz.ntmps27
    go_wp2_with fail
    go_region_held3 (fun W => W.cell? ⟨b, 4, none⟩ = some (pv c) ∧ W.cell? ⟨w.heap.size, 0, none⟩ = some (.int .i64 k) ∧ W.cell? ⟨w.heap.size, 5, none⟩ = some (.slice ia il ic))
      (first | exact HKc.out _ (Fr.refl _ _).drew | exact HKc.out _ F1.out)
      (first | (go_at_call 33; refine (HC.out _ (HEw.out.trans (Env.of ((Fr.refl _ _).drew)))).mono ?_; rintro e w2 ⟨rfl, f2⟩; have F1 : Hid (Fr (fun _ => False) _ w2) := (Fr.refl _ _).drew.trans f2 (fun _ h => h.elim)) | fail)
    have HF2 := hid (HF.out.trans F1.out (fun _ h => h.elim))
    go_wp2_with fail
    go_ret
    exact ⟨by rw [HT2.out]; rfl, HF2.out⟩
  · have h5' : (k == 6) = false := by simpa using h5
    have HT2 : Hid (T = false) := by unfold Hid; rw [HT.out, decide_eq_false h5]; rfl
    clear HT h5
    go_enter Tryz.func27, Tryz.ntmps27
    go_wp2_with fail
    go_quiet (fail)
    have HF2 := hid (HF.out.drewN nq)
    go_wp2_with fail
    go_ret
    exact ⟨by rw [HT2.out]; rfl, HF2.out⟩

theorem tk_bare (s : List UInt8) (hs : s = sBool ∨ s = sFloat ∨ s = sString ∨ s = sLines) : TkOf (.bare s) := by
  intro v x w b _ hx hK
  have hT : tkB (.bare s) v = bareT s x.k := by
    rw [tkB, hx.parts.1.1, if_neg]
    rcases hs with rfl | rfl | rfl | rfl <;> decide
  rw [hT]
  exact takes_bare w s hs x b hK
theorem tk_int (lo hi : Int) : TkOf (.int lo hi) := by
  intro v x w b _ hx hK
  have hT : tkB (.int lo hi) v = (decide (x.k = 2) && (decide (lo ≤ x.n) && decide (x.n ≤ hi))) := by rw [tkB, hx.parts.1.1, hx.parts.1.2.1]
  rw [hT]
  exact takes_int w lo hi x b hK

/-- What partOf tells. -/
def partT (name : List UInt8) : Option Ty := if name = sStart then some (.bare sString) else if name = sAfter ∨ name = sRequires then some (.list (.bare sString)) else none
theorem part_tk (name : List UInt8) (u : Vt) : partB name u = match partT name with | none => false | some t => tkB t u := by
  unfold partB partT
  split
  · rfl
  · split
    · show _ = tkB (.list (.bare sString)) u
      rw [tkB]; rfl
    · rfl
set_option maxRecDepth 100000 in
set_option maxHeartbeats 4000000 in
theorem partOf_any (w : World) (name : List UInt8) : Calls Tryz.prog 68 #[.string ⟨name.toArray⟩] w fun e w' => KPost w (partT name) e w' := by
  by_cases h1 : name = sStart
  · subst h1
    have HF : Hid (Fr (fun _ => False) w (kBox w sString 0 0 none 0 0 none)) := (Fr.refl _ w).alloc _
    have HB := hid (kBlk w sString 0 0 none 0 0 none)
    go_enter Tryz.func68, Tryz.ntmps68
    go_wp2_with fail
    go_ret
    exact ⟨HF.out, .inr ⟨.bare sString, w.heap.size, rfl, rfl, HB.out.cell 0⟩⟩
  by_cases h2 : name = sAfter ∨ name = sRequires
  · have HF : Hid (Fr (fun _ => False) w (kBox (kBox w sString 0 0 none 0 0 none) sList 0 0 none 0 0 (some ⟨w.heap.size, 0, none⟩))) := ((Fr.refl _ w).alloc _).alloc _
    have HB := hid (kBlk (kBox w sString 0 0 none 0 0 none) sList 0 0 none 0 0 (some ⟨w.heap.size, 0, none⟩))
    have HB0 := hid ((kBlk w sString 0 0 none 0 0 none).alloc (.cells #[.string ⟨sList.toArray⟩, .int .i64 0, .int .i64 0, .slice none 0 0, .pointer (some ⟨w.heap.size, 0, none⟩)] 70))
    have HT : Hid (partT name = some (.list (.bare sString))) := by unfold Hid partT; rw [if_neg h1, if_pos h2]
    generalize partT name = T at *
    rw [World.size_alloc] at HB
    rcases h2 with rfl | rfl
    all_goals
      clear h1
      go_enter Tryz.func68, Tryz.ntmps68
      go_wp2_with fail
      go_ret
      exact ⟨HF.out, .inr ⟨_, w.heap.size + 1, HT.out, rfl, HB.out.cell 0, w.heap.size, HB.out.cell 4, HB0.out.cell 0⟩⟩
  have q1 : (name == sStart) = false := by simpa using h1
  have q2 : (name == sAfter) = false := by simp; exact fun h => h2 (.inl h)
  have q3 : (name == sRequires) = false := by simp; exact fun h => h2 (.inr h)
  have HT : Hid (partT name = none) := by unfold Hid partT; rw [if_neg h1, if_neg h2]
  generalize partT name = T at *
  clear h1 h2
  go_enter Tryz.func68, Tryz.ntmps68
  go_wp2_with fail
  go_ret
  exact ⟨Fr.refl _ _, .inl ⟨HT.out, rfl⟩⟩
end Go.Proofs.YtniailfcmlongaaGreatDoor.Tr
/- areParts, takes over unit, takes of every type, Of. -/
namespace Go.Proofs.YtniailfcmlongaaGreatDoor.Tr
open Go.RowKit

theorem partsB_drop (ns : List (List UInt8)) (its : List Vt) (i : Nat) (h1 : i < ns.length) (h2 : i < its.length) : partsB (ns.drop i) (its.drop i) = (partB ns[i] its[i] && partsB (ns.drop (i + 1)) (its.drop (i + 1))) := by
  rw [List.drop_eq_getElem_cons h1, List.drop_eq_getElem_cons h2, partsB]

theorem partsB_nil (its : List Vt) : partsB [] its = true := by cases its <;> rfl

theorem tk_part {name : List UInt8} {t : Ty} (h : partT name = some t) : TkOf t := by
  unfold partT at h
  split at h
  · cases h; exact tk_bare _ (.inr (.inr (.inl rfl)))
  · split at h
    · cases h; exact takes_list _ (tk_bare _ (.inr (.inr (.inl rfl))))
    · cases h

set_option maxRecDepth 100000 in
set_option maxHeartbeats 4000000 in
theorem areParts_any (w : World) (v : Vt) (x : Vv) (hE : evenV v) (hlen : v.ns.length = v.its.length) (hx : VIn w v x) : Calls Tryz.prog 44 #[x.v] w fun e w' => e = .returned (.bool (partsB v.ns v.its)) ∧ Fr (fun _ => False) w w' := by
  have HB := hid (vBlk w x)
  have HF := hid (vFr w x)
  have HX := hid hx
  have hp := hx.parts
  have HN := hid hp.2.2.1.2.2.2
  have HL := hid hp.2.1.2.2.2
  have HEv := hid hE
  have hnl : x.nl = v.ns.length := hp.2.2.1.1
  have hil : x.il = v.its.length := hp.2.2.2.1.1
  have hlim : v.ns.length ≤ 140737488351232 := hp.2.2.1.2.2.1
  have hlim2 : v.its.length ≤ 140737488351232 := hp.2.2.2.1.2.2
  have HLn := hid hlen
  clear hp hE hx hlen
  obtain ⟨k, n, f, t, na, nl, nc, ia, il, ic⟩ := x
  simp only [Vv.v] at *
  subst hnl hil
  go_enter Tryz.func44, Tryz.ntmps44
  go_wp2_with fail
  go_loopw [3, 4, 5, 9] (fun _ _ _ iv wr => ∃ i : Nat, i ≤ v.ns.length ∧ iv = .int .i64 (i : Int) ∧ partsB v.ns v.its = partsB (v.ns.drop i) (v.its.drop i) ∧ Fr (fun _ => False) w wr ∧ Blk wr w.heap.size 26 (Vv.cs ⟨k, n, f, t, na, v.ns.length, nc, ia, v.its.length, ic⟩)) (fun _ _ _ iv _ => v.ns.length - (intOf iv).toNat)
  case atStart => exact ⟨0, by omega, rfl, by simp, HF.out, HB.out⟩
  case round =>
    obtain ⟨i, hi, rfl, hS, hF, hB⟩ := hrel
    clear HB HF
    have HB := hid hB
    have HF := hid hF
    have HS := hid hS
    clear hB hF hS
    by_cases hlt : i < v.ns.length
    · have hlt' : (i : Int) < ((v.ns.length : Nat) : Int) := by omega
      have hlt2 : i < v.its.length := by have := HLn.out; omega
      have hlt3 : (i : Int) < ((v.its.length : Nat) : Int) := by omega
      obtain ⟨bn, on, e1, hc⟩ := HN.out (by intro e; rw [e] at hlt; simp at hlt)
      subst e1
      have cn := (Env.of HF.out).cell (hc i hlt)
      obtain ⟨bi, oi, y, e2, e3, e4⟩ := HX.out.item i hlt2
      subst e2
      have HP : Hid (partsB v.ns v.its = (partB v.ns[i] v.its[i] && partsB (v.ns.drop (i + 1)) (v.its.drop (i + 1)))) := by
        unfold Hid; rw [HS.out, partsB_drop _ _ _ hlt hlt2]
      have HPO := hid (partOf_any wr v.ns[i])
      have HTK : Hid (∀ t, partT v.ns[i] = some t → ∀ W b, Env wr W → KIn W t b → Calls Tryz.prog 27 #[pv b, y.v] W fun e w' => e = .returned (.bool (partB v.ns[i] v.its[i])) ∧ Fr (fun _ => False) W w') := fun t ht W b e hk => by
        rw [part_tk, ht]
        exact tk_part ht v.its[i] y W b (even_item HEv.out (List.getElem_mem hlt2)) (VIn.env ((Env.of HF.out).trans e) _ _ e4) hk
      have HNo : Hid (partT v.ns[i] = none → partB v.ns[i] v.its[i] = false) := fun h => by rw [part_tk, h]
      have HY := hid (e3.env (Env.of HF.out))
      generalize partB v.ns[i] v.its[i] = q at *
      generalize v.ns[i] = name at *
      clear HS e3 e4 hc
      go_wp2_with fail
      refine HPO.out.mono ?_
      rintro e w2 ⟨f2, ⟨e5, rfl⟩ | ⟨t5, b5, e5, rfl, k5⟩⟩
      · have HF2 := hid (HF.out.trans f2 (fun _ h => h.elim))
        have HR := hid (HNo.out e5)
        clear f2 e5
        go_wp2_with fail
        go_ret
        exact ⟨by rw [HP.out, HR.out]; rfl, HF2.out⟩
      · have HF2 := hid (HF.out.trans f2 (fun _ h => h.elim))
        have HB2 := hid (f2.blk HB.out (fun h => h))
        have HC := hid (HTK.out t5 e5 w2 b5 (Env.of f2) k5)
        obtain ⟨c0, c1, c2, c3, c4, c5⟩ := HB2.out.six
        obtain ⟨d0, d1, d2, d3, d4, d5⟩ := (HY.out.env (Env.of f2)).six
        clear f2 e5 k5 HTK HNo
        go_wp2_with fail
        refine HC.out.mono ?_
        rintro e w3 ⟨rfl, f3⟩
        have HF3 := hid (HF2.out.trans f3 (fun _ h => h.elim))
        have HB3 := hid (f3.blk HB2.out (fun h => h))
        clear f3 c0 c1 c2 c3 c4 c5 d0 d1 d2 d3 d4 d5
        cases q with
        | false =>
          go_wp2_with fail
          go_ret
          exact ⟨by rw [HP.out]; rfl, HF3.out⟩
        | true =>
          go_wp2_with fail
          exact ⟨⟨i + 1, by omega, by first | rfl | (congr 1), by rw [HP.out]; rfl, HF3.out, HB3.out⟩, by simp [intOf]; omega⟩
    · have hlt' : ¬ (i : Int) < ((v.ns.length : Nat) : Int) := by omega
      have HR : Hid (partsB v.ns v.its = true) := by
        unfold Hid
        rw [HS.out, List.drop_eq_nil_of_le (by omega)]
        exact partsB_nil _
      go_wp2_with fail
      go_ret
      exact ⟨by rw [HR.out]; rfl, HF.out⟩

set_option maxRecDepth 100000 in
set_option maxHeartbeats 4000000 in
theorem takes_unit : TkOf (.bare sUnit) := by
  intro v x w b hE hx hK
  have hp := hx.parts
  have HF := hid (vFr w x)
  have HB := hid (vBlk w x)
  have c0 : (vBox w x).cell? ⟨b, 0, none⟩ = some (.string ⟨sUnit.toArray⟩) := takes_env x hK
  have HC : Hid (x.k = 6 → ∀ W, Env w W → Calls Tryz.prog 44 #[x.v] W fun e w' => e = .returned (.bool (partsB v.ns v.its)) ∧ Fr (fun _ => False) W w') := fun h W e => areParts_any W v x hE (even_set hE (by rw [← hp.1.1]; exact h)) (VIn.env e _ _ hx)
  have HT : Hid (tkB (.bare sUnit) v = (decide (x.k = 6) && partsB v.ns v.its)) := by unfold Hid; rw [tkB, if_pos rfl, hp.1.1]
  generalize tkB (.bare sUnit) v = T at *
  generalize partsB v.ns v.its = q at *
  have HEw := hid (Env.alloc w (.cells #[.int .i64 x.k, .int .i64 x.n, .float .f64 x.f, .string ⟨x.t.toArray⟩, .slice x.na x.nl x.nc, .slice x.ia x.il x.ic] 26))
  obtain ⟨z0, z1, z2, z3, z4, z5⟩ := HB.out.six
  clear hp hx hE hK
  obtain ⟨k, n, f, tx, na, nl, nc, ia, il, ic⟩ := x
  simp only [Vv.v, vBox] at *
  by_cases h5 : k = 6
  · have h5' : (k == 6) = true := by simpa using h5
    have HT2 : Hid (T = q) := by unfold Hid; rw [HT.out, decide_eq_true h5]; rfl
    have HC2 := hid (HC.out h5 _ HEw.out)
    clear HT h5 HC
    go_enter Tryz.func27, Tryz.ntmps27
    go_wp2_with fail
    refine HC2.out.mono ?_
    rintro e w2 ⟨rfl, f2⟩
    have HF2 := hid (HF.out.trans f2 (fun _ h => h.elim))
    clear f2
    go_wp2_with fail
    go_ret
    exact ⟨by rw [HT2.out]; rfl, HF2.out⟩
  · have h5' : (k == 6) = false := by simpa using h5
    have HT2 : Hid (T = false) := by unfold Hid; rw [HT.out, decide_eq_false h5]; rfl
    clear HT h5 HC
    go_enter Tryz.func27, Tryz.ntmps27
    go_wp2_with fail
    go_ret
    exact ⟨by rw [HT2.out]; rfl, HF.out⟩

/-- Words that may stand bare. -/
def bareW (s : List UInt8) : Prop := s = sBool ∨ s = sFloat ∨ s = sString ∨ s = sLines ∨ s = sUnit
/-- Types that can be read. -/
def tyOk : Ty → Prop
  | .bare s => bareW s
  | .int _ _ => True
  | .enum _ => True
  | .list t => tyOk t
  | .attrs t => tyOk t
theorem takes_any : ∀ t, tyOk t → TkOf t
  | .bare s, h => by
    have h' : bareW s := h
    rcases h' with h | h | h | h | h
    · exact tk_bare s (.inl h)
    · exact tk_bare s (.inr (.inl h))
    · exact tk_bare s (.inr (.inr (.inl h)))
    · exact tk_bare s (.inr (.inr (.inr h)))
    · subst h; exact takes_unit
  | .int lo hi, _ => tk_int lo hi
  | .enum ws, _ => takes_enum ws
  | .list t, h => takes_list t (takes_any t h)
  | .attrs t, h => takes_attrs t (takes_any t h)
theorem tyOf_ok : ∀ (ws : List (List UInt8)) (t : Ty), tyOf ws = some t → tyOk t
  | [], t, h => by cases h
  | s :: ws, t, h => by
    rw [tyOf] at h
    split at h
    · rename_i hb
      split at h
      · cases h; exact hb
      · cases h
    · split at h
      · unfold intTy at h
        split at h
        · cases h; trivial
        · split at h
          · split at h
            · cases h; trivial
            · cases h
          · cases h
        · cases h
      · split at h
        · split at h
          · cases h; trivial
          · cases h
        · split at h
          · obtain ⟨t', h1, rfl⟩ := Option.map_eq_some_iff.1 h
            exact tyOf_ok ws t' h1
          · split at h
            · obtain ⟨t', h1, rfl⟩ := Option.map_eq_some_iff.1 h
              exact tyOf_ok ws t' h1
            · cases h
theorem readT_ok {s : List UInt8} {t : Ty} (h : readT s = some t) : tyOk t := by
  unfold readT at h
  split at h
  · exact tyOf_ok _ t h
  · cases h

/-- What Of tells. -/
def ofB (t : List UInt8) (v : Vt) : Bool := match readT t with | none => false | some k => rtB v 32 && tkB k v

set_option maxRecDepth 100000 in
set_option maxHeartbeats 4000000 in
theorem tOf_any (w : World) (t : List UInt8) (hl : t.length ≤ 140737488355328) (hm : Mx w) (v : Vt) (x : Vv) (hx : VIn w v x) : Calls Tryz.prog 14 #[.string ⟨t.toArray⟩, x.v] w fun e w' => e = .returned (.bool (ofB t v)) ∧ Fr (fun _ => False) w w' := by
  have HC := hid (read_any (vBox w x) t hl (hm.env (Env.alloc w _)))
  have HFv := hid (vFr w x)
  have HB := hid (vBlk w x)
  have HRt : Hid (∀ W, Env w W → Calls Tryz.prog 26 #[x.v] W fun e w' => e = .returned (.bool (rtB v 32)) ∧ Fr (fun _ => False) W w') := fun W e => right_any hx W e
  have HTk : Hid (∀ k, readT t = some k → rtB v 32 = true → ∀ W b, Env w W → KIn W k b → Calls Tryz.prog 27 #[pv b, x.v] W fun e w' => e = .returned (.bool (tkB k v)) ∧ Fr (fun _ => False) W w') := fun k hk hr W b e hK => takes_any k (readT_ok hk) v x W b ⟨32, hr⟩ (VIn.env e _ _ hx) hK
  have HT : Hid (ofB t v = match readT t with | none => false | some k => rtB v 32 && tkB k v) := rfl
  generalize ofB t v = T at *
  generalize readT t = R at *
  generalize rtB v 32 = r at *
  clear hm hx
  obtain ⟨k, n, f, tx, na, nl, nc, ia, il, ic⟩ := x
  simp only [Vv.v] at *
  go_enter Tryz.func14, Tryz.ntmps14
  go_wp2_with fail
  refine HC.out.mono ?_
  rintro e w1 ⟨f1, ⟨rfl, rfl⟩ | ⟨kd, b, rfl, rfl, hK⟩⟩
  · have HF := hid (HFv.out.trans f1 (fun _ h => h.elim))
    clear f1
    go_wp2_with fail
    go_ret
    exact ⟨by rw [HT.out]; rfl, HF.out⟩
  · have HF := hid (HFv.out.trans f1 (fun _ h => h.elim))
    have HK := hid hK
    have HB1 := hid (f1.blk HB.out (fun h => h))
    obtain ⟨c0, c1, c2, c3, c4, c5⟩ := HB1.out.six
    clear f1 hK
    go_wp2_with fail
    refine (HRt.out _ (Env.of HF.out)).mono ?_
    rintro e w2 ⟨rfl, f2⟩
    have HF2 := hid (HF.out.trans f2 (fun _ h => h.elim))
    have HK2 := hid (KIn.env (Env.of f2) _ _ HK.out)
    have HB2 := hid (f2.blk HB1.out (fun h => h))
    clear f2 c0 c1 c2 c3 c4 c5
    obtain ⟨c0, c1, c2, c3, c4, c5⟩ := HB2.out.six
    cases r with
    | false =>
      go_wp2_with fail
      go_ret
      exact ⟨by rw [HT.out]; rfl, HF2.out⟩
    | true =>
      have HC2 := hid (HTk.out kd rfl rfl w2 b (Env.of HF2.out) HK2.out)
      have HT2 : Hid (T = tkB kd v) := by unfold Hid; rw [HT.out]; rfl
      generalize tkB kd v = q at *
      clear HT HTk
      go_wp2_with fail
      refine HC2.out.mono ?_
      rintro e w3 ⟨rfl, f3⟩
      have HF3 := hid (HF2.out.trans f3 (fun _ h => h.elim))
      clear f3
      go_wp2_with fail
      go_ret
      exact ⟨by rw [HT2.out]; rfl, HF3.out⟩
end Go.Proofs.YtniailfcmlongaaGreatDoor.Tr
/- Definitions in memory; allRight, byPriority, byOrder. -/
namespace Go.Proofs.YtniailfcmlongaaGreatDoor.Tr
open Go.RowKit

/-- A definition: its value, its priority, its order. -/
structure Dt where
  v : Vt
  p : Int
  o : Int
/-- Its cells. -/
structure Dv where
  x : Vv
  p : Int
  o : Int
instance : Inhabited Dv := ⟨⟨vZ, 0, 0⟩⟩
abbrev Dv.cs (y : Dv) : List Value := [.int .i64 y.x.k, .int .i64 y.x.n, .float .f64 y.x.f, .string ⟨y.x.t.toArray⟩, .slice y.x.na y.x.nl y.x.nc, .slice y.x.ia y.x.il y.x.ic, .int .i64 y.p, .int .i64 y.o]
abbrev Dv.v (y : Dv) : Value := .agg #[.int .i64 y.x.k, .int .i64 y.x.n, .float .f64 y.x.f, .string ⟨y.x.t.toArray⟩, .slice y.x.na y.x.nl y.x.nc, .slice y.x.ia y.x.il y.x.ic, .int .i64 y.p, .int .i64 y.o]
abbrev dBox (w : World) (y : Dv) : World := w.alloc (.cells #[.int .i64 y.x.k, .int .i64 y.x.n, .float .f64 y.x.f, .string ⟨y.x.t.toArray⟩, .slice y.x.na y.x.nl y.x.nc, .slice y.x.ia y.x.il y.x.ic, .int .i64 y.p, .int .i64 y.o] 30)
theorem dBlk (w : World) (y : Dv) : Blk (dBox w y) w.heap.size 30 y.cs := Blk.new w 30 y.cs
theorem dFr (w : World) (y : Dv) : Fr (fun _ => False) w (dBox w y) := (Fr.refl _ w).alloc _
abbrev eight (W : World) (b o : Nat) (y : Dv) : Prop := W.cell? ⟨b, o, none⟩ = some (.int .i64 y.x.k) ∧ W.cell? ⟨b, o + 1, none⟩ = some (.int .i64 y.x.n) ∧ W.cell? ⟨b, o + 2, none⟩ = some (.float .f64 y.x.f) ∧ W.cell? ⟨b, o + 3, none⟩ = some (.string ⟨y.x.t.toArray⟩) ∧ W.cell? ⟨b, o + 4, none⟩ = some (.slice y.x.na y.x.nl y.x.nc) ∧ W.cell? ⟨b, o + 5, none⟩ = some (.slice y.x.ia y.x.il y.x.ic) ∧ W.cell? ⟨b, o + 6, none⟩ = some (.int .i64 y.p) ∧ W.cell? ⟨b, o + 7, none⟩ = some (.int .i64 y.o)
theorem eight_env {w W : World} {b o : Nat} {y : Dv} (h : eight w b o y) (e : Env w W) : eight W b o y :=
  ⟨e.cell h.1, e.cell h.2.1, e.cell h.2.2.1, e.cell h.2.2.2.1, e.cell h.2.2.2.2.1, e.cell h.2.2.2.2.2.1, e.cell h.2.2.2.2.2.2.1, e.cell h.2.2.2.2.2.2.2⟩
abbrev eightB (W : World) (b : Nat) (y : Dv) : Prop := W.cell? ⟨b, 0, none⟩ = some (.int .i64 y.x.k) ∧ W.cell? ⟨b, 1, none⟩ = some (.int .i64 y.x.n) ∧ W.cell? ⟨b, 2, none⟩ = some (.float .f64 y.x.f) ∧ W.cell? ⟨b, 3, none⟩ = some (.string ⟨y.x.t.toArray⟩) ∧ W.cell? ⟨b, 4, none⟩ = some (.slice y.x.na y.x.nl y.x.nc) ∧ W.cell? ⟨b, 5, none⟩ = some (.slice y.x.ia y.x.il y.x.ic) ∧ W.cell? ⟨b, 6, none⟩ = some (.int .i64 y.p) ∧ W.cell? ⟨b, 7, none⟩ = some (.int .i64 y.o)
theorem Blk.eight {W : World} {b : Nat} {t : TypeId} {y : Dv} (h : Blk W b t y.cs) : eightB W b y := ⟨h.cell 0, h.cell 1, h.cell 2, h.cell 3, h.cell 4, h.cell 5, h.cell 6, h.cell 7⟩
/-- The cells y are the definition d. -/
def DIn (w : World) (d : Dt) (y : Dv) : Prop := VIn w d.v y.x ∧ y.p = d.p ∧ y.o = d.o ∧ I64 d.p ∧ I64 d.o
theorem DIn.env {w W : World} {d : Dt} {y : Dv} (h : DIn w d y) (e : Env w W) : DIn W d y := ⟨VIn.env e _ _ h.1, h.2⟩
/-- Definitions that lie in a row. -/
def DsIn (w : World) (L : List Dt) (ad : Option Addr) : Prop := L ≠ [] → ∃ b o, ad = some ⟨b, o, none⟩ ∧ ∀ i (h : i < L.length), ∃ y, eight w b (o + i * 8) y ∧ DIn w L[i] y
theorem DsIn.env {w W : World} {L : List Dt} {ad : Option Addr} (h : DsIn w L ad) (e : Env w W) : DsIn W L ad := fun hne => by
  obtain ⟨b, o, h1, h2⟩ := h hne
  refine ⟨b, o, h1, fun i hi => ?_⟩
  obtain ⟨y, y1, y2⟩ := h2 i hi
  exact ⟨y, eight_env y1 e, y2.env e⟩
theorem DsIn.at {w : World} {L : List Dt} {ad : Option Addr} (h : DsIn w L ad) (i : Nat) (hi : i < L.length) : ∃ b o y, ad = some ⟨b, o, none⟩ ∧ eight w b (o + i * 8) y ∧ DIn w L[i] y := by
  obtain ⟨b, o, h1, h2⟩ := h (fun e => by rw [e] at hi; simp at hi)
  obtain ⟨y, y1, y2⟩ := h2 i hi
  exact ⟨b, o, y, h1, y1, y2⟩

set_option maxRecDepth 100000 in
set_option maxHeartbeats 4000000 in
theorem allRight_any (w : World) (L : List Dt) (ad : Option Addr) (cap : Nat) (hI : DsIn w L ad) (hlim : L.length ≤ 140737488351232) :
    Calls Tryz.prog 31 #[.slice ad L.length cap] w fun e w' => e = .returned (.bool (L.all fun d => rtB d.v 32)) ∧ Fr (fun _ => False) w w' := by
  have hst := fun (W : World) (a : Addr) (m : Mode) (f : Nat) => run_store Tryz.prog W a (.float .f64 f) m rfl
  have HI := hid hI
  clear hI
  go_enter Tryz.func31, Tryz.ntmps31
  go_wp2_with fail
  go_loopw [4, 7] (fun _ iv wr => ∃ i : Nat, i ≤ L.length ∧ iv = .int .i64 (i : Int) ∧ (∀ j (h : j < L.length), j < i → rtB L[j].v 32 = true) ∧ Fr (fun _ => False) w wr) (fun _ iv _ => L.length - (intOf iv).toNat)
  case atStart => exact ⟨0, Nat.zero_le _, rfl, fun j _ hj => absurd hj (by omega), Fr.refl _ _⟩
  case round =>
    obtain ⟨i, hi, rfl, hA, hF⟩ := hrel
    have HA := hid hA
    have HF := hid hF
    clear hA hF
    by_cases hlt : i < L.length
    · have hlt' : (i : Int) < ((L.length : Nat) : Int) := by omega
      obtain ⟨bb, bo, y, rfl, y1, y2⟩ := HI.out.at i hlt
      obtain ⟨k0, k1, k2, k3, k4, k5, k6, k7⟩ := eight_env y1 (Env.of HF.out)
      have HFb := hid (HF.out.trans (dFr wr y) (fun _ h => h.elim))
      have HC : Hid (Calls Tryz.prog 26 #[y.x.v] (dBox wr y) fun e w' => e = .returned (.bool (rtB L[i].v 32)) ∧ Fr (fun _ => False) (dBox wr y) w') := right_any y2.1 _ (Env.of HFb.out)
      have HN : Hid (rtB L[i].v 32 = false → (L.all fun d => rtB d.v 32) = false) := fun h => by
        rw [List.all_eq_false]
        exact ⟨L[i], List.getElem_mem hlt, by rw [h]; simp⟩
      have HN2 : Hid (rtB L[i].v 32 = true → ∀ j (h : j < L.length), j < i + 1 → rtB L[j].v 32 = true) := fun h j hj hj' => by
        by_cases e : j = i
        · subst e; exact h
        · exact HA.out j hj (by omega)
      generalize hq : rtB L[i].v 32 = q at HC HN HN2
      clear y1 y2 HA hq
      obtain ⟨⟨k, n, f, t, na, nl, nc, ia, il, ic⟩, p, o⟩ := y
      simp only [Vv.v] at *
      go_wp2_with fail
      refine HC.out.mono ?_
      rintro e w2 ⟨rfl, f2⟩
      have HF2 := hid (HFb.out.trans f2 (fun _ h => h.elim))
      clear f2
      cases q with
      | false =>
        have HE2 := hid (HN.out rfl)
        go_wp2_with fail
        go_ret
        exact ⟨by rw [HE2.out]; rfl, HF2.out⟩
      | true =>
        have HE2 := hid (HN2.out rfl)
        go_wp2_with fail
        exact ⟨⟨i + 1, by omega, by first | rfl | (congr 1), HE2.out, HF2.out⟩, by simp [intOf]; omega⟩
    · have hlt' : ¬ (i : Int) < ((L.length : Nat) : Int) := by omega
      have HR : Hid ((L.all fun d => rtB d.v 32) = true) := List.all_eq_true.2 fun u hu => by
        obtain ⟨j, hj, rfl⟩ := List.getElem_of_mem hu
        exact HA.out j hj (by omega)
      go_wp2_with fail
      go_ret
      exact ⟨by rw [HR.out]; rfl, HF.out⟩

set_option maxRecDepth 100000 in
set_option maxHeartbeats 2000000 in
theorem byPriority_any (w : World) (y z : Dv) : Calls Tryz.prog 50 #[y.v, z.v] w fun e w' => e = .returned (.int .i64 (Lib.compareInt y.p z.p)) ∧ w' = dBox (dBox w y) z := by
  have HC := hid (fun W => Tryz.cmp_Compare_int y.p z.p W)
  obtain ⟨⟨k, n, f, t, na, nl, nc, ia, il, ic⟩, p, o⟩ := y
  obtain ⟨⟨k', n', f', t', na', nl', nc', ia', il', ic'⟩, p', o'⟩ := z
  simp only [Dv.v] at *
  go_enter Tryz.func50, Tryz.ntmps50
  go_wp2_with fail
  refine (HC.out _).mono ?_
  rintro e w' ⟨rfl, rfl⟩
  go_wp2_with fail
  go_ret
  exact ⟨rfl, rfl⟩
set_option maxRecDepth 100000 in
set_option maxHeartbeats 2000000 in
theorem byOrder_any (w : World) (y z : Dv) : Calls Tryz.prog 52 #[y.v, z.v] w fun e w' => e = .returned (.int .i64 (Lib.compareInt y.o z.o)) ∧ w' = dBox (dBox w y) z := by
  have HC := hid (fun W => Tryz.cmp_Compare_int y.o z.o W)
  obtain ⟨⟨k, n, f, t, na, nl, nc, ia, il, ic⟩, p, o⟩ := y
  obtain ⟨⟨k', n', f', t', na', nl', nc', ia', il', ic'⟩, p', o'⟩ := z
  simp only [Dv.v] at *
  go_enter Tryz.func52, Tryz.ntmps52
  go_wp2_with fail
  refine (HC.out _).mono ?_
  rintro e w' ⟨rfl, rfl⟩
  go_wp2_with fail
  go_ret
  exact ⟨rfl, rfl⟩
end Go.Proofs.YtniailfcmlongaaGreatDoor.Tr
