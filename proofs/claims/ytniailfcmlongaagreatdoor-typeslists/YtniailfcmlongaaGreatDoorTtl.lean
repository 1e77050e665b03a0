/- takes over every type; Of. (Written by Ttl.py.) -/
import Derived.Test.YtniailfcmlongaaGreatDoorTtk
import Derived.Test.YtniailfcmlongaaGreatDoorTof
import Derived.Test.YtniailfcmlongaaGreatDoorDpl
namespace Go.Proofs.YtniailfcmlongaaGreatDoor.Tr
open Go.RowKit

theorem even_item {v u : Vt} (h : evenV v) (hu : u ∈ v.its) : evenV u := by
  obtain ⟨n, hn⟩ := h
  cases v with
  | mk k a f t ns its =>
    rw [rtB] at hn
    have hu' : u ∈ its := hu
    split at hn
    · simp only [Bool.and_eq_true] at hn
      exact ⟨n - 1, (rtL_all _ its).1 hn.1.2 u hu'⟩
    · split at hn
      · simp only [Bool.and_eq_true] at hn
        exact ⟨n - 1, (rtL_all _ its).1 hn.1.2.2 u hu'⟩
      · have := (rightS_empty hn).2
        simp only at this
        rw [List.length_eq_zero_iff] at this
        subst this; simp at hu'
theorem even_set {v : Vt} (h : evenV v) (hk : v.k = 6) : v.ns.length = v.its.length := by
  obtain ⟨n, hn⟩ := h
  cases v with
  | mk k a f t ns its =>
    simp only [Vt.k] at hk
    subst hk
    rw [rtB, if_neg (by decide), if_pos rfl] at hn
    simp only [Bool.and_eq_true, decide_eq_true_eq] at hn
    exact hn.1.1.1

set_option maxRecDepth 100000 in
set_option maxHeartbeats 4000000 in
theorem takes_enum (ws : List (List UInt8)) : TkOf (.enum ws) := by
  intro v x w b hE hx hK
  have hp := hx.parts
  obtain ⟨k0, ad, cap, k3, hfew, hS⟩ := hK
  have HF := hid (vFr w x)
  have HB := hid (vBlk w x)
  have HEk := hid (Env.alloc w (.cells #[.int .i64 x.k, .int .i64 x.n, .float .f64 x.f, .string ⟨x.t.toArray⟩, .slice x.na x.nl x.nc, .slice x.ia x.il x.ic] 26))
  have c0 := takes_env x k0
  have c3 := takes_env x k3
  have HC : Hid (∀ n, Calls Tryz.prog 43 #[.slice ad ws.length cap, .string ⟨x.t.toArray⟩] ((vBox w x).drewN n) fun e w' => e = .returned (.bool (ws.contains x.t)) ∧ w' = (vBox w x).drewN n) := fun n => (contains_any ((vBox w x).drewN n) ad ws.length cap ws ((hS.env HEk.out).env (Env.of ((Fr.refl _ _).drewN n))) (Nat.le_refl _) (by omega) x.t).mono (by
    rintro e w' ⟨rfl, rfl⟩
    exact ⟨by rw [List.take_length], rfl⟩)
  have HT : Hid (tkB (.enum ws) v = (decide (x.k = 4) && ws.contains x.t)) := by unfold Hid; rw [tkB, hp.1.1, hp.1.2.2.2]
  generalize tkB (.enum ws) v = T at *
  generalize ws.contains x.t = q at *
  clear hp hx hE k0 k3 hS
  obtain ⟨k, n, f, t, na, nl, nc, ia, il, ic⟩ := x
  simp only [Vv.v, vBox] at *
  by_cases h4 : k = 4
  · have h4' : (k == 4) = true := by simpa using h4
    have HT2 : Hid (T = q) := by unfold Hid; rw [HT.out, decide_eq_true h4]; rfl
    clear HT h4
    go_enter Tryz.func27, Tryz.ntmps27
    go_wp2_with fail
    go_quiet (first | (go_at_call 43; exact Calls.quiet_of_same (HC.out _)))
    have HF2 := hid (HF.out.drewN nq)
    go_wp2_with fail
    go_ret
    exact ⟨by rw [HT2.out]; rfl, HF2.out⟩
  · have h4' : (k == 4) = false := by simpa using h4
    have HT2 : Hid (T = false) := by unfold Hid; rw [HT.out, decide_eq_false h4]; rfl
    clear HT h4
    go_enter Tryz.func27, Tryz.ntmps27
    go_wp2_with fail
    go_quiet (fail)
    have HF2 := hid (HF.out.drewN nq)
    go_wp2_with fail
    go_ret
    exact ⟨by rw [HT2.out]; rfl, HF2.out⟩

set_option maxRecDepth 100000 in
set_option maxHeartbeats 4000000 in
theorem takes_list (t : Ty) (hT : TkOf t) : TkOf (.list t) := by
  intro v x w b hE hx hK
  have hp := hx.parts
  obtain ⟨k0, c, k4, hKc⟩ := hK
  have HF := hid (vFr w x)
  have HB := hid (vBlk w x)
  have c0 := takes_env x k0
  have c4 := takes_env x k4
  have HC : Hid (∀ W, Env w W → Calls Tryz.prog 33 #[pv c, .slice x.ia x.il x.ic] W fun e w' => e = .returned (.bool (v.its.all fun u => tkB t u)) ∧ Fr (fun _ => False) W w') := fun W e => by
    rw [hp.2.2.2.1.1]
    exact takesAll_of t hT v.its (fun u hu => even_item hE hu) W x.ia x.ic c (IIn.env e _ _ hp.2.2.2.2) hp.2.2.2.1.2.2 (KIn.env e _ _ hKc)
  have HKc : Hid (∀ W, Fr (fun _ => False) (vBox w x) W → W.cell? ⟨b, 4, none⟩ = some (pv c) ∧ W.cell? ⟨w.heap.size, 0, none⟩ = some (.int .i64 x.k) ∧ W.cell? ⟨w.heap.size, 5, none⟩ = some (.slice x.ia x.il x.ic)) := fun W f => ⟨(Env.of f).cell (takes_env x k4), (Env.of f).cell (HB.out.cell 0), (Env.of f).cell (HB.out.cell 5)⟩
  have HT : Hid (tkB (.list t) v = (decide (x.k = 5) && v.its.all fun u => tkB t u)) := by unfold Hid; rw [tkB, hp.1.1]
  have HEw := hid (Env.alloc w (.cells #[.int .i64 x.k, .int .i64 x.n, .float .f64 x.f, .string ⟨x.t.toArray⟩, .slice x.na x.nl x.nc, .slice x.ia x.il x.ic] 26))
  generalize tkB (.list t) v = T at *
  generalize (v.its.all fun u => tkB t u) = q at *
  clear hp hx hE k0 k4 hKc hT
  obtain ⟨k, n, f, tx, na, nl, nc, ia, il, ic⟩ := x
  simp only [Vv.v, vBox] at *
  by_cases h5 : k = 5
  · have h5' : (k == 5) = true := by simpa using h5
    have HT2 : Hid (T = q) := by unfold Hid; rw [HT.out, decide_eq_true h5]; rfl
    clear HT h5
    go_enter Tryz.func27, Tryz.ntmps27
    go_wp2_with fail
    go_region_held3 (fun W => W.cell? ⟨b, 4, none⟩ = some (pv c) ∧ W.cell? ⟨w.heap.size, 0, none⟩ = some (.int .i64 k) ∧ W.cell? ⟨w.heap.size, 5, none⟩ = some (.slice ia il ic))
      (first | exact HKc.out _ (Fr.refl _ _).drew | exact HKc.out _ F1.out)
      (first | (go_at_call 33; refine (HC.out _ (HEw.out.trans (Env.of ((Fr.refl _ _).drew)))).mono ?_; rintro e w2 ⟨rfl, f2⟩; have F1 : Hid (Fr (fun _ => False) _ w2) := (Fr.refl _ _).drew.trans f2 (fun _ h => h.elim)) | fail)
    have HF2 := hid (HF.out.trans F1.out (fun _ h => h.elim))
    go_wp2_with fail
    go_ret
    exact ⟨by rw [HT2.out]; rfl, HF2.out⟩
  · have h5' : (k == 5) = false := by simpa using h5
    have HT2 : Hid (T = false) := by unfold Hid; rw [HT.out, decide_eq_false h5]; rfl
    clear HT h5
    go_enter Tryz.func27, Tryz.ntmps27
    go_wp2_with fail
    go_quiet (fail)
    have HF2 := hid (HF.out.drewN nq)
    go_wp2_with fail
    go_ret
    exact ⟨by rw [HT2.out]; rfl, HF2.out⟩

set_option maxRecDepth 100000 in
set_option maxHeartbeats 4000000 in
theorem takes_attrs (t : Ty) (hT : TkOf t) : TkOf (.attrs t) := by
  intro v x w b hE hx hK
  have hp := hx.parts
  obtain ⟨k0, c, k4, hKc⟩ := hK
  have HF := hid (vFr w x)
  have HB := hid (vBlk w x)
  have c0 := takes_env x k0
  have c4 := takes_env x k4
  have HC : Hid (∀ W, Env w W → Calls Tryz.prog 33 #[pv c, .slice x.ia x.il x.ic] W fun e w' => e = .returned (.bool (v.its.all fun u => tkB t u)) ∧ Fr (fun _ => False) W w') := fun W e => by
    rw [hp.2.2.2.1.1]
    exact takesAll_of t hT v.its (fun u hu => even_item hE hu) W x.ia x.ic c (IIn.env e _ _ hp.2.2.2.2) hp.2.2.2.1.2.2 (KIn.env e _ _ hKc)
  have HKc : Hid (∀ W, Fr (fun _ => False) (vBox w x) W → W.cell? ⟨b, 4, none⟩ = some (pv c) ∧ W.cell? ⟨w.heap.size, 0, none⟩ = some (.int .i64 x.k) ∧ W.cell? ⟨w.heap.size, 5, none⟩ = some (.slice x.ia x.il x.ic)) := fun W f => ⟨(Env.of f).cell (takes_env x k4), (Env.of f).cell (HB.out.cell 0), (Env.of f).cell (HB.out.cell 5)⟩
  have HT : Hid (tkB (.attrs t) v = (decide (x.k = 6) && v.its.all fun u => tkB t u)) := by unfold Hid; rw [tkB, hp.1.1]
  have HEw := hid (Env.alloc w (.cells #[.int .i64 x.k, .int .i64 x.n, .float .f64 x.f, .string ⟨x.t.toArray⟩, .slice x.na x.nl x.nc, .slice x.ia x.il x.ic] 26))
  generalize tkB (.attrs t) v = T at *
  generalize (v.its.all fun u => tkB t u) = q at *
  clear hp hx hE k0 k4 hKc hT
  obtain ⟨k, n, f, tx, na, nl, nc, ia, il, ic⟩ := x
  simp only [Vv.v, vBox] at *
  by_cases h5 : k = 6
  · have h5' : (k == 6) = true := by simpa using h5
    have HT2 : Hid (T = q) := by unfold Hid; rw [HT.out, decide_eq_true h5]; rfl
    clear HT h5
    go_enter Tryz.func27, Tryz.ntmps27
    go_wp2_with fail
    go_region_held3 (fun W => W.cell? ⟨b, 4, none⟩ = some (pv c) ∧ W.cell? ⟨w.heap.size, 0, none⟩ = some (.int .i64 k) ∧ W.cell? ⟨w.heap.size, 5, none⟩ = some (.slice ia il ic))
      (first | exact HKc.out _ (Fr.refl _ _).drew | exact HKc.out _ F1.out)
      (first | (go_at_call 33; refine (HC.out _ (HEw.out.trans (Env.of ((Fr.refl _ _).drew)))).mono ?_; rintro e w2 ⟨rfl, f2⟩; have F1 : Hid (Fr (fun _ => False) _ w2) := (Fr.refl _ _).drew.trans f2 (fun _ h => h.elim)) | fail)
    have HF2 := hid (HF.out.trans F1.out (fun _ h => h.elim))
    go_wp2_with fail
    go_ret
    exact ⟨by rw [HT2.out]; rfl, HF2.out⟩
  · have h5' : (k == 6) = false := by simpa using h5
    have HT2 : Hid (T = false) := by unfold Hid; rw [HT.out, decide_eq_false h5]; rfl
    clear HT h5
    go_enter Tryz.func27, Tryz.ntmps27
    go_wp2_with fail
    go_quiet (fail)
    have HF2 := hid (HF.out.drewN nq)
    go_wp2_with fail
    go_ret
    exact ⟨by rw [HT2.out]; rfl, HF2.out⟩

theorem tk_bare (s : List UInt8) (hs : s = sBool ∨ s = sFloat ∨ s = sString ∨ s = sLines) : TkOf (.bare s) := by
  intro v x w b _ hx hK
  have hT : tkB (.bare s) v = bareT s x.k := by
    rw [tkB, hx.parts.1.1, if_neg]
    rcases hs with rfl | rfl | rfl | rfl <;> decide
  rw [hT]
  exact takes_bare w s hs x b hK
theorem tk_int (lo hi : Int) : TkOf (.int lo hi) := by
  intro v x w b _ hx hK
  have hT : tkB (.int lo hi) v = (decide (x.k = 2) && (decide (lo ≤ x.n) && decide (x.n ≤ hi))) := by rw [tkB, hx.parts.1.1, hx.parts.1.2.1]
  rw [hT]
  exact takes_int w lo hi x b hK

/-- What partOf tells. -/
def partT (name : List UInt8) : Option Ty := if name = sStart then some (.bare sString) else if name = sAfter ∨ name = sRequires then some (.list (.bare sString)) else none
theorem part_tk (name : List UInt8) (u : Vt) : partB name u = match partT name with | none => false | some t => tkB t u := by
  unfold partB partT
  split
  · rfl
  · split
    · show _ = tkB (.list (.bare sString)) u
      rw [tkB]; rfl
    · rfl
set_option maxRecDepth 100000 in
set_option maxHeartbeats 4000000 in
theorem partOf_any (w : World) (name : List UInt8) : Calls Tryz.prog 68 #[.string ⟨name.toArray⟩] w fun e w' => KPost w (partT name) e w' := by
  by_cases h1 : name = sStart
  · subst h1
    have HF : Hid (Fr (fun _ => False) w (kBox w sString 0 0 none 0 0 none)) := (Fr.refl _ w).alloc _
    have HB := hid (kBlk w sString 0 0 none 0 0 none)
    go_enter Tryz.func68, Tryz.ntmps68
    go_wp2_with fail
    go_ret
    exact ⟨HF.out, .inr ⟨.bare sString, w.heap.size, rfl, rfl, HB.out.cell 0⟩⟩
  by_cases h2 : name = sAfter ∨ name = sRequires
  · have HF : Hid (Fr (fun _ => False) w (kBox (kBox w sString 0 0 none 0 0 none) sList 0 0 none 0 0 (some ⟨w.heap.size, 0, none⟩))) := ((Fr.refl _ w).alloc _).alloc _
    have HB := hid (kBlk (kBox w sString 0 0 none 0 0 none) sList 0 0 none 0 0 (some ⟨w.heap.size, 0, none⟩))
    have HB0 := hid ((kBlk w sString 0 0 none 0 0 none).alloc (.cells #[.string ⟨sList.toArray⟩, .int .i64 0, .int .i64 0, .slice none 0 0, .pointer (some ⟨w.heap.size, 0, none⟩)] 70))
    have HT : Hid (partT name = some (.list (.bare sString))) := by unfold Hid partT; rw [if_neg h1, if_pos h2]
    generalize partT name = T at *
    rw [World.size_alloc] at HB
    rcases h2 with rfl | rfl
    all_goals
      clear h1
      go_enter Tryz.func68, Tryz.ntmps68
      go_wp2_with fail
      go_ret
      exact ⟨HF.out, .inr ⟨_, w.heap.size + 1, HT.out, rfl, HB.out.cell 0, w.heap.size, HB.out.cell 4, HB0.out.cell 0⟩⟩
  have q1 : (name == sStart) = false := by simpa using h1
  have q2 : (name == sAfter) = false := by simp; exact fun h => h2 (.inl h)
  have q3 : (name == sRequires) = false := by simp; exact fun h => h2 (.inr h)
  have HT : Hid (partT name = none) := by unfold Hid partT; rw [if_neg h1, if_neg h2]
  generalize partT name = T at *
  clear h1 h2
  go_enter Tryz.func68, Tryz.ntmps68
  go_wp2_with fail
  go_ret
  exact ⟨Fr.refl _ _, .inl ⟨HT.out, rfl⟩⟩
end Go.Proofs.YtniailfcmlongaaGreatDoor.Tr
