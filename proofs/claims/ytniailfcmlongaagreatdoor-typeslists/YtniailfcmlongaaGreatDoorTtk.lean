/- takes over types that have no items. -/
import Derived.Test.YtniailfcmlongaaGreatDoorTkd
import Derived.Test.YtniailfcmlongaaGreatDoorVrt
namespace Go.Proofs.YtniailfcmlongaaGreatDoor.Tr
open Go.RowKit

abbrev sStart : List UInt8 := [115, 116, 97, 114, 116]
abbrev sAfter : List UInt8 := [97, 102, 116, 101, 114]
abbrev sRequires : List UInt8 := [114, 101, 113, 117, 105, 114, 101, 115]
def bareT (s : List UInt8) (k : Int) : Bool := if s = sBool then decide (k = 1) else if s = sFloat then decide (k = 3) || decide (k = 2) else decide (k = 4)
def partB (name : List UInt8) (u : Vt) : Bool :=
  if name = sStart then decide (u.k = 4) else if name = sAfter ∨ name = sRequires then decide (u.k = 5) && u.its.all (fun v => decide (v.k = 4)) else false
def partsB : List (List UInt8) → List Vt → Bool
  | n :: ns, v :: vs => partB n v && partsB ns vs
  | _, _ => true
/-- Is a value of a type? -/
def tkB : Ty → Vt → Bool
  | .bare s, v => if s = sUnit then decide (v.k = 6) && partsB v.ns v.its else bareT s v.k
  | .int lo hi, v => decide (v.k = 2) && (decide (lo ≤ v.n) && decide (v.n ≤ hi))
  | .enum ws, v => decide (v.k = 4) && ws.contains v.t
  | .list t, v => decide (v.k = 5) && v.its.all (fun u => tkB t u)
  | .attrs t, v => decide (v.k = 6) && v.its.all (fun u => tkB t u)
/-- As many names as items, in every set. -/
def evenV (v : Vt) : Prop := ∃ n, rtB v n = true

theorem takes_env {w : World} {b j : Nat} {v : Value} (x : Vv) (h : w.cell? ⟨b, j, none⟩ = some v) : (vBox w x).cell? ⟨b, j, none⟩ = some v := (Env.alloc w _).cell h

set_option maxRecDepth 100000 in
set_option maxHeartbeats 2000000 in
theorem takes_bare (w : World) (s : List UInt8) (hs : s = sBool ∨ s = sFloat ∨ s = sString ∨ s = sLines) (x : Vv) (b : Nat) (hk : w.cell? ⟨b, 0, none⟩ = some (.string ⟨s.toArray⟩)) :
    Calls Tryz.prog 27 #[pv b, x.v] w fun e w' => e = .returned (.bool (bareT s x.k)) ∧ Fr (fun _ => False) w w' := by
  have HF := hid (vFr w x)
  have c0 := takes_env x hk
  clear hk
  obtain ⟨k, n, f, t, na, nl, nc, ia, il, ic⟩ := x
  simp only [Vv.v, vBox] at *
  rcases hs with rfl | rfl | rfl | rfl
  · have HR : Hid (bareT sBool k = (k == 1)) := by unfold Hid bareT; rw [if_pos rfl]; rfl
    generalize bareT sBool k = r at *
    go_enter Tryz.func27, Tryz.ntmps27
    go_wp2
    go_ret
    exact ⟨by rw [HR.out]; rfl, HF.out⟩
  · have HR : Hid (bareT sFloat k = ((k == 3) || (k == 2))) := by unfold Hid bareT; rw [if_neg (by decide), if_pos rfl]; rfl
    generalize bareT sFloat k = r at *
    by_cases h3 : k = 3
    · have h3' : (k == 3) = true := by simpa using h3
      clear h3
      go_enter Tryz.func27, Tryz.ntmps27
      go_wp2
      go_ret
      exact ⟨by rw [HR.out, h3']; rfl, HF.out⟩
    · have h3' : (k == 3) = false := by simpa using h3
      clear h3
      go_enter Tryz.func27, Tryz.ntmps27
      go_wp2
      go_ret
      exact ⟨by rw [HR.out, h3']; rfl, HF.out⟩
  · have HR : Hid (bareT sString k = (k == 4)) := by unfold Hid bareT; rw [if_neg (by decide), if_neg (by decide)]; rfl
    generalize bareT sString k = r at *
    go_enter Tryz.func27, Tryz.ntmps27
    go_wp2
    go_ret
    exact ⟨by rw [HR.out]; rfl, HF.out⟩
  · have HR : Hid (bareT sLines k = (k == 4)) := by unfold Hid bareT; rw [if_neg (by decide), if_neg (by decide)]; rfl
    generalize bareT sLines k = r at *
    go_enter Tryz.func27, Tryz.ntmps27
    go_wp2
    go_ret
    exact ⟨by rw [HR.out]; rfl, HF.out⟩

set_option maxRecDepth 100000 in
set_option maxHeartbeats 2000000 in
theorem takes_int (w : World) (lo hi : Int) (x : Vv) (b : Nat) (hk : KIn w (.int lo hi) b) :
    Calls Tryz.prog 27 #[pv b, x.v] w fun e w' => e = .returned (.bool (decide (x.k = 2) && (decide (lo ≤ x.n) && decide (x.n ≤ hi)))) ∧ Fr (fun _ => False) w w' := by
  have HF := hid (vFr w x)
  obtain ⟨k0, k1, k2⟩ := hk
  have c0 := takes_env x k0
  have c1 := takes_env x k1
  have c2 := takes_env x k2
  clear k0 k1 k2
  obtain ⟨k, n, f, t, na, nl, nc, ia, il, ic⟩ := x
  simp only [Vv.v, vBox] at *
  by_cases h2 : k = 2
  · have h2' : (k == 2) = true := by simpa using h2
    by_cases hl : lo ≤ n
    · have hl' : decide (lo ≤ n) = true := by simpa using hl
      have HR : Hid ((decide (k = 2) && (decide (lo ≤ n) && decide (n ≤ hi))) = decide (n ≤ hi)) := by unfold Hid; rw [decide_eq_true h2, hl']; rfl
      generalize (decide (k = 2) && (decide (lo ≤ n) && decide (n ≤ hi))) = r at *
      clear h2 hl
      go_enter Tryz.func27, Tryz.ntmps27
      go_wp2
      go_quiet (fail)
      go_wp2
      go_ret
      exact ⟨by rw [HR.out]; rfl, HF.out.drewN _⟩
    · have hl' : decide (lo ≤ n) = false := by simpa using hl
      have HR : Hid ((decide (k = 2) && (decide (lo ≤ n) && decide (n ≤ hi))) = false) := by unfold Hid; rw [decide_eq_true h2, hl']; rfl
      generalize (decide (k = 2) && (decide (lo ≤ n) && decide (n ≤ hi))) = r at *
      clear h2 hl
      go_enter Tryz.func27, Tryz.ntmps27
      go_wp2
      go_quiet (fail)
      go_wp2
      go_ret
      exact ⟨by rw [HR.out]; rfl, HF.out.drewN _⟩
  · have h2' : (k == 2) = false := by simpa using h2
    have HR : Hid ((decide (k = 2) && (decide (lo ≤ n) && decide (n ≤ hi))) = false) := by unfold Hid; rw [decide_eq_false h2]; rfl
    generalize (decide (k = 2) && (decide (lo ≤ n) && decide (n ≤ hi))) = r at *
    clear h2
    go_enter Tryz.func27, Tryz.ntmps27
    go_wp2
    go_quiet (fail)
    go_wp2
    go_ret
    exact ⟨by rw [HR.out]; rfl, HF.out.drewN _⟩

/-- What takes tells of a type, of every value. -/
def TkOf (t : Ty) : Prop := ∀ (v : Vt) (x : Vv) (w : World) (b : Nat), evenV v → VIn w v x → KIn w t b → Calls Tryz.prog 27 #[pv b, x.v] w fun e w' => e = .returned (.bool (tkB t v)) ∧ Fr (fun _ => False) w w'

set_option maxRecDepth 100000 in
set_option maxHeartbeats 4000000 in
theorem takesAll_of (t : Ty) (hT : TkOf t) (l : List Vt) (hE : ∀ v ∈ l, evenV v) (w : World) (ad : Option Addr) (cap b : Nat) (hI : IIn w l ad) (hlim : l.length ≤ lim) (hK : KIn w t b) :
    Calls Tryz.prog 33 #[pv b, .slice ad l.length cap] w fun e w' => e = .returned (.bool (l.all fun u => tkB t u)) ∧ Fr (fun _ => False) w w' := by
  have hlim' : l.length ≤ 140737488351232 := hlim
  have hst := fun (W : World) (a : Addr) (m : Mode) (f : Nat) => run_store Tryz.prog W a (.float .f64 f) m rfl
  have HT := hid hT
  have HE := hid hE
  have HI := hid hI
  have HK := hid hK
  clear hT hE hI hlim hK
  go_enter Tryz.func33, Tryz.ntmps33
  go_wp2_with fail
  go_loopw [6, 9] (fun _ iv wr => ∃ i : Nat, i ≤ l.length ∧ iv = .int .i64 (i : Int) ∧ (∀ j (h : j < l.length), j < i → tkB t l[j] = true) ∧ Fr (fun _ => False) w wr) (fun _ iv _ => l.length - (intOf iv).toNat)
  case atStart => exact ⟨0, Nat.zero_le _, rfl, fun j _ hj => absurd hj (by omega), Fr.refl _ _⟩
  case round =>
    obtain ⟨i, hi, rfl, hA, hF⟩ := hrel
    have HA := hid hA
    have HF := hid hF
    clear hA hF
    by_cases hlt : i < l.length
    · have hlt' : (i : Int) < ((l.length : Nat) : Int) := by omega
      obtain ⟨bb, bo, rfl⟩ := HI.out.some (by intro e; rw [e] at hlt; simp at hlt)
      obtain ⟨y, y1, y2⟩ := HI.out.get i hlt
      obtain ⟨k0, k1, k2, k3, k4, k5⟩ := (y1.env (Env.of HF.out)).six
      have HFb := hid (HF.out.trans (vFr wr y) (fun _ h => h.elim))
      have HC := hid (HT.out l[i] y (vBox wr y) b (HE.out _ (List.getElem_mem hlt)) (VIn.env (Env.of HFb.out) _ _ y2) (KIn.env (Env.of HFb.out) _ _ HK.out))
      have HN : Hid (tkB t l[i] = false → (l.all fun u => tkB t u) = false) := fun h => by
        rw [List.all_eq_false]
        exact ⟨l[i], List.getElem_mem hlt, by rw [h]; simp⟩
      have HN2 : Hid (tkB t l[i] = true → ∀ j (h : j < l.length), j < i + 1 → tkB t l[j] = true) := fun h j hj hj' => by
        by_cases e : j = i
        · subst e; exact h
        · exact HA.out j hj (by omega)
      generalize hq : tkB t l[i] = q at HC HN HN2
      clear y1 y2 HA hq
      go_wp2_with fail
      refine HC.out.mono ?_
      rintro e w2 ⟨rfl, f2⟩
      have HF2 := hid (HFb.out.trans f2 (fun _ h => h.elim))
      clear f2
      cases q with
      | false =>
        have HE2 := hid (HN.out rfl)
        go_wp2_with fail
        go_ret
        exact ⟨by rw [HE2.out]; rfl, HF2.out⟩
      | true =>
        have HE2 := hid (HN2.out rfl)
        go_wp2_with fail
        exact ⟨⟨i + 1, by omega, by first | rfl | (congr 1), HE2.out, HF2.out⟩, by simp [intOf]; omega⟩
    · have hlt' : ¬ (i : Int) < ((l.length : Nat) : Int) := by omega
      have HR : Hid ((l.all fun u => tkB t u) = true) := List.all_eq_true.2 fun u hu => by
        obtain ⟨j, hj, rfl⟩ := List.getElem_of_mem hu
        exact HA.out j hj (by omega)
      go_wp2_with fail
      go_ret
      exact ⟨by rw [HR.out]; rfl, HF.out⟩
end Go.Proofs.YtniailfcmlongaaGreatDoor.Tr
