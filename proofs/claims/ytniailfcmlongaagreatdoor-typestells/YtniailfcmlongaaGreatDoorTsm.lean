/- The contract of small. -/
import Derived.Test.YtniailfcmlongaaGreatDoorTdf
import Derived.Test.YtniailfcmlongaaGreatDoorVsm
namespace Go.Proofs.YtniailfcmlongaaGreatDoor.Tr
open Go.RowKit

/-- How many parts may follow definitions. -/
def lfD : List Dt → Int → Int
  | [], n => n
  | d :: r, n => if n ≤ 0 then n else lfD r (lfF d.v n)
theorem lfD_zero (l : List Dt) : lfD l 0 = 0 := by cases l <;> rw [lfD]; rfl
theorem lfD_cons (d : Dt) (r : List Dt) (n : Int) (h : 0 < n) : lfD (d :: r) n = lfD r (lfF d.v n) := by
  rw [lfD, if_neg (by omega)]
/-- What 'small' tells. -/
def smB (L : List Dt) : Bool := decide (0 < lfD L 5000) && decide (L.length ≤ 100)

set_option maxRecDepth 100000 in
set_option maxHeartbeats 4000000 in
theorem small_any (w : World) (L : List Dt) (ad : Option Addr) (cap : Nat) (hI : DsIn w L ad) (hlim : L.length ≤ 140737488351232) :
    Calls Tryz.prog 11 #[.slice ad L.length cap] w fun e w' => e = .returned (.bool (smB L)) ∧ Fr (fun _ => False) w w' := by
  have hst := fun (W : World) (a : Addr) (m : Mode) (f : Nat) => run_store Tryz.prog W a (.float .f64 f) m rfl
  have HI := hid hI
  clear hI
  have HQ : Hid (smB L = (decide (0 < lfD L 5000) && decide (L.length ≤ 100))) := rfl
  generalize smB L = T at *
  go_enter Tryz.func11, Tryz.ntmps11
  go_wp2_with fail
  go_loopw [3, 4] (fun lv iv wr => ∃ (i : Nat) (l : Int), i ≤ L.length ∧ iv = .int .i64 (i : Int) ∧ lv = .int .i64 l ∧ 0 ≤ l ∧ l ≤ 100000 ∧ lfD (L.drop i) l = lfD L 5000 ∧ Fr (fun _ => False) w wr) (fun _ iv _ => L.length - (intOf iv).toNat)
  case atStart => exact ⟨0, 5000, Nat.zero_le _, rfl, rfl, by omega, by omega, by simp, Fr.refl _ _⟩
  case round =>
    obtain ⟨i, l, hi, rfl, rfl, hl0, hl1, hS, hF⟩ := hrel
    have HS := hid hS
    have HF := hid hF
    clear hS hF
    by_cases hlt : i < L.length
    · have hlt' : (i : Int) < ((L.length : Nat) : Int) := by omega
      by_cases hp : 0 < l
      · have HN : Hid (lfD (L.drop (i + 1)) (lfF L[i].v l) = lfD L 5000) := by
          have h := HS.out
          rw [List.drop_eq_getElem_cons hlt, lfD_cons _ _ _ hp] at h
          exact h
        have hle := lfF_le L[i].v l hp
        obtain ⟨bb, bo, y, rfl, y1, y2⟩ := HI.out.at i hlt
        obtain ⟨k0, k1, k2, k3, k4, k5, k6, k7⟩ := eight_env y1 (Env.of HF.out)
        have HC := hid (left_any _ L[i].v (Nat.le_refl _) y.x wr l (VIn.env (Env.of HF.out) _ _ y2.1) hp hl1)
        generalize lfF L[i].v l = l2 at *
        clear y1 y2 HS
        obtain ⟨⟨k, n, f, t, na, nl, nc, ia, il, ic⟩, p, o⟩ := y
        simp only [Vv.v] at *
        go_wp2_with fail
        refine HC.out.mono ?_
        rintro e w2 ⟨rfl, f2⟩
        have HF2 := hid (HF.out.trans f2 (fun _ h => h.elim))
        clear f2
        go_wp2_with fail
        exact ⟨⟨i + 1, l2, by omega, by first | rfl | (congr 1), rfl, hle.1, by omega, HN.out, HF2.out⟩, by simp [intOf]; omega⟩
      · obtain rfl : l = 0 := by omega
        have HE : Hid (T = false) := by unfold Hid; rw [HQ.out, ← HS.out, lfD_zero]; rfl
        go_wp2_with fail
        go_ret
        exact ⟨by rw [HE.out]; rfl, HF.out⟩
    · have hlt' : ¬ (i : Int) < ((L.length : Nat) : Int) := by omega
      have HE : Hid (T = (decide (0 < l) && decide (L.length ≤ 100))) := by
        unfold Hid
        have h := HS.out
        rw [List.drop_eq_nil_of_le (by omega), lfD] at h
        rw [HQ.out, ← h]
      clear HS HQ
      by_cases hp : 0 < l
      · by_cases h100 : L.length ≤ 100
        · have h100' : ((L.length : Nat) : Int) ≤ 100 := by omega
          have HE2 : Hid (T = true) := by unfold Hid; rw [HE.out, decide_eq_true hp, decide_eq_true h100]; rfl
          go_wp2_with fail
          go_ret
          exact ⟨by rw [HE2.out]; rfl, HF.out⟩
        · have h100' : ¬ ((L.length : Nat) : Int) ≤ 100 := by omega
          have HE2 : Hid (T = false) := by unfold Hid; rw [HE.out, decide_eq_false h100, Bool.and_false]
          go_wp2_with fail
          go_ret
          exact ⟨by rw [HE2.out]; rfl, HF.out⟩
      · obtain rfl : l = 0 := by omega
        have HE2 : Hid (T = false) := by unfold Hid; rw [HE.out]; rfl
        go_wp2_with fail
        go_ret
        exact ⟨by rw [HE2.out]; rfl, HF.out⟩
end Go.Proofs.YtniailfcmlongaaGreatDoor.Tr
