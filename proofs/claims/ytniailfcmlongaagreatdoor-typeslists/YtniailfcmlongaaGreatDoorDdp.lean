/- The contract of the document's deep. -/
import Derived.Test.YtniailfcmlongaaGreatDoorVsm
namespace Go.Proofs.YtniailfcmlongaaGreatDoor.Tr
open Go.RowKit

mutual
/-- What 'deep' tells. -/
def dpF : Vt → Int → Int
  | .mk k _ _ _ _ its, most => if (k ≠ 5 ∧ k ≠ 6) ∨ most < 0 then 0 else dpL its (most - 1) 0 + 1
def dpL : List Vt → Int → Int → Int
  | [], _, d => d
  | v :: r, most, d => dpL r most (if dpF v most > d then dpF v most else d)
end
mutual
theorem dpF_le : ∀ (v : Vt) (most : Int), -1 ≤ most → 0 ≤ dpF v most ∧ dpF v most ≤ most + 1
  | .mk k _ _ _ _ its, most, h => by
    rw [dpF]
    split
    · omega
    · rename_i hh
      have := dpL_le its (most - 1) 0 (by omega) (by omega) (by omega); omega
theorem dpL_le : ∀ (l : List Vt) (most d : Int), -1 ≤ most → 0 ≤ d → d ≤ most + 1 → 0 ≤ dpL l most d ∧ dpL l most d ≤ most + 1
  | [], most, d, h, h0, h1 => by rw [dpL]; omega
  | v :: r, most, d, h, h0, h1 => by
    rw [dpL]
    have h2 := dpF_le v most h
    split
    · exact dpL_le r most _ h h2.1 h2.2
    · exact dpL_le r most d h h0 h1
end
theorem dpF_eq (v : Vt) (most : Int) : dpF v most = if (v.k ≠ 5 ∧ v.k ≠ 6) ∨ most < 0 then 0 else dpL v.its (most - 1) 0 + 1 := by
  cases v; rw [dpF]; rfl
theorem dpL_cons (v : Vt) (r : List Vt) (most d : Int) : dpL (v :: r) most d = dpL r most (if dpF v most > d then dpF v most else d) := by rw [dpL]

set_option maxRecDepth 100000 in
set_option maxHeartbeats 4000000 in
theorem deep_any : ∀ (m : Nat) (v : Vt), SizeOf.sizeOf v ≤ m → ∀ (x : Vv) (w : World) (most : Int), VIn w v x → -1 ≤ most → most ≤ 33 → Calls Tryz.prog 36 #[x.v, .int .i64 most] w fun e w' => e = .returned (.int .i64 (dpF v most)) ∧ Fr (fun _ => False) w w' := by
  intro m
  induction m with
  | zero =>
    intro v hv
    exfalso
    cases v
    simp only [Vt.mk.sizeOf_spec] at hv
    omega
  | succ m ih =>
    intro v hv x w most hx h0 h1
    have HB := hid (vBlk w x)
    have HF := hid (vFr w x)
    have HX := hid hx
    have HIH : Hid (∀ i (h : i < v.its.length) (y : Vv) (W : World) (l : Int), VIn W v.its[i] y → -1 ≤ l → l ≤ 33 → Calls Tryz.prog 36 #[y.v, .int .i64 l] W fun e w' => e = .returned (.int .i64 (dpF v.its[i] l)) ∧ Fr (fun _ => False) W w') := fun i h y W l => ih v.its[i] (by have := Vt.its_lt (List.getElem_mem h); omega) y W l
    have HQ := hid (dpF_eq v most)
    have hil : x.il = v.its.length := hx.parts.2.2.2.1.1
    have hkk : x.k = v.k := hx.parts.1.1
    have hlim : v.its.length ≤ 140737488351232 := hx.parts.2.2.2.1.2.2
    clear ih hv hx
    obtain ⟨k, n, f, t, na, nl, nc, ia, il, ic⟩ := x
    simp only [Vv.v] at *
    subst hil
    subst hkk
    by_cases hl : most < 0
    · have HQ2 : Hid (dpF v most = 0) := by unfold Hid; rw [HQ.out, if_pos (.inr hl)]
      by_cases h5 : v.k = 5
      · have h5' : (v.k != 5) = false := by simpa using h5
        clear h5
        go_enter Tryz.func36, Tryz.ntmps36
        go_wp2_with fail
        go_ret
        exact ⟨by rw [HQ2.out]; rfl, HF.out⟩
      · have h5' : (v.k != 5) = true := by simpa using h5
        clear h5
        by_cases h6 : v.k = 6
        · have h6' : (v.k != 6) = false := by simpa using h6
          clear h6
          go_enter Tryz.func36, Tryz.ntmps36
          go_wp2_with fail
          go_ret
          exact ⟨by rw [HQ2.out]; rfl, HF.out⟩
        · have h6' : (v.k != 6) = true := by simpa using h6
          clear h6
          go_enter Tryz.func36, Tryz.ntmps36
          go_wp2_with fail
          go_ret
          exact ⟨by rw [HQ2.out]; rfl, HF.out⟩
    · by_cases hk : v.k ≠ 5 ∧ v.k ≠ 6
      · have HQ2 : Hid (dpF v most = 0) := by unfold Hid; rw [HQ.out, if_pos (.inl hk)]
        have h5' : (v.k != 5) = true := by simpa using hk.1
        have h6' : (v.k != 6) = true := by simpa using hk.2
        clear hk
        go_enter Tryz.func36, Tryz.ntmps36
        go_wp2_with fail
        go_ret
        exact ⟨by rw [HQ2.out]; rfl, HF.out⟩
      · rw [if_neg (by intro h; rcases h with h | h; exact hk h; exact hl h)] at HQ
        have hkk : ((v.k != 5) = false) ∨ ((v.k != 5) = true ∧ (v.k != 6) = false) := by
          by_cases h5 : v.k = 5
          · left; simpa using h5
          · right
            refine ⟨by simpa using h5, ?_⟩
            have : v.k = 6 := Classical.byContradiction fun h => hk ⟨h5, h⟩
            simpa using this
        clear hk
        rcases hkk with h5' | ⟨h5', h6'⟩
        all_goals
          go_enter Tryz.func36, Tryz.ntmps36
          go_wp2_with fail
          go_loopw [5, 6, 7] (fun dv iv _ wr => ∃ (i : Nat) (d : Int), i ≤ v.its.length ∧ iv = .int .i64 (i : Int) ∧ dv = .int .i64 d ∧ 0 ≤ d ∧ d ≤ most ∧ dpL (v.its.drop i) (most - 1) d = dpL v.its (most - 1) 0 ∧ Fr (fun _ => False) w wr ∧ Blk wr w.heap.size 26 (Vv.cs ⟨v.k, n, f, t, na, nl, nc, ia, v.its.length, ic⟩)) (fun _ iv _ _ => v.its.length - (intOf iv).toNat)
          case atStart => exact ⟨0, 0, by omega, rfl, rfl, by omega, by omega, by simp, HF.out, HB.out⟩
          case round =>
            obtain ⟨i, d, hi, rfl, rfl, hl0, hl1, hS, hF, hB⟩ := hrel
            clear HB HF
            have HB := hid hB
            have HF := hid hF
            have HS := hid hS
            clear hB hF hS
            obtain ⟨c0, c1, c2, c3, c4, c5⟩ := HB.out.six
            by_cases hlt : i < v.its.length
            · have hlt' : (i : Int) < ((v.its.length : Nat) : Int) := by omega
              have HN : Hid (dpL (v.its.drop (i + 1)) (most - 1) (if dpF v.its[i] (most - 1) > d then dpF v.its[i] (most - 1) else d) = dpL v.its (most - 1) 0) := by
                have h := HS.out
                rw [drop_cons _ _ hlt, dpL_cons] at h
                exact h
              have hle := dpF_le v.its[i] (most - 1) (by omega)
              obtain ⟨b, o, y, e1, e2, e3⟩ := (HX.out).item i hlt
              simp only at e1
              subst e1
              obtain ⟨k0, k1, k2, k3, k4, k5⟩ := (e2.env (Env.of HF.out)).six
              have HC := hid (HIH.out i hlt y wr (most - 1) (VIn.env (Env.of HF.out) _ _ e3) (by omega) (by omega))
              generalize dpF v.its[i] (most - 1) = l2 at *
              clear e2 e3 HS
              go_wp2_with fail
              refine HC.out.mono ?_
              rintro e w2 ⟨rfl, f2⟩
              have HB2 := hid (f2.blk HB.out (fun h => h))
              have HF2 := hid (HF.out.trans f2 (fun _ h => h.elim))
              clear f2
              by_cases hg : l2 > d
              · rw [if_pos hg] at HN
                go_wp2_with fail
                exact ⟨⟨i + 1, l2, by omega, by first | rfl | (congr 1), rfl, hle.1, by omega, HN.out, HF2.out, HB2.out⟩, by simp [intOf]; omega⟩
              · rw [if_neg hg] at HN
                go_wp2_with fail
                exact ⟨⟨i + 1, d, by omega, by first | rfl | (congr 1), rfl, by omega, by omega, HN.out, HF2.out, HB2.out⟩, by simp [intOf]; omega⟩
            · have hlt' : ¬ (i : Int) < ((v.its.length : Nat) : Int) := by omega
              have HE : Hid (dpL v.its (most - 1) 0 = d) := by
                unfold Hid
                rw [← HS.out, List.drop_eq_nil_of_le (by omega), dpL]
              go_wp2_with fail
              go_ret
              exact ⟨by rw [HQ.out, HE.out]; rfl, HF.out⟩
end Go.Proofs.YtniailfcmlongaaGreatDoor.Tr
