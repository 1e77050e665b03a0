/- The program's Right and the document's tell the same: in plain words. -/
import Derived.Test.YtniailfcmlongaaGreatDoorDrt
import Derived.Test.YtniailfcmlongaaGreatDoorDdp
namespace Go.Proofs.YtniailfcmlongaaGreatDoor.Tr
open Go.RowKit

theorem dpL_iff (m c : Int) : ∀ (l : List Vt) (d : Int), dpL l m d ≤ c ↔ d ≤ c ∧ ∀ u ∈ l, dpF u m ≤ c
  | [], d => by rw [dpL]; simp
  | v :: r, d => by
    rw [dpL, dpL_iff m c r]
    constructor
    · rintro ⟨h1, h2⟩
      have h3 : d ≤ c ∧ dpF v m ≤ c := by split at h1 <;> omega
      exact ⟨h3.1, fun u hu => (List.mem_cons.1 hu).elim (fun e => e ▸ h3.2) (h2 u)⟩
    · rintro ⟨h1, h2⟩
      refine ⟨?_, fun u hu => h2 u (List.mem_cons.2 (.inr hu))⟩
      have := h2 v (List.mem_cons.2 (.inl rfl))
      split <;> omega
theorem rtL_all (room : Nat) : ∀ (l : List Vt), rtL l room = true ↔ ∀ u ∈ l, rtB u room = true
  | [] => by rw [rtL]; simp
  | v :: r => by rw [rtL, Bool.and_eq_true, rtL_all room r]; simp
theorem rgL_all : ∀ (l : List Vt), rgL l = true ↔ ∀ u ∈ l, rgB u = true
  | [] => by rw [rgL]; simp
  | v :: r => by rw [rgL, Bool.and_eq_true, rgL_all r]; simp
theorem rightS_empty {x : Vv} (h : rightS x = true) : x.nl = 0 ∧ x.il = 0 := by
  unfold rightS at h
  repeat' split at h
  all_goals first
    | (cases h; done)
    | (simp only [bareB, Bool.and_eq_true, decide_eq_true_eq] at h; exact ⟨by simp_all, by simp_all⟩)
theorem rt_iff : ∀ (m : Nat) (v : Vt), SizeOf.sizeOf v ≤ m → ∀ room : Nat, rtB v room = true ↔ dpF v ((room : Int) + 1) ≤ room ∧ rgB v = true := by
  intro m
  induction m with
  | zero =>
    intro v hv
    exfalso
    cases v
    simp only [Vt.mk.sizeOf_spec] at hv
    omega
  | succ m ih =>
    intro v hv room
    have IH : ∀ u ∈ v.its, ∀ r : Nat, rtB u r = true ↔ dpF u ((r : Int) + 1) ≤ r ∧ rgB u = true := fun u hu => ih u (by have := Vt.its_lt hu; omega)
    clear ih hv
    cases v with
    | mk k n f t ns its =>
      simp only [Vt.its] at IH
      have key : 0 < room → ((rtL its (room - 1) = true) ↔ (dpL its (room : Int) 0 + 1 ≤ room ∧ rgL its = true)) := by
        intro hr
        rw [rtL_all, rgL_all, show (dpL its (room : Int) 0 + 1 ≤ room) ↔ dpL its (room : Int) 0 ≤ (room : Int) - 1 by omega, dpL_iff]
        have e1 : (((room - 1 : Nat) : Int) + 1) = (room : Int) := by omega
        have e2 : ((room - 1 : Nat) : Int) = (room : Int) - 1 := by omega
        constructor
        · intro h
          refine ⟨⟨by omega, fun u hu => ?_⟩, fun u hu => ((IH u hu _).1 (h u hu)).2⟩
          have := ((IH u hu _).1 (h u hu)).1
          rw [e1, e2] at this
          exact this
        · rintro ⟨⟨_, h1⟩, h2⟩ u hu
          refine (IH u hu _).2 ⟨?_, h2 u hu⟩
          rw [e1, e2]
          exact h1 u hu
      have hbd := dpL_le its (room : Int) 0 (by omega) (by omega) (by omega)
      rw [rtB, dpF, rgB]
      by_cases h5 : k = 5
      · subst h5
        rw [if_pos rfl, if_neg (by omega), show ((room : Int) + 1 - 1) = room by omega]
        unfold rgS
        rw [if_pos rfl]
        by_cases hr : room = 0
        · subst hr
          have hb' : 0 ≤ dpL its 0 0 := hbd.1
          simp
          intro h
          omega
        · have hk := key (by omega)
          simp only [Bool.and_eq_true, decide_eq_true_eq]
          constructor
          · rintro ⟨⟨⟨_, h1⟩, h2⟩, h3⟩
            have hn : ns = [] := by
              simp only [bareB, Bool.and_eq_true, decide_eq_true_eq] at h3
              exact List.length_eq_zero_iff.1 h3.1.2
            exact ⟨(hk.1 h2).1, ⟨⟨h1, h3⟩, by rw [hn]; rfl⟩, (hk.1 h2).2⟩
          · rintro ⟨h1, ⟨⟨h2, h3⟩, _⟩, h4⟩
            exact ⟨⟨⟨hr, h2⟩, hk.2 ⟨h1, h4⟩⟩, h3⟩
      · rw [if_neg h5]
        by_cases h6 : k = 6
        · subst h6
          rw [if_pos rfl, if_neg (by omega), show ((room : Int) + 1 - 1) = room by omega]
          unfold rgS
          rw [if_neg h5, if_pos rfl]
          by_cases hr : room = 0
          · subst hr
            have hb' : 0 ≤ dpL its 0 0 := hbd.1
            simp
            intro h
            omega
          · have hk := key (by omega)
            simp only [Bool.and_eq_true, decide_eq_true_eq]
            constructor
            · rintro ⟨⟨⟨h0, h1⟩, ⟨⟨_, h2⟩, h3⟩⟩, h4⟩
              exact ⟨(hk.1 h3).1, ⟨⟨⟨h0, h2⟩, h4⟩, h1⟩, (hk.1 h3).2⟩
            · rintro ⟨h1, ⟨⟨⟨h0, h2⟩, h4⟩, h5'⟩, h6'⟩
              exact ⟨⟨⟨h0, h5'⟩, ⟨⟨hr, h2⟩, hk.2 ⟨h1, h6'⟩⟩⟩, h4⟩
        · rw [if_neg h6, if_pos (.inl ⟨h5, h6⟩)]
          unfold rgS
          rw [if_neg h5, if_neg h6]
          constructor
          · intro h
            have he := rightS_empty h
            simp only at he
            have hn := List.length_eq_zero_iff.1 he.1
            have hi := List.length_eq_zero_iff.1 he.2
            subst hn hi
            refine ⟨by omega, ?_⟩
            rw [h, rgL]
            rfl
          · rintro ⟨_, h⟩
            simp only [Bool.and_eq_true] at h
            exact h.1.1
/-- The program's Right and the document's. -/
theorem rt_same (v : Vt) : rtB v 32 = (decide (dpF v 33 ≤ 32) && rgB v) := by
  have h := rt_iff _ v (Nat.le_refl _) 32
  rw [show (((32 : Nat) : Int) + 1) = 33 from rfl, show ((32 : Nat) : Int) = 32 from rfl] at h
  rw [Bool.eq_iff_iff, h, Bool.and_eq_true, decide_eq_true_eq]
end Go.Proofs.YtniailfcmlongaaGreatDoor.Tr
