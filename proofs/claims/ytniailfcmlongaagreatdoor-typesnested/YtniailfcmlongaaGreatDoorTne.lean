/- What TypesNested asks, in plain words. Nothing here speaks of the Go text. -/
import Derived.Test.YtniailfcmlongaaGreatDoorTun
import Derived.Test.YtniailfcmlongaaGreatDoorDpl
namespace Go.Proofs.YtniailfcmlongaaGreatDoor.Tr
open Go.RowKit

theorem tyOf_list (ws : List (List UInt8)) : tyOf (sList :: ws) = (tyOf ws).map .list := by
  rw [tyOf, if_neg (by decide), if_neg (by decide), if_neg (by decide), if_pos rfl]
theorem tyOf_attrs (ws : List (List UInt8)) : tyOf (sAttrs :: ws) = (tyOf ws).map .attrs := by
  rw [tyOf, if_neg (by decide), if_neg (by decide), if_neg (by decide), if_neg (by decide), if_pos rfl]
/-- 'list ' and 'attrs ' ahead of a text. -/
def lstT (t : List UInt8) : List UInt8 := [108, 105, 115, 116, 32] ++ t
def attT (t : List UInt8) : List UInt8 := [97, 116, 116, 114, 115, 32] ++ t
theorem spl_lst (t : List UInt8) : spl (lstT t) = sList :: spl t := spl_cut (a := sList) t (by decide)
theorem spl_att (t : List UInt8) : spl (attT t) = sAttrs :: spl t := spl_cut (a := sAttrs) t (by decide)
theorem read_lst {t : List UInt8} (h : (readT (lstT t)).isSome = true) : ∃ k, readT t = some k ∧ readT (lstT t) = some (.list k) := by
  unfold readT at h ⊢
  rw [spl_lst] at h ⊢
  by_cases hc : (lstT t).length ≤ 64 ∧ (sList :: spl t).length ≤ 8
  · rw [if_pos hc, tyOf_list] at h
    rw [if_pos hc, tyOf_list]
    obtain ⟨hc1, hc2⟩ := hc
    simp only [lstT, List.length_append, List.length_cons, List.length_nil] at hc1 hc2
    rw [if_pos ⟨by omega, by omega⟩]
    cases e : tyOf (spl t) with
    | none => rw [e] at h; cases h
    | some k => exact ⟨k, rfl, rfl⟩
  · rw [if_neg hc] at h; cases h
theorem read_att {t : List UInt8} {k : Ty} (hk : readT t = some k) (h : (readT (attT t)).isSome = true) : readT (attT t) = some (.attrs k) := by
  unfold readT at h hk ⊢
  rw [spl_att] at h ⊢
  by_cases hc : (attT t).length ≤ 64 ∧ (sAttrs :: spl t).length ≤ 8
  · rw [if_pos hc, tyOf_attrs]
    by_cases hd : t.length ≤ 64 ∧ (spl t).length ≤ 8
    · rw [if_pos hd] at hk
      rw [hk]; rfl
    · rw [if_neg hd] at hk; cases hk
  · rw [if_neg hc] at h; cases h
/-- With more room a right value is right. -/
theorem rt_more : ∀ (m : Nat) (v : Vt), SizeOf.sizeOf v ≤ m → ∀ n n' : Nat, n ≤ n' → rtB v n = true → rtB v n' = true := by
  intro m
  induction m with
  | zero =>
    intro v hv
    exfalso
    cases v
    simp only [Vt.mk.sizeOf_spec] at hv
    omega
  | succ m ih =>
    intro v hv n n' hn h
    have IH : ∀ u ∈ v.its, ∀ r r' : Nat, r ≤ r' → rtB u r = true → rtB u r' = true := fun u hu => ih u (by have := Vt.its_lt hu; omega)
    clear ih hv
    cases v with
    | mk k z f t ns its =>
      simp only [Vt.its] at IH
      have key : rtL its (n - 1) = true → rtL its (n' - 1) = true := fun g => (rtL_all _ its).2 fun u hu => IH u hu _ _ (by omega) ((rtL_all _ its).1 g u hu)
      rw [rtB] at h ⊢
      by_cases h5 : k = 5
      · rw [if_pos h5] at h ⊢
        simp only [Bool.and_eq_true, decide_eq_true_eq] at h ⊢
        exact ⟨⟨⟨by omega, h.1.1.2⟩, key h.1.2⟩, h.2⟩
      · rw [if_neg h5] at h ⊢
        by_cases h6 : k = 6
        · rw [if_pos h6] at h ⊢
          simp only [Bool.and_eq_true, decide_eq_true_eq] at h ⊢
          exact ⟨⟨h.1.1, ⟨⟨by omega, h.1.2.1.2⟩, key h.1.2.2⟩⟩, h.2⟩
        · rw [if_neg h6] at h ⊢
          exact h
/-- A list of one value, a set of one. -/
def lV (v : Vt) : Vt := .mk 5 0 0 [] [] [v]
def sV (v : Vt) : Vt := .mk 6 0 0 [] [[97]] [v]
theorem rt_lV (v : Vt) : rtB (lV v) 32 = rtB v 31 := by
  unfold lV
  rw [rtB, if_pos rfl]
  show ((true && true && rtL [v] 31) && true) = _
  rw [rtL, rtL]
  simp
theorem rt_sV (v : Vt) : rtB (sV v) 32 = rtB v 31 := by
  unfold sV
  rw [rtB, if_neg (by decide), if_pos rfl]
  show ((true && rnB [[97]] && (true && true && rtL [v] 31)) && true) = _
  rw [rtL, rtL, show rnB [[97]] = true by decide]
  simp
theorem nested {t : List UInt8} {v : Vt} {k : Ty} (hk : readT t = some k) (hl : readT (lstT t) = some (.list k)) (ha : readT (attT t) = some (.attrs k)) (hr : rtB (lV v) 32 = true) :
    ofB (lstT t) (lV v) = ofB t v ∧ ofB (attT t) (sV v) = ofB t v ∧ ofB (lstT t) (sV v) = false ∧ ofB (attT t) (lV v) = false := by
  have h31 : rtB v 31 = true := by rw [← rt_lV]; exact hr
  have h32 := rt_more _ v (Nat.le_refl _) 31 32 (by omega) h31
  have hs : rtB (sV v) 32 = true := by rw [rt_sV]; exact h31
  unfold ofB
  rw [hk, hl, ha]
  simp only [hr, hs, h32, Bool.true_and]
  refine ⟨?_, ?_, ?_, ?_⟩
  · show tkB (.list k) (.mk 5 0 0 [] [] [v]) = tkB k v
    rw [tkB]
    show (true && (tkB k v && true)) = _
    simp
  · show tkB (.attrs k) (.mk 6 0 0 [] [[97]] [v]) = tkB k v
    rw [tkB]
    show (true && (tkB k v && true)) = _
    simp
  · show tkB (.list k) (.mk 6 0 0 [] [[97]] [v]) = false
    rw [tkB]
    rfl
  · show tkB (.attrs k) (.mk 5 0 0 [] [] [v]) = false
    rw [tkB]
    rfl
end Go.Proofs.YtniailfcmlongaaGreatDoor.Tr
