/- How a path is cut: plain facts. Nothing here speaks of the Go text. -/
import Derived.Test.YtangnoicnogddaaPlain
namespace Go.Proofs.Ytangnoicnogddaa.Tr

/-- How far the document's Path has come: at i, the piece begins at f, D are the names so far. -/
structure PInv (l : List UInt8) (i f : Nat) (D : List (List UInt8)) : Prop where
  pos : 1 ≤ f
  fi : f ≤ i
  il : i ≤ l.length + 1
  names : D.all nameB = true
  few : D.length + 1 ≤ f
  now : i ≤ l.length → cutS [] (l.drop 1) = D ++ cutS (sub l f i) (l.drop i)
  done : i = l.length + 1 → cutS [] (l.drop 1) = D
theorem PInv.start (l : List UInt8) (h : 1 ≤ l.length) : PInv l 1 1 [] :=
  ⟨by omega, by omega, by omega, rfl, by simp, fun _ => by rw [sub_self]; rfl, fun e => by omega⟩
theorem PInv.skip {l : List UInt8} {i f : Nat} {D : List (List UInt8)} (h : PInv l i f D) (hi : i < l.length) (e : l[i] ≠ 47) : PInv l (i + 1) f D :=
  ⟨h.pos, by have := h.fi; omega, by omega, h.names, h.few, fun _ => by rw [h.now (by omega), cutS_other _ l i hi e, sub_snoc l f i h.fi hi], fun e => by omega⟩
theorem pcut {l : List UInt8} {i f : Nat} (hi : i ≤ l.length) (e : ∀ h : i < l.length, l[i] = 47) : cutS (sub l f i) (l.drop i) = sub l f i :: (if i < l.length then cutS [] (l.drop (i + 1)) else []) := by
  by_cases hlt : i < l.length
  · rw [cutS_slash _ l i hlt (e hlt), if_pos hlt]
  · rw [cutS_end _ l i (by omega), if_neg hlt]
theorem PInv.take {l : List UInt8} {i f : Nat} {D : List (List UInt8)} (h : PInv l i f D) (hi : i ≤ l.length) (e : ∀ h : i < l.length, l[i] = 47) (hn : nameB (sub l f i) = true) : PInv l (i + 1) (i + 1) (D ++ [sub l f i]) := by
  have hc := h.now hi
  rw [pcut hi e] at hc
  refine ⟨by omega, by omega, by omega, by simp only [List.all_append, h.names, List.all_cons, hn, List.all_nil]; rfl, ?_, fun hle => ?_, fun he => ?_⟩
  · have := h.few; have := h.fi; simp; omega
  · rw [hc, if_pos (by omega), sub_self]; simp
  · rw [hc, if_neg (by omega)]
theorem PInv.bad {l : List UInt8} {i f : Nat} {D : List (List UInt8)} (h : PInv l i f D) (hi : i ≤ l.length) (e : ∀ h : i < l.length, l[i] = 47) (hn : nameB (sub l f i) = false) : (cutS [] (l.drop 1)).all nameB = false := by
  rw [h.now hi, pcut hi e, List.all_append, List.all_cons, hn]; simp
theorem pathN_root : pathN [47] = ([], true) := by unfold pathN; rw [if_pos rfl]
theorem pathN_no (l : List UInt8) (h0 : l ≠ [47]) (h : l.length = 0 ∨ 200 < l.length ∨ l.head? ≠ some 47) : pathN l = ([], false) := by unfold pathN; rw [if_neg h0, if_pos h]
theorem pathN_bad (l : List UInt8) (h0 : l ≠ [47]) (h : ¬ (l.length = 0 ∨ 200 < l.length ∨ l.head? ≠ some 47)) (hn : (cutS [] (l.drop 1)).all nameB = false) : pathN l = ([], false) := by
  unfold pathN; rw [if_neg h0, if_neg h, if_neg (by rw [hn]; decide)]
theorem pathN_ok (l : List UInt8) (h0 : l ≠ [47]) (h : ¬ (l.length = 0 ∨ 200 < l.length ∨ l.head? ≠ some 47)) (hn : (cutS [] (l.drop 1)).all nameB = true) : pathN l = (cutS [] (l.drop 1), decide ((cutS [] (l.drop 1)).length ≤ 16)) := by
  unfold pathN; rw [if_neg h0, if_neg h, if_pos hn]

end Go.Proofs.Ytangnoicnogddaa.Tr
