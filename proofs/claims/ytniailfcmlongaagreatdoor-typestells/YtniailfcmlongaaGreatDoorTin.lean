/- What TypesInts asks, in plain words. Nothing here speaks of the Go text. -/
import Derived.Test.YtniailfcmlongaaGreatDoorTnmM
import Derived.Test.YtniailfcmlongaaGreatDoorTun
import Derived.Test.YtniailfcmlongaaGreatDoorTsh
namespace Go.Proofs.YtniailfcmlongaaGreatDoor.Tr
open Go.RowKit

/-- The text of a type with two bounds. -/
def tInts (lo hi : Nat) : List UInt8 := sInt ++ 32 :: (decD lo ++ 32 :: decD hi)
theorem tInts_len (lo hi : Nat) (h1 : lo < 1000000) (h2 : hi < 1000000) : (tInts lo hi).length ≤ 20 := by
  have l1 := decD_len 5 lo (by simpa using h1)
  have l2 := decD_len 5 hi (by simpa using h2)
  simp [tInts]
  omega
theorem spl_ints (lo hi : Nat) : spl (tInts lo hi) = [sInt, decD lo, decD hi] := by
  unfold tInts
  rw [spl_cut _ (by decide), spl_cut _ (decD_blank lo), spl_none (decD_blank hi)]
theorem read_ints (lo hi : Nat) (h1 : lo < 1000000) (h2 : hi < 1000000) : readT (tInts lo hi) = if lo ≤ hi then some (.int lo hi) else none := by
  unfold readT
  have hl := tInts_len lo hi h1 h2
  rw [if_pos ⟨by omega, by rw [spl_ints]; simp⟩, spl_ints, tyOf, if_neg (by decide), if_pos rfl]
  show (if (isNumB (decD lo) && isNumB (decD hi)) = true then (if digN (decD lo) ≤ digN (decD hi) then some (Ty.int (digN (decD lo)) (digN (decD hi))) else none) else none) = _
  rw [decD_num lo h1, decD_num hi h2, if_pos (by rfl), (decD_all lo).2.1, (decD_all hi).2.1]
theorem of_ints (lo hi : Nat) (h1 : lo < 1000000) (h2 : hi < 1000000) (n : Int) : ofB (tInts lo hi) (.mk 2 n 0 [] [] []) = (decide (lo ≤ hi) && (decide ((lo : Int) ≤ n) && decide (n ≤ (hi : Int)))) := by
  unfold ofB
  rw [read_ints lo hi h1 h2]
  by_cases h : lo ≤ hi
  · rw [if_pos h, decide_eq_true h]
    show (rtB (.mk 2 n 0 [] [] []) 32 && tkB (.int lo hi) (.mk 2 n 0 [] [] [])) = _
    rw [rt_int, tkB]
    rfl
  · rw [if_neg h, decide_eq_false h]
    rfl
theorem i64_zero : I64 0 := ⟨by decide, by decide⟩
/-- Merge of one int that is of the type. -/
theorem merge_ints (W : World) (hm : Mx W) (lo hi : Nat) (h1 : lo < 1000000) (h2 : hi < 1000000) (n : Int) (hn : I64 n) (cap g : Nat) (hB : Blk W g 30 (Dv.cs ⟨vI n, 0, 0⟩)) (h : lo ≤ hi) :
    Calls Tryz.prog 17 #[.string ⟨(tInts lo hi).toArray⟩, .slice (some ⟨g, 0, none⟩) 1 cap] W fun e w' => MPost W (if (lo : Int) ≤ n ∧ n ≤ (hi : Int) then .inl (.mk 2 n 0 [] [] []) else .inr 11) e w' := by
  have hcf : cntF [⟨.mk 2 n 0 [] [] [], 0, 0⟩] = [⟨.mk 2 n 0 [] [] [], 0, 0⟩] := cnt_one _
  have hc : cntV [⟨.mk 2 n 0 [] [] [], 0, 0⟩] = [.mk 2 n 0 [] [] []] := by
    unfold cntV
    rw [hcf, insT_one]
    rfl
  have hrr : ∀ v ∈ [Vt.mk 2 n 0 [] [] []], rtB v 32 = true := fun v hv => by
    simp only [List.mem_cons, List.not_mem_nil, or_false] at hv
    subst hv; exact rt_int _
  have hk : ([Vt.mk 2 n 0 [] [] []].all fun u => tkB (.int lo hi) u) = decide ((lo : Int) ≤ n ∧ n ≤ (hi : Int)) := by
    show (tkB (.int lo hi) (.mk 2 n 0 [] [] []) && true) = _
    rw [Bool.and_true, tkB]
    show (decide ((2 : Int) = 2) && (decide ((lo : Int) ≤ n) && decide (n ≤ (hi : Int)))) = _
    simp
  have hl := tInts_len lo hi h1 h2
  refine Merge_of W (tInts lo hi) [⟨.mk 2 n 0 [] [] [], 0, 0⟩] _ cap (by omega) hm (.int lo hi) (by rw [read_ints lo hi h1 h2, if_pos h])
    (ds_one hB ⟨vin_int W n hn, rfl, rfl, i64_zero, i64_zero⟩) (by simp) (by simp) (by rw [hcf]; simp) (by rw [hcf]; simp) (by simp [rt_int]) ?_ _ (fun v hv => by
      by_cases hq : (lo : Int) ≤ n ∧ n ≤ (hi : Int)
      · rw [if_pos hq] at hv; cases hv; exact ⟨rfl, rfl⟩
      · rw [if_neg hq] at hv; cases hv) ?_ ?_
  · rw [hc]; exact hrr
  · rw [hc, hk]; intro hf; rw [if_neg (of_decide_eq_false hf)]
  · rw [hc, hk]
    intro ht V b ia ic hK hI hic
    rw [if_pos (of_decide_eq_true ht)]
    have h := mergeEqual_any (vBox V vZ) (.mk 2 n 0 [] [] []) [] ia ic (IIn.env (Env.alloc V _) _ _ hI) hic (by decide) hrr rfl rfl
    have hq : meq [.mk 2 n 0 [] [] []] = .inl (.mk 2 n 0 [] [] []) := rfl
    rw [hq] at h
    exact merge_eq V sInt (.inr (.inr (.inl rfl))) b ia 1 ic _ (fun v hv => by cases hv; exact ⟨rfl, rfl⟩) hK.1 h
end Go.Proofs.YtniailfcmlongaaGreatDoor.Tr
