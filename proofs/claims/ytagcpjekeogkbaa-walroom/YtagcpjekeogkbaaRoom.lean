/- WalRoom: the plain facts. -/
import Derived.Test.YtagcpjekeogkbaaShw
namespace Go.Proofs.Ytagcpjekeogkbaa.Wl
open Go.RowKit Dk

/-- The first k homes behind n, each with s. -/
def stK (n k : Nat) (s : Sec) : SMap := (List.range k).map fun j => (n + j, s)
theorem stK_length (n k : Nat) (s : Sec) : (stK n k s).length = k := by simp [stK]
theorem stK_succ (n k : Nat) (s : Sec) : stK n (k + 1) s = stK n k s ++ [(n + k, s)] := by simp [stK, List.range_succ]
theorem stK_mem {n k : Nat} {s : Sec} {q : Nat × Sec} (h : q ∈ stK n k s) : n ≤ q.1 ∧ q.1 < n + k ∧ q.2 = s := by
  simp only [stK, List.mem_map, List.mem_range] at h
  obtain ⟨j, hj, rfl⟩ := h
  exact ⟨by simp, by simp; omega, rfl⟩
theorem get_app : ∀ (m : SMap) (k : Nat) (r : SMap), (∀ q ∈ m, q.1 ≠ k) → get (m ++ r) k = get r k
  | [], _, _, _ => rfl
  | p :: m, k, r, h => by
    have := h p (.head _)
    simp [get, this, get_app m k r (fun q hq => h q (.tail _ hq))]
theorem get_stK_none (n k j : Nat) (s : Sec) (h : n + k ≤ j) : get (stK n k s) j = none := by
  have := get_app (stK n k s) j [] (fun q hq => by have := stK_mem hq; omega)
  simpa [get] using this
theorem ins_app : ∀ (m : SMap) (k : Nat) (s : Sec), (∀ q ∈ m, q.1 < k) → ins k s m = m ++ [(k, s)]
  | [], _, _, _ => rfl
  | p :: m, k, s, h => by
    have := h p (.head _)
    have h1 : ¬ k < p.1 := by omega
    have h2 : ¬ k = p.1 := by omega
    simp [ins, h1, h2, ins_app m k s (fun q hq => h q (.tail _ hq))]
theorem ins_stK (n k : Nat) (s : Sec) : ins (n + k) s (stK n k s) = stK n (k + 1) s := by
  rw [stK_succ, ins_app _ _ _ (fun q hq => by have := stK_mem hq; omega)]
theorem srt_stK (n s) : ∀ k, Srt (stK n k s)
  | 0 => List.Pairwise.nil
  | k + 1 => by
    rw [stK_succ]
    refine List.pairwise_append.2 ⟨srt_stK n s k, by simp, fun a ha b hb => ?_⟩
    have := stK_mem ha
    simp at hb
    rw [hb]
    show a.1 < n + k
    omega

def rmL (n k : Nat) (s : Sec) : Lg := { Lg.new 0 n (n + 24) 1 with st := stK n k s }
theorem rm_home (n k : Nat) (s : Sec) (j : Nat) (hj : j < 24) : (rmL n k s).reach ((n + j : Nat) : Int) = 0 := by
  have : isHome 0 n (n + 24) ((n + j : Nat) : Int) = true := by simp [isHome]; omega
  show (if (false : Bool) = true then (40 : Int) else if isHome 0 n (n + 24) ((n + j : Nat) : Int) = true then 0 else 43) = 0
  rw [this]
  rfl
theorem rm_stage (n k : Nat) (s : Sec) (hs : s.length = 128) (hn : 4 ≤ n) (hn2 : n ≤ 15) (hk : k < n - 2) : (rmL n k s).stageE ((n + k : Nat) : Int) 128 = 0 ∧ (rmL n k s).stage ((n + k : Nat) : Int) s = rmL n (k + 1) s := by
  have hr := rm_home n k s k (by omega)
  have e : (rmL n k s).stageE ((n + k : Nat) : Int) 128 = 0 := by
    unfold Lg.stageE
    rw [hr]
    have hl : (rmL n k s).st.length = k := stK_length n k s
    rw [hl]
    have hc : ¬ (rmL n k s).n - 1 < cost (k + 1) := by show ¬ n - 1 < cost (k + 1); unfold cost; omega
    simp [hc]
  refine ⟨e, ?_⟩
  unfold Lg.stage
  rw [hs, if_pos e]
  show { rmL n k s with st := ins (((n + k : Nat) : Int)).toNat s (stK n k s) } = rmL n (k + 1) s
  rw [Int.toNat_natCast, ins_stK]
  rfl
theorem rm_more (n : Nat) (s : Sec) (hs : s.length = 128) (hn : 4 ≤ n) (hn2 : n ≤ 15) : (rmL n (n - 2) s).stageE ((n + (n - 2) : Nat) : Int) 128 = 45 ∧ (rmL n (n - 2) s).stage ((n + (n - 2) : Nat) : Int) s = rmL n (n - 2) s := by
  have hr := rm_home n (n - 2) s (n - 2) (by omega)
  have e : (rmL n (n - 2) s).stageE ((n + (n - 2) : Nat) : Int) 128 = 45 := by
    unfold Lg.stageE
    rw [hr]
    have hl : (rmL n (n - 2) s).st.length = n - 2 := stK_length n (n - 2) s
    rw [hl]
    have hc : (rmL n (n - 2) s).n - 1 < cost (n - 2 + 1) := by show n - 1 < cost (n - 2 + 1); unfold cost; omega
    have hg : get (rmL n (n - 2) s).st (n + (n - 2)) = none := get_stK_none n (n - 2) _ s (Nat.le_refl _)
    rw [Int.toNat_natCast, hg]
    simp [hc]
  exact ⟨e, by unfold Lg.stage; rw [hs, if_neg (by rw [e]; simp)]⟩
def rmS (n : Nat) (s t : Sec) : SMap := ins n t (stK n (n - 2) s)
def rmL2 (n : Nat) (s t : Sec) : Lg := { Lg.new 0 n (n + 24) 1 with st := rmS n s t }
theorem rm_same (n : Nat) (s t : Sec) (ht : t.length = 128) (hn : 4 ≤ n) (hn2 : n ≤ 15) : (rmL n (n - 2) s).stageE (n : Int) 128 = 0 ∧ (rmL n (n - 2) s).stage (n : Int) t = rmL2 n s t := by
  have hr := rm_home n (n - 2) s 0 (by omega)
  rw [Nat.add_zero] at hr
  have hg : get (rmL n (n - 2) s).st n = some s := get_of_mem (srt_stK n s (n - 2)) (by
    show (n, s) ∈ stK n (n - 2) s
    simp only [stK, List.mem_map, List.mem_range]
    exact ⟨0, by omega, by simp⟩)
  have e : (rmL n (n - 2) s).stageE (n : Int) 128 = 0 := by
    unfold Lg.stageE
    rw [hr, Int.toNat_natCast, hg]
    simp
  refine ⟨e, ?_⟩
  unfold Lg.stage
  rw [ht, if_pos e]
  rfl
theorem rmS_len (n : Nat) (s t : Sec) (hn : 4 ≤ n) : (rmS n s t).length = n - 2 := by
  unfold rmS
  rw [length_ins _ _ _ (srt_stK n s (n - 2)), stK_length]
  have hg : get (stK n (n - 2) s) n = some s := get_of_mem (srt_stK n s (n - 2)) (by
    simp only [stK, List.mem_map, List.mem_range]
    exact ⟨0, by omega, by simp⟩)
  rw [hg]
  rfl
theorem rmS_get (n j : Nat) (s t : Sec) : get (rmS n s t) j = if j = n then some t else get (stK n (n - 2) s) j := get_ins n t j _ (srt_stK n s (n - 2))
/-- What the commit leaves. -/
structure RmF (n : Nat) (t : Sec) (D : Dsk) (L : Lg) : Prop where
  calm : Calm D
  hn : D.n = n + 24
  u : L.u = n - 1
  ln : L.n = n
  rc : ∀ j, j < 24 → L.reach ((n + j : Nat) : Int) = 0
  t0 : L.tell D n = t
  t1 : L.tell D (n + (n - 2)) = zeros
theorem rm_com {n : Nat} {D : Dsk} (s t : Sec) (hs : s.length = 128) (ht : t.length = 128) (hn : 4 ≤ n) (hn2 : n ≤ 15) (h : MadeF n D) (ok : (rmL2 n s t).Ok) : CommitE D (rmL2 n s t) = 0 ∧ RmF n t (CommitD D (rmL2 n s t)) (CommitL D (rmL2 n s t)) := by
  have hl : (rmL2 n s t).st.length = n - 2 := rmS_len n s t hn
  have hcost : cost (n - 2) = n - 1 := by unfold cost; omega
  have hmem : ∀ q ∈ (rmL2 n s t).st, q.2.length = 128 := fun q hq => by
    rcases ins_mem n t _ q hq with rfl | hq
    · exact ht
    · rw [(stK_mem hq).2.2]; exact hs
  obtain ⟨a1, a2, a3, a4, a5⟩ := com_calm h.calm ok h.hn hmem (by rw [hl, hcost]; show 0 + (n - 1) ≤ n - 1; omega)
  have hne : ¬ (rmL2 n s t).st = [] := fun e => by rw [e] at hl; simp at hl; omega
  have hd : (rmL2 n s t).dead = false := rfl
  have e1 : CommitE D (rmL2 n s t) = comE D (rmL2 n s t) := by simp [CommitE, hd, hne]
  have e2 : CommitD D (rmL2 n s t) = comD D (rmL2 n s t) := by simp [CommitD, hd, hne]
  have e3 : CommitL D (rmL2 n s t) = comL D (rmL2 n s t) := by
    have : CommitL D (rmL2 n s t) = (comL D (rmL2 n s t)).noted (comE D (rmL2 n s t)) := by simp [CommitL, hd, hne]
    rw [this, a1]
    rfl
  rw [e1, e2, e3, a5, hl, hcost]
  refine ⟨a1, a2, by rw [a3, h.hn], ?_, rfl, fun j hj => ?_, ?_, ?_⟩
  · show 0 + (n - 1) = n - 1
    omega
  · have : isHome 0 n (n + 24) ((n + j : Nat) : Int) = true := by simp [isHome]; omega
    show (if (false : Bool) = true then (40 : Int) else if isHome 0 n (n + 24) ((n + j : Nat) : Int) = true then 0 else 43) = 0
    rw [this]
    rfl
  · have hg : get (merge [] (rmS n s t)) n = some t := by
      rw [merge_get (rmS n s t) [] n List.Pairwise.nil (ins_srt _ _ _ (srt_stK n s (n - 2))), rmS_get, if_pos rfl]
    show (match get (merge [] (rmS n s t)) n with | some s => s | none => sec (comD D (rmL2 n s t)).N n) = t
    rw [hg]
  · have hg : get (merge [] (rmS n s t)) (n + (n - 2)) = none := by
      rw [merge_get (rmS n s t) [] (n + (n - 2)) List.Pairwise.nil (ins_srt _ _ _ (srt_stK n s (n - 2))), rmS_get, if_neg (by omega), get_stK_none _ _ _ _ (Nat.le_refl _)]
      rfl
    show (match get (merge [] (rmS n s t)) (n + (n - 2)) with | some s => s | none => sec (comD D (rmL2 n s t)).N (n + (n - 2))) = zeros
    rw [hg]
    show sec (comD D (rmL2 n s t)).N (n + (n - 2)) = zeros
    rw [a4 (n + (n - 2)) (by rw [h.hn]; omega) (.inr (by show 0 + n ≤ n + (n - 2); omega)), h.hsec _ (by omega) (by omega)]

end Go.Proofs.Ytagcpjekeogkbaa.Wl
