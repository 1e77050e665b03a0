/- The contract of the plain Refs. -/
import Derived.Test.YtipppagkajcheaaDoorAdd
import Derived.Test.YtipppagkajcheaaDoorIsp
import Derived.Test.YtipppagkajcheaaDoorRfs
namespace Go.Proofs.YtipppagkajcheaaDoor.Tr
open Go.RowKit

theorem addL_len : ∀ (S : List (List UInt8)) (s : List UInt8), (addL S s).length ≤ S.length + 1
  | [], s => by simp [addL]
  | x :: r, s => by
    rw [addL]
    split
    · have := addL_len r s
      simp only [List.length_cons]; omega
    · split <;> simp
theorem refsOf_len (d : List UInt8) (out : List (List UInt8)) : ∀ k, (refsOf d k out).length ≤ out.length + k
  | 0 => by simp [refsOf]
  | k + 1 => by
    have := refsOf_len d out k
    rw [refsOf]
    split
    · omega
    · have := addL_len (refsOf d k out) (refAt (d.drop k))
      omega
theorem refsB_take (L : List Ent) (i : Nat) (h : i < L.length) : refsB (L.take (i + 1)) = refsOf L[i].data (L[i].data.length - 24) (refsB (L.take i)) := by
  unfold refsB
  rw [List.take_succ_eq_append_getElem h, List.foldl_append]; rfl
theorem refsB_len (L : List Ent) : ∀ i, i ≤ L.length → (refsB (L.take i)).length ≤ bulkD (L.take i)
  | 0, _ => by simp [refsB, bulkD]
  | i + 1, h => by
    have h0 := refsB_len L i (by omega)
    rw [refsB_take L i (by omega), bulkD_take L i (by omega)]
    have := refsOf_len L[i].data (refsB (L.take i)) (L[i].data.length - 24)
    omega
theorem sub_here (d : List UInt8) (k n : Nat) : sub d k (k + n) = (d.drop k).take n := by unfold sub; rw [List.drop_take]; congr 1; omega

set_option maxRecDepth 100000 in
set_option maxHeartbeats 4000000 in
theorem rrefs_any (w : World) (ad : Option Addr) (L : List Ent) (cap : Nat) (hL : Ents w ad L) (hb : bulkD L ≤ 8796093022206) (hn : L.length ≤ 140737488351232) :
    Calls Tryd.prog 18 #[.slice ad L.length cap] w fun e w' => ∃ v, e = .returned v ∧ w'.ownsRow w.heap.size 9 1 v (refsB L).length (strs (refsB L)) ∧ Fr (fun _ => False) w w' := by
  have HL := hid hL
  clear hL
  go_enter Tryd.func18, Tryd.ntmps18
  go_wp2_with fail
  go_loopw [3, 4] (fun ov iv wr => ∃ i : Nat, i ≤ L.length ∧ iv = .int .i64 (i : Int) ∧ wr.ownsRow w.heap.size 9 1 ov (refsB (L.take i)).length (strs (refsB (L.take i))) ∧ Fr (fun _ => False) w wr) (fun _ iv _ => L.length - (intOf iv).toNat)
  case atStart => exact ⟨0, Nat.zero_le _, rfl, World.ownsRow_nil _ _ _ _, Fr.refl _ _⟩
  case round =>
    obtain ⟨i, hi, rfl, hO, hF⟩ := hrel
    have HO := hid hO
    have HF := hid hF
    clear hO hF
    by_cases hlt : i < L.length
    · have hi1 : (i : Int) < ((L.length : Nat) : Int) := by omega
      have hi0 : (0 : Int) ≤ (i : Int) := Int.natCast_nonneg _
      obtain ⟨bb, bo, da, dc, rfl, c0', c1', c2', hv⟩ := HL.out.at i hlt
      have c2 := cell_fr HF.out c2'
      have HStep := hid (refsB_take L i hlt)
      have hlen := refsB_len L i hi
      have hbt := bulkD_take L i hlt
      have hbl := bulkD_le L (i + 1)
      have hcv := conv_bytes (hv.src.fr HF.out) dc
      have hVl := hv.len
      clear hv c0' c1' c2' HL
      generalize L[i] = x at *
      generalize refsB (L.take i) = R0 at *
      obtain ⟨p, kd, d⟩ := x
      simp only at *
      go_wp2_with fail
      clear c2 hcv
      go_loopw [3, 6] (fun ov kv wr => ∃ k : Nat, k ≤ d.length - 24 ∧ kv = .int .i64 (k : Int) ∧ wr.ownsRow w.heap.size 9 1 ov (refsOf d k R0).length (strs (refsOf d k R0)) ∧ Fr (fun _ => False) w wr) (fun _ kv _ => d.length - (intOf kv).toNat)
      case atStart => exact ⟨0, Nat.zero_le _, rfl, HO.out, HF.out⟩
      case round =>
        obtain ⟨k, hk, rfl, hO2, hF2⟩ := hrel
        have HO2 := hid hO2
        have HF2 := hid hF2
        clear hO2 hF2 HO HF
        by_cases hkl : k < d.length - 24
        · have hk1 : (k : Int) + 25 ≤ ((d.length : Nat) : Int) := by omega
          have hk0 : (0 : Int) ≤ (k : Int) := Int.natCast_nonneg _
          have eld : (d.drop k).length = d.length - k := by rw [List.length_drop]
          have hrl := refsOf_len d R0 k
          go_wp2_with fail
          go_loopw [7, 8] (fun bv nv wr => ∃ n : Nat, 25 ≤ n ∧ n ≤ 44 ∧ nv = .int .i64 (n : Int) ∧ bv = .string ⟨(bestU (d.drop k) n).toArray⟩ ∧ wr.ownsRow w.heap.size 9 1 u3 (refsOf d k R0).length (strs (refsOf d k R0)) ∧ Fr (fun _ => False) w wr) (fun _ nv _ => 44 - (intOf nv).toNat)
          case atStart => exact ⟨25, Nat.le_refl _, by omega, rfl, by rw [bestU_start], HO2.out, HF2.out⟩
          case round =>
            obtain ⟨n, hn25, hn44, rfl, rfl, hO3, hF3⟩ := hrel
            have HO3 := hid hO3
            have HF3 := hid hF3
            clear hO3 hF3 HO2 HF2
            have hn0 : (0 : Int) ≤ (n : Int) := Int.natCast_nonneg _
            by_cases hgo : n ≤ 43 ∧ k + n ≤ d.length
            · obtain ⟨g1, g2⟩ := hgo
              have g1' : (n : Int) ≤ 43 := by omega
              have g2' : (k : Int) + (n : Int) ≤ ((d.length : Nat) : Int) := by omega
              have g3' : (k : Int) ≤ (k : Int) + (n : Int) := by omega
              have HX : Hid ((ByteArray.mk d.toArray).extract k (k + n) = ⟨((d.drop k).take n).toArray⟩) := by unfold Hid; rw [ext_sub, sub_here]
              have HI := hid (isPath_any wr ((d.drop k).take n))
              have HY := hid (bestU_yes (d.drop k) n hn25 g1 (by omega))
              have HN := hid (bestU_no (d.drop k) n hn25 g1 (by omega))
              clear hb hbt hbl hlen hrl
              generalize (d.drop k).take n = t at *
              cases hq : isPathB t with
              | true =>
                have HB := hid (HY.out hq)
                rw [hq] at HI
                clear HY HN
                go_wp2_with (go_at_call 19; rw [HX.out]; refine HI.out.mono ?_; rintro e w1 ⟨rfl, f1⟩; have O1 := hid (owns_of_eq HO3.out (fun j hj => f1.block j (HO3.out.lt j hj).2 (fun h => h))); have F1 := hid (HF3.out.trans f1 (fun _ h => h.elim)); clear f1)
                exact ⟨⟨n + 1, by omega, by omega, by go_num, by rw [HX.out, HB.out], O1.out, F1.out⟩, by simp [intOf]; omega⟩
              | false =>
                have HB := hid (HN.out hq)
                rw [hq] at HI
                clear HY HN
                go_wp2_with (go_at_call 19; rw [HX.out]; refine HI.out.mono ?_; rintro e w1 ⟨rfl, f1⟩; have O1 := hid (owns_of_eq HO3.out (fun j hj => f1.block j (HO3.out.lt j hj).2 (fun h => h))); have F1 := hid (HF3.out.trans f1 (fun _ h => h.elim)); clear f1)
                exact ⟨⟨n + 1, by omega, by omega, by go_num, by rw [HB.out], O1.out, F1.out⟩, by simp [intOf]; omega⟩
            · have HBe : Hid (bestU (d.drop k) n = refAt (d.drop k)) := bestU_end _ n hn44 (by omega)
              have HU : Hid (refsOf d (k + 1) R0 = if refAt (d.drop k) = [] then refsOf d k R0 else addL (refsOf d k R0) (refAt (d.drop k))) := rfl
              rw [HBe.out]
              have hR : (refsOf d k R0).length ≤ 8796093022206 := by omega
              clear HBe hb hbt hbl hlen hrl
              generalize refsOf d k R0 = R at *
              cases hr : refAt (d.drop k) with
              | nil =>
                rw [hr, if_pos rfl] at HU
                rw [← HU.out] at HO3
                by_cases g1 : n ≤ 43
                · have g1' : (n : Int) ≤ 43 := by omega
                  have g2' : ¬ (k : Int) + (n : Int) ≤ ((d.length : Nat) : Int) := by omega
                  go_wp2
                  exact ⟨⟨k + 1, by omega, by go_num, HO3.out, HF3.out⟩, by simp [intOf]; omega⟩
                · have g1' : ¬ (n : Int) ≤ 43 := by omega
                  go_wp2
                  exact ⟨⟨k + 1, by omega, by go_num, HO3.out, HF3.out⟩, by simp [intOf]; omega⟩
              | cons c r =>
                rw [hr, if_neg (by simp)] at HU
                have HA := hid (add_any wr w.heap.size _ R (c :: r) HO3.out HF3.out.size hR)
                clear hr
                by_cases g1 : n ≤ 43
                · have g1' : (n : Int) ≤ 43 := by omega
                  have g2' : ¬ (k : Int) + (n : Int) ≤ ((d.length : Nat) : Int) := by omega
                  go_wp2_with (go_at_call 35; refine HA.out.mono ?_; rintro e w1 ⟨v1, rfl, o1, f1⟩; rw [← HU.out] at o1; have O1 := hid o1; have F1 := hid (HF3.out.trans f1 (fun _ h => h.elim)); clear f1 o1)
                  exact ⟨⟨k + 1, by omega, by go_num, O1.out, F1.out⟩, by simp [intOf]; omega⟩
                · have g1' : ¬ (n : Int) ≤ 43 := by omega
                  go_wp2_with (go_at_call 35; refine HA.out.mono ?_; rintro e w1 ⟨v1, rfl, o1, f1⟩; rw [← HU.out] at o1; have O1 := hid o1; have F1 := hid (HF3.out.trans f1 (fun _ h => h.elim)); clear f1 o1)
                  exact ⟨⟨k + 1, by omega, by go_num, O1.out, F1.out⟩, by simp [intOf]; omega⟩
        · have hkn : ¬ (k : Int) + 25 ≤ ((d.length : Nat) : Int) := by omega
          obtain rfl : k = d.length - 24 := by omega
          rw [← HStep.out] at HO2
          go_wp2
          exact ⟨⟨i + 1, by omega, by go_num, HO2.out, HF2.out⟩, by simp [intOf]; omega⟩
    · obtain rfl : i = L.length := by omega
      have hkn : ¬ ((L.length : Nat) : Int) < ((L.length : Nat) : Int) := by omega
      rw [List.take_length] at HO
      go_wp2
      go_ret
      exact ⟨_, rfl, HO.out, HF.out⟩

end Go.Proofs.YtipppagkajcheaaDoor.Tr
