/- The contracts of Same and SameTexts. -/
import Derived.Test.YtangnoicnogddaaRrt
import Derived.Deep.QuietTactic
namespace Go.Proofs.Ytangnoicnogddaa.Tr
open Go.RowKit

theorem take_eq_succ {α : Type} {A B : List α} {i : Nat} (h : A.take i = B.take i) (ha : i < A.length) (hb : i < B.length) (e : A[i] = B[i]) : A.take (i + 1) = B.take (i + 1) := by
  rw [List.take_succ_eq_append_getElem ha, List.take_succ_eq_append_getElem hb, h, e]
theorem ne_of_at {α : Type} {A B : List α} {i : Nat} (ha : i < A.length) (hb : i < B.length) (e : A[i] ≠ B[i]) : A ≠ B := by
  rintro rfl; exact e rfl

theorem drewN_add (w : World) (a b : Nat) : (w.drewN a).drewN b = w.drewN (a + b) := by
  simp [World.drewN, Nat.add_assoc]

set_option maxRecDepth 100000 in
set_option maxHeartbeats 1000000 in
theorem same_any (w : World) (ad bd : Option Addr) (A B : List Ent) (ca cb : Nat) (hA : Ents w ad A) (hB : Ents w bd B) (hla : A.length ≤ 140737488351232) :
    Calls Try.prog 32 #[.slice ad A.length ca, .slice bd B.length cb] w fun e w' => e = .returned (.bool (decide (A = B))) ∧ ∃ n, w' = w.drewN n := by
  have HA := hid hA
  have HB := hid hB
  clear hA hB
  by_cases hl : A.length = B.length
  · have hl' : (((A.length : Nat) : Int) != ((B.length : Nat) : Int)) = false := by rw [hl]; simp
    have HLn := hid hl
    clear hl
    go_enter Try.func32, Try.ntmps32
    go_wp2_with fail
    go_loopw [5] (fun iv wr => ∃ i : Nat, i ≤ A.length ∧ iv = .int .i64 (i : Int) ∧ A.take i = B.take i ∧ ∃ n, wr = w.drewN n) (fun iv _ => A.length - (intOf iv).toNat)
    case atStart => exact ⟨0, Nat.zero_le _, rfl, rfl, 0, rfl⟩
    case round =>
      obtain ⟨i, hi, rfl, ht, nd, hw⟩ := hrel
      have HFd : Hid (Fr (fun _ => False) w wr) := by rw [hw]; exact (Fr.refl _ w).drewN nd
      have HW := hid hw
      clear hw
      by_cases hlt : i < A.length
      · have hi1 : (i : Int) < ((A.length : Nat) : Int) := by omega
        have hi2 : (i : Int) < ((B.length : Nat) : Int) := by have := HLn.out; omega
        have hi0 : (0 : Int) ≤ (i : Int) := Int.natCast_nonneg _
        have hltb : i < B.length := by have := HLn.out; omega
        obtain ⟨bb, bo, da, dc, rfl, c0, c1, c2, hv⟩ := (HA.out.fr HFd.out).at i hlt
        obtain ⟨bb', bo', da', dc', rfl, c0', c1', c2', hv'⟩ := (HB.out.fr HFd.out).at i hltb
        have hcv := fun n => conv_bytes (hv.src.fr ((Fr.refl _ wr).drewN n)) dc
        have hcv' := fun n => conv_bytes (hv'.src.fr ((Fr.refl _ wr).drewN n)) dc'
        have HT := hid (take_eq_succ ht hlt hltb)
        have HN := hid (ne_of_at hlt hltb (A := A) (B := B))
        clear hv hv' ht HA HB
        generalize A[i] = x at *
        generalize B[i] = y at *
        obtain ⟨p, k, d⟩ := x
        obtain ⟨p', k', d'⟩ := y
        simp only at *
        by_cases hp : p = p'
        · subst hp
          by_cases hk : k = k'
          · subst hk
            by_cases hd : d = d'
            · subst hd
              have HT' := hid (HT.out rfl)
              have hs1 : (p != p) = false := by simp
              have hs2 : (k != k) = false := by simp
              have hs3 : (d != d) = false := by simp
              go_wp2_with fail
              go_quiet (fail)
              have HWn : Hid (wr.drewN nq = w.drewN (nd + nq)) := by unfold Hid; rw [HW.out]; exact drewN_add w nd nq
              go_wp2
              exact ⟨⟨i + 1, by omega, by go_num, HT'.out, nd + nq, HWn.out⟩, by simp [intOf]; omega⟩
            · have HN' : Hid (decide (A = B) = false) := decide_eq_false (HN.out (by simp [hd]))
              have hs1 : (p != p) = false := by simp
              have hs2 : (k != k) = false := by simp
              have hs3 : (d == d') = false := by simpa using hd
              clear HN HT
              go_wp2_with fail
              go_quiet (fail)
              have HWn : Hid (wr.drewN nq = w.drewN (nd + nq)) := by unfold Hid; rw [HW.out]; exact drewN_add w nd nq
              go_wp2
              go_ret
              exact ⟨by rw [HN'.out]; rfl, nd + nq, HWn.out⟩
          · have HN' : Hid (decide (A = B) = false) := decide_eq_false (HN.out (by simp [hk]))
            have hs1 : (p != p) = false := by simp
            have hs2 : (k != k') = true := by simpa using hk
            clear HN HT
            go_wp2_with fail
            go_quiet (fail)
            have HWn : Hid (wr.drewN nq = w.drewN (nd + nq)) := by unfold Hid; rw [HW.out]; exact drewN_add w nd nq
            go_wp2
            go_ret
            exact ⟨by rw [HN'.out]; rfl, nd + nq, HWn.out⟩
        · have HN' : Hid (decide (A = B) = false) := decide_eq_false (HN.out (by simp [hp]))
          have hs1 : (!(p == p')) = true := by simpa using hp
          clear HN HT
          go_wp2_with fail
          go_quiet (fail)
          have HWn : Hid (wr.drewN nq = w.drewN (nd + nq)) := by unfold Hid; rw [HW.out]; exact drewN_add w nd nq
          go_wp2
          go_ret
          exact ⟨by rw [HN'.out]; rfl, nd + nq, HWn.out⟩
      · obtain rfl : i = A.length := by omega
        have hkn : ¬ ((A.length : Nat) : Int) < ((A.length : Nat) : Int) := by omega
        have HE : Hid (decide (A = B) = true) := by
          unfold Hid
          rw [List.take_length, HLn.out, List.take_length] at ht
          exact decide_eq_true ht
        clear ht
        go_wp2
        go_ret
        exact ⟨by rw [HE.out]; rfl, nd, HW.out⟩
  · have hl' : (((A.length : Nat) : Int) != ((B.length : Nat) : Int)) = true := by simpa using fun h => hl (by omega)
    have HE : Hid (decide (A = B) = false) := decide_eq_false (fun h => hl (by rw [h]))
    go_enter Try.func32, Try.ntmps32
    go_wp2
    go_ret
    exact ⟨by rw [HE.out]; rfl, 0, rfl⟩

end Go.Proofs.Ytangnoicnogddaa.Tr
