/- The reference disk: Write and Flush, whatever is asked. -/
import Derived.Test.YtdempopelalafaaRef4
import Derived.Test.YtdempopelalafaaRef5
namespace Go.Proofs.Ytdempopelalafaa.Dk
open Go.RowKit

theorem RDid.same {w : World} {q : Nat} {wv : Value} {R : RDk} (h : RRep w q wv R) : RDid q wv w R w := ⟨wv, h, fun _ hk => .inl hk, Fr.refl _ _⟩

set_option maxRecDepth 100000 in
set_option maxHeartbeats 1000000 in
theorem rwrite_any {w : World} {q : Nat} {wv : Value} {R : RDk} (h : RRep w q wv R) (hl : R.ws.length < 1073741824) (hd : R.done < 1073741824)
    (i : Int) (b : List UInt8) (ad : Option Addr) (cap : Nat) (hsrc : b ≠ [] → ∃ ab ao, ad = some ⟨ab, ao, none⟩ ∧ w.rangeAt ab ao (bs b) ∧ ab < w.heap.size ∧ ¬ rfoot q wv ab) :
    Calls Try.prog 36 #[pv q, .int .i64 i, .slice ad b.length cap] w fun e w' => e = .returned (.int .i64 (R.writeE i b.length)) ∧ RDid q wv w (R.write i b) w' := by
  have HS := hid hsrc
  have H := hid h
  have c0 := h.c0
  have c2 := h.c2
  clear hsrc h
  by_cases hr : R.reach i = 0
  · have hoff : R.off = false := by
      cases hu : R.off with
      | false => rfl
      | true => simp [RDk.reach, hu] at hr
    have hi : 0 ≤ i ∧ i < (R.n : Int) := by
      unfold RDk.reach at hr
      rw [hoff] at hr
      simp only [Bool.false_eq_true, if_false] at hr
      split at hr
      · cases hr
      · omega
    obtain ⟨j, rfl⟩ := Int.eq_ofNat_of_zero_le hi.1
    by_cases hb : b.length = 128
    · obtain ⟨ab, ao, rfl, h1, h2, h3⟩ := HS.out (by intro e; rw [e] at hb; cases hb)
      by_cases h0 : R.left = 0
      · have e1 : R.writeE (j : Int) b.length = 41 := by unfold RDk.writeE RDk.deedE; rw [if_neg (by simp [hr]), if_neg (by simp [hb]), if_pos h0]
        have e2 : R.write (j : Int) b = R.deed := by unfold RDk.write; rw [if_neg (by simp [hr]), if_neg (by simp [hb]), if_pos h0]
        rw [e1, e2, hb]
        have hc := rdeed_any H.out hl hd
        have hb0 : (!decide (R.left = 0)) = false := by simp [h0]
        rw [hb0] at hc
        have HC := hid hc
        have g1 : ¬ ((j : Int) < 0) := by omega
        have g2 : ¬ ((R.n : Int) ≤ (j : Int)) := by omega
        rw [hoff] at c2
        clear hc hb0 hr h0 e1 e2 hoff hi
        go_enter Try.func36, Try.ntmps36
        go_wp2_with fail
        refine HC.out.mono ?_
        rintro e w1 ⟨rfl, h1⟩
        have H1 := hid h1
        clear h1
        go_wp2
        go_ret
        exact ⟨rfl, H1.out⟩
      · have e1 : R.writeE (j : Int) b.length = 0 := by unfold RDk.writeE RDk.deedE; rw [if_neg (by simp [hr]), if_neg (by simp [hb]), if_neg h0]
        have e2 : R.write (j : Int) b = R.written j b := by unfold RDk.write; rw [if_neg (by simp [hr]), if_neg (by simp [hb]), if_neg h0]; rfl
        rw [e1, e2, hb]
        exact rwrite_ok H.out hl hd j b ab ao cap hoff (by omega) hb h1 h2 h3 h0
    · have e1 : R.writeE (j : Int) b.length = 44 := by unfold RDk.writeE; rw [if_neg (by simp [hr]), if_pos (by simp [hb])]
      have e2 : R.write (j : Int) b = R := by unfold RDk.write; rw [if_neg (by simp [hr]), if_pos (by simp [hb])]
      rw [e1, e2]
      have hbi : ¬ ((b.length : Nat) : Int) = 128 := by omega
      have g1 : ¬ ((j : Int) < 0) := by omega
      have g2 : ¬ ((R.n : Int) ≤ (j : Int)) := by omega
      rw [hoff] at c2
      clear hr e1 e2 hoff hi
      go_enter Try.func36, Try.ntmps36
      go_wp2
      go_ret
      exact ⟨rfl, RDid.same H.out⟩
  · have e1 : R.writeE i b.length = R.reach i := by unfold RDk.writeE; rw [if_pos hr]
    have e2 : R.write i b = R := by unfold RDk.write; rw [if_pos hr]
    rw [e1, e2]
    cases hu : R.off with
    | true =>
      have e3 : R.reach i = 40 := by simp [RDk.reach, hu]
      rw [e3]
      rw [hu] at c2
      clear hr e1 e2 e3 hu
      go_enter Try.func36, Try.ntmps36
      go_wp2
      go_ret
      exact ⟨rfl, RDid.same H.out⟩
    | false =>
      have hi : i < 0 ∨ (R.n : Int) ≤ i := by
        unfold RDk.reach at hr
        rw [hu] at hr
        simp only [Bool.false_eq_true, if_false] at hr
        split at hr
        · assumption
        · exact absurd rfl hr
      have e3 : R.reach i = 43 := by simp [RDk.reach, hu, hi]
      rw [e3]
      rw [hu] at c2
      clear hr e1 e2 e3 hu
      rcases (show i < 0 ∨ (¬ i < 0 ∧ (R.n : Int) ≤ i) by omega) with g | ⟨g, g'⟩
      · clear hi
        go_enter Try.func36, Try.ntmps36
        go_wp2
        go_ret
        exact ⟨rfl, RDid.same H.out⟩
      · clear hi
        go_enter Try.func36, Try.ntmps36
        go_wp2
        go_ret
        exact ⟨rfl, RDid.same H.out⟩

set_option maxRecDepth 100000 in
set_option maxHeartbeats 1000000 in
theorem rflush_any {w : World} {q : Nat} {wv : Value} {R : RDk} (h : RRep w q wv R) (hl : R.ws.length < 1073741824) (hd : R.done < 1073741824) :
    Calls Try.prog 37 #[pv q] w fun e w' => e = .returned (.int .i64 R.flushE) ∧ RDid q wv w R.flush w' := by
  have c2 := h.c2
  cases hu : R.off with
  | true =>
    have e1 : R.flushE = 40 := by simp [RDk.flushE, hu]
    have e2 : R.flush = R := by simp [RDk.flush, hu]
    rw [e1, e2]
    rw [hu] at c2
    have H := hid h
    clear h e1 e2 hu
    go_enter Try.func37, Try.ntmps37
    go_wp2
    go_ret
    exact ⟨rfl, RDid.same H.out⟩
  | false =>
    by_cases h0 : R.left = 0
    · have e1 : R.flushE = 41 := by simp [RDk.flushE, hu, h0]
      have e2 : R.flush = R.deed := by simp [RDk.flush, hu, h0]
      rw [e1, e2]
      rw [hu] at c2
      have hc := rdeed_any h hl hd
      have hb0 : (!decide (R.left = 0)) = false := by simp [h0]
      rw [hb0] at hc
      have HC := hid hc
      clear h e1 e2 hu hc hb0 h0
      go_enter Try.func37, Try.ntmps37
      go_wp2_with fail
      refine HC.out.mono ?_
      rintro e w1 ⟨rfl, h1⟩
      have H1 := hid h1
      clear h1
      go_wp2
      go_ret
      exact ⟨rfl, H1.out⟩
    · have e1 : R.flushE = 0 := by simp [RDk.flushE, hu, h0]
      have e2 : R.flush = R.flushed := by simp [RDk.flush, hu, h0]
      rw [e1, e2]
      exact rflush_ok h hl hd hu h0

end Go.Proofs.Ytdempopelalafaa.Dk
