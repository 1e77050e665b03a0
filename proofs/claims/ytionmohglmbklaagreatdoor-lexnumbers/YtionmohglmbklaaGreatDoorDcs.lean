/- The contracts of Shift, shouldRoundUp, RoundedInteger. -/
import Derived.Test.YtionmohglmbklaaGreatDoorDcr
import Derived.Test.YtionmohglmbklaaGreatDoorFlo
namespace Go.Proofs.YtionmohglmbklaaGreatDoor.Tr
open Go.RowKit

/-- The table of cheats lies there. -/
structure Lch (w : World) (T : Nat → Nat × List UInt8) : Prop where
  ok : CTok T
  tab : ∃ ab ao cap, w.cell? ⟨12, 0, none⟩ = some (.slice (some ⟨ab, ao, none⟩) 61 cap) ∧ ∀ k, 1 ≤ k → k ≤ 60 → w.cell? ⟨ab, ao + k * 2, none⟩ = some (.int .i64 ((T k).1 : Int)) ∧ w.cell? ⟨ab, ao + k * 2 + 1, none⟩ = some (.string ⟨(T k).2.toArray⟩)
theorem Lch.env {w0 W : World} {T : Nat → Nat × List UInt8} (h : Lch w0 T) (e : Env w0 W) : Lch W T := by
  obtain ⟨h1, ab, ao, cap, h2, h3⟩ := h
  exact ⟨h1, ab, ao, cap, e.cell h2, fun k a b => ⟨e.cell (h3 k a b).1, e.cell (h3 k a b).2⟩⟩

theorem Dc.pos {w : World} {b : Nat} {s : DC} (h : Dc w b s) (hs : DOk s.L) : ∃ n : Nat, w.cell? ⟨b, 800, none⟩ = some (.int .i64 (n : Int)) ∧ 1 ≤ n := by
  obtain ⟨A, hD, _⟩ := h
  obtain ⟨c, r, e, _⟩ := hs.hd
  exact ⟨_, hD.c0, by rw [e]; simp⟩

set_option maxRecDepth 100000 in
set_option maxHeartbeats 1000000 in
theorem shl_any {w : World} {b : Nat} {s : DC} {T : Nat → Nat × List UInt8} (h : Dc w b s) (hs : DOk s.L) (hT : Lch w T) (k : Nat) (hk1 : 1 ≤ k) (hk : k ≤ 60) (hdp0 : -1000000000000 ≤ s.dp) (hdp1 : s.dp ≤ 1000000000000) :
    Calls Tryz.prog 178 #[pd b, .int .i64 (k : Int)] w fun e w' => e = .returned (.tuple #[]) ∧ Fr (· = b) w w' ∧ Dc w' b (lshT T k s) := by
  obtain ⟨hok, ab, ao, cap, hg, htab⟩ := hT
  obtain ⟨n, c0, hn⟩ := h.pos hs
  have HC := hid (left_any h hs k (T k).1 (T k).2 hk (hok k hk1 hk) hg (htab k hk1 hk).1 (htab k hk1 hk).2 hdp0 hdp1)
  have q0 : ((n : Int) == 0) = false := by simp; omega
  have q1 : (k : Int) > 0 := by omega
  have q2 : decide ((k : Int) > 0) = true := decide_eq_true q1
  have q3 : decide ((k : Int) > 60) = false := decide_eq_false (by omega)
  have q4 : IntKind.u64.wrap (k : Int) = (k : Int) := u64w (by omega) (by omega)
  obtain ⟨S, hS⟩ : ∃ S, S = lshT T k s := ⟨_, rfl⟩
  have hS2 : lsh k (T k).1 (T k).2 s = S := hS.symm
  rw [hS2] at HC
  rw [← hS]
  clear h hs htab hok hg hS hS2 hdp0 hdp1
  go_enter Tryz.func178, Tryz.ntmps178
  go_wp2_with fail
  go_loopw [1] (fun kv wr => kv = .int .i64 (k : Int) ∧ w = wr) (fun _ _ => 0)
  case atStart => exact ⟨rfl, rfl⟩
  case round =>
    obtain ⟨rfl, rfl⟩ := hrel
    go_wp2_with fail
    refine HC.out.mono ?_
    rintro e w2 ⟨rfl, h2⟩
    have HE := hid h2
    clear h2 HC
    go_wp2
    go_end0
    exact ⟨rfl, HE.out⟩

def SHS (w : World) (b k : Nat) (S : DC) (kv : Value) (wr : World) : Prop := ∃ (m : Nat) (s' : DC), kv = .int .i64 (-(m : Int)) ∧ 1 ≤ m ∧ m ≤ k ∧ Dc wr b s' ∧ DOk s'.L ∧ shR m s' = S ∧ Fr (· = b) w wr ∧ -10000000000 - 820 * (k : Int) + 820 * (m : Int) ≤ s'.dp ∧ s'.dp ≤ 10000000000

set_option maxRecDepth 100000 in
set_option maxHeartbeats 1000000 in
theorem shr_any {w : World} {b : Nat} {s : DC} (h : Dc w b s) (hs : DOk s.L) (k : Nat) (hk1 : 1 ≤ k) (hk : k ≤ 10000000) (hdp0 : -10000000000 ≤ s.dp) (hdp1 : s.dp ≤ 10000000000) :
    Calls Tryz.prog 178 #[pd b, .int .i64 (-(k : Int))] w fun e w' => e = .returned (.tuple #[]) ∧ Fr (· = b) w w' ∧ Dc w' b (shR k s) := by
  obtain ⟨n, c0, hn⟩ := h.pos hs
  have q0 : ((n : Int) == 0) = false := by simp; omega
  obtain ⟨z, hz⟩ : ∃ z : Int, z = -(k : Int) := ⟨_, rfl⟩
  have q2 : decide (z > 0) = false := decide_eq_false (by omega)
  have q3 : decide (z < 0) = true := decide_eq_true (by omega)
  obtain ⟨S, hS⟩ : ∃ S, S = shR k s := ⟨_, rfl⟩
  rw [← hS, ← hz]
  have HSt : Hid (SHS w b k S (.int .i64 z) w) := ⟨k, s, by rw [hz], hk1, Nat.le_refl _, h, hs, hS.symm, Fr.refl _ _, by omega, hdp1⟩
  clear h hs hS hdp0 hdp1 hz
  go_enter Tryz.func178, Tryz.ntmps178
  go_wp2_with fail
  clear q2 q3 q0 c0
  go_loopw [1] (fun kv wr => SHS w b k S kv wr) (fun kv _ => (- intOf kv).toNat)
  case atStart => exact HSt.out
  case round =>
    obtain ⟨m, s', rfl, hm1, hmk, hD, hs', hS, hF, hd0, hd1⟩ := hrel
    clear HSt
    obtain ⟨y, hy⟩ : ∃ y : Int, y = -(m : Int) := ⟨_, rfl⟩
    rw [← hy]
    by_cases h6 : 60 < m
    · have q3 : decide (y < -60) = true := decide_eq_true (by omega)
      have HC := hid (right_any hD hs' 60 (by decide) (by decide) (by omega) (by omega))
      have HN : Hid (∀ W, Fr (· = b) wr W → Dc W b (rsh 60 s') → SHS w b k S (.int .i64 (y + 60)) W) := by
        intro W f1 d1
        obtain ⟨a1, a2, a3, _⟩ := rsh_ok (k := 60) (by decide) (by decide) hs'
        exact ⟨m - 60, rsh 60 s', by congr 1; omega, by omega, by omega, d1, a1, by rw [← hS, shR_great h6], hF.same' f1, by omega, by omega⟩
      have hm4 : -100000000 ≤ y := by omega
      have hm5 : y ≤ 100000000 := by omega
      have HM : Hid ((- y).toNat = m ∧ 60 < m) := ⟨by omega, h6⟩
      clear hD hs' hS hF hd0 hd1 hy
      go_wp2_with fail
      refine HC.out.mono ?_
      rintro e w2 ⟨rfl, f2, d2⟩
      have HE := hid (HN.out w2 f2 d2)
      clear f2 d2 HC HN
      go_wp2
      exact ⟨HE.out, by have := HM.out; simp [intOf]; omega⟩
    · have q3 : decide (y < -60) = false := decide_eq_false (by omega)
      have HC := hid (right_any hD hs' m hm1 (by omega) (by omega) (by omega))
      rw [← shR_small (by omega), hS] at HC
      have HF := hid hF
      have q4 : IntKind.u64.wrap (-y) = (m : Int) := by rw [u64w (by omega) (by omega)]; omega
      have hm4 : -60 ≤ y := by omega
      have hm5 : y ≤ 0 := by omega
      clear hD hs' hS hF hd0 hd1 hy
      go_wp2_with fail
      refine HC.out.mono ?_
      rintro e w2 ⟨rfl, f2, d2⟩
      have HE := hid (And.intro (HF.out.same' f2) d2)
      clear f2 d2 HC HF
      go_wp2
      go_end0
      exact ⟨rfl, HE.out⟩

end Go.Proofs.YtionmohglmbklaaGreatDoor.Tr
