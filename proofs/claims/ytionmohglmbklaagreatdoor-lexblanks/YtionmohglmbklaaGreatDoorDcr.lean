/- The contract of rightShift. -/
import Derived.Test.YtionmohglmbklaaGreatDoorDcl
import Derived.Deep.CutBlock
import Derived.Deep.DeepCutAuto
import Derived.Laws.BitsAllLaws
import Derived.Deep.LoopGhost
namespace Go.Proofs.YtionmohglmbklaaGreatDoor.Tr
open Go.RowKit

theorem and_mask (n k : Nat) (hn : n < 18446744073709551616) (hk : k ≤ 60) : bits .and .u64 (n : Int) ((2 ^ k - 1 : Nat) : Int) = ((n % 2 ^ k : Nat) : Int) := by
  have hp : 2 ^ k ≤ 1152921504606846976 := Nat.pow_le_pow_right (n := 2) (by decide) hk
  rw [u64_and_nat n (2 ^ k - 1) hn (by omega), Nat.and_two_pow_sub_one_eq_mod]

theorem digC {w : World} {b : Nat} {A : List UInt8} {nd : Nat} {dp : Int} {tr : Bool} {L : List UInt8} (h : Dm w b A nd dp tr) (hI : isD L) (i : Nat) (hi : i < L.length) (hA : A[i]? = L[i]?) (h8 : i < 800) : w.cell? ⟨b, i, none⟩ = some (.int .u8 ((dv L[i] : Int) + 48)) := by
  have e : A[i]'(by rw [h.len]; exact h8) = L[i] := by
    rw [List.getElem?_eq_getElem (by rw [h.len]; exact h8), List.getElem?_eq_getElem hi] at hA
    exact Option.some.inj hA
  have hc := h.c i h8
  rw [e] at hc
  have hx := hI L[i] (List.getElem_mem hi)
  have hyx : (L[i].toNat : Int) = (dv L[i] : Int) + 48 := by unfold dv; omega
  unfold bv at hc
  rw [hyx] at hc; exact hc
theorem dc_end2 {w' : World} {b q : Nat} {S : DC} {G A' : List UInt8} {tr tr' : Bool} {dp : Int} (hS : S = ⟨trimL (G.take 800), dp, tr || (G.drop 800).any (· != 48)⟩) (hA : A'.length = 800) (hq : q = min G.length 800) (e1 : A'.take q = G.take 800) (e2 : tr' = (tr || (G.drop 800).any (· != 48))) (hG : DOk (trimL (G.take 800)))
    (h : Dm w' b A' (trimN A' q) (if trimN A' q = 0 then 0 else dp) tr') : Dc w' b S := by
  have e3 := trimL_eq A' q (by omega)
  have e4 := trimL_length A' q (by omega)
  rw [e1] at e3 e4
  obtain ⟨c, r, e, _⟩ := hG.hd
  have e5 : trimN A' q ≠ 0 := by
    rw [← e4, e]; simp
  subst hS
  refine ⟨A', ?_, ?_⟩
  · simp only
    rw [if_neg e5, e2, ← e4] at h
    exact h
  · simp only
    rw [e4]; exact e3
/-- The second loop's state. -/
def RS2 (w : World) (b nd : Nat) (dp : Int) (tr : Bool) (k : Nat) (A L G : List UInt8) (rv qv nv : Value) (wr : World) : Prop := ∃ (r q n : Nat) (A' : List UInt8), rv = .int .i64 (r : Int) ∧ qv = .int .i64 (q : Int) ∧ nv = .int .u64 (n : Int) ∧ q < r ∧ q ≤ nd ∧ Dm wr b A' nd dp tr ∧ Fr (· = b) w wr ∧ n < 10 * 2 ^ k ∧ (∀ i, r ≤ i → A'[i]? = A[i]?) ∧ A'.take q ++ rs2 k n (L.drop r) = G
/-- The third loop's state. -/
def RS3 (w : World) (b nd : Nat) (dp : Int) (tr : Bool) (k : Nat) (G : List UInt8) (f : Nat) (qv nv : Value) (wr : World) : Prop := ∃ (q n : Nat) (A' X : List UInt8) (tr' : Bool), qv = .int .i64 (q : Int) ∧ nv = .int .u64 (n : Int) ∧ q = min X.length 800 ∧ A'.take q = X.take 800 ∧ tr' = (tr || (X.drop 800).any (· != 48)) ∧ Dm wr b A' nd dp tr' ∧ Fr (· = b) w wr ∧ n < 10 * 2 ^ k ∧ (n = 0 ∨ (2 ≤ f ∧ f ≤ k + 2 ∧ 2 ^ (k + 2 - f) ∣ n)) ∧ X ++ rs3 k f n = G
theorem rs3_dvd {k f n : Nat} (hf : 2 ≤ f) (hf2 : f ≤ k + 2) (h : 2 ^ (k + 2 - f) ∣ n) : n % 2 ^ k * 10 = 0 ∨ (2 ≤ f - 1 ∧ f - 1 ≤ k + 2 ∧ 2 ^ (k + 2 - (f - 1)) ∣ n % 2 ^ k * 10) := by
  by_cases e : f = 2
  · left
    subst e
    rw [show k + 2 - 2 = k by omega] at h
    obtain ⟨m, rfl⟩ := h
    simp
  · right
    refine ⟨by omega, by omega, ?_⟩
    obtain ⟨m, hm⟩ := h
    have e1 : k + 2 - (f - 1) = (k + 2 - f) + 1 := by omega
    have e2 : 2 ^ (k + 2 - f) ∣ n % 2 ^ k := by
      rw [Nat.dvd_mod_iff (Nat.pow_dvd_pow 2 (by omega))]
      exact ⟨m, hm⟩
    obtain ⟨m', hm'⟩ := e2
    refine ⟨m' * 5, ?_⟩
    rw [e1, hm', Nat.pow_succ, Nat.mul_assoc, Nat.mul_assoc]
    congr 1
    omega
/-- The first loop's state. -/
def RS1 (L : List UInt8) (k : Nat) (F : Nat × Nat × List UInt8) (rv nv : Value) : Prop := ∃ r n : Nat, rv = .int .i64 (r : Int) ∧ nv = .int .u64 (n : Int) ∧ r ≤ L.length ∧ n < 10 * 2 ^ k ∧ (n = 0 → r = 0) ∧ rpk k n r (L.drop r) = F
/-- The loop within it. -/
def RS0 (k nd : Nat) (F : Nat × Nat × List UInt8) (rv nv : Value) : Prop := ∃ r n f : Nat, rv = .int .i64 (r : Int) ∧ nv = .int .u64 (n : Int) ∧ nd ≤ r ∧ r + f = nd + 20 ∧ n < 10 * 2 ^ k ∧ 1 ≤ n ∧ 2 ^ k ≤ n * 10 ^ f ∧ ((grow k f n r).1, (grow k f n r).2, ([] : List UInt8)) = F

set_option maxRecDepth 100000 in
set_option maxHeartbeats 8000000 in
theorem right_any {w : World} {b : Nat} {s : DC} (h : Dc w b s) (hs : DOk s.L) (k : Nat) (hk1 : 1 ≤ k) (hk : k ≤ 60) (hdp0 : -1000000000000 ≤ s.dp) (hdp1 : s.dp ≤ 1000000000000) :
    Calls Tryz.prog 191 #[pd b, .int .u64 (k : Int)] w fun e w' => e = .returned (.tuple #[]) ∧ Fr (· = b) w w' ∧ Dc w' b (rsh k s) := by
  have HRok := hid (rsh_ok hk1 hk hs)
  obtain ⟨A, hD, hA⟩ := h
  obtain ⟨L, dp, tr⟩ := s
  simp only at hD hA hs hdp0 hdp1 HRok ⊢
  obtain ⟨nd, hnd⟩ : ∃ nd, nd = L.length := ⟨_, rfl⟩
  rw [← hnd] at hD hA
  have hnd8 : nd ≤ 800 := by rw [hnd]; exact hs.le
  have c0 := hD.c0
  have hKb : 2 ^ k ≤ 1152921504606846976 := Nat.pow_le_pow_right (n := 2) (by decide) hk
  have hKp : 0 < 2 ^ k := Nat.pow_pos (by decide)
  obtain ⟨c, r0, hL0, hc0⟩ := hs.hd
  have HHd : Hid (∀ n, n = 0 → ∃ c R, L = c :: R ∧ 49 ≤ c.toNat) := fun _ _ => ⟨c, r0, hL0, hc0⟩
  have HRp := hid (rpk_ok hk (L := L) (n := 0) (r := 0) hs.dg (by omega) (fun _ => ⟨c, r0, hL0, hc0⟩))
  obtain ⟨F, hF⟩ : ∃ F, F = rpk k 0 0 L := ⟨_, rfl⟩
  have HF := hid hF
  have HD := hid hD
  have HN := hid hnd
  have HA := hid hA
  have HIs := hid hs.dg
  have HKb := hid (And.intro hKb hKp)
  obtain ⟨S, hS⟩ : ∃ S, S = rsh k ⟨L, dp, tr⟩ := ⟨_, rfl⟩
  rw [← hS]
  have HS := hid hS
  have hc8 : ∀ i, i < 800 → ∃ v, w.cell? ⟨b, i, none⟩ = some v := fun i hi => ⟨_, hD.c i hi⟩
  clear hD hA hnd hs hF hS hL0 hc0 hKb hKp hc8
  go_enter Tryz.func191, Tryz.ntmps191
  go_upto_block 0 with fail
  go_cut [4, 6] (fun rv nv wx => ∃ r n : Nat, rv = .int .i64 (r : Int) ∧ nv = .int .u64 (n : Int) ∧ F = (n, r, L.drop r) ∧ w = wx)
  case first =>
    go_wp2_with fail
    go_loopw [4, 6] (fun rv nv wr => RS1 L k F rv nv ∧ w = wr) (fun rv _ _ => nd - (intOf rv).toNat)
    case atStart => exact ⟨⟨0, 0, rfl, rfl, Nat.zero_le _, by have := HKb.out; omega, fun _ => rfl, by rw [HF.out]; rfl⟩, rfl⟩
    case round =>
      obtain ⟨⟨r, n, rfl, rfl, hr, hn, h0, hrp⟩, rfl⟩ := hrel
      by_cases hq : n / 2 ^ k = 0
      · have q1 : ((n : Int) / 2 ^ k == 0) = true := by
          have : ((n : Int) / 2 ^ k) = ((n / 2 ^ k : Nat) : Int) := by simp
          rw [this, hq]; rfl
        by_cases hrn : r < nd
        · have q2 : ¬ (r : Int) ≥ (nd : Int) := by omega
          have q3 : decide ((r : Int) ≥ (nd : Int)) = false := decide_eq_false q2
          have hrl : r < L.length := by have := HN.out; omega
          have ck := digC HD.out HIs.out r hrl (by rw [← HA.out, List.getElem?_take, if_pos hrn]) (by omega)
          have hy9 := dv_lt (HIs.out L[r] (List.getElem_mem hrl))
          have hst : rpk k (n * 10 + dv L[r]) (r + 1) (L.drop (r + 1)) = F := by
            rw [← hrp, List.drop_eq_getElem_cons hrl]
            conv => rhs; unfold rpk
            rw [if_pos hq]
          have hnlt : n < 2 ^ k := by
            rcases Nat.lt_or_ge n (2 ^ k) with h | h
            · exact h
            · have := Nat.div_pos h HKb.out.2; omega
          have hnz : n * 10 + dv L[r] = 0 → r + 1 = 0 := by
            intro e
            exfalso
            have hr0 := h0 (by omega)
            subst hr0
            obtain ⟨c, R, hL, hc⟩ := HHd.out 0 rfl
            subst hL
            simp only [List.getElem_cons_zero, dv] at e
            omega
          generalize dv L[r] = y at *
          have hn60 := HKb.out.1
          obtain ⟨N1, hN1⟩ : ∃ N1, N1 = n * 10 := ⟨_, rfl⟩
          obtain ⟨N2, hN2⟩ : ∃ N2, N2 = n * 10 + (y + 48) := ⟨_, rfl⟩
          obtain ⟨N3, hN3⟩ : ∃ N3, N3 = n * 10 + y := ⟨_, rfl⟩
          have q4 : IntKind.u64.wrap ((y : Int) + 48) = (y : Int) + 48 := u64w (by omega) (by omega)
          have q5 : IntKind.u64.wrap ((n : Int) * 10) = (N1 : Int) := by rw [u64w (by omega) (by omega)]; omega
          have q6 : IntKind.u64.wrap ((N1 : Int) + ((y : Int) + 48)) = (N2 : Int) := by rw [u64w (by omega) (by omega)]; omega
          have q7 : IntKind.u64.wrap ((N2 : Int) - 48) = (N3 : Int) := by rw [u64w (by omega) (by omega)]; omega
          have q8 : (0 : Int) ≤ (r : Int) := by omega
          have q9 : (r : Int) < 800 := by omega
          have HNx : Hid (RS1 L k F (.int .i64 ((r : Int) + 1)) (.int .u64 (N3 : Int))) := ⟨r + 1, N3, rfl, rfl, hrl, by omega, fun e => hnz (by omega), by rw [hN3]; exact hst⟩
          clear hst hnz hnlt hN1 hN2 hN3 hrp h0 hq hn hr hn60 hy9
          go_wp2_with fail
          exact ⟨⟨HNx.out, trivial⟩, by simp [intOf]; omega⟩
        · have hrr : r = nd := by have := HN.out; omega
          have q2 : (r : Int) ≥ (nd : Int) := by omega
          have q3 : decide ((r : Int) ≥ (nd : Int)) = true := decide_eq_true q2
          have hnp : 1 ≤ n := by
            rcases Nat.eq_zero_or_pos n with e | e
            · exfalso
              have := h0 e
              obtain ⟨c, R, hL, _⟩ := HHd.out 0 rfl
              have h1 := HN.out
              rw [hL] at h1
              simp at h1
              omega
            · exact e
          have q4 : ((n : Int) == 0) = false := by simp; omega
          have HSt : Hid (RS0 k nd F (.int .i64 (r : Int)) (.int .u64 (n : Int))) := by
            refine ⟨r, n, 20, rfl, rfl, by omega, by omega, hn, hnp, ?_, ?_⟩
            · have : 1 * 10 ^ 20 ≤ n * 10 ^ 20 := Nat.mul_le_mul_right _ hnp
              have e2 : (1152921504606846976 : Nat) ≤ 1 * 10 ^ 20 := by decide
              have := HKb.out.1
              omega
            · rw [← hrp, List.drop_eq_nil_of_le (by have := HN.out; omega)]; rfl
          have HNd := hid (And.intro hrr hnp)
          clear hrp h0 hq hn hr hrr hnp hrn
          go_wp2_with fail
          go_loopw [4, 6] (fun rv nv wr => RS0 k nd F rv nv ∧ w = wr) (fun _ nv _ => 10 * 2 ^ k - (intOf nv).toNat)
          case atStart => exact ⟨HSt.out, rfl⟩
          case round =>
            obtain ⟨⟨r2, n2, f, rfl, rfl, hr2, hf, hn2, hn1, hf2, hg⟩, rfl⟩ := hrel
            by_cases hq : n2 / 2 ^ k = 0
            · have q1 : ((n2 : Int) / 2 ^ k == 0) = true := by
                have : ((n2 : Int) / 2 ^ k) = ((n2 / 2 ^ k : Nat) : Int) := by simp
                rw [this, hq]; rfl
              have hnlt : n2 < 2 ^ k := by
                rcases Nat.lt_or_ge n2 (2 ^ k) with h | h
                · exact h
                · have := Nat.div_pos h HKb.out.2; omega
              have hn60 := HKb.out.1
              obtain ⟨N1, hN1⟩ : ∃ N1, N1 = n2 * 10 := ⟨_, rfl⟩
              have q5 : IntKind.u64.wrap ((n2 : Int) * 10) = (N1 : Int) := by rw [u64w (by omega) (by omega)]; omega
              have HNx : Hid (RS0 k nd F (.int .i64 ((r2 : Int) + 1)) (.int .u64 (N1 : Int)) ∧ 10 * 2 ^ k - N1 < 10 * 2 ^ k - n2) := by
                cases f with
                | zero => rw [Nat.pow_zero] at hf2; omega
                | succ f =>
                  refine ⟨⟨r2 + 1, N1, f, rfl, rfl, by omega, by omega, by omega, by omega, ?_, ?_⟩, by omega⟩
                  · rw [hN1, Nat.mul_assoc, ← Nat.pow_succ']; exact hf2
                  · rw [← hg]
                    conv => rhs; unfold grow
                    rw [if_pos hq, hN1]
              clear hN1 hg hf2 hnlt hq hn60 HSt q3 q2 HNd
              have hr3 : (r2 : Int) < 1000 := by omega
              go_wp2_with fail
              exact ⟨⟨HNx.out.1, trivial⟩, by simpa [intOf] using HNx.out.2⟩
            · have q1 : ((n2 : Int) / 2 ^ k == 0) = false := by
                have : ((n2 : Int) / 2 ^ k) = ((n2 / 2 ^ k : Nat) : Int) := by simp
                rw [this]; simp; omega
              have HFx : Hid (F = (n2, r2, L.drop r2)) := by
                unfold Hid
                rw [List.drop_eq_nil_of_le (by have := HN.out; omega), ← hg]
                cases f with
                | zero => rfl
                | succ f => unfold grow; rw [if_neg hq]
              clear hg hf2 hq HSt q3 q2 HNd
              go_wp2_with fail
              go_meet
              exact ⟨r2, n2, rfl, rfl, HFx.out, rfl⟩
      · have q1 : ((n : Int) / 2 ^ k == 0) = false := by
          have : ((n : Int) / 2 ^ k) = ((n / 2 ^ k : Nat) : Int) := by simp
          rw [this]; simp; omega
        have HFx : Hid (F = (n, r, L.drop r)) := by
          unfold Hid
          rw [← hrp]
          cases hd : L.drop r with
          | nil => unfold rpk grow; rw [if_neg hq]
          | cons c cs => unfold rpk; rw [if_neg hq]
        clear hrp h0 hq hn hr
        go_wp2_with fail
        go_meet
        exact ⟨r, n, rfl, rfl, HFx.out, rfl⟩
  case rest =>
    obtain ⟨r, n, rfl, rfl, hFx, rfl⟩ := hcut
    have hR := HRp.out
    rw [← HF.out, hFx] at hR
    obtain ⟨a1, a2, a3, a4, a5, a6, a7⟩ := hR
    simp only at a1 a2 a3 a4 a5 a6 a7
    have hr1 : 1 ≤ r := a6 HKb.out.2
    obtain ⟨G, hG⟩ : ∃ G, G = rs2 k n (L.drop r) := ⟨_, rfl⟩
    have hSe : S = ⟨trimL (G.take 800), dp - ((r : Int) - 1), tr || (G.drop 800).any (· != 48)⟩ := by
      rw [HS.out]
      unfold rsh rshG
      simp only
      rw [← HF.out, hFx, hG]
      simp only
      congr 1
      omega
    have HSe := hid hSe
    have HOk : Hid (DOk (trimL (G.take 800))) := by
      have h1 := HRok.out.1
      rw [← HS.out, hSe] at h1; exact h1
    have hr9 : (r : Int) < 1000 := by have := HN.out; omega
    have hr0 : (1 : Int) ≤ (r : Int) := by omega
    have c1 := HD.out.c1
    have f1 := HD.out.fz 801
    have hK1 : IntKind.u64.wrap (2 ^ k) = ((2 ^ k : Nat) : Int) := by
      rw [u64w (Int.le_of_lt (Int.pow_pos (by decide)))]
      · simp
      · have := HKb.out.1
        have e : ((2 : Int) ^ k) = ((2 ^ k : Nat) : Int) := by simp
        omega
    obtain ⟨M, hM⟩ : ∃ M, M = 2 ^ k - 1 := ⟨_, rfl⟩
    have hK2 : IntKind.u64.wrap (((2 ^ k : Nat) : Int) - 1) = (M : Int) := by
      have := HKb.out
      rw [u64w (by omega) (by omega)]; omega
    have HMk : Hid (∀ n2 : Nat, n2 < 10 * 2 ^ k → bits .and .u64 (n2 : Int) (M : Int) = ((n2 % 2 ^ k : Nat) : Int)) := fun n2 h => by
      have := HKb.out.1
      rw [hM]; exact and_mask n2 k (by omega) hk
    have HW0 : Hid (Dm (w.setCell ⟨b, 801, none⟩ (.int .i64 (dp - ((r : Int) - 1)))) b A nd (dp - ((r : Int) - 1)) tr ∧ Fr (· = b) w (w.setCell ⟨b, 801, none⟩ (.int .i64 (dp - ((r : Int) - 1))))) := ⟨HD.out.setP _, (Fr.refl (· = b) w).setCell (p := ⟨b, 801, none⟩) (.inl rfl) _⟩
    have HSt : Hid (RS2 w b nd (dp - ((r : Int) - 1)) tr k A L G (.int .i64 (r : Int)) (.int .i64 0) (.int .u64 (n : Int)) (w.setCell ⟨b, 801, none⟩ (.int .i64 (dp - ((r : Int) - 1))))) :=
      ⟨r, 0, n, A, rfl, rfl, rfl, by omega, Nat.zero_le _, HW0.out.1, HW0.out.2, a2, fun _ _ => rfl, by rw [hG]; rfl⟩
    clear hSe hG hFx a1 a2 a3 a4 a5 a6 a7 hM HRok HRp HS hr1
    generalize (2 ^ k : Nat) = KK at hK1 hK2
    go_wp2_with fail
    generalize w.setCell ⟨b, 801, none⟩ (.int .i64 (dp - ((r : Int) - 1))) = W0 at *
    have hdq0 : -2000000000000 ≤ dp - ((r : Int) - 1) := by omega
    have hdq1 : dp - ((r : Int) - 1) ≤ 2000000000000 := by omega
    generalize dp - ((r : Int) - 1) = dq at *
    clear hK1 hK2 c1 f1 hdp0 hdp1 c0
    go_loopw [4, 5, 6] (fun rv qv nv wr => RS2 w b nd dq tr k A L G rv qv nv wr) (fun rv _ _ _ => nd - (intOf rv).toNat)
    case atStart => exact HSt.out
    case round =>
      obtain ⟨r2, q, n2, A', rfl, rfl, rfl, hqr, hqn, hDm, hF2, hn2, hAA, hGG⟩ := hrel
      have c0 := hDm.c0
      by_cases hrn : r2 < nd
      · have q2 : (r2 : Int) < (nd : Int) := by omega
        have hrl : r2 < L.length := by have := HN.out; omega
        have ck := digC hDm HIs.out r2 hrl (by rw [hAA r2 (Nat.le_refl _), ← HA.out, List.getElem?_take, if_pos hrn]) (by omega)
        have hy9 := dv_lt (HIs.out L[r2] (List.getElem_mem hrl))
        rw [List.drop_eq_getElem_cons hrl] at hGG
        unfold rs2 at hGG
        have hmk := HMk.out n2 hn2
        have hpw := HKb.out
        obtain ⟨dd, hdd⟩ : ∃ dd, dd = n2 / 2 ^ k := ⟨_, rfl⟩
        have hdd9 : dd < 10 := by rw [hdd]; exact Nat.div_lt_of_lt_mul (by omega)
        have q3 : (n2 : Int) / 2 ^ k = (dd : Int) := by rw [hdd]; simp
        obtain ⟨mm, hmm⟩ : ∃ mm, mm = n2 % 2 ^ k := ⟨_, rfl⟩
        have hmmlt : mm < 2 ^ k := by rw [hmm]; exact Nat.mod_lt _ hpw.2
        rw [← hmm] at hmk
        rw [← hmm, ← hdd] at hGG
        generalize dv L[r2] = y at *
        obtain ⟨N1, hN1⟩ : ∃ N1, N1 = mm * 10 := ⟨_, rfl⟩
        obtain ⟨N2, hN2⟩ : ∃ N2, N2 = mm * 10 + (y + 48) := ⟨_, rfl⟩
        obtain ⟨N3, hN3⟩ : ∃ N3, N3 = mm * 10 + y := ⟨_, rfl⟩
        have q4 : IntKind.u64.wrap ((y : Int) + 48) = (y : Int) + 48 := u64w (by omega) (by omega)
        have q5 : IntKind.u64.wrap ((mm : Int) * 10) = (N1 : Int) := by rw [u64w (by omega) (by omega)]; omega
        have q6 : IntKind.u64.wrap ((N1 : Int) + ((y : Int) + 48)) = (N2 : Int) := by rw [u64w (by omega) (by omega)]; omega
        have q7 : IntKind.u64.wrap ((N2 : Int) - 48) = (N3 : Int) := by rw [u64w (by omega) (by omega)]; omega
        have q8 : (0 : Int) ≤ (r2 : Int) := by omega
        have q9 : (r2 : Int) < 800 := by omega
        have q10 : IntKind.u64.wrap ((dd : Int) + 48) % 256 = ((dig dd).toNat : Int) := by rw [u64w (by omega) (by omega), dig_toNat]; omega
        have q11 : (0 : Int) ≤ (q : Int) := by omega
        have q12 : (q : Int) < 800 := by omega
        have hq8 : q < 800 := by omega
        obtain ⟨ov, cw⟩ : ∃ ov, wr.cell? ⟨b, q, none⟩ = some ov := ⟨_, hDm.c q hq8⟩
        have fw := hDm.fz q
        generalize hdg : dig dd = x at *
        have HNx : Hid (RS2 w b nd dq tr k A L G (.int .i64 ((r2 : Int) + 1)) (.int .i64 ((q : Int) + 1)) (.int .u64 (N3 : Int)) (wr.setCell ⟨b, q, none⟩ (.int .u8 (x.toNat : Int)))) := by
          refine ⟨r2 + 1, q + 1, N3, A'.set q x, rfl, rfl, rfl, by omega, by omega, hDm.setD q hq8 x, hF2.setCell (.inl rfl) _, by omega, ?_, ?_⟩
          · intro i hi
            rw [List.getElem?_set, if_neg (by omega)]
            exact hAA i (by omega)
          · rw [← hGG, hN3, List.take_succ_eq_append_getElem (by rw [List.length_set, hDm.len]; exact hq8), List.take_set, List.getElem_set_self, List.set_eq_of_length_le (by rw [List.length_take]; omega)]
            simp
        clear hGG hN1 hN2 hN3 hdg hmm hmmlt hdd hdd9 hpw hn2 hAA hDm hF2 hy9 hq8 hqr hqn HSt
        go_wp2_with fail
        exact ⟨HNx.out, by simp [intOf]; omega⟩
      · have q2 : ¬ (r2 : Int) < (nd : Int) := by omega
        have HSt3 : Hid (RS3 w b nd dq tr k G (k + 2) (.int .i64 (q : Int)) (.int .u64 (n2 : Int)) wr) := by
          have hl : (A'.take q).length = q := by rw [List.length_take, hDm.len]; omega
          refine ⟨q, n2, A', A'.take q, tr, rfl, rfl, by omega, ?_, ?_, hDm, hF2, hn2, ?_, ?_⟩
          · rw [List.take_take, Nat.min_eq_right (by omega)]
          · rw [List.drop_eq_nil_of_le (by omega)]; simp
          · rcases Nat.eq_zero_or_pos n2 with e | e
            · exact .inl e
            · exact .inr ⟨by omega, by omega, by rw [Nat.sub_self, Nat.pow_zero]; exact Nat.one_dvd _⟩
          · rw [← hGG, List.drop_eq_nil_of_le (by have := HN.out; omega)]; rfl
        have q2' : decide ((r2 : Int) < (nd : Int)) = false := decide_eq_false q2
        clear hGG hAA hDm hF2 hn2 hqr hqn HSt hrn hdq0 hdq1
        obtain ⟨wo, hwo⟩ : ∃ wo, wo = wr := ⟨_, rfl⟩
        rw [← hwo] at HSt3 c0 ⊢
        clear hwo
        go_wp2_with fail
        clear q2 q2'
        go_loopg [5, 6] (k + 2) (fun g qv nv wr => RS3 w b nd dq tr k G g qv nv wr)
        case atStart => exact HSt3.out
        case round =>
          obtain ⟨q3, n3, A3, X, tr3, rfl, rfl, hq, hAX, htr, hDm, hF3, hn3, hdv, hGX⟩ := hrel
          by_cases hn0 : n3 = 0
          · subst hn0
            have hXG : X = G := by
              rw [← hGX]
              cases gk with
              | zero => simp [rs3]
              | succ g => simp [rs3]
            have c8 := hDm.c0
            have f8 := hDm.fz 800
            have HX : Hid (Dm (wr.setCell ⟨b, 800, none⟩ (.int .i64 (q3 : Int))) b A3 q3 dq tr3 ∧ Fr (· = b) w (wr.setCell ⟨b, 800, none⟩ (.int .i64 (q3 : Int)))) := ⟨hDm.setN q3, hF3.setCell (.inl rfl) _⟩
            have HEnd : Hid (∀ W, Fr (· = b) w W → Dm W b A3 q3 dq tr3 → Calls Tryz.prog 202 #[pd b] W fun e w' => e = .returned (.tuple #[]) ∧ Fr (· = b) w w' ∧ Dc w' b S) := by
              intro W f1 d1
              refine (trim_any d1 (by omega)).mono ?_
              rintro e w' ⟨h1, h2, h3⟩
              rw [hXG] at hq hAX htr
              exact ⟨h1, f1.same' h2, dc_end2 HSe.out d1.len hq hAX htr HOk.out h3⟩
            clear hq hAX htr hDm hF3 hn3 hdv hGX hXG HSt3
            go_wp2_with fail
            generalize wr.setCell ⟨b, 800, none⟩ (.int .i64 (q3 : Int)) = W at *
            refine (HEnd.out W HX.out.2 HX.out.1).mono ?_
            rintro e w' ⟨rfl, h⟩
            have HE := hid h
            clear h HEnd HX
            go_wp2
            go_end0
            exact ⟨rfl, HE.out⟩
          · obtain ⟨hg2, hg3, hgd⟩ : 2 ≤ gk ∧ gk ≤ k + 2 ∧ 2 ^ (k + 2 - gk) ∣ n3 := hdv.resolve_left hn0
            obtain ⟨f, rfl⟩ : ∃ f, gk = f + 1 := ⟨gk - 1, by omega⟩
            have hnx := rs3_dvd hg2 hg3 hgd
            rw [Nat.add_sub_cancel] at hnx
            unfold rs3 at hGX
            rw [if_neg hn0] at hGX
            have hmk := HMk.out n3 hn3
            have hpw := HKb.out
            obtain ⟨dd, hdd⟩ : ∃ dd, dd = n3 / 2 ^ k := ⟨_, rfl⟩
            have hdd9 : dd < 10 := by rw [hdd]; exact Nat.div_lt_of_lt_mul (by omega)
            have q3' : (n3 : Int) / 2 ^ k = (dd : Int) := by rw [hdd]; simp
            obtain ⟨mm, hmm⟩ : ∃ mm, mm = n3 % 2 ^ k := ⟨_, rfl⟩
            have hmmlt : mm < 2 ^ k := by rw [hmm]; exact Nat.mod_lt _ hpw.2
            rw [← hmm] at hmk hnx
            rw [← hmm, ← hdd] at hGX
            obtain ⟨N1, hN1⟩ : ∃ N1, N1 = mm * 10 := ⟨_, rfl⟩
            rw [← hN1] at hnx hGX
            have q5 : IntKind.u64.wrap ((mm : Int) * 10) = (N1 : Int) := by rw [u64w (by omega) (by omega)]; omega
            have q10 : IntKind.u64.wrap ((dd : Int) + 48) % 256 = ((dig dd).toNat : Int) := by rw [u64w (by omega) (by omega), dig_toNat]; omega
            have hn1 : (n3 : Int) > 0 := by omega
            have hn2 : decide ((n3 : Int) > 0) = true := decide_eq_true hn1
            have hx48 : dig dd = 48 ↔ dd = 0 := by
              constructor
              · intro e
                have := dig_toNat dd
                rw [e] at this
                have e2 : (48 : UInt8).toNat = 48 := rfl
                omega
              · intro e
                apply UInt8.toNat_inj.1
                rw [dig_toNat, e]; rfl
            generalize hdg : dig dd = x at *
            have q11 : (0 : Int) ≤ (q3 : Int) := by omega
            have hN1b : N1 < 10 * 2 ^ k := by omega
            by_cases hq8 : q3 < 800
            · have q12 : (q3 : Int) < 800 := by omega
              obtain ⟨ov, cw⟩ : ∃ ov, wr.cell? ⟨b, q3, none⟩ = some ov := ⟨_, hDm.c q3 hq8⟩
              have fw := hDm.fz q3
              have hXl : X.length = q3 := by omega
              have HNx : Hid (RS3 w b nd dq tr k G f (.int .i64 ((q3 : Int) + 1)) (.int .u64 (N1 : Int)) (wr.setCell ⟨b, q3, none⟩ (.int .u8 (x.toNat : Int)))) := by
                refine ⟨q3 + 1, N1, A3.set q3 x, X ++ [x], tr3, rfl, rfl, by rw [List.length_append, hXl]; simp; omega, ?_, ?_, hDm.setD q3 hq8 x, hF3.setCell (.inl rfl) _, hN1b, hnx, by rw [← hGX]; simp⟩
                · rw [List.take_succ_eq_append_getElem (by rw [List.length_set, hDm.len]; exact hq8), List.take_set, List.getElem_set_self, List.set_eq_of_length_le (by rw [List.length_take]; omega), hAX, List.take_of_length_le (by rw [hXl]; omega), List.take_of_length_le (by rw [List.length_append, hXl]; simp; omega)]
                · rw [htr, List.drop_eq_nil_of_le (by omega), List.drop_eq_nil_of_le (by rw [List.length_append, hXl]; simp; omega)]
              clear hq hAX htr hDm hF3 hn3 hdv hGX hN1 hdg hmm hmmlt hdd hdd9 hpw hn0 hnx hx48 hXl hq8 HSt3 hg2 hg3 hgd hN1b
              go_wp2_with fail
              go_roundg f
              case measure => omega
              case rel => exact HNx.out
            · have q12 : decide ((q3 : Int) < 800) = false := decide_eq_false (by omega)
              have hXl : 800 ≤ X.length := by omega
              have hqe : q3 = 800 := by omega
              have HNx : Hid (∀ W, Dm W b A3 nd dq (tr3 || x != 48) → Fr (· = b) w W → RS3 w b nd dq tr k G f (.int .i64 (q3 : Int)) (.int .u64 (N1 : Int)) W) := by
                intro W d1 f1
                refine ⟨q3, N1, A3, X ++ [x], _, rfl, rfl, by rw [List.length_append]; simp; omega, ?_, ?_, d1, f1, hN1b, hnx, by rw [← hGX]; simp⟩
                · rw [hAX, List.take_append_of_le_length hXl]
                · rw [htr, List.drop_append_of_le_length hXl, List.any_append, ← Bool.or_assoc]; simp
              by_cases hd0 : dd = 0
              · have q14 : decide ((dd : Int) > 0) = false := decide_eq_false (by omega)
                have HT : Hid (Dm wr b A3 nd dq (tr3 || x != 48) ∧ Fr (· = b) w wr) := by
                  refine ⟨?_, hF3⟩
                  rw [hx48.2 hd0]; simpa using hDm
                clear hq hAX htr hDm hF3 hn3 hdv hGX hN1 hdg hmm hmmlt hdd hdd9 hpw hn0 hnx hx48 hXl hq8 HSt3 hg2 hg3 hgd hN1b hqe
                go_wp2_with fail
                go_roundg f
                case measure => omega
                case rel => exact HNx.out _ HT.out.1 HT.out.2
              · have q13 : (dd : Int) > 0 := by omega
                have q14 : decide ((dd : Int) > 0) = true := decide_eq_true q13
                have c3 := hDm.c3
                have f3 := hDm.fz 803
                have HT : Hid (x ≠ 48) := fun e => hd0 (hx48.1 e)
                have HDm := hid hDm
                have HF3 := hid hF3
                clear hq hAX htr hDm hF3 hn3 hdv hGX hN1 hdg hmm hmmlt hdd hdd9 hpw hn0 hnx hx48 hXl hq8 HSt3 hg2 hg3 hgd hN1b hqe
                go_wp2_with fail
                go_roundg f
                case measure => omega
                case rel =>
                  refine HNx.out _ ?_ (HF3.out.setCell (.inl rfl) _)
                  have e : (tr3 || x != 48) = true := by simp [HT.out]
                  rw [e]; exact HDm.out.setT true

end Go.Proofs.YtionmohglmbklaaGreatDoor.Tr
