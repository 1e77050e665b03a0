/- The contract of decimal.set over a float's text. Written by gen_dse.py. -/
import Derived.Test.YtionmohglmbklaaGreatDoorDcf
import Derived.Test.YtionmohglmbklaaGreatDoorRfx
namespace Go.Proofs.YtionmohglmbklaaGreatDoor.Tr
open Go.RowKit

def dsD (s : DC) (c : UInt8) : DC := if c.toNat = 48 ∧ s.L = [] then ⟨s.L, s.dp - 1, s.tr⟩ else if s.L.length < 800 then ⟨s.L ++ [c], s.dp, s.tr⟩ else ⟨s.L, s.dp, s.tr || c != 48⟩
def dsStep (s : DC) (c : UInt8) : DC := if c.toNat = 46 then ⟨s.L, (s.L.length : Int), s.tr⟩ else dsD s c
/-- The digits that are read up to a place. -/
def dsAt (t : List UInt8) (k : Nat) : DC := (t.take k).foldl dsStep ⟨[], 0, false⟩
theorem dsAt_zero (t : List UInt8) : dsAt t 0 = ⟨[], 0, false⟩ := by simp [dsAt]
theorem dsAt_succ (t : List UInt8) (k : Nat) (h : k < t.length) : dsAt t (k + 1) = dsStep (dsAt t k) t[k] := by
  unfold dsAt
  rw [List.take_succ_eq_append_getElem h, List.foldl_append]; rfl
structure DSI (k : Nat) (s : DC) : Prop where
  dg : isD s.L
  hd : s.L ≠ [] → ∃ c r, s.L = c :: r ∧ 49 ≤ c.toNat
  le : s.L.length ≤ 800
  lk : s.L.length ≤ k
  lo : -(k : Int) ≤ s.dp
  hi : s.dp ≤ (k : Int)
theorem DSI.step {k p : Nat} {s : DC} (h : DSI k s) (c : UInt8) (hc : (k = p ∧ c.toNat = 46) ∨ (k ≠ p ∧ isDig c = true)) : DSI (k + 1) (dsStep s c) := by
  obtain ⟨h1, h2, h3, h4, h5, h6⟩ := h
  unfold dsStep
  rcases hc with ⟨_, hc⟩ | ⟨_, hc⟩
  · rw [if_pos hc]
    exact ⟨h1, h2, h3, Nat.le_succ_of_le h4, by simp only; omega, by simp only; omega⟩
  · rw [dig_iff] at hc
    rw [if_neg (by omega)]
    unfold dsD
    split
    · exact ⟨h1, h2, h3, Nat.le_succ_of_le h4, by simp only; omega, by simp only; omega⟩
    · rename_i hz
      split
      · refine ⟨?_, ?_, by simp; omega, by simp; omega, by simp only; omega, by simp only; omega⟩
        · intro x hx
          simp only [List.mem_append, List.mem_singleton] at hx
          rcases hx with hx | rfl
          · exact h1 x hx
          · exact hc
        · intro _
          cases hL : s.L with
          | nil =>
            refine ⟨c, [], by simp, ?_⟩
            have : ¬ c.toNat = 48 := fun e => hz ⟨e, hL⟩
            omega
          | cons a r =>
            obtain ⟨c', r', e, hc'⟩ := h2 (by rw [hL]; simp)
            rw [hL] at e
            injection e with e1 e2
            subst e1
            exact ⟨a, r ++ [c], by simp, hc'⟩
      · exact ⟨h1, h2, h3, Nat.le_succ_of_le h4, by simp only; omega, by simp only; omega⟩
theorem DSI.at {t : List UInt8} {p q : Nat} (h : FTx t p q) : ∀ k, k ≤ q → DSI k (dsAt t k)
  | 0, _ => by rw [dsAt_zero]; exact ⟨fun _ h => by simp at h, fun h => absurd rfl h, by simp, by simp, by simp, by simp⟩
  | k + 1, hk => by
    have hl : k < t.length := by have := h.ql; omega
    rw [dsAt_succ t k hl]
    refine (DSI.at h k (by omega)).step (p := p) _ ?_
    by_cases e : k = p
    · subst e; exact .inl ⟨rfl, h.pt hl⟩
    · exact .inr ⟨e, h.dg k hl (by omega) e⟩
/-- Both readings skip the same noughts. -/
theorem ds_rf {t : List UInt8} {p q : Nat} (h : FTx t p q) : ∀ k, k ≤ q → ((rfAt t k).nd = 0 ↔ (dsAt t k).L = []) ∧ ((rfAt t k).nd = 0 → (rfAt t k).m = 0)
  | 0, _ => by rw [rfAt_zero, dsAt_zero]; simp [rf0]
  | k + 1, hk => by
    have hl : k < t.length := by have := h.ql; omega
    have ih := ds_rf h k (by omega)
    rw [rfAt_succ t k hl, dsAt_succ t k hl]
    unfold rfStep dsStep
    by_cases h46 : t[k].toNat = 46
    · rw [if_pos h46, if_pos h46]; exact ih
    · rw [if_neg h46, if_neg h46]
      by_cases hz : t[k].toNat = 48 ∧ (rfAt t k).nd = 0
      · unfold rfD dsD
        rw [if_pos hz, if_pos ⟨hz.1, ih.1.1 hz.2⟩]; exact ih
      · have e1 : rfD (rfAt t k) t[k] = if (rfAt t k).nm < 19 then rfM (rfAt t k) t[k] else rfT (rfAt t k) t[k] := by unfold rfD; rw [if_neg hz]
        have e2 : dsD (dsAt t k) t[k] = if (dsAt t k).L.length < 800 then (⟨(dsAt t k).L ++ [t[k]], (dsAt t k).dp, (dsAt t k).tr⟩ : DC) else ⟨(dsAt t k).L, (dsAt t k).dp, (dsAt t k).tr || t[k] != 48⟩ := by
          unfold dsD; rw [if_neg (fun e => hz ⟨e.1, ih.1.2 e.2⟩)]
        rw [e1, e2]
        have hne : (if (dsAt t k).L.length < 800 then (⟨(dsAt t k).L ++ [t[k]], (dsAt t k).dp, (dsAt t k).tr⟩ : DC) else ⟨(dsAt t k).L, (dsAt t k).dp, (dsAt t k).tr || t[k] != 48⟩).L ≠ [] := by
          split
          · simp
          · rename_i hlen
            intro e
            simp only at e
            rw [e] at hlen
            simp at hlen
        split
        · exact ⟨⟨fun e => by simp [rfM] at e, fun e => absurd e hne⟩, fun e => by simp [rfM] at e⟩
        · exact ⟨⟨fun e => by simp [rfT] at e, fun e => absurd e hne⟩, fun e => by simp [rfT] at e⟩
theorem ds_ok {t : List UInt8} {p q : Nat} (h : FTx t p q) (hm : (rfAt t q).m ≠ 0) : DOk (dsAt t q).L := by
  have hi := DSI.at h q (Nat.le_refl _)
  have hn := ds_rf h q (Nat.le_refl _)
  have hne : (dsAt t q).L ≠ [] := fun e => hm (hn.2 (hn.1.2 e))
  exact ⟨hi.dg, hi.hd hne, hi.le⟩

theorem Dm.setF {w : World} {b : Nat} {A : List UInt8} {nd : Nat} {dp : Int} {tr : Bool} (h : Dm w b A nd dp tr) : Dm (w.setCell ⟨b, 802, none⟩ (.bool false)) b A nd dp tr := ⟨h.set 2 _, h.len⟩
theorem Dc.setP {w : World} {b : Nat} {L : List UInt8} {dp : Int} {tr : Bool} (h : Dc w b ⟨L, dp, tr⟩) (dp' : Int) : Dc (w.setCell ⟨b, 801, none⟩ (.int .i64 dp')) b ⟨L, dp', tr⟩ := by
  obtain ⟨A, hD, hA⟩ := h; exact ⟨A, hD.setP dp', hA⟩
theorem Dc.setT {w : World} {b : Nat} {L : List UInt8} {dp : Int} {tr : Bool} (h : Dc w b ⟨L, dp, tr⟩) (tr' : Bool) : Dc (w.setCell ⟨b, 803, none⟩ (.bool tr')) b ⟨L, dp, tr'⟩ := by
  obtain ⟨A, hD, hA⟩ := h; exact ⟨A, hD.setT tr', hA⟩
theorem Dc.fz {w : World} {b : Nat} {s : DC} (h : Dc w b s) (j : Nat) : w.frozen? ⟨b, j, none⟩ = false := by
  obtain ⟨A, hD, _⟩ := h; exact hD.fz j
theorem Dc.old {w : World} {b : Nat} {s : DC} (h : Dc w b s) (j : Nat) (hj : j < 800) : ∃ v, w.cell? ⟨b, j, none⟩ = some v := by
  obtain ⟨A, hD, _⟩ := h; exact ⟨_, hD.c j hj⟩
theorem Dc.app1 {w : World} {b : Nat} {L : List UInt8} {dp : Int} {tr : Bool} (h : Dc w b ⟨L, dp, tr⟩) (hl : L.length < 800) (x : UInt8) : ∃ A, Dm (w.setCell ⟨b, L.length, none⟩ (.int .u8 (x.toNat : Int))) b A L.length dp tr ∧ A.take (L.length + 1) = L ++ [x] := by
  obtain ⟨A, hD, hA⟩ := h
  simp only at hD hA
  refine ⟨A.set L.length x, hD.setD L.length hl x, ?_⟩
  rw [List.take_succ_eq_append_getElem (by rw [List.length_set, hD.len]; exact hl), List.take_set, List.getElem_set_self, List.set_eq_of_length_le (by rw [List.length_take]; omega), hA]

def DsSt (w : World) (b : Nat) (t : List UInt8) (p q : Nat) (iv dotv digv : Value) (wr : World) : Prop := ∃ k : Nat, k ≤ q ∧ iv = .int .i64 (k : Int) ∧ dotv = .bool (decide (p < k)) ∧ digv = .bool (decide (0 < k)) ∧ Dc wr b (dsAt t k) ∧ Fr (· = b) w wr
def DsEnd (w : World) (b : Nat) (t : List UInt8) (q : Nat) (iv dotv digv : Value) (wr : World) : Prop := iv = .int .i64 (q : Int) ∧ dotv = .bool true ∧ digv = .bool true ∧ Dc wr b (dsAt t q) ∧ Fr (· = b) w wr
/-- How a float's text ends behind its digits. -/
def FEnd (t : List UInt8) (q : Nat) (ex : Int) : Prop := (q = t.length ∧ ex = 0) ∨ ∃ r sg, EXx t q r sg ∧ ex = (exAt t r t.length : Int) * sg

set_option maxRecDepth 100000 in
set_option maxHeartbeats 8000000 in
theorem set_any {w : World} {b : Nat} {t : List UInt8} {p q : Nat} {ex : Int} (h : Dc w b ⟨[], 0, false⟩) (ht : FTx t p q) (he : FEnd t q ex) :
    Calls Tryz.prog 147 #[pd b, .string ⟨t.toArray⟩] w fun e w' => e = .returned (.bool true) ∧ Fr (· = b) w w' ∧ Dc w' b ⟨(dsAt t q).L, (dsAt t q).dp + ex, (dsAt t q).tr⟩ := by
  have HT := hid ht
  have HEx := hid he
  have htl := ht.len
  have h0 : 0 < t.length := by have := ht.pq; have := ht.ql; omega
  have h01 : (0 : Int) < (t.length : Int) := by omega
  have hge : decide ((0 : Int) ≥ (t.length : Int)) = false := decide_eq_false (by omega)
  have hnil : decide (t = []) = false := decide_eq_false (fun e => by subst e; simp at h0)
  have hd0 := ht.dg 0 h0 (by have := ht.pq; omega) (by have := ht.pos; omega)
  rw [dig_iff] at hd0
  have e43 : ((((ByteArray.mk t.toArray)[0]'(by simpa [ByteArray.size] using h0)).toNat : Int) == 43) = false := by rw [str_at t 0 h0]; simp; omega
  have e45 : ((((ByteArray.mk t.toArray)[0]'(by simpa [ByteArray.size] using h0)).toNat : Int) == 45) = false := by rw [str_at t 0 h0]; simp; omega
  have c2 := h.c2
  have z2 := h.fz 802
  have hW1 : Dc (w.setCell ⟨b, 802, none⟩ (.bool false)) b ⟨[], 0, false⟩ := by
    obtain ⟨A, hD, hA⟩ := h; exact ⟨A, hD.setF, hA⟩
  have c3 := hW1.c3
  have z3 := hW1.fz 803
  have hW2 := hW1.setT false
  have hF2 : Fr (· = b) w ((w.setCell ⟨b, 802, none⟩ (.bool false)).setCell ⟨b, 803, none⟩ (.bool false)) := ((Fr.refl (· = b) w).setCell (p := ⟨b, 802, none⟩) (.inl rfl) _).setCell (p := ⟨b, 803, none⟩) (.inl rfl) _
  have HSt : Hid (DsSt w b t p q (.int .i64 0) (.bool false) (.bool false) ((w.setCell ⟨b, 802, none⟩ (.bool false)).setCell ⟨b, 803, none⟩ (.bool false))) :=
    ⟨0, Nat.zero_le _, rfl, by simp, by simp, by rw [dsAt_zero]; exact hW2, hF2⟩
  obtain ⟨S, hS⟩ : ∃ S, S = (⟨(dsAt t q).L, (dsAt t q).dp + ex, (dsAt t q).tr⟩ : DC) := ⟨_, rfl⟩
  rw [← hS]
  have HS := hid hS
  clear h ht he hd0 hW1 hW2 hF2 hS
  go_enter Tryz.func147, Tryz.ntmps147
  go_upto_block 1 with fail
  generalize (w.setCell ⟨b, 802, none⟩ (.bool false)).setCell ⟨b, 803, none⟩ (.bool false) = W2 at *
  clear e43 e45 hge hnil c2 z2 c3 z3
  go_cut [5, 6, 7] (fun iv dotv digv wx => DsEnd w b t q iv dotv digv wx)
  case rest =>
    obtain ⟨rfl, rfl, rfl, hD, hF⟩ := hcut
    have hI := DSI.at HT.out q (Nat.le_refl _)
    have hlk := hI.lk
    have hlo := hI.lo
    have hhi := hI.hi
    have hql := HT.out.ql
    have hq0 : (0 : Int) ≤ (q : Int) := Int.natCast_nonneg _
    have HFr := hid hF
    generalize dsAt t q = s at *
    obtain ⟨L, dp, tr⟩ := s
    simp only at *
    clear hI HSt
    rcases HEx.out with ⟨rfl, rfl⟩ | ⟨r, sg, hx, hex⟩
    · have HE : Hid (Dc wc b S) := by
        unfold Hid
        rw [HS.out, Int.add_zero]; exact hD
      have q1 : ((t.length : Int) != (t.length : Int)) = false := by simp
      have q2 : decide ((t.length : Int) < (t.length : Int)) = false := decide_eq_false (by omega)
      clear hD hF HEx
      go_wp2_with fail
      go_ret
      exact ⟨rfl, HFr.out, HE.out⟩
    · have hqll : q < t.length := hx.ql
      have hk1 : (q : Int) < (t.length : Int) := by omega
      have HXx := hid hx
      have elow : (bits BinOp.or .u8 (((ByteArray.mk t.toArray)[q]'(by simpa [ByteArray.size] using hqll)).toNat : Int) 32 == 101) = true := by rw [str_at t q hqll]; exact low_e (HXx.out.e hqll)
      have hq2 : q + 1 < t.length := by rcases HXx.out.rq with ⟨e, _⟩ | ⟨e, _⟩ | ⟨e, _⟩ <;> have := HXx.out.rl <;> omega
      have hq1' : decide ((q : Int) + 1 ≥ (t.length : Int)) = false := decide_eq_false (by omega)
      have hq3 : (q : Int) + 1 < (t.length : Int) := by omega
      have HDG := hid HXx.out.dg
      have HRL := hid HXx.out.rl
      have HEX := hid (fun i hi hl => exAt_le HXx.out.dg i hi hl)
      have c1 := hD.c1
      have z1 := hD.fz 801
      have HD := hid hD
      have Hex := hid hex
      clear hx hex hD hF HEx
      rcases HXx.out.rq with ⟨rfl, rfl, hs⟩ | ⟨rfl, rfl, hs⟩ | ⟨rfl, rfl, hs⟩
      · have f43 : ((((ByteArray.mk t.toArray)[q + 1]'(by simpa [ByteArray.size] using hq2)).toNat : Int) == 43) = false := by rw [str_at t (q + 1) hq2]; have := hs hq2; rw [dig_iff] at this; simp; omega
        have f45 : ((((ByteArray.mk t.toArray)[q + 1]'(by simpa [ByteArray.size] using hq2)).toNat : Int) == 45) = false := by rw [str_at t (q + 1) hq2]; have := hs hq2; rw [dig_iff] at this; simp; omega
        have g48 : (48 : Int) ≤ (((ByteArray.mk t.toArray)[q + 1]'(by simpa [ByteArray.size] using hq2)).toNat : Int) := by rw [str_at t (q + 1) hq2]; have := hs hq2; rw [dig_iff] at this; omega
        have g57 : (((ByteArray.mk t.toArray)[q + 1]'(by simpa [ByteArray.size] using hq2)).toNat : Int) ≤ 57 := by rw [str_at t (q + 1) hq2]; have := hs hq2; rw [dig_iff] at this; omega
        go_wp2_with (first | (go_at_call 168; refine (lower_any _ _).mono ?_; rintro e w' ⟨rfl, rfl⟩) | fail)
        clear elow hq1' f43 f45
        go_loopw [5, 9] (fun iv ev wr => ∃ i : Nat, q + 1 ≤ i ∧ i ≤ t.length ∧ iv = .int .i64 (i : Int) ∧ ev = .int .i64 (exAt t (q + 1) i : Int) ∧ wc = wr) (fun iv _ _ => t.length + 1 - (intOf iv).toNat)
        case atStart => exact ⟨q + 1, Nat.le_refl _, Nat.le_of_lt HRL.out, rfl, by rw [exAt_self]; rfl, rfl⟩
        case round =>
          obtain ⟨i, hri, hil, rfl, rfl, rfl⟩ := hrel
          have hex := HEX.out i hri hil
          have hi0 : (0 : Int) ≤ (i : Int) := Int.natCast_nonneg _
          by_cases hlt : i < t.length
          · have hi1 : (i : Int) < (t.length : Int) := by omega
            have HSt := hid (str_at t i hlt)
            have HSu := hid (exAt_succ t (q + 1) i hri hlt)
            have hc := HDG.out i hlt hri
            rw [dig_iff] at hc
            generalize exAt t (q + 1) i = exx at *
            have j95 : ((((ByteArray.mk t.toArray)[i]'(by simpa [ByteArray.size] using hlt)).toNat : Int) == 95) = false := by rw [HSt.out]; simp; omega
            have j48 : (48 : Int) ≤ (((ByteArray.mk t.toArray)[i]'(by simpa [ByteArray.size] using hlt)).toNat : Int) := by rw [HSt.out]; omega
            have j57 : (((ByteArray.mk t.toArray)[i]'(by simpa [ByteArray.size] using hlt)).toNat : Int) ≤ 57 := by rw [HSt.out]; omega
            by_cases hx4 : exx < 10000
            · have hxd : decide ((exx : Int) < 10000) = true := decide_eq_true (by omega)
              have hx4' : (exx : Int) < 10000 := by omega
              go_wp2_with fail
              refine ⟨⟨i + 1, by omega, by omega, rfl, ?_, by first | rfl | trivial⟩, by simp [intOf]; omega⟩
              rw [HSu.out, HSt.out]; unfold exS; rw [if_pos hx4]; congr 1; omega
            · have hxd : decide ((exx : Int) < 10000) = false := decide_eq_false (by omega)
              go_wp2_with fail
              refine ⟨⟨i + 1, by omega, by omega, rfl, ?_, by first | rfl | trivial⟩, by simp [intOf]; omega⟩
              rw [HSu.out]; unfold exS; rw [if_neg hx4]
          · obtain rfl : i = t.length := by omega
            have HE : Hid (Dc (World.setCell wc ⟨b, 801, none⟩ (.int .i64 (dp + (exAt t (q + 1) t.length : Int)))) b S ∧ Fr (· = b) w (World.setCell wc ⟨b, 801, none⟩ (.int .i64 (dp + (exAt t (q + 1) t.length : Int))))) := by
              refine ⟨?_, HFr.out.setCell (.inl rfl) _⟩
              rw [HS.out, Hex.out]
              have := HD.out.setP (dp + (exAt t (q + 1) t.length : Int))
              rw [show (exAt t (q + 1) t.length : Int) * 1 = (exAt t (q + 1) t.length : Int) by omega]
              exact this
            generalize exAt t (q + 1) t.length = exx at *
            have hex0 : (0 : Int) ≤ (exx : Int) := Int.natCast_nonneg _
            have hexm : (exx : Int) ≤ 100000 := by omega
            have q1 : ((t.length : Int) != (t.length : Int)) = false := by simp
            have q2 : decide ((t.length : Int) < (t.length : Int)) = false := decide_eq_false (by omega)
            have hdp0 : -5000 ≤ dp := by omega
            have hdp1 : dp ≤ 5000 := by omega
            clear HD HFr HXx Hex hlt hri hil hlk hlo hhi hs
            go_wp2_with fail
            go_ret
            exact ⟨rfl, HE.out.2, HE.out.1⟩
      · have hq4 : q + 1 + 1 < t.length := HRL.out
        have hr1' : decide ((q : Int) + 1 + 1 ≥ (t.length : Int)) = false := decide_eq_false (by omega)
        have hr3 : (q : Int) + 1 + 1 < (t.length : Int) := by omega
        have hdg2 := HDG.out (q + 1 + 1) hq4 (Nat.le_refl _)
        rw [dig_iff] at hdg2
        have f43 : ((((ByteArray.mk t.toArray)[q + 1]'(by simpa [ByteArray.size] using hq2)).toNat : Int) == 43) = true := by rw [str_at t (q + 1) hq2, hs hq2]; rfl
        have f45 : ((((ByteArray.mk t.toArray)[q + 1]'(by simpa [ByteArray.size] using hq2)).toNat : Int) == 45) = false := by rw [str_at t (q + 1) hq2, hs hq2]; rfl
        have g48 : (48 : Int) ≤ (((ByteArray.mk t.toArray)[q + 1 + 1]'(by simpa [ByteArray.size] using hq4)).toNat : Int) := by rw [str_at t (q + 1 + 1) hq4]; omega
        have g57 : (((ByteArray.mk t.toArray)[q + 1 + 1]'(by simpa [ByteArray.size] using hq4)).toNat : Int) ≤ 57 := by rw [str_at t (q + 1 + 1) hq4]; omega
        go_wp2_with (first | (go_at_call 168; refine (lower_any _ _).mono ?_; rintro e w' ⟨rfl, rfl⟩) | fail)
        clear elow hq1' f43 f45 hr1' hdg2
        go_loopw [5, 9] (fun iv ev wr => ∃ i : Nat, q + 1 + 1 ≤ i ∧ i ≤ t.length ∧ iv = .int .i64 (i : Int) ∧ ev = .int .i64 (exAt t (q + 1 + 1) i : Int) ∧ wc = wr) (fun iv _ _ => t.length + 1 - (intOf iv).toNat)
        case atStart => exact ⟨q + 1 + 1, Nat.le_refl _, Nat.le_of_lt HRL.out, rfl, by rw [exAt_self]; rfl, rfl⟩
        case round =>
          obtain ⟨i, hri, hil, rfl, rfl, rfl⟩ := hrel
          have hex := HEX.out i hri hil
          have hi0 : (0 : Int) ≤ (i : Int) := Int.natCast_nonneg _
          by_cases hlt : i < t.length
          · have hi1 : (i : Int) < (t.length : Int) := by omega
            have HSt := hid (str_at t i hlt)
            have HSu := hid (exAt_succ t (q + 1 + 1) i hri hlt)
            have hc := HDG.out i hlt hri
            rw [dig_iff] at hc
            generalize exAt t (q + 1 + 1) i = exx at *
            have j95 : ((((ByteArray.mk t.toArray)[i]'(by simpa [ByteArray.size] using hlt)).toNat : Int) == 95) = false := by rw [HSt.out]; simp; omega
            have j48 : (48 : Int) ≤ (((ByteArray.mk t.toArray)[i]'(by simpa [ByteArray.size] using hlt)).toNat : Int) := by rw [HSt.out]; omega
            have j57 : (((ByteArray.mk t.toArray)[i]'(by simpa [ByteArray.size] using hlt)).toNat : Int) ≤ 57 := by rw [HSt.out]; omega
            by_cases hx4 : exx < 10000
            · have hxd : decide ((exx : Int) < 10000) = true := decide_eq_true (by omega)
              have hx4' : (exx : Int) < 10000 := by omega
              go_wp2_with fail
              refine ⟨⟨i + 1, by omega, by omega, rfl, ?_, by first | rfl | trivial⟩, by simp [intOf]; omega⟩
              rw [HSu.out, HSt.out]; unfold exS; rw [if_pos hx4]; congr 1; omega
            · have hxd : decide ((exx : Int) < 10000) = false := decide_eq_false (by omega)
              go_wp2_with fail
              refine ⟨⟨i + 1, by omega, by omega, rfl, ?_, by first | rfl | trivial⟩, by simp [intOf]; omega⟩
              rw [HSu.out]; unfold exS; rw [if_neg hx4]
          · obtain rfl : i = t.length := by omega
            have HE : Hid (Dc (World.setCell wc ⟨b, 801, none⟩ (.int .i64 (dp + (exAt t (q + 1 + 1) t.length : Int)))) b S ∧ Fr (· = b) w (World.setCell wc ⟨b, 801, none⟩ (.int .i64 (dp + (exAt t (q + 1 + 1) t.length : Int))))) := by
              refine ⟨?_, HFr.out.setCell (.inl rfl) _⟩
              rw [HS.out, Hex.out]
              have := HD.out.setP (dp + (exAt t (q + 1 + 1) t.length : Int))
              rw [show (exAt t (q + 1 + 1) t.length : Int) * 1 = (exAt t (q + 1 + 1) t.length : Int) by omega]
              exact this
            generalize exAt t (q + 1 + 1) t.length = exx at *
            have hex0 : (0 : Int) ≤ (exx : Int) := Int.natCast_nonneg _
            have hexm : (exx : Int) ≤ 100000 := by omega
            have q1 : ((t.length : Int) != (t.length : Int)) = false := by simp
            have q2 : decide ((t.length : Int) < (t.length : Int)) = false := decide_eq_false (by omega)
            have hdp0 : -5000 ≤ dp := by omega
            have hdp1 : dp ≤ 5000 := by omega
            clear HD HFr HXx Hex hlt hri hil hlk hlo hhi hs
            go_wp2_with fail
            go_ret
            exact ⟨rfl, HE.out.2, HE.out.1⟩
      · have hq4 : q + 1 + 1 < t.length := HRL.out
        have hr1' : decide ((q : Int) + 1 + 1 ≥ (t.length : Int)) = false := decide_eq_false (by omega)
        have hr3 : (q : Int) + 1 + 1 < (t.length : Int) := by omega
        have hdg2 := HDG.out (q + 1 + 1) hq4 (Nat.le_refl _)
        rw [dig_iff] at hdg2
        have f43 : ((((ByteArray.mk t.toArray)[q + 1]'(by simpa [ByteArray.size] using hq2)).toNat : Int) == 43) = false := by rw [str_at t (q + 1) hq2, hs hq2]; rfl
        have f45 : ((((ByteArray.mk t.toArray)[q + 1]'(by simpa [ByteArray.size] using hq2)).toNat : Int) == 45) = true := by rw [str_at t (q + 1) hq2, hs hq2]; rfl
        have g48 : (48 : Int) ≤ (((ByteArray.mk t.toArray)[q + 1 + 1]'(by simpa [ByteArray.size] using hq4)).toNat : Int) := by rw [str_at t (q + 1 + 1) hq4]; omega
        have g57 : (((ByteArray.mk t.toArray)[q + 1 + 1]'(by simpa [ByteArray.size] using hq4)).toNat : Int) ≤ 57 := by rw [str_at t (q + 1 + 1) hq4]; omega
        go_wp2_with (first | (go_at_call 168; refine (lower_any _ _).mono ?_; rintro e w' ⟨rfl, rfl⟩) | fail)
        clear elow hq1' f43 f45 hr1' hdg2
        go_loopw [5, 9] (fun iv ev wr => ∃ i : Nat, q + 1 + 1 ≤ i ∧ i ≤ t.length ∧ iv = .int .i64 (i : Int) ∧ ev = .int .i64 (exAt t (q + 1 + 1) i : Int) ∧ wc = wr) (fun iv _ _ => t.length + 1 - (intOf iv).toNat)
        case atStart => exact ⟨q + 1 + 1, Nat.le_refl _, Nat.le_of_lt HRL.out, rfl, by rw [exAt_self]; rfl, rfl⟩
        case round =>
          obtain ⟨i, hri, hil, rfl, rfl, rfl⟩ := hrel
          have hex := HEX.out i hri hil
          have hi0 : (0 : Int) ≤ (i : Int) := Int.natCast_nonneg _
          by_cases hlt : i < t.length
          · have hi1 : (i : Int) < (t.length : Int) := by omega
            have HSt := hid (str_at t i hlt)
            have HSu := hid (exAt_succ t (q + 1 + 1) i hri hlt)
            have hc := HDG.out i hlt hri
            rw [dig_iff] at hc
            generalize exAt t (q + 1 + 1) i = exx at *
            have j95 : ((((ByteArray.mk t.toArray)[i]'(by simpa [ByteArray.size] using hlt)).toNat : Int) == 95) = false := by rw [HSt.out]; simp; omega
            have j48 : (48 : Int) ≤ (((ByteArray.mk t.toArray)[i]'(by simpa [ByteArray.size] using hlt)).toNat : Int) := by rw [HSt.out]; omega
            have j57 : (((ByteArray.mk t.toArray)[i]'(by simpa [ByteArray.size] using hlt)).toNat : Int) ≤ 57 := by rw [HSt.out]; omega
            by_cases hx4 : exx < 10000
            · have hxd : decide ((exx : Int) < 10000) = true := decide_eq_true (by omega)
              have hx4' : (exx : Int) < 10000 := by omega
              go_wp2_with fail
              refine ⟨⟨i + 1, by omega, by omega, rfl, ?_, by first | rfl | trivial⟩, by simp [intOf]; omega⟩
              rw [HSu.out, HSt.out]; unfold exS; rw [if_pos hx4]; congr 1; omega
            · have hxd : decide ((exx : Int) < 10000) = false := decide_eq_false (by omega)
              go_wp2_with fail
              refine ⟨⟨i + 1, by omega, by omega, rfl, ?_, by first | rfl | trivial⟩, by simp [intOf]; omega⟩
              rw [HSu.out]; unfold exS; rw [if_neg hx4]
          · obtain rfl : i = t.length := by omega
            have HE : Hid (Dc (World.setCell wc ⟨b, 801, none⟩ (.int .i64 (dp + -(exAt t (q + 1 + 1) t.length : Int)))) b S ∧ Fr (· = b) w (World.setCell wc ⟨b, 801, none⟩ (.int .i64 (dp + -(exAt t (q + 1 + 1) t.length : Int))))) := by
              refine ⟨?_, HFr.out.setCell (.inl rfl) _⟩
              rw [HS.out, Hex.out]
              have := HD.out.setP (dp + -(exAt t (q + 1 + 1) t.length : Int))
              rw [show (exAt t (q + 1 + 1) t.length : Int) * (-1) = -(exAt t (q + 1 + 1) t.length : Int) by omega]
              exact this
            generalize exAt t (q + 1 + 1) t.length = exx at *
            have hex0 : (0 : Int) ≤ (exx : Int) := Int.natCast_nonneg _
            have hexm : (exx : Int) ≤ 100000 := by omega
            have q1 : ((t.length : Int) != (t.length : Int)) = false := by simp
            have q2 : decide ((t.length : Int) < (t.length : Int)) = false := decide_eq_false (by omega)
            have hdp0 : -5000 ≤ dp := by omega
            have hdp1 : dp ≤ 5000 := by omega
            clear HD HFr HXx Hex hlt hri hil hlk hlo hhi hs
            go_wp2_with fail
            go_ret
            exact ⟨rfl, HE.out.2, HE.out.1⟩
  go_wp2_with fail
  go_loopw [5, 6, 7] (fun iv dotv digv wr => DsSt w b t p q iv dotv digv wr) (fun iv _ _ _ => t.length + 1 - (intOf iv).toNat)
  case atStart => exact HSt.out
  case round =>
    obtain ⟨k, hk, rfl, rfl, rfl, hD, hF⟩ := hrel
    have hI := DSI.at HT.out k hk
    by_cases hlt : k < q
    · have hkl : k < t.length := by have := HT.out.ql; omega
      have HSu := hid (dsAt_succ t k hkl)
      have hk1 : (k : Int) < (t.length : Int) := by omega
      have hk0 : (0 : Int) ≤ (k : Int) := Int.natCast_nonneg _
      have HB := hid (str_at t k hkl)
      have hcc : (k = p ∧ t[k].toNat = 46) ∨ (k ≠ p ∧ isDig t[k] = true) := by
        by_cases e : k = p
        · subst e; exact .inl ⟨rfl, HT.out.pt hkl⟩
        · exact .inr ⟨e, HT.out.dg k hkl hlt e⟩
      obtain ⟨n1, n2, n3, n4, n5, n6⟩ := hI
      generalize hsx : dsAt t k = s at *
      obtain ⟨L, dp, tr⟩ := s
      simp only at n1 n2 n3 n4 n5 n6
      have HNx : Hid (∀ dotv W s', dotv = .bool (decide (p < k + 1)) → s' = dsAt t (k + 1) → Dc W b s' → Fr (· = b) w W → DsSt w b t p q (.int .i64 ((k : Int) + 1)) dotv (.bool true) W) := by
        intro dotv W s' a1 a2 a3 a4
        exact ⟨k + 1, hlt, rfl, a1, by simp, a2 ▸ a3, a4⟩
      rw [HSu.out] at HNx
      have HD := hid hD
      have HF := hid hF
      clear HSu hsx hD hF HSt
      generalize t[k] = c at *
      rcases hcc with ⟨rfl, hc⟩ | ⟨hne, hc⟩
      · have ed : decide (k < k) = false := decide_eq_false (by omega)
        have ed2 : decide (0 < k) = true := decide_eq_true HT.out.pos
        have ed3 : decide (k < k + 1) = true := decide_eq_true (by omega)
        rw [ed, ed2]
        rw [ed3] at HNx
        have e95 : ((((ByteArray.mk t.toArray)[k]'(by simpa [ByteArray.size] using hkl)).toNat : Int) == 95) = false := by rw [HB.out, hc]; decide
        have e46 : ((((ByteArray.mk t.toArray)[k]'(by simpa [ByteArray.size] using hkl)).toNat : Int) == 46) = true := by rw [HB.out, hc]; decide
        have hst : dsStep ⟨L, dp, tr⟩ c = ⟨L, (L.length : Int), tr⟩ := by
          unfold dsStep; rw [if_pos hc]
        rw [hst] at HNx
        have c0 := HD.out.c0
        have c1 := HD.out.c1
        have z1 := HD.out.fz 801
        simp only at c0 c1
        have HE : Hid (Dc (wr.setCell ⟨b, 801, none⟩ (.int .i64 (L.length : Int))) b ⟨L, (L.length : Int), tr⟩ ∧ Fr (· = b) w (wr.setCell ⟨b, 801, none⟩ (.int .i64 (L.length : Int)))) := ⟨HD.out.setP _, HF.out.setCell (.inl rfl) _⟩
        generalize (L.length : Int) = nd at *
        clear ed ed2 ed3 hst n1 n2 n3 n4 n5 n6
        go_wp2_with fail
        exact ⟨HNx.out _ _ _ rfl rfl HE.out.1 HE.out.2, by simp [intOf]; omega⟩
      · rw [dig_iff] at hc
        have hdt : decide (p < k + 1) = decide (p < k) := by
          rw [Bool.eq_iff_iff]; simp; omega
        rw [hdt] at HNx
        generalize decide (p < k) = dt at *
        generalize decide (0 < k) = dg at *
        have e95 : ((((ByteArray.mk t.toArray)[k]'(by simpa [ByteArray.size] using hkl)).toNat : Int) == 95) = false := by rw [HB.out]; simp; omega
        have e46 : ((((ByteArray.mk t.toArray)[k]'(by simpa [ByteArray.size] using hkl)).toNat : Int) == 46) = false := by rw [HB.out]; simp; omega
        have d48 : (48 : Int) ≤ (((ByteArray.mk t.toArray)[k]'(by simpa [ByteArray.size] using hkl)).toNat : Int) := by rw [HB.out]; omega
        have d57 : (((ByteArray.mk t.toArray)[k]'(by simpa [ByteArray.size] using hkl)).toNat : Int) ≤ 57 := by rw [HB.out]; omega
        have c0 := HD.out.c0
        have c1 := HD.out.c1
        have c3 := HD.out.c3
        simp only at c0 c1 c3
        by_cases hz : c.toNat = 48 ∧ L = []
        · obtain ⟨hz1, rfl⟩ := hz
          have e48 : ((((ByteArray.mk t.toArray)[k]'(by simpa [ByteArray.size] using hkl)).toNat : Int) == 48) = true := by rw [HB.out, hz1]; decide
          have hst : dsStep ⟨[], dp, tr⟩ c = ⟨[], dp - 1, tr⟩ := by
            unfold dsStep
            rw [if_neg (by omega)]
            unfold dsD
            rw [if_pos ⟨hz1, rfl⟩]
          rw [hst] at HNx
          have z1 := HD.out.fz 801
          have HE : Hid (Dc (wr.setCell ⟨b, 801, none⟩ (.int .i64 (dp - 1))) b ⟨[], dp - 1, tr⟩ ∧ Fr (· = b) w (wr.setCell ⟨b, 801, none⟩ (.int .i64 (dp - 1)))) := ⟨HD.out.setP _, HF.out.setCell (.inl rfl) _⟩
          have hd0 : -5000 ≤ dp := by omega
          have hd1 : dp ≤ 5000 := by omega
          clear hst n1 n2 n3 n4 n5 n6
          go_wp2_with fail
          exact ⟨HNx.out _ _ _ rfl rfl HE.out.1 HE.out.2, by simp [intOf]; omega⟩
        have hz2 : ((((ByteArray.mk t.toArray)[k]'(by simpa [ByteArray.size] using hkl)).toNat : Int) == 48) = false ∨ (((((ByteArray.mk t.toArray)[k]'(by simpa [ByteArray.size] using hkl)).toNat : Int) == 48) = true ∧ ((L.length : Int) == 0) = false) := by
          by_cases h48 : c.toNat = 48
          · refine .inr ⟨by rw [HB.out, h48]; decide, ?_⟩
            rw [beq_eq_false_iff_ne]
            intro e
            exact hz ⟨h48, List.length_eq_zero_iff.1 (by omega)⟩
          · exact .inl (by rw [HB.out]; simp; omega)
        by_cases hl : L.length < 800
        · have hst : dsStep ⟨L, dp, tr⟩ c = ⟨L ++ [c], dp, tr⟩ := by
            unfold dsStep
            rw [if_neg (by omega)]
            unfold dsD
            rw [if_neg hz, if_pos hl]
          rw [hst] at HNx
          obtain ⟨A, hA1, hA2⟩ := HD.out.app1 hl c
          obtain ⟨ov, cw⟩ := HD.out.old L.length hl
          have zw := HD.out.fz L.length
          have cn := hA1.c0
          have zn := hA1.fz 800
          have HE : Hid (Dc ((wr.setCell ⟨b, L.length, none⟩ (.int .u8 (c.toNat : Int))).setCell ⟨b, 800, none⟩ (.int .i64 ((L.length : Int) + 1))).drew b ⟨L ++ [c], dp, tr⟩ ∧ Fr (· = b) w ((wr.setCell ⟨b, L.length, none⟩ (.int .u8 (c.toNat : Int))).setCell ⟨b, 800, none⟩ (.int .i64 ((L.length : Int) + 1))).drew) := by
            refine ⟨⟨A, ?_, ?_⟩, ((HF.out.setCell (.inl rfl) _).setCell (.inl rfl) _).drew⟩
            · have := hA1.setN (L.length + 1)
              simp only [List.length_append, List.length_singleton]
              exact ⟨this.blk, this.len⟩
            · simpa using hA2
          have hl8 : decide ((L.length : Int) < 800) = true := decide_eq_true (by omega)
          have hl9 : (L.length : Int) < 800 := by omega
          have hl0 : (0 : Int) ≤ (L.length : Int) := Int.natCast_nonneg _
          rw [← HB.out] at HE HNx
          rw [← HB.out] at cn zn
          clear hst n1 n2 n3 n4 n5 n6 hz hA1 hA2
          generalize L.length = nd at *
          rcases hz2 with q48 | ⟨q48, q49⟩
          all_goals
            go_wp2_with fail
            go_region
            go_wp2_with fail
            exact ⟨HNx.out _ _ _ rfl rfl HE.out.1 HE.out.2, by simp [intOf]; omega⟩
        · have hst : dsStep ⟨L, dp, tr⟩ c = ⟨L, dp, tr || c != 48⟩ := by
            unfold dsStep
            rw [if_neg (by omega)]
            unfold dsD
            rw [if_neg hz, if_neg hl]
          rw [hst] at HNx
          have hl8 : decide ((L.length : Int) < 800) = false := decide_eq_false (by omega)
          have z3 := HD.out.fz 803
          have HE : Hid (Dc (wr.setCell ⟨b, 803, none⟩ (.bool true)) b ⟨L, dp, true⟩ ∧ Fr (· = b) w (wr.setCell ⟨b, 803, none⟩ (.bool true))) := ⟨HD.out.setT _, HF.out.setCell (.inl rfl) _⟩
          rcases hz2 with q48 | ⟨q48, q49⟩
          · have q50 : ((((ByteArray.mk t.toArray)[k]'(by simpa [ByteArray.size] using hkl)).toNat : Int) != 48) = true := by rw [bne, q48]; rfl
            have HX : Hid ((tr || c != 48) = true) := by
              unfold Hid
              have : c ≠ 48 := fun e => by rw [HB.out, e] at q48; simp at q48
              simp [this]
            rw [HX.out] at HNx
            generalize L.length = nd at *
            clear hst n1 n2 n3 n4 n5 n6 hz hl
            go_wp2_with fail
            exact ⟨HNx.out _ _ _ rfl rfl HE.out.1 HE.out.2, by simp [intOf]; omega⟩
          · have q50 : ((((ByteArray.mk t.toArray)[k]'(by simpa [ByteArray.size] using hkl)).toNat : Int) != 48) = false := by rw [bne, q48]; rfl
            have HX : Hid ((tr || c != 48) = tr) := by
              unfold Hid
              rw [HB.out] at q48
              have : c = 48 := UInt8.toNat_inj.1 (by have := beq_iff_eq.1 q48; have e2 : (48 : UInt8).toNat = 48 := rfl; omega)
              simp [this]
            rw [HX.out] at HNx
            have HDF := hid (And.intro HD.out HF.out)
            generalize L.length = nd at c0 q49 hl8
            clear hst n1 n2 n3 n4 n5 n6 hz hl
            go_wp2_with fail
            exact ⟨HNx.out _ _ _ rfl rfl HDF.out.1 HDF.out.2, by simp [intOf]; omega⟩
    · obtain rfl : k = q := by omega
      have hpq := HT.out.pq
      have ed : decide (p < k) = true := decide_eq_true (by omega)
      have ed2 : decide (0 < k) = true := decide_eq_true (by omega)
      rw [ed, ed2]
      have HX : Hid (DsEnd w b t k (.int .i64 (k : Int)) (.bool true) (.bool true) wr) := ⟨rfl, rfl, rfl, hD, hF⟩
      have hk0 : (0 : Int) ≤ (k : Int) := Int.natCast_nonneg _
      clear hD hF hI ed ed2 HSt HS
      rcases HEx.out with ⟨rfl, _⟩ | ⟨r, sg, hx, _⟩
      · have q2 : decide ((t.length : Int) < (t.length : Int)) = false := decide_eq_false (by omega)
        go_wp2_with fail
        go_meet
        exact HX.out
      · have hql : k < t.length := hx.ql
        have hk1 : (k : Int) < (t.length : Int) := by omega
        have e95 : ((((ByteArray.mk t.toArray)[k]'(by simpa [ByteArray.size] using hql)).toNat : Int) == 95) = false := by rw [str_at t k hql]; have := hx.e hql; simp; omega
        have e46 : ((((ByteArray.mk t.toArray)[k]'(by simpa [ByteArray.size] using hql)).toNat : Int) == 46) = false := by rw [str_at t k hql]; have := hx.e hql; simp; omega
        have d57 : decide ((((ByteArray.mk t.toArray)[k]'(by simpa [ByteArray.size] using hql)).toNat : Int) ≤ 57) = false := by rw [str_at t k hql]; have := hx.e hql; exact decide_eq_false (by omega)
        have d48 : decide ((48 : Int) ≤ (((ByteArray.mk t.toArray)[k]'(by simpa [ByteArray.size] using hql)).toNat : Int)) = true := by rw [str_at t k hql]; have := hx.e hql; exact decide_eq_true (by omega)
        clear hx
        go_wp2_with fail
        go_meet
        exact HX.out

end Go.Proofs.YtionmohglmbklaaGreatDoor.Tr
