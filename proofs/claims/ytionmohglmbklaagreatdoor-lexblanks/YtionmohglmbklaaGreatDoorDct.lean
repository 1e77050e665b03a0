/- A decimal in memory; the contracts of trim, prefixIsLessThan. -/
import Derived.Test.YtionmohglmbklaaGreatDoorBase
import Derived.Test.YtionmohglmbklaaGreatDoorDcq
import Derived.BigQuiet
import Derived.Deep.QuietTactic
import Derived.Laws.IdiomStrings
import Derived.Laws.Strings2
import Derived.Laws.DeepStrings4
namespace Go.Proofs.YtionmohglmbklaaGreatDoor.Tr
open Go.RowKit

/-- A decimal lies in block b. -/
structure Dm (w : World) (b : Nat) (A : List UInt8) (nd : Nat) (dp : Int) (tr : Bool) : Prop where
  blk : Blk w b 198 (bs A ++ [.int .i64 (nd : Int), .int .i64 dp, .bool false, .bool tr])
  len : A.length = 800
section
variable {w : World} {b : Nat} {A : List UInt8} {nd : Nat} {dp : Int} {tr : Bool}
theorem Dm.c (h : Dm w b A nd dp tr) (i : Nat) (hi : i < 800) : w.cell? ⟨b, i, none⟩ = some (bv (A[i]'(by rw [h.len]; exact hi))) := by
  rw [h.blk.cell, List.getElem?_append_left (by rw [bs_length, h.len]; exact hi)]
  unfold bs
  rw [List.getElem?_map, List.getElem?_eq_getElem (by rw [h.len]; exact hi)]
  rfl
theorem Dm.cr (h : Dm w b A nd dp tr) (j : Nat) : w.cell? ⟨b, 800 + j, none⟩ = [Value.int .i64 (nd : Int), .int .i64 dp, .bool false, .bool tr][j]? := by
  rw [h.blk.cell, List.getElem?_append_right (by rw [bs_length, h.len]; omega), bs_length, h.len, Nat.add_sub_cancel_left]
theorem Dm.c0 (h : Dm w b A nd dp tr) : w.cell? ⟨b, 800, none⟩ = some (.int .i64 (nd : Int)) := h.cr 0
theorem Dm.c1 (h : Dm w b A nd dp tr) : w.cell? ⟨b, 801, none⟩ = some (.int .i64 dp) := h.cr 1
theorem Dm.c2 (h : Dm w b A nd dp tr) : w.cell? ⟨b, 802, none⟩ = some (.bool false) := h.cr 2
theorem Dm.c3 (h : Dm w b A nd dp tr) : w.cell? ⟨b, 803, none⟩ = some (.bool tr) := h.cr 3
theorem Dm.fz (h : Dm w b A nd dp tr) (j : Nat) : w.frozen? ⟨b, j, none⟩ = false := h.blk.frozen j
theorem Dm.drewN (h : Dm w b A nd dp tr) (n : Nat) : Dm (w.drewN n) b A nd dp tr := ⟨h.blk, h.len⟩
theorem Dm.setD (h : Dm w b A nd dp tr) (i : Nat) (hi : i < 800) (x : UInt8) : Dm (w.setCell ⟨b, i, none⟩ (bv x)) b (A.set i x) nd dp tr := by
  refine ⟨?_, by rw [List.length_set, h.len]⟩
  have := h.blk.setCell i (bv x)
  rw [List.set_append, if_pos (by rw [bs_length, h.len]; exact hi)] at this
  have e : bs (A.set i x) = (bs A).set i (bv x) := by simp [bs, List.map_set]
  rw [e]; exact this
theorem Dm.set (h : Dm w b A nd dp tr) (j : Nat) (v : Value) : Blk (w.setCell ⟨b, 800 + j, none⟩ v) b 198 (bs A ++ [Value.int .i64 (nd : Int), .int .i64 dp, .bool false, .bool tr].set j v) := by
  have := h.blk.setCell (800 + j) v
  rw [List.set_append, if_neg (by rw [bs_length, h.len]; omega), bs_length, h.len] at this
  rw [Nat.add_sub_cancel_left] at this; exact this
theorem Dm.setN (h : Dm w b A nd dp tr) (nd' : Nat) : Dm (w.setCell ⟨b, 800, none⟩ (.int .i64 (nd' : Int))) b A nd' dp tr := ⟨h.set 0 _, h.len⟩
theorem Dm.setP (h : Dm w b A nd dp tr) (dp' : Int) : Dm (w.setCell ⟨b, 801, none⟩ (.int .i64 dp')) b A nd dp' tr := ⟨h.set 1 _, h.len⟩
theorem Dm.setT (h : Dm w b A nd dp tr) (tr' : Bool) : Dm (w.setCell ⟨b, 803, none⟩ (.bool tr')) b A nd dp tr' := ⟨h.set 3 _, h.len⟩
end
abbrev pd (b : Nat) : Value := .pointer (some ⟨b, 0, none⟩)
/-- How many digits the decimal in block b has. -/
def curN (w : World) (b : Nat) : Nat := match w.cell? ⟨b, 800, none⟩ with
  | some (.int _ z) => z.toNat
  | _ => 0
theorem Dm.cur {w : World} {b : Nat} {A : List UInt8} {nd : Nat} {dp : Int} {tr : Bool} (h : Dm w b A nd dp tr) : curN w b = nd := by
  unfold curN; rw [h.c0]; simp

set_option maxRecDepth 100000 in
set_option maxHeartbeats 1000000 in
theorem trim_any {w : World} {b : Nat} {A : List UInt8} {nd : Nat} {dp : Int} {tr : Bool} (h : Dm w b A nd dp tr) (hn : nd ≤ 800) : Calls Tryz.prog 202 #[pd b] w fun e w' => e = .returned (.tuple #[]) ∧ Fr (· = b) w w' ∧ Dm w' b A (trimN A nd) (if trimN A nd = 0 then 0 else dp) tr := by
  have HD := hid h
  clear h
  obtain ⟨T, hT⟩ : ∃ T, T = trimN A nd := ⟨_, rfl⟩
  obtain ⟨P, hP⟩ : ∃ P, P = if trimN A nd = 0 then 0 else dp := ⟨_, rfl⟩
  rw [← hP, ← hT]
  have HTP : Hid (T = trimN A nd ∧ P = if trimN A nd = 0 then 0 else dp) := ⟨hT, hP⟩
  clear hT hP
  go_enter Tryz.func202, Tryz.ntmps202
  go_wp2_with fail
  go_loopw [] (fun wr => ∃ n : Nat, Dm wr b A n dp tr ∧ n ≤ nd ∧ trimN A n = trimN A nd ∧ Fr (· = b) w wr) (fun wr => curN wr b)
  case atStart => exact ⟨nd, HD.out, Nat.le_refl _, rfl, Fr.refl _ _⟩
  case round =>
    obtain ⟨n, hD, hn2, ht, hF⟩ := hrel
    have c0 := hD.c0
    have HC := hid hD.cur
    have HT := hid ht
    by_cases hz : n = 0
    · subst hz
      have c1 := hD.c1
      have f1 := hD.fz 801
      have HE : Hid (∀ m, Fr (· = b) w ((wr.drewN m).setCell ⟨b, 801, none⟩ (.int .i64 0)) ∧ Dm ((wr.drewN m).setCell ⟨b, 801, none⟩ (.int .i64 0)) b A 0 0 tr) := fun m => ⟨(hF.drewN m).setCell (.inl rfl) _, (hD.drewN m).setP 0⟩
      have HTP2 : Hid (T = 0 ∧ P = 0) := by
        have := HTP.out
        rw [← HT.out] at this
        exact ⟨this.1.trans rfl, this.2.trans rfl⟩
      obtain ⟨hT0, hP0⟩ := HTP2.out
      clear hD hF ht HD HTP HTP2 HT HC
      subst hT0 hP0
      go_wp2_with fail
      go_quiet (fail)
      go_wp2
      go_end0
      exact ⟨rfl, HE.out _⟩
    · obtain ⟨k, rfl⟩ : ∃ k, n = k + 1 := ⟨n - 1, by omega⟩
      have hk : k < 800 := by omega
      have c1 := hD.c1
      have ck := hD.c k hk
      have f1 := hD.fz 800
      have hA : A[k]? = some (A[k]'(by rw [hD.len]; exact hk)) := List.getElem?_eq_getElem _
      have e1 : ((k + 1 : Nat) : Int) = (k : Int) + 1 := by omega
      rw [e1] at c0
      have h1 : decide ((k : Int) + 1 > 0) = true := decide_eq_true (by omega)
      have h2 : (k : Int) + 1 - 1 = (k : Int) := by omega
      have h3 : (0 : Int) ≤ (k : Int) := by omega
      have h4 : (k : Int) < 800 := by omega
      generalize hx : A[k]'(by rw [hD.len]; exact hk) = x at *
      clear hx
      unfold bv at ck
      by_cases h48 : x.toNat = 48
      · have e48 : ((x.toNat : Int) == 48) = true := by rw [h48]; rfl
        have hx48 : x = 48 := UInt8.toNat_inj.1 h48
        have hst : trimN A (k + 1) = trimN A k := by
          conv => lhs; unfold trimN
          rw [if_pos (by rw [hA, hx48])]
        have HE : Hid (∀ m, Fr (· = b) w ((wr.drewN m).setCell ⟨b, 800, none⟩ (.int .i64 (k : Int))) ∧ Dm ((wr.drewN m).setCell ⟨b, 800, none⟩ (.int .i64 (k : Int))) b A k dp tr) := fun m => ⟨(hF.drewN m).setCell (.inl rfl) _, (hD.drewN m).setN k⟩
        have HS := hid hst
        clear hD hF ht HD hA hst hx48 h48 e1 HTP
        go_wp2_with fail
        go_quiet (fail)
        go_wp2_with fail
        refine ⟨⟨k, (HE.out _).2, by omega, by rw [← HS.out]; exact HT.out, (HE.out _).1⟩, ?_⟩
        rw [(HE.out _).2.cur, HC.out]
        omega
      · have e48 : ((x.toNat : Int) == 48) = false := by simp; omega
        have hst : trimN A (k + 1) = k + 1 := by
          conv => lhs; unfold trimN
          rw [if_neg (by rw [hA]; intro e; exact h48 (by rw [Option.some.inj e]; rfl))]
        have HTP2 : Hid (T = k + 1 ∧ P = dp) := by
          have := HTP.out
          rw [← HT.out, hst, if_neg (by omega)] at this
          exact this
        have HE : Hid (∀ m, Fr (· = b) w (wr.drewN m) ∧ Dm (wr.drewN m) b A (k + 1) dp tr) := fun m => ⟨hF.drewN m, hD.drewN m⟩
        obtain ⟨hT0, hP0⟩ := HTP2.out
        clear hD hF ht HD hA hst h48 e1 HTP HTP2
        subst hT0 hP0
        have h5 : ((k : Int) + 1 == 0) = false := by simp; omega
        go_wp2_with fail
        go_quiet (fail)
        go_wp2
        go_end0
        exact ⟨rfl, HE.out _⟩

theorem str_at' (l : List UInt8) (k : Nat) (h : k < l.length) : (ByteArray.mk l.toArray)[k]'(by simpa [ByteArray.size] using h) = l[k] := rfl
theorem pless_end {L C : List UInt8} {i : Nat} (h : C.length ≤ i) : pless (L.drop i) (C.drop i) = false := by
  rw [List.drop_eq_nil_of_le h]
  cases L.drop i <;> rfl
theorem pless_short {L C : List UInt8} {i : Nat} (h : i < C.length) (h' : L.length ≤ i) : pless (L.drop i) (C.drop i) = true := by
  rw [List.drop_eq_nil_of_le h', List.drop_eq_getElem_cons h]; rfl
theorem pless_ne {L C : List UInt8} {i : Nat} (h : i < C.length) (h' : i < L.length) (e : L[i] ≠ C[i]) : pless (L.drop i) (C.drop i) = decide (L[i].toNat < C[i].toNat) := by
  rw [List.drop_eq_getElem_cons h', List.drop_eq_getElem_cons h, pless, if_neg e]
theorem pless_eq {L C : List UInt8} {i : Nat} (h : i < C.length) (h' : i < L.length) (e : L[i] = C[i]) : pless (L.drop i) (C.drop i) = pless (L.drop (i + 1)) (C.drop (i + 1)) := by
  rw [List.drop_eq_getElem_cons h', List.drop_eq_getElem_cons h, pless, if_pos e]

set_option maxRecDepth 100000 in
set_option maxHeartbeats 1000000 in
theorem pless_any {w : World} {b : Nat} {A : List UInt8} {nd : Nat} {dp : Int} {tr : Bool} (h : Dm w b A nd dp tr) (hn : nd ≤ 800) (C : List UInt8) (hC : C.length ≤ 100) : Calls Tryz.prog 201 #[.slice (some ⟨b, 0, none⟩) nd 800, .string ⟨C.toArray⟩] w fun e w' => e = .returned (.bool (pless (A.take nd) C)) ∧ ∃ m, w' = w.drewN m := by
  have hL : (A.take nd).length = nd := by rw [List.length_take, h.len]; omega
  have HD := hid h
  have HL := hid hL
  clear h hL
  obtain ⟨R, hR⟩ : ∃ R, R = pless (A.take nd) C := ⟨_, rfl⟩
  rw [← hR]
  have HR := hid hR
  clear hR
  go_enter Tryz.func201, Tryz.ntmps201
  go_wp2_with fail
  go_loopw [5] (fun iv wr => ∃ (i : Nat) (m : Nat), iv = .int .i64 (i : Int) ∧ i ≤ C.length ∧ wr = w.drewN m ∧ pless ((A.take nd).drop i) (C.drop i) = R) (fun iv _ => C.length - (intOf iv).toNat)
  case atStart => exact ⟨0, 0, rfl, Nat.zero_le _, rfl, HR.out.symm⟩
  case round =>
    obtain ⟨i, m, rfl, hi, hw, hp⟩ := hrel
    have hDr : Dm wr b A nd dp tr := by rw [hw]; exact HD.out.drewN m
    have HW := hid hw
    have HP := hid hp
    have HDl := hid hDr.len
    clear hp HR hw HD
    have hal : A.length = 800 := hDr.len
    by_cases hi2 : i < C.length
    · have q1 : (i : Int) < (C.length : Int) := by omega
      have q0 : (0 : Int) ≤ (i : Int) := by omega
      by_cases hi3 : i < nd
      · have q2 : ¬ ((i : Int) ≥ (nd : Int)) := by omega
        have q2' : decide ((i : Int) ≥ (nd : Int)) = false := decide_eq_false q2
        have q3 : (i : Int) < (nd : Int) := by omega
        have ck : wr.cell? ⟨b, i, none⟩ = some (bv (A[i]'(by omega))) := hDr.c i (by omega)
        have hA : (A.take nd)[i]'(by rw [HL.out]; exact hi3) = A[i]'(by omega) := by simp
        have HSt := hid (str_at' C i hi2)
        unfold bv at ck
        clear hDr
        by_cases he : A[i]'(by omega) = C[i]
        · have HN := hid (pless_eq hi2 (by rw [HL.out]; exact hi3) (hA.trans he))
          have e1 : (((A[i]'(by omega)).toNat : Int) != (((ByteArray.mk C.toArray)[i]'(by simpa [ByteArray.size] using hi2)).toNat : Int)) = false := by rw [HSt.out, he]; simp
          generalize A[i]'(by omega) = x at *
          clear he hA hal
          go_wp2_with fail
          go_quiet (fail)
          go_wp2_with fail
          exact ⟨⟨i + 1, _, rfl, hi2, by rw [HW.out]; exact World.drewN_drewN _ _ _, by rw [← HN.out]; exact HP.out⟩, by simp [intOf]; omega⟩
        · have HN := hid (pless_ne hi2 (by rw [HL.out]; exact hi3) (by rw [hA]; exact he))
          have e0 : (A[i]'(by omega)).toNat ≠ C[i].toNat := fun e => he (UInt8.toNat_inj.1 e)
          have e1 : (((A[i]'(by omega)).toNat : Int) != (((ByteArray.mk C.toArray)[i]'(by simpa [ByteArray.size] using hi2)).toNat : Int)) = true := by rw [HSt.out]; simp; omega
          have HR2 : Hid (R = decide ((A[i]'(by omega)).toNat < C[i].toNat)) := by
            unfold Hid; rw [← HP.out, HN.out, hA]
          generalize A[i]'(by omega) = x at *
          clear he hA HN e0 HP hal
          go_wp2_with fail
          go_quiet (fail)
          go_wp2_with fail
          go_quiet (fail)
          go_wp2_with fail
          go_ret
          refine ⟨?_, _, by rw [HW.out, World.drewN_drewN]; exact World.drewN_drewN _ _ _⟩
          rw [HR2.out, HSt.out]
          congr 2
      · have q2 : ((i : Int) ≥ (nd : Int)) := by omega
        have q2' : decide ((i : Int) ≥ (nd : Int)) = true := decide_eq_true q2
        have HR2 : Hid (R = true) := by
          unfold Hid; rw [← HP.out]; exact pless_short hi2 (by rw [HL.out]; omega)
        clear hDr hal
        go_wp2
        go_ret
        exact ⟨by rw [HR2.out]; rfl, m, HW.out⟩
    · have q1 : ¬ (i : Int) < (C.length : Int) := by omega
      have q1' : decide ((i : Int) < (C.length : Int)) = false := decide_eq_false q1
      have HR2 : Hid (R = false) := by
        unfold Hid; rw [← HP.out]; exact pless_end (by omega)
      clear hDr hal
      go_wp2
      go_ret
      exact ⟨by rw [HR2.out]; rfl, m, HW.out⟩

end Go.Proofs.YtionmohglmbklaaGreatDoor.Tr
