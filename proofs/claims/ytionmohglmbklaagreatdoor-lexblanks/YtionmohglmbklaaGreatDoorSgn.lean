/- The contracts of fault, twoByteSign, signLength, sign. -/
import Derived.Test.YtionmohglmbklaaGreatDoorSkp
import Derived.Lib.Bytealg
import Derived.Laws.Externs
namespace Go.Proofs.YtionmohglmbklaaGreatDoor.Tr
open Go.RowKit

abbrev fltV (b : Nat) : Value := .iface 75 (.pointer (some ⟨b, 0, none⟩))
/-- A fault lies in block b. -/
def Flt (w : World) (b : Nat) (at_ : Nat) (e : Int) : Prop := Blk w b 33 [.int .i64 (at_ : Int), .int .i64 e]

set_option maxRecDepth 100000 in
set_option maxHeartbeats 1000000 in
theorem fault_any (w : World) (k : Nat) (e : Int) : Calls Tryz.prog 37 #[.int .i64 (k : Int), .int .i64 e] w fun r w' => r = .returned (fltV w.heap.size) ∧ Flt w' w.heap.size k e ∧ Fr (fun _ => False) w w' := by
  have HB := hid (Blk.new w 33 [.int .i64 (k : Int), .int .i64 e])
  have HF := hid ((Fr.refl (fun _ => False) w).alloc (.cells #[.int .i64 (k : Int), .int .i64 e] 33))
  go_enter Tryz.func37, Tryz.ntmps37
  go_wp2
  go_ret
  exact ⟨rfl, HB.out, HF.out⟩

theorem two_cases (s : List UInt8) : s = [43, 43] ∨ s = [47, 47] ∨ s = [61, 61] ∨ s = [33, 61] ∨ s = [60, 61] ∨ s = [62, 61] ∨ s = [38, 38] ∨ s = [124, 124] ∨ twos.any (· == s) = false := by
  cases h : twos.any (· == s) with
  | false => simp
  | true =>
    simp only [twos, List.any_cons, List.any_nil, Bool.or_false, Bool.or_eq_true, beq_iff_eq] at h
    rcases h with h | h | h | h | h | h | h | h <;> simp [← h]
theorem two_none {s : List UInt8} (h : twos.any (· == s) = false) : (s == [43, 43]) = false ∧ (s == [47, 47]) = false ∧ (s == [61, 61]) = false ∧ (s == [33, 61]) = false ∧ (s == [60, 61]) = false ∧ (s == [62, 61]) = false ∧ (s == [38, 38]) = false ∧ (s == [124, 124]) = false := by
  simp only [twos, List.any_cons, List.any_nil, Bool.or_false, Bool.or_eq_false_iff] at h
  obtain ⟨h1, h2, h3, h4, h5, h6, h7, h8⟩ := h
  refine ⟨?_, ?_, ?_, ?_, ?_, ?_, ?_, ?_⟩ <;> rw [BEq.comm] <;> assumption

set_option maxRecDepth 100000 in
set_option maxHeartbeats 2000000 in
theorem two_any (w : World) (s : List UInt8) : Calls Tryz.prog 103 #[.string ⟨s.toArray⟩] w fun e w' => e = .returned (.bool (twos.any (· == s))) ∧ w' = w := by
  rcases two_cases s with rfl | rfl | rfl | rfl | rfl | rfl | rfl | rfl | h
  case inr.inr.inr.inr.inr.inr.inr.inr =>
    obtain ⟨h1, h2, h3, h4, h5, h6, h7, h8⟩ := two_none h
    rw [h]
    go_enter Tryz.func103, Tryz.ntmps103
    go_wp2
    go_ret
    exact ⟨rfl, rfl⟩
  all_goals
    have HT : ∀ s, twos.any (· == s) = true → Calls Tryz.prog 103 #[.string ⟨s.toArray⟩] w (fun e w' => e = .returned (.bool true) ∧ w' = w) → Calls Tryz.prog 103 #[.string ⟨s.toArray⟩] w (fun e w' => e = .returned (.bool (twos.any (· == s))) ∧ w' = w) := fun s e h => by rw [e]; exact h
    refine HT _ (by decide) ?_
    clear HT
    go_enter Tryz.func103, Tryz.ntmps103
    go_wp2
    go_ret
    exact ⟨rfl, rfl⟩

set_option maxRecDepth 100000 in
theorem ib_any (w : World) (s : List UInt8) (c : Int) : Calls Tryz.prog 126 #[.string ⟨s.toArray⟩, .int .u8 c] w fun e w' => e = .returned (.int .i64 (Lib.indexByte s c.toNat.toUInt8)) ∧ w' = w := by
  go_enter Tryz.func126, Tryz.ntmps126
  go_wp2
  rw [run_callFunc_extern Tryz.func155 (by kernel_rfl) (by kernel_rfl) (by kernel_rfl) (e := Extern.BytealgIndexByte.indexByte) (by kernel_rfl), Lib.run_indexByteString]
  go_wp2
  go_ret
  exact ⟨rfl, rfl⟩
set_option maxRecDepth 100000 in
theorem sib_any (w : World) (s : List UInt8) (c : Int) : Calls Tryz.prog 104 #[.string ⟨s.toArray⟩, .int .u8 c] w fun e w' => e = .returned (.int .i64 (Lib.indexByte s c.toNat.toUInt8)) ∧ w' = w := by
  have HC := hid (ib_any w s c)
  go_enter Tryz.func104, Tryz.ntmps104
  go_wp2_with fail
  refine HC.out.mono ?_
  rintro e w' ⟨rfl, rfl⟩
  go_wp2
  go_ret
  exact ⟨rfl, rfl⟩

theorem ib_ge (l : List UInt8) (c : UInt8) : decide (Lib.indexByte l c ≥ 0) = l.any (· == c) := by
  induction l with
  | nil => rfl
  | cons b r ih =>
    unfold Lib.indexByte
    rw [List.any_cons]
    cases hb : (b == c) with
    | true => simp
    | false =>
      rw [Bool.false_or, ← ih]
      have := Lib.indexByte_ge r c
      by_cases h1 : Lib.indexByte r c = -1
      · simp [h1]
      · have : Lib.indexByte r c ≥ 0 := by omega
        simp [h1]; omega

theorem sub_two {t : List UInt8} {k : Nat} : sub (t.drop k) 0 2 = sub t k (k + 2) := by
  unfold sub
  rw [List.drop_zero, List.drop_take]
  congr 1; omega

set_option maxRecDepth 100000 in
set_option maxHeartbeats 1000000 in
theorem signLen_any {w : World} {b : Nat} {t : List UInt8} {k : Nat} (h : Rd w b t k) (hk : k < t.length) : Calls Tryz.prog 82 #[pv b] w fun e w' => e = .returned (.int .i64 (signLen t k : Int)) ∧ ∃ m, w' = w.drewN m := by
  have c0 := h.c0
  have c1 := h.c1
  have hl := h.len
  obtain ⟨L, c, hX, hS, hll, hll2, hc⟩ : ∃ (L : List UInt8) (c : UInt8), (ByteArray.mk t.toArray).extract k t.length = ⟨L.toArray⟩ ∧ signLen t k = (if twos.any (· == sub L 0 2) then 2 else if signs.any (· == c) then 1 else 0) ∧ 0 < L.length ∧ L.length ≤ 4096 ∧ ∀ h : 0 < L.length, L[0] = c := by
    refine ⟨t.drop k, t[k], by rw [ext_sub, sub_all], ?_, by rw [List.length_drop]; omega, by rw [List.length_drop]; omega, fun h => by simp⟩
    unfold signLen
    rw [sub_two, at0_lt hk]
  have HX := hid hX
  have HCc := hid (hc hll)
  have hk1 : (k : Int) ≤ (t.length : Int) := by omega
  have hk0 : (0 : Int) ≤ (k : Int) := Int.natCast_nonneg _
  have hll1 : (0 : Int) < (L.length : Int) := by omega
  clear h hX hc
  rw [hS]
  clear hS
  have HC := hid (fun w => sib_any w signs (c.toNat : Int))
  have HG := hid (ib_ge signs c)
  have hcast : ((c.toNat : Int)).toNat.toUInt8 = c := by simp
  rw [hcast] at HC
  clear hcast
  have HA : Hid ((ByteArray.mk L.toArray)[0]'(by simpa [ByteArray.size] using hll) = c) := (str_at L 0 hll).trans HCc.out
  have HT := hid (fun w => two_any w (sub L 0 2))
  have HSub := hid (ext_sub L 0 2)
  have HN : Hid (¬ 2 ≤ L.length → twos.any (· == sub L 0 2) = false) := by
    intro h
    obtain ⟨x, rfl⟩ : ∃ x, L = [x] := List.length_eq_one_iff.1 (by omega)
    simp [twos, sub]
  generalize hsg : signs.any (· == c) = sg at *
  generalize htw : twos.any (· == sub L 0 2) = tw at *
  clear hsg htw
  generalize Lib.indexByte signs c = ix at *
  by_cases h2 : 2 ≤ L.length
  · have h2' : decide ((L.length : Int) ≥ 2) = true := by simp; omega
    have h2'' : (2 : Int) ≤ (L.length : Int) := by omega
    cases tw with
    | true =>
      go_enter Tryz.func82, Tryz.ntmps82
      go_wp2_with fail
      go_quiet (fail)
      rw [HX.out]
      go_wp2_with fail
      rw [HSub.out]
      refine (HT.out _).mono ?_
      rintro e w2 ⟨rfl, rfl⟩
      clear HT
      go_wp2
      go_ret
      exact ⟨rfl, _, rfl⟩
    | false =>
      go_enter Tryz.func82, Tryz.ntmps82
      go_wp2_with fail
      go_quiet (fail)
      rw [HX.out]
      go_wp2_with fail
      rw [HSub.out]
      refine (HT.out _).mono ?_
      rintro e w2 ⟨rfl, rfl⟩
      clear HT
      go_wp2_with fail
      rw [HA.out]
      refine (HC.out _).mono ?_
      rintro e w2 ⟨rfl, rfl⟩
      clear HC
      cases sg with
      | true =>
        have hix : decide (ix ≥ 0) = true := HG.out
        go_wp2
        go_ret
        exact ⟨rfl, _, rfl⟩
      | false =>
        have hix : decide (ix ≥ 0) = false := HG.out
        go_wp2
        go_ret
        exact ⟨rfl, _, rfl⟩
  · have h2' : decide ((L.length : Int) ≥ 2) = false := by simp; omega
    have htw : tw = false := HN.out h2
    subst htw
    clear HN h2
    go_enter Tryz.func82, Tryz.ntmps82
    go_wp2_with fail
    go_quiet (fail)
    rw [HX.out]
    go_wp2_with fail
    rw [HA.out]
    refine (HC.out _).mono ?_
    rintro e w2 ⟨rfl, rfl⟩
    clear HC
    cases sg with
    | true =>
      have hix : decide (ix ≥ 0) = true := HG.out
      go_wp2
      go_ret
      exact ⟨rfl, _, rfl⟩
    | false =>
      have hix : decide (ix ≥ 0) = false := HG.out
      go_wp2
      go_ret
      exact ⟨rfl, _, rfl⟩

def tokS (t : List UInt8) (k : Nat) : Tok := ⟨5, sub t k (k + signLen t k), 0, 0, k⟩
theorem sign_le {t : List UInt8} {k : Nat} (hk : k < t.length) : k + signLen t k ≤ t.length := by
  unfold signLen
  split
  · rename_i h
    by_cases h2 : k + 2 ≤ t.length
    · exact h2
    · exfalso
      have e : (sub t k (k + 2)).length = 1 := by simp [sub]; omega
      obtain ⟨x, hx⟩ := List.length_eq_one_iff.1 e
      rw [hx] at h
      simp [twos] at h
  · split <;> omega

/-- What token gives where the text is wrong. -/
def BadPost (w : World) (b : Nat) (at_ : Nat) (e : Int) (r : Ending) (w' : World) : Prop := ∃ x fb, r = .returned (.tuple #[tokV x, fltV fb]) ∧ w.heap.size ≤ fb ∧ Flt w' fb at_ e ∧ Fr (· = b) w w'
/-- What token gives where a token stands. -/
def GoodPost (w : World) (b : Nat) (t : List UInt8) (x : Tok) (k : Nat) (r : Ending) (w' : World) : Prop := r = .returned (.tuple #[tokV x, .nilIface]) ∧ Fr (· = b) w w' ∧ Rd w' b t k

set_option maxRecDepth 100000 in
set_option maxHeartbeats 1000000 in
theorem sign_good {w : World} {b : Nat} {t : List UInt8} {k : Nat} (h : Rd w b t k) (hk : k < t.length) (hs : signLen t k ≠ 0) : Calls Tryz.prog 57 #[pv b] w (GoodPost w b t (tokS t k) (k + signLen t k)) := by
  have HA := hid (new_tok w)
  have HF := hid ((Fr.refl (· = b) w).alloc (.cells #[.int .i64 0, .string ⟨#[]⟩, .int .i64 0, .float .f64 0, .int .i64 0] 37))
  have hR : Rd (w.alloc (.cells #[.int .i64 0, .string ⟨#[]⟩, .int .i64 0, .float .f64 0, .int .i64 0] 37)) b t k := ⟨h.blk.alloc _, h.le, h.len⟩
  have HR := hid hR
  have c1 := hR.c1
  have HB := hid h.blk.lt
  have HK := hid hk
  have HSl := hid (sign_le hk)
  have HX : Hid (tokS t k = ⟨5, sub t k (k + signLen t k), 0, 0, k⟩) := rfl
  clear h hR hk
  generalize hn : w.heap.size = n at *
  have hs1 : ((signLen t k : Int) == 0) = false := by simp; omega
  go_enter Tryz.func57, Tryz.ntmps57
  go_wp2_with fail
  refine (signLen_any HR.out HK.out).mono ?_
  rintro e w2 ⟨rfl, m, rfl⟩
  go_wp2_with fail
  refine (pass_any (HR.out.drewN m) _ (signLen t k) rfl HSl.out).mono ?_
  rintro e w3 ⟨rfl, f3, r3⟩
  have HB3 := hid (f3.blk (HA.out : Blk ((w.alloc _).drewN m) n _ _) (by have := HB.out; omega))
  have HF3 := hid ((HF.out.drewN m).same f3)
  have HR3 := hid r3
  clear f3 r3 HR HA HF c1
  go_wp2_with (refine wpList_storeT (tokS t k) (by rfl) _ _ (by rfl) HB3.out (by rfl) (by rfl) ?_; intro w4 b4 f4)
  have HE : Hid (Fr (· = b) w w4 ∧ Rd w4 b t (k + signLen t k)) := ⟨HF3.out.trans f4 (fun i hi => .inr (by omega)), HR3.out.fr f4 (by have := HB.out; omega)⟩
  have HB4 := hid b4
  clear f4 b4
  go_wp2_with fail
  exact bodyPost_ret (resultsT rfl rfl rfl HB4.out) rfl ⟨rfl, HE.out⟩

end Go.Proofs.YtionmohglmbklaaGreatDoor.Tr
