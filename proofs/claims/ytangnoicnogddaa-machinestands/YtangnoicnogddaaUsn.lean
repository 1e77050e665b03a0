/- The contracts of SameTexts, SameUnit, SameUnits. -/
import Derived.Test.YtangnoicnogddaaUap
import Derived.BigQuiet
import Derived.Deep.QuietTactic
namespace Go.Proofs.Ytangnoicnogddaa.Tr
open Go.RowKit

set_option maxRecDepth 100000 in
set_option maxHeartbeats 1000000 in
theorem sameList_any (w : World) (ad bd : Option Addr) (A B : List Nm) (ca cb : Nat) (hA : Strs w ad A) (hB : Strs w bd B) (hla : A.length ≤ lim) :
    Calls Try.prog 33 #[.slice ad A.length ca, .slice bd B.length cb] w fun e w' => e = .returned (.bool (decide (A = B))) ∧ Fr (fun _ => False) w w' := by
  have HA := hid hA
  have HB := hid hB
  have hla' : A.length ≤ 140737488351232 := hla
  clear hA hB hla
  by_cases hl : A.length = B.length
  · have hl' : (((A.length : Nat) : Int) != ((B.length : Nat) : Int)) = false := by rw [hl]; simp
    have HLn := hid hl
    clear hl
    go_enter Try.func33, Try.ntmps33
    go_wp2_with fail
    go_loopw [5] (fun iv wr => ∃ i : Nat, i ≤ A.length ∧ iv = .int .i64 (i : Int) ∧ A.take i = B.take i ∧ Fr (fun _ => False) w wr) (fun iv _ => A.length - (intOf iv).toNat)
    case atStart => exact ⟨0, Nat.zero_le _, rfl, rfl, Fr.refl _ _⟩
    case round =>
      obtain ⟨i, hi, rfl, ht, hF⟩ := hrel
      have HF := hid hF
      clear hF
      by_cases hlt : i < A.length
      · have hi1 : (i : Int) < ((A.length : Nat) : Int) := by omega
        have hi2 : (i : Int) < ((B.length : Nat) : Int) := by have := HLn.out; omega
        have hi0 : (0 : Int) ≤ (i : Int) := Int.natCast_nonneg _
        have hltb : i < B.length := by have := HLn.out; omega
        obtain ⟨bb, bo, rfl, c0⟩ := (HA.out.env (Env.of HF.out)).at i hlt
        obtain ⟨bb', bo', rfl, c0'⟩ := (HB.out.env (Env.of HF.out)).at i hltb
        have HT := hid (take_eq_succ ht hlt hltb)
        have HN := hid (ne_of_at hlt hltb (A := A) (B := B))
        clear ht HA HB
        generalize A[i] = x at *
        generalize B[i] = y at *
        by_cases hp : x = y
        · subst hp
          have HT' := hid (HT.out rfl)
          have hs1 : (x != x) = false := by simp
          go_wp2_with fail
          go_quiet (fail)
          have HWn := hid (HF.out.drewN nq)
          go_wp2
          exact ⟨⟨i + 1, by omega, by go_num, HT'.out, HWn.out⟩, by simp [intOf]; omega⟩
        · have HN' : Hid (decide (A = B) = false) := decide_eq_false (HN.out hp)
          have hs1 : (!(x == y)) = true := by simpa using hp
          clear HN HT
          go_wp2_with fail
          go_quiet (fail)
          have HWn := hid (HF.out.drewN nq)
          go_wp2
          go_ret
          exact ⟨by rw [HN'.out]; rfl, HWn.out⟩
      · obtain rfl : i = A.length := by omega
        have hkn : ¬ ((A.length : Nat) : Int) < ((A.length : Nat) : Int) := by omega
        have HE : Hid (decide (A = B) = true) := by
          unfold Hid
          rw [List.take_length, HLn.out, List.take_length] at ht
          exact decide_eq_true ht
        clear ht
        go_wp2
        go_ret
        exact ⟨by rw [HE.out]; rfl, HF.out⟩
  · have hl' : (((A.length : Nat) : Int) != ((B.length : Nat) : Int)) = true := by simpa using fun h => hl (by omega)
    have HE : Hid (decide (A = B) = false) := decide_eq_false (fun h => hl (by rw [h]))
    go_enter Try.func33, Try.ntmps33
    go_wp2
    go_ret
    exact ⟨by rw [HE.out]; rfl, Fr.refl _ _⟩

theorem ut_eq (u v : Ut) : decide (u = v) = ((u.n == v.n) && (u.s == v.s) && decide (u.r = v.r) && decide (u.a = v.a)) := by
  obtain ⟨a, b, c, d⟩ := u
  obtain ⟨a', b', c', d'⟩ := v
  have hb : ∀ p q : Nm, (p == q) = decide (p = q) := fun p q => by by_cases h : p = q <;> simp [h]
  simp only [Ut.mk.injEq, Bool.decide_and, hb, Bool.and_assoc]

set_option maxRecDepth 100000 in
set_option maxHeartbeats 2000000 in
theorem usame_any (w : World) (u v : Ut) (x y : Uv) (hx : UIn w u x) (hy : UIn w v y) : Calls Try.prog 55 #[x.v, y.v] w fun e w' => e = .returned (.bool (decide (u = v))) ∧ Fr (fun _ => False) w w' := by
  have HB := hid (two_blk w x y)
  have HF := hid (two_fr w x y)
  have HC1 := hid (fun (W : World) (e : Env w W) => sameList_any W x.ra y.ra u.r v.r x.rc y.rc (hx.r.env e) (hy.r.env e) (lim16_le hx.ok.r))
  have HC2 := hid (fun (W : World) (e : Env w W) => sameList_any W x.aa y.aa u.a v.a x.ac y.ac (hx.a.env e) (hy.a.env e) (lim16_le hx.ok.a))
  rw [ut_eq]
  obtain ⟨p1, p2, p3, p4, _, _, _⟩ := hx
  obtain ⟨r1, r2, r3, r4, _, _, _⟩ := hy
  rw [← p3, ← r3] at HC1
  rw [← p4, ← r4] at HC2
  rw [← p1, ← p2, ← r1, ← r2]
  generalize decide (u.r = v.r) = P at *
  generalize decide (u.a = v.a) = Q at *
  clear p1 p2 p3 p4 r1 r2 r3 r4
  obtain ⟨n, s, ra, rl, rc, aa, al, ac⟩ := x
  obtain ⟨n', s', ra', rl', rc', aa', al', ac'⟩ := y
  simp only [Uv.v] at *
  obtain ⟨c0, c1, c2, c3⟩ := HB.out.1.fourU
  obtain ⟨d0, d1, d2, d3⟩ := HB.out.2.fourU
  have HR0 := hid (HC1.out _ (Env.of HF.out))
  go_enter Try.func55, Try.ntmps55
  go_wp2_with fail
  refine HR0.out.mono ?_
  rintro e w1 ⟨rfl, f1⟩
  have HF1 := hid (HF.out.trans f1 (fun _ h => h.elim))
  have HB1 := hid (And.intro (f1.blk HB.out.1 (fun h => h)) (f1.blk HB.out.2 (fun h => h)))
  have HR1 := hid (HC2.out _ (Env.of HF1.out))
  clear f1 HR0 HC1 HC2 c0 c1 c2 c3 d0 d1 d2 d3 HB HF
  obtain ⟨c0, c1, c2, c3⟩ := HB1.out.1.fourU
  obtain ⟨d0, d1, d2, d3⟩ := HB1.out.2.fourU
  go_wp2_with fail
  refine HR1.out.mono ?_
  rintro e w2 ⟨rfl, f2⟩
  have HF2 := hid (HF1.out.trans f2 (fun _ h => h.elim))
  have HB2 := hid (And.intro (f2.blk HB1.out.1 (fun h => h)) (f2.blk HB1.out.2 (fun h => h)))
  clear f2 HR1 c0 c1 c2 c3 d0 d1 d2 d3 HB1 HF1
  obtain ⟨c0, c1, c2, c3⟩ := HB2.out.1.fourU
  obtain ⟨d0, d1, d2, d3⟩ := HB2.out.2.fourU
  cases hn : (n == n') with
  | false =>
    go_wp2_with fail
    go_ret
    exact ⟨by rw [hn]; rfl, HF2.out⟩
  | true =>
    cases hs : (s == s') with
    | false =>
      go_wp2_with fail
      go_ret
      exact ⟨by rw [hn, hs]; rfl, HF2.out⟩
    | true =>
      cases P with
      | false =>
        go_wp2_with fail
        go_ret
        exact ⟨by rw [hn, hs]; rfl, HF2.out⟩
      | true =>
        go_wp2_with fail
        go_ret
        exact ⟨by rw [hn, hs]; rfl, HF2.out⟩

set_option maxRecDepth 100000 in
set_option maxHeartbeats 2000000 in
theorem usameAll_any (w0 w : World) (e0 : Env w0 w) (A B : List Ut) (ad bd : Option Addr) (ca cb : Nat) (hA : Us w0 w A ad) (hB : Us w0 w B bd) (hl : A.length ≤ lim) :
    Calls Try.prog 34 #[.slice ad A.length ca, .slice bd B.length cb] w fun e w' => e = .returned (.bool (decide (A = B))) ∧ Fr (fun _ => False) w w' := by
  have HA := hid hA
  have HB := hid hB
  have HE0 := hid e0
  have hla' : A.length ≤ 140737488351232 := hl
  clear hA hB hl e0
  by_cases hl : A.length = B.length
  · have hl' : (((A.length : Nat) : Int) != ((B.length : Nat) : Int)) = false := by rw [hl]; simp
    have HLn := hid hl
    clear hl
    go_enter Try.func34, Try.ntmps34
    go_wp2_with fail
    go_loopw [5, 6] (fun iv _ wr => ∃ i : Nat, i ≤ A.length ∧ iv = .int .i64 (i : Int) ∧ A.take i = B.take i ∧ Fr (fun _ => False) w wr) (fun iv _ _ => A.length - (intOf iv).toNat)
    case atStart => exact ⟨0, Nat.zero_le _, rfl, rfl, Fr.refl _ _⟩
    case round =>
      obtain ⟨i, hi, rfl, ht, hF⟩ := hrel
      have HF := hid hF
      clear hF
      by_cases hlt : i < A.length
      · have hi1 : (i : Int) < ((A.length : Nat) : Int) := by omega
        have hi2 : (i : Int) < ((B.length : Nat) : Int) := by have := HLn.out; omega
        have hi0 : (0 : Int) ≤ (i : Int) := Int.natCast_nonneg _
        have hltb : i < B.length := by have := HLn.out; omega
        obtain ⟨b, o, rfl⟩ := HA.out.some hlt
        obtain ⟨b', o', rfl⟩ := HB.out.some hltb
        obtain ⟨x, x1, x2⟩ := HA.out.get i hlt
        obtain ⟨y, y1, y2⟩ := HB.out.get i hltb
        have HK : Hid (∀ W', Fr (fun _ => False) wr W' → fourB W' b (o + i * 4) x ∧ fourB W' b' (o' + i * 4) y) := fun W' hf => ⟨(x1.env (Env.of (HF.out.trans hf (fun _ h => h.elim)))).all, (y1.env (Env.of (HF.out.trans hf (fun _ h => h.elim)))).all⟩
        have HC := hid (usame_any wr.drew A[i] B[i] x y (x2.env (HE0.out.trans (Env.of HF.out.drew))) (y2.env (HE0.out.trans (Env.of HF.out.drew))))
        have HT := hid (take_eq_succ ht hlt hltb)
        have HN := hid (ne_of_at hlt hltb (A := A) (B := B))
        clear x1 x2 y1 y2 ht
        by_cases hp : A[i] = B[i]
        · have HT' := hid (HT.out hp)
          rw [decide_eq_true hp] at HC
          clear HT HN hp
          go_wp2_with fail
          go_region_held3 (fun W' => fourB W' b (o + i * 4) x ∧ fourB W' b' (o' + i * 4) y)
            (first | exact HK.out _ (Fr.refl _ _).drew | exact HK.out _ F1.out)
            ((go_at_call 55; refine HC.out.mono ?_; rintro e w2 ⟨rfl, f2⟩; have F1 : Hid (Fr (fun _ => False) wr w2) := (Fr.refl _ wr).drew.trans f2 (fun _ h => h.elim)))
          have HF2 := hid (HF.out.trans F1.out (fun _ h => h.elim))
          go_wp2_with fail
          exact ⟨⟨i + 1, by omega, by go_num, HT'.out, HF2.out⟩, by simp [intOf]; omega⟩
        · have HN' : Hid (decide (A = B) = false) := decide_eq_false (HN.out hp)
          rw [decide_eq_false hp] at HC
          clear HT HN hp
          go_wp2_with fail
          go_region_held3 (fun W' => fourB W' b (o + i * 4) x ∧ fourB W' b' (o' + i * 4) y)
            (first | exact HK.out _ (Fr.refl _ _).drew | exact HK.out _ F1.out)
            ((go_at_call 55; refine HC.out.mono ?_; rintro e w2 ⟨rfl, f2⟩; have F1 : Hid (Fr (fun _ => False) wr w2) := (Fr.refl _ wr).drew.trans f2 (fun _ h => h.elim)))
          have HF2 := hid (HF.out.trans F1.out (fun _ h => h.elim))
          go_wp2_with fail
          go_ret
          exact ⟨by rw [HN'.out]; rfl, HF2.out⟩
      · obtain rfl : i = A.length := by omega
        have hkn : ¬ ((A.length : Nat) : Int) < ((A.length : Nat) : Int) := by omega
        have HE : Hid (decide (A = B) = true) := by
          unfold Hid
          rw [List.take_length, HLn.out, List.take_length] at ht
          exact decide_eq_true ht
        clear ht
        go_wp2
        go_ret
        exact ⟨by rw [HE.out]; rfl, HF.out⟩
  · have hl' : (((A.length : Nat) : Int) != ((B.length : Nat) : Int)) = true := by simpa using fun h => hl (by omega)
    have HE : Hid (decide (A = B) = false) := decide_eq_false (fun h => hl (by rw [h]))
    go_enter Try.func34, Try.ntmps34
    go_wp2
    go_ret
    exact ⟨by rw [HE.out]; rfl, Fr.refl _ _⟩

end Go.Proofs.Ytangnoicnogddaa.Tr
