import Derived.Test.YtangnoicnogddaaUap
import Derived.BigQuiet
import Derived.Deep.QuietTactic
/- The contracts of SameTexts, SameUnit, SameUnits. -/
namespace Go.Proofs.Ytangnoicnogddaa.Tr
open Go.RowKit

set_option maxRecDepth 100000 in
set_option maxHeartbeats 1000000 in
theorem sameList_any (w : World) (ad bd : Option Addr) (A B : List Nm) (ca cb : Nat) (hA : Strs w ad A) (hB : Strs w bd B) (hla : A.length ≤ lim) :
    Calls Try.prog 33 #[.slice ad A.length ca, .slice bd B.length cb] w fun e w' => e = .returned (.bool (decide (A = B))) ∧ Fr (fun _ => False) w w' := by
  have HA := hid hA
  have HB := hid hB
  have hla' : A.length ≤ 140737488351232 := hla
  clear hA hB hla
  by_cases hl : A.length = B.length
  · have hl' : (((A.length : Nat) : Int) != ((B.length : Nat) : Int)) = false := by rw [hl]; simp
    have HLn := hid hl
    clear hl
    go_enter Try.func33, Try.ntmps33
    go_wp2_with fail
    go_loopw [5] (fun iv wr => ∃ i : Nat, i ≤ A.length ∧ iv = .int .i64 (i : Int) ∧ A.take i = B.take i ∧ Fr (fun _ => False) w wr) (fun iv _ => A.length - (intOf iv).toNat)
    case atStart => exact ⟨0, Nat.zero_le _, rfl, rfl, Fr.refl _ _⟩
    case round =>
      obtain ⟨i, hi, rfl, ht, hF⟩ := hrel
      have HF := hid hF
      clear hF
      by_cases hlt : i < A.length
      · have hi1 : (i : Int) < ((A.length : Nat) : Int) := by omega
        have hi2 : (i : Int) < ((B.length : Nat) : Int) := by have := HLn.out; omega
        have hi0 : (0 : Int) ≤ (i : Int) := Int.natCast_nonneg _
        have hltb : i < B.length := by have := HLn.out; omega
        obtain ⟨bb, bo, rfl, c0⟩ := (HA.out.env (Env.of HF.out)).at i hlt
        obtain ⟨bb', bo', rfl, c0'⟩ := (HB.out.env (Env.of HF.out)).at i hltb
        have HT := hid (take_eq_succ ht hlt hltb)
        have HN := hid (ne_of_at hlt hltb (A := A) (B := B))
        clear ht HA HB
        generalize A[i] = x at *
        generalize B[i] = y at *
        by_cases hp : x = y
        · subst hp
          have HT' := hid (HT.out rfl)
          have hs1 : (x != x) = false := by simp
          go_wp2_with fail
          go_quiet (fail)
          have HWn := hid (HF.out.drewN nq)
          go_wp2
          exact ⟨⟨i + 1, by omega, by go_num, HT'.out, HWn.out⟩, by simp [intOf]; omega⟩
        · have HN' : Hid (decide (A = B) = false) := decide_eq_false (HN.out hp)
          have hs1 : (!(x == y)) = true := by simpa using hp
          clear HN HT
          go_wp2_with fail
          go_quiet (fail)
          have HWn := hid (HF.out.drewN nq)
          go_wp2
          go_ret
          exact ⟨by rw [HN'.out]; rfl, HWn.out⟩
      · obtain rfl : i = A.length := by omega
        have hkn : ¬ ((A.length : Nat) : Int) < ((A.length : Nat) : Int) := by omega
        have HE : Hid (decide (A = B) = true) := by
          unfold Hid
          rw [List.take_length, HLn.out, List.take_length] at ht
          exact decide_eq_true ht
        clear ht
        go_wp2
        go_ret
        exact ⟨by rw [HE.out]; rfl, HF.out⟩
  · have hl' : (((A.length : Nat) : Int) != ((B.length : Nat) : Int)) = true := by simpa using fun h => hl (by omega)
    have HE : Hid (decide (A = B) = false) := decide_eq_false (fun h => hl (by rw [h]))
    go_enter Try.func33, Try.ntmps33
    go_wp2
    go_ret
    exact ⟨by rw [HE.out]; rfl, Fr.refl _ _⟩

theorem ut_eq (u v : Ut) : decide (u = v) = ((u.n == v.n) && (u.s == v.s) && decide (u.r = v.r) && decide (u.a = v.a)) := by
  obtain ⟨a, b, c, d⟩ := u
  obtain ⟨a', b', c', d'⟩ := v
  have hb : ∀ p q : Nm, (p == q) = decide (p = q) := fun p q => by by_cases h : p = q <;> simp [h]
  simp only [Ut.mk.injEq, Bool.decide_and, hb, Bool.and_assoc]

set_option maxRecDepth 100000 in
set_option maxHeartbeats 2000000 in
theorem usame_any (w : World) (u v : Ut) (x y : Uv) (hx : UIn w u x) (hy : UIn w v y) : Calls Try.prog 55 #[x.v, y.v] w fun e w' => e = .returned (.bool (decide (u = v))) ∧ Fr (fun _ => False) w w' := by
  have HB := hid (two_blk w x y)
  have HF := hid (two_fr w x y)
  have HC1 := hid (fun (W : World) (e : Env w W) => sameList_any W x.ra y.ra u.r v.r x.rc y.rc (hx.r.env e) (hy.r.env e) (lim16_le hx.ok.r))
  have HC2 := hid (fun (W : World) (e : Env w W) => sameList_any W x.aa y.aa u.a v.a x.ac y.ac (hx.a.env e) (hy.a.env e) (lim16_le hx.ok.a))
  rw [ut_eq]
  obtain ⟨p1, p2, p3, p4, _, _, _⟩ := hx
  obtain ⟨r1, r2, r3, r4, _, _, _⟩ := hy
  rw [← p3, ← r3] at HC1
  rw [← p4, ← r4] at HC2
  rw [← p1, ← p2, ← r1, ← r2]
  generalize decide (u.r = v.r) = P at *
  generalize decide (u.a = v.a) = Q at *
  clear p1 p2 p3 p4 r1 r2 r3 r4
  obtain ⟨n, s, ra, rl, rc, aa, al, ac⟩ := x
  obtain ⟨n', s', ra', rl', rc', aa', al', ac'⟩ := y
  simp only [Uv.v] at *
  obtain ⟨c0, c1, c2, c3⟩ := HB.out.1.fourU
  obtain ⟨d0, d1, d2, d3⟩ := HB.out.2.fourU
  have HR0 := hid (HC1.out _ (Env.of HF.out))
  go_enter Try.func55, Try.ntmps55
  go_wp2_with fail
  refine HR0.out.mono ?_
  rintro e w1 ⟨rfl, f1⟩
  have HF1 := hid (HF.out.trans f1 (fun _ h => h.elim))
  have HB1 := hid (And.intro (f1.blk HB.out.1 (fun h => h)) (f1.blk HB.out.2 (fun h => h)))
  have HR1 := hid (HC2.out _ (Env.of HF1.out))
  clear f1 HR0 HC1 HC2 c0 c1 c2 c3 d0 d1 d2 d3 HB HF
  obtain ⟨c0, c1, c2, c3⟩ := HB1.out.1.fourU
  obtain ⟨d0, d1, d2, d3⟩ := HB1.out.2.fourU
  go_wp2_with fail
  refine HR1.out.mono ?_
  rintro e w2 ⟨rfl, f2⟩
  have HF2 := hid (HF1.out.trans f2 (fun _ h => h.elim))
  have HB2 := hid (And.intro (f2.blk HB1.out.1 (fun h => h)) (f2.blk HB1.out.2 (fun h => h)))
  clear f2 HR1 c0 c1 c2 c3 d0 d1 d2 d3 HB1 HF1
  obtain ⟨c0, c1, c2, c3⟩ := HB2.out.1.fourU
  obtain ⟨d0, d1, d2, d3⟩ := HB2.out.2.fourU
  cases hn : (n == n') with
  | false =>
    go_wp2_with fail
    go_ret
    exact ⟨by rw [hn]; rfl, HF2.out⟩
  | true =>
    cases hs : (s == s') with
    | false =>
      go_wp2_with fail
      go_ret
      exact ⟨by rw [hn, hs]; rfl, HF2.out⟩
    | true =>
      cases P with
      | false =>
        go_wp2_with fail
        go_ret
        exact ⟨by rw [hn, hs]; rfl, HF2.out⟩
      | true =>
        go_wp2_with fail
        go_ret
        exact ⟨by rw [hn, hs]; rfl, HF2.out⟩

set_option maxRecDepth 100000 in
set_option maxHeartbeats 2000000 in
theorem usameAll_any (w0 w : World) (e0 : Env w0 w) (A B : List Ut) (ad bd : Option Addr) (ca cb : Nat) (hA : Us w0 w A ad) (hB : Us w0 w B bd) (hl : A.length ≤ lim) :
    Calls Try.prog 34 #[.slice ad A.length ca, .slice bd B.length cb] w fun e w' => e = .returned (.bool (decide (A = B))) ∧ Fr (fun _ => False) w w' := by
  have HA := hid hA
  have HB := hid hB
  have HE0 := hid e0
  have hla' : A.length ≤ 140737488351232 := hl
  clear hA hB hl e0
  by_cases hl : A.length = B.length
  · have hl' : (((A.length : Nat) : Int) != ((B.length : Nat) : Int)) = false := by rw [hl]; simp
    have HLn := hid hl
    clear hl
    go_enter Try.func34, Try.ntmps34
    go_wp2_with fail
    go_loopw [5, 6] (fun iv _ wr => ∃ i : Nat, i ≤ A.length ∧ iv = .int .i64 (i : Int) ∧ A.take i = B.take i ∧ Fr (fun _ => False) w wr) (fun iv _ _ => A.length - (intOf iv).toNat)
    case atStart => exact ⟨0, Nat.zero_le _, rfl, rfl, Fr.refl _ _⟩
    case round =>
      obtain ⟨i, hi, rfl, ht, hF⟩ := hrel
      have HF := hid hF
      clear hF
      by_cases hlt : i < A.length
      · have hi1 : (i : Int) < ((A.length : Nat) : Int) := by omega
        have hi2 : (i : Int) < ((B.length : Nat) : Int) := by have := HLn.out; omega
        have hi0 : (0 : Int) ≤ (i : Int) := Int.natCast_nonneg _
        have hltb : i < B.length := by have := HLn.out; omega
        obtain ⟨b, o, rfl⟩ := HA.out.some hlt
        obtain ⟨b', o', rfl⟩ := HB.out.some hltb
        obtain ⟨x, x1, x2⟩ := HA.out.get i hlt
        obtain ⟨y, y1, y2⟩ := HB.out.get i hltb
        have HK : Hid (∀ W', Fr (fun _ => False) wr W' → fourB W' b (o + i * 4) x ∧ fourB W' b' (o' + i * 4) y) := fun W' hf => ⟨(x1.env (Env.of (HF.out.trans hf (fun _ h => h.elim)))).all, (y1.env (Env.of (HF.out.trans hf (fun _ h => h.elim)))).all⟩
        have HC := hid (usame_any wr.drew A[i] B[i] x y (x2.env (HE0.out.trans (Env.of HF.out.drew))) (y2.env (HE0.out.trans (Env.of HF.out.drew))))
        have HT := hid (take_eq_succ ht hlt hltb)
        have HN := hid (ne_of_at hlt hltb (A := A) (B := B))
        clear x1 x2 y1 y2 ht
        by_cases hp : A[i] = B[i]
        · have HT' := hid (HT.out hp)
          rw [decide_eq_true hp] at HC
          clear HT HN hp
          go_wp2_with fail
          go_region_held3 (fun W' => fourB W' b (o + i * 4) x ∧ fourB W' b' (o' + i * 4) y)
            (first | exact HK.out _ (Fr.refl _ _).drew | exact HK.out _ F1.out)
            ((go_at_call 55; refine HC.out.mono ?_; rintro e w2 ⟨rfl, f2⟩; have F1 : Hid (Fr (fun _ => False) wr w2) := (Fr.refl _ wr).drew.trans f2 (fun _ h => h.elim)))
          have HF2 := hid (HF.out.trans F1.out (fun _ h => h.elim))
          go_wp2_with fail
          exact ⟨⟨i + 1, by omega, by go_num, HT'.out, HF2.out⟩, by simp [intOf]; omega⟩
        · have HN' : Hid (decide (A = B) = false) := decide_eq_false (HN.out hp)
          rw [decide_eq_false hp] at HC
          clear HT HN hp
          go_wp2_with fail
          go_region_held3 (fun W' => fourB W' b (o + i * 4) x ∧ fourB W' b' (o' + i * 4) y)
            (first | exact HK.out _ (Fr.refl _ _).drew | exact HK.out _ F1.out)
            ((go_at_call 55; refine HC.out.mono ?_; rintro e w2 ⟨rfl, f2⟩; have F1 : Hid (Fr (fun _ => False) wr w2) := (Fr.refl _ wr).drew.trans f2 (fun _ h => h.elim)))
          have HF2 := hid (HF.out.trans F1.out (fun _ h => h.elim))
          go_wp2_with fail
          go_ret
          exact ⟨by rw [HN'.out]; rfl, HF2.out⟩
      · obtain rfl : i = A.length := by omega
        have hkn : ¬ ((A.length : Nat) : Int) < ((A.length : Nat) : Int) := by omega
        have HE : Hid (decide (A = B) = true) := by
          unfold Hid
          rw [List.take_length, HLn.out, List.take_length] at ht
          exact decide_eq_true ht
        clear ht
        go_wp2
        go_ret
        exact ⟨by rw [HE.out]; rfl, HF.out⟩
  · have hl' : (((A.length : Nat) : Int) != ((B.length : Nat) : Int)) = true := by simpa using fun h => hl (by omega)
    have HE : Hid (decide (A = B) = false) := decide_eq_false (fun h => hl (by rw [h]))
    go_enter Try.func34, Try.ntmps34
    go_wp2
    go_ret
    exact ⟨by rw [HE.out]; rfl, Fr.refl _ _⟩

end Go.Proofs.Ytangnoicnogddaa.Tr
/- Questions to a unit: names, starts, sameness. -/
namespace Go.Proofs.Ytangnoicnogddaa.Tr
open Go.RowKit

set_option maxRecDepth 100000 in
set_option maxHeartbeats 2000000 in
theorem ixA_any (w : World) (l : List Nm) (ad : Option Addr) (cap : Nat) (p : Nm → Bool) (hL : Strs w ad l) (hl : l.length ≤ lim) (hK : ∀ W, Fr (fun _ => False) w W → ∀ i (h : i < l.length), Calls Try.prog 84 #[.string ⟨l[i].toArray⟩] W fun e w' => e = .returned (.bool (p l[i])) ∧ Fr (fun _ => False) W w') :
    Calls Try.prog 86 #[.slice ad l.length cap, .func (.func 84) #[] #[]] w fun e w' => (∃ r : Int, e = .returned (.int .i64 r) ∧ decide (0 ≤ r) = l.any p) ∧ Fr (fun _ => False) w w' := by
  have HC := hid hL
  have HG := hid hK
  have hl' : l.length ≤ 140737488351232 := hl
  clear hL hK hl
  go_enter Try.func86, Try.ntmps86
  go_wp2_with fail
  go_loopw [5, 8] (fun _ iv wr => ∃ i : Nat, i ≤ l.length ∧ iv = .int .i64 (i : Int) ∧ (∀ j (h : j < l.length), j < i → p l[j] = false) ∧ Fr (fun _ => False) w wr) (fun _ iv _ => l.length - (intOf iv).toNat)
  case atStart => exact ⟨0, Nat.zero_le _, rfl, fun j _ hj => absurd hj (by omega), Fr.refl _ _⟩
  case round =>
    obtain ⟨i, hi, rfl, hA, hF⟩ := hrel
    have HA := hid hA
    have HF := hid hF
    clear hA hF
    by_cases hlt : i < l.length
    · have hlt' : (i : Int) < ((l.length : Nat) : Int) := by omega
      obtain ⟨b, o, rfl, c0⟩ := (HC.out.env (Env.of HF.out)).at i hlt
      have HT : Hid (p l[i] = true → l.any p = true) := fun h => List.any_eq_true.2 ⟨l[i], List.getElem_mem hlt, h⟩
      have HN : Hid (p l[i] = false → ∀ j (h : j < l.length), j < i + 1 → p l[j] = false) := fun h j hj hj' => by
        by_cases e : j = i
        · subst e; exact h
        · exact HA.out j hj (by omega)
      have HK := hid (HG.out wr HF.out i hlt)
      generalize hq : p l[i] = q at HK HT HN
      generalize l[i] = ch at *
      clear HA hq
      go_wp2_with fail
      refine HK.out.mono ?_
      rintro e w2 ⟨rfl, f2⟩
      have HF2 := hid (HF.out.trans f2 (fun _ h => h.elim))
      clear f2
      cases q with
      | true =>
        have HE := hid (HT.out rfl)
        go_wp2_with fail
        go_ret
        exact ⟨⟨(i : Int), rfl, by rw [HE.out]; simp⟩, HF2.out⟩
      | false =>
        have HE := hid (HN.out rfl)
        go_wp2_with fail
        exact ⟨⟨i + 1, by omega, by first | rfl | (congr 1), HE.out, HF2.out⟩, by simp [intOf]; omega⟩
    · have hlt' : ¬ (i : Int) < ((l.length : Nat) : Int) := by omega
      have HR : Hid (l.any p = false) := List.any_eq_false.2 fun u hu => by
        obtain ⟨j, hj, rfl⟩ := List.getElem_of_mem hu
        rw [HA.out j hj (by omega)]; simp
      go_wp2_with fail
      go_ret
      exact ⟨⟨-1, rfl, by rw [HR.out]; rfl⟩, HF.out⟩
set_option maxRecDepth 100000 in
set_option maxHeartbeats 2000000 in
theorem ctA_any (w : World) (l : List Nm) (ad : Option Addr) (cap : Nat) (p : Nm → Bool) (hL : Strs w ad l) (hl : l.length ≤ lim) (hK : ∀ W, Fr (fun _ => False) w W → ∀ i (h : i < l.length), Calls Try.prog 84 #[.string ⟨l[i].toArray⟩] W fun e w' => e = .returned (.bool (p l[i])) ∧ Fr (fun _ => False) W w') :
    Calls Try.prog 74 #[.slice ad l.length cap, .func (.func 84) #[] #[]] w fun e w' => e = .returned (.bool (l.any p)) ∧ Fr (fun _ => False) w w' := by
  have HC := hid (ixA_any w l ad cap p hL hl hK)
  clear hL hK hl
  go_enter Try.func74, Try.ntmps74
  go_wp2_with fail
  refine HC.out.mono ?_
  rintro e w2 ⟨⟨r, rfl, hr⟩, hF⟩
  have HR := hid hr
  have HF := hid hF
  clear hr hF
  go_wp2_with fail
  go_ret
  exact ⟨by rw [← HR.out]; rfl, HF.out⟩

set_option maxRecDepth 100000 in
set_option maxHeartbeats 2000000 in
theorem ixB_any (w : World) (l : List Nm) (ad : Option Addr) (cap : Nat) (cb : Nat) (p : Nm → Bool) (hL : Strs w ad l) (hl : l.length ≤ lim) (hK : ∀ W, Fr (fun _ => False) w W → ∀ i (h : i < l.length), Calls Try.prog 75 #[.string ⟨l[i].toArray⟩, .pointer (some ⟨cb, 0, none⟩)] W fun e w' => e = .returned (.bool (p l[i])) ∧ Fr (fun _ => False) W w') :
    Calls Try.prog 86 #[.slice ad l.length cap, .func (.func 75) #[] #[.pointer (some ⟨cb, 0, none⟩)]] w fun e w' => (∃ r : Int, e = .returned (.int .i64 r) ∧ decide (0 ≤ r) = l.any p) ∧ Fr (fun _ => False) w w' := by
  have HC := hid hL
  have HG := hid hK
  have hl' : l.length ≤ 140737488351232 := hl
  clear hL hK hl
  go_enter Try.func86, Try.ntmps86
  go_wp2_with fail
  go_loopw [5, 8] (fun _ iv wr => ∃ i : Nat, i ≤ l.length ∧ iv = .int .i64 (i : Int) ∧ (∀ j (h : j < l.length), j < i → p l[j] = false) ∧ Fr (fun _ => False) w wr) (fun _ iv _ => l.length - (intOf iv).toNat)
  case atStart => exact ⟨0, Nat.zero_le _, rfl, fun j _ hj => absurd hj (by omega), Fr.refl _ _⟩
  case round =>
    obtain ⟨i, hi, rfl, hA, hF⟩ := hrel
    have HA := hid hA
    have HF := hid hF
    clear hA hF
    by_cases hlt : i < l.length
    · have hlt' : (i : Int) < ((l.length : Nat) : Int) := by omega
      obtain ⟨b, o, rfl, c0⟩ := (HC.out.env (Env.of HF.out)).at i hlt
      have HT : Hid (p l[i] = true → l.any p = true) := fun h => List.any_eq_true.2 ⟨l[i], List.getElem_mem hlt, h⟩
      have HN : Hid (p l[i] = false → ∀ j (h : j < l.length), j < i + 1 → p l[j] = false) := fun h j hj hj' => by
        by_cases e : j = i
        · subst e; exact h
        · exact HA.out j hj (by omega)
      have HK := hid (HG.out wr HF.out i hlt)
      generalize hq : p l[i] = q at HK HT HN
      generalize l[i] = ch at *
      clear HA hq
      go_wp2_with fail
      refine HK.out.mono ?_
      rintro e w2 ⟨rfl, f2⟩
      have HF2 := hid (HF.out.trans f2 (fun _ h => h.elim))
      clear f2
      cases q with
      | true =>
        have HE := hid (HT.out rfl)
        go_wp2_with fail
        go_ret
        exact ⟨⟨(i : Int), rfl, by rw [HE.out]; simp⟩, HF2.out⟩
      | false =>
        have HE := hid (HN.out rfl)
        go_wp2_with fail
        exact ⟨⟨i + 1, by omega, by first | rfl | (congr 1), HE.out, HF2.out⟩, by simp [intOf]; omega⟩
    · have hlt' : ¬ (i : Int) < ((l.length : Nat) : Int) := by omega
      have HR : Hid (l.any p = false) := List.any_eq_false.2 fun u hu => by
        obtain ⟨j, hj, rfl⟩ := List.getElem_of_mem hu
        rw [HA.out j hj (by omega)]; simp
      go_wp2_with fail
      go_ret
      exact ⟨⟨-1, rfl, by rw [HR.out]; rfl⟩, HF.out⟩
set_option maxRecDepth 100000 in
set_option maxHeartbeats 2000000 in
theorem ctB_any (w : World) (l : List Nm) (ad : Option Addr) (cap : Nat) (cb : Nat) (p : Nm → Bool) (hL : Strs w ad l) (hl : l.length ≤ lim) (hK : ∀ W, Fr (fun _ => False) w W → ∀ i (h : i < l.length), Calls Try.prog 75 #[.string ⟨l[i].toArray⟩, .pointer (some ⟨cb, 0, none⟩)] W fun e w' => e = .returned (.bool (p l[i])) ∧ Fr (fun _ => False) W w') :
    Calls Try.prog 74 #[.slice ad l.length cap, .func (.func 75) #[] #[.pointer (some ⟨cb, 0, none⟩)]] w fun e w' => e = .returned (.bool (l.any p)) ∧ Fr (fun _ => False) w w' := by
  have HC := hid (ixB_any w l ad cap cb p hL hl hK)
  clear hL hK hl
  go_enter Try.func74, Try.ntmps74
  go_wp2_with fail
  refine HC.out.mono ?_
  rintro e w2 ⟨⟨r, rfl, hr⟩, hF⟩
  have HR := hid hr
  have HF := hid hF
  clear hr hF
  go_wp2_with fail
  go_ret
  exact ⟨by rw [← HR.out]; rfl, HF.out⟩

set_option maxRecDepth 100000 in
set_option maxHeartbeats 1000000 in
theorem noName_any (w : World) (s : Nm) : Calls Try.prog 84 #[.string ⟨s.toArray⟩] w fun e w' => e = .returned (.bool (!nameB s)) ∧ Fr (fun _ => False) w w' := by
  have H := hid (name_any w s)
  generalize nameB s = b at *
  go_enter Try.func84, Try.ntmps84
  go_wp2_with (go_at_call 46; refine H.out.mono ?_; rintro e w1 ⟨rfl, rfl⟩)
  go_ret
  exact ⟨rfl, Fr.refl _ _⟩
set_option maxRecDepth 100000 in
set_option maxHeartbeats 1000000 in
theorem areNames_any (w : World) (l : List Nm) (ad : Option Addr) (cap : Nat) (hL : Strs w ad l) (hl : l.length ≤ lim) : Calls Try.prog 72 #[.slice ad l.length cap] w fun e w' => e = .returned (.bool (l.all nameB)) ∧ Fr (fun _ => False) w w' := by
  have H := hid (ctA_any w l ad cap (fun s => !nameB s) hL hl (fun W _ i _ => noName_any W l[i]))
  have HE : Hid ((!(l.any fun s => !nameB s)) = l.all nameB) := by
    unfold Hid
    rw [← List.all_eq_not_any_not]
  generalize (l.any fun s => !nameB s) = b at *
  rw [← HE.out]
  clear HE hL
  go_enter Try.func72, Try.ntmps72
  go_wp2_with fail
  refine H.out.mono ?_
  rintro e w2 ⟨rfl, hF⟩
  have HF := hid hF
  clear hF
  go_wp2_with fail
  go_ret
  exact ⟨rfl, HF.out⟩
def startC (c : UInt8) : Bool := decide (32 ≤ c.toNat) && decide (c.toNat ≤ 126)
theorem startB_eq (s : Nm) : startB s = (decide (1 ≤ s.length) && decide (s.length ≤ 120) && s.all startC) := rfl
set_option maxRecDepth 100000 in
set_option maxHeartbeats 1000000 in
theorem mayStart_any (w : World) (s : Nm) : Calls Try.prog 71 #[.string ⟨s.toArray⟩] w fun e w' => e = .returned (.bool (startB s)) ∧ w' = w := by
  rw [startB_eq]
  by_cases h1 : s.length < 1
  · have hn : Hid ((decide (1 ≤ s.length) && decide (s.length ≤ 120) && s.all startC) = false) := by unfold Hid; simp; omega
    have h1' : ((s.length : Int) == 0) = true := by simp; exact List.length_eq_zero_iff.1 (by omega)
    go_enter Try.func71, Try.ntmps71
    go_wp2
    go_ret
    exact ⟨by rw [hn.out]; rfl, rfl⟩
  have h1' : ((s.length : Int) == 0) = false := by simp; intro h; simp [h] at h1
  by_cases h2 : 120 < s.length
  · have hn : Hid ((decide (1 ≤ s.length) && decide (s.length ≤ 120) && s.all startC) = false) := by unfold Hid; simp; omega
    have h2' : decide ((120 : Int) < (s.length : Int)) = true := by simp; omega
    go_enter Try.func71, Try.ntmps71
    go_wp2
    go_ret
    exact ⟨by rw [hn.out]; rfl, rfl⟩
  have h2' : decide ((120 : Int) < (s.length : Int)) = false := by simp; omega
  have HN : Hid ((decide (1 ≤ s.length) && decide (s.length ≤ 120) && s.all startC) = s.all startC) := by
    unfold Hid
    rw [decide_eq_true (show 1 ≤ s.length by omega), decide_eq_true (show s.length ≤ 120 by omega)]
    rfl
  generalize (decide (1 ≤ s.length) && decide (s.length ≤ 120) && s.all startC) = r at *
  go_enter Try.func71, Try.ntmps71
  go_wp2_with fail
  go_loopw [3, 14] (fun _ i wr => ∃ k : Nat, k ≤ s.length ∧ i = .int .i64 (k : Int) ∧ (s.take k).all startC = true ∧ wr = w) (fun _ i _ => s.length - (intOf i).toNat)
  case atStart => exact ⟨0, Nat.zero_le _, rfl, rfl, rfl⟩
  case round =>
    obtain ⟨k, hk, rfl, ha, rfl⟩ := hrel
    have HA := hid ha
    clear ha
    by_cases hlt : k < s.length
    · have hkl' : (k : Int) < ((s.length : Nat) : Int) := by omega
      have hk0 : (0 : Int) ≤ (k : Int) := Int.natCast_nonneg _
      have HSt := hid (all_take_succ startC s k hlt)
      have HBad := hid (all_false_of startC s k hlt)
      by_cases hb : startC s[k] = true
      · rw [hb] at HSt
        have q : 32 ≤ s[k].toNat ∧ s[k].toNat ≤ 126 := by unfold startC at hb; simpa using hb
        have q1 : decide (((((ByteArray.mk s.toArray)[k]'(by simpa [ByteArray.size] using hlt)).toNat : Nat) : Int) < 32) = false := by rw [str_at s k hlt]; simp; omega
        have q2 : decide ((126 : Int) < ((((ByteArray.mk s.toArray)[k]'(by simpa [ByteArray.size] using hlt)).toNat : Nat) : Int)) = false := by rw [str_at s k hlt]; simp; omega
        clear HBad hb
        go_wp2_with fail
        exact ⟨⟨k + 1, by omega, by go_num, by rw [HSt.out, HA.out]; rfl, trivial⟩, by simp [intOf]; omega⟩
      · have hb' : startC s[k] = false := by simpa using hb
        have HB := hid (HBad.out hb')
        by_cases q1' : s[k].toNat < 32
        · have q1 : decide (((((ByteArray.mk s.toArray)[k]'(by simpa [ByteArray.size] using hlt)).toNat : Nat) : Int) < 32) = true := by rw [str_at s k hlt]; simp; omega
          clear HBad hb hb' HSt
          go_wp2_with fail
          go_ret
          exact ⟨by rw [HN.out, HB.out]; rfl, rfl⟩
        · have q1 : decide (((((ByteArray.mk s.toArray)[k]'(by simpa [ByteArray.size] using hlt)).toNat : Nat) : Int) < 32) = false := by rw [str_at s k hlt]; simp; omega
          have q2 : decide ((126 : Int) < ((((ByteArray.mk s.toArray)[k]'(by simpa [ByteArray.size] using hlt)).toNat : Nat) : Int)) = true := by
            rw [str_at s k hlt]
            unfold startC at hb'
            simp at hb'
            simp
            have := hb' (by omega)
            omega
          clear HBad hb hb' HSt
          go_wp2_with fail
          go_ret
          exact ⟨by rw [HN.out, HB.out]; rfl, rfl⟩
    · obtain rfl : k = s.length := by omega
      have hkn : ¬ ((s.length : Nat) : Int) < ((s.length : Nat) : Int) := by omega
      rw [List.take_length] at HA
      go_wp2
      go_ret
      exact ⟨by rw [HN.out, HA.out]; rfl, rfl⟩
set_option maxRecDepth 100000 in
set_option maxHeartbeats 1000000 in
theorem eqStrs_any (w : World) (ad bd : Option Addr) (A B : List Nm) (ca cb : Nat) (hA : Strs w ad A) (hB : Strs w bd B) (hla : A.length ≤ lim) :
    Calls Try.prog 85 #[.slice ad A.length ca, .slice bd B.length cb] w fun e w' => e = .returned (.bool (decide (A = B))) ∧ Fr (fun _ => False) w w' := by
  have HA := hid hA
  have HB := hid hB
  have hla' : A.length ≤ 140737488351232 := hla
  clear hA hB hla
  by_cases hl : A.length = B.length
  · have hl' : (((A.length : Nat) : Int) != ((B.length : Nat) : Int)) = false := by rw [hl]; simp
    have HLn := hid hl
    clear hl
    go_enter Try.func85, Try.ntmps85
    go_wp2_with fail
    go_loopw [5, 13] (fun _ iv wr => ∃ i : Nat, i ≤ A.length ∧ iv = .int .i64 (i : Int) ∧ A.take i = B.take i ∧ Fr (fun _ => False) w wr) (fun _ iv _ => A.length - (intOf iv).toNat)
    case atStart => exact ⟨0, Nat.zero_le _, rfl, rfl, Fr.refl _ _⟩
    case round =>
      obtain ⟨i, hi, rfl, ht, hF⟩ := hrel
      have HF := hid hF
      clear hF
      by_cases hlt : i < A.length
      · have hi1 : (i : Int) < ((A.length : Nat) : Int) := by omega
        have hi2 : (i : Int) < ((B.length : Nat) : Int) := by have := HLn.out; omega
        have hi0 : (0 : Int) ≤ (i : Int) := Int.natCast_nonneg _
        have hltb : i < B.length := by have := HLn.out; omega
        obtain ⟨b, o, rfl, c0⟩ := (HA.out.env (Env.of HF.out)).at i hlt
        obtain ⟨b', o', rfl, c1⟩ := (HB.out.env (Env.of HF.out)).at i hltb
        have HT := hid (take_eq_succ ht hlt hltb)
        have HN := hid (ne_of_at hlt hltb (A := A) (B := B))
        clear ht
        generalize A[i] = x at *
        generalize B[i] = y at *
        by_cases hp : x = y
        · subst hp
          have HT' := hid (HT.out rfl)
          have hs1 : (x != x) = false := by simp
          clear HT HN
          go_wp2_with fail
          go_quiet (fail)
          go_wp2_with fail
          exact ⟨⟨i + 1, by omega, by go_num, HT'.out, HF.out.drewN _⟩, by simp [intOf]; omega⟩
        · have HN' : Hid (decide (A = B) = false) := decide_eq_false (HN.out hp)
          have hs1 : (x != y) = true := by simpa using hp
          have hs2 : (x == y) = false := by simpa using hp
          clear HT HN
          go_wp2_with fail
          go_quiet (fail)
          go_wp2_with fail
          go_ret
          exact ⟨by rw [HN'.out]; rfl, HF.out.drewN _⟩
      · obtain rfl : i = A.length := by omega
        have hkn : ¬ ((A.length : Nat) : Int) < ((A.length : Nat) : Int) := by omega
        have HE : Hid (decide (A = B) = true) := by
          unfold Hid
          rw [List.take_length, HLn.out, List.take_length] at ht
          exact decide_eq_true ht
        clear ht
        go_wp2
        go_ret
        exact ⟨by rw [HE.out]; rfl, HF.out⟩
  · have hl' : (((A.length : Nat) : Int) != ((B.length : Nat) : Int)) = true := by simpa using fun h => hl (by omega)
    have HE : Hid (decide (A = B) = false) := decide_eq_false (fun h => hl (by rw [h]))
    go_enter Try.func85, Try.ntmps85
    go_wp2
    go_ret
    exact ⟨by rw [HE.out]; rfl, Fr.refl _ _⟩
end Go.Proofs.Ytangnoicnogddaa.Tr
/- The contracts of same and mayBe. -/
namespace Go.Proofs.Ytangnoicnogddaa.Tr
open Go.RowKit

set_option maxRecDepth 100000 in
set_option maxHeartbeats 4000000 in
theorem msame_any (w : World) (u v : Ut) (x y : Uv) (hx : UIn w u x) (hy : UIn w v y) : Calls Try.prog 73 #[x.v, y.v] w fun e w' => e = .returned (.bool (decide (u = v))) ∧ Fr (fun _ => False) w w' := by
  have HB := hid (two_blk w x y)
  have HF := hid (two_fr w x y)
  have HC1 := hid (fun (W : World) (e : Env w W) => eqStrs_any W x.ra y.ra u.r v.r x.rc y.rc (hx.r.env e) (hy.r.env e) (lim16_le hx.ok.r))
  have HC2 := hid (fun (W : World) (e : Env w W) => eqStrs_any W x.aa y.aa u.a v.a x.ac y.ac (hx.a.env e) (hy.a.env e) (lim16_le hx.ok.a))
  rw [ut_eq]
  obtain ⟨p1, p2, p3, p4, _, _, _⟩ := hx
  obtain ⟨r1, r2, r3, r4, _, _, _⟩ := hy
  rw [← p3, ← r3] at HC1
  rw [← p4, ← r4] at HC2
  rw [← p1, ← p2, ← r1, ← r2]
  generalize decide (u.r = v.r) = P at *
  generalize decide (u.a = v.a) = Q at *
  clear p1 p2 p3 p4 r1 r2 r3 r4
  obtain ⟨n, s, ra, rl, rc, aa, al, ac⟩ := x
  obtain ⟨n', s', ra', rl', rc', aa', al', ac'⟩ := y
  simp only [Uv.v] at *
  obtain ⟨c0, c1, c2, c3⟩ := HB.out.1.fourU
  obtain ⟨d0, d1, d2, d3⟩ := HB.out.2.fourU
  have HR0 := hid (HC1.out _ (Env.of HF.out))
  cases hn : (n == n') with
  | false =>
    go_enter Try.func73, Try.ntmps73
    go_wp2_with fail
    go_ret
    exact ⟨by rfl, HF.out⟩
  | true =>
    cases hs : (s == s') with
    | false =>
      go_enter Try.func73, Try.ntmps73
      go_wp2_with fail
      go_ret
      exact ⟨by rfl, HF.out⟩
    | true =>
      cases P with
      | false =>
        go_enter Try.func73, Try.ntmps73
        go_wp2_with (go_at_call 85; refine HR0.out.mono ?_; rintro e w1 ⟨rfl, f1⟩; have F1 := hid (HF.out.trans f1 (fun _ h => h.elim)); clear f1)
        go_ret
        exact ⟨by rfl, F1.out⟩
      | true =>
        go_enter Try.func73, Try.ntmps73
        go_wp2_with (first
          | (go_at_call 85; refine HR0.out.mono ?_; rintro e w1 ⟨rfl, f1⟩; have F1 := hid (HF.out.trans f1 (fun _ h => h.elim)); have HB1 := hid (And.intro (f1.blk HB.out.1 (fun h => h)) (f1.blk HB.out.2 (fun h => h))); clear f1 HR0 c0 c1 c2 c3 d0 d1 d2 d3; obtain ⟨c0, c1, c2, c3⟩ := HB1.out.1.fourU; obtain ⟨d0, d1, d2, d3⟩ := HB1.out.2.fourU)
          | (go_at_call 85; refine (HC2.out _ (Env.of F1.out)).mono ?_; rintro e w2 ⟨rfl, f2⟩; have F2 := hid (F1.out.trans f2 (fun _ h => h.elim)); clear f2))
        go_ret
        exact ⟨by rfl, F2.out⟩

set_option maxRecDepth 100000 in
set_option maxHeartbeats 4000000 in
theorem ubox_any (w : World) (u : Ut) (x : Uv) (hx : UIn w u x) : Calls Try.prog 48 #[x.v] w fun e w' => e = .returned (.bool (mayU u)) ∧ Fr (fun _ => False) w w' := by
  have HB := hid (uBlk w x)
  have HF := hid (uFr w x)
  have HC1 := hid (fun (W : World) (e : Env w W) => areNames_any W u.r x.ra x.rc (hx.r.env e) (lim16_le hx.ok.r))
  have HC2 := hid (fun (W : World) (e : Env w W) => areNames_any W u.a x.aa x.ac (hx.a.env e) (lim16_le hx.ok.a))
  have HN := hid (fun W => name_any W x.n)
  have HS := hid (fun W => mayStart_any W x.s)
  have hU : mayU u = (nameB x.n && startB x.s && u.r.all nameB && u.a.all nameB) := by unfold mayU; rw [hx.n, hx.s]
  rw [hU]
  obtain ⟨q1, q2, p3, p4, q5, q6, q7⟩ := hx
  rw [← p3] at HC1
  rw [← p4] at HC2
  clear q1 q2 q5 q6 q7
  generalize u.r.all nameB = P at *
  generalize u.a.all nameB = Q at *
  clear p3 p4 hU
  obtain ⟨n, s, ra, rl, rc, aa, al, ac⟩ := x
  simp only [Uv.v] at *
  obtain ⟨c0, c1, c2, c3⟩ := HB.out.fourU
  have HR0 := hid (HC1.out _ (Env.of HF.out))
  generalize nameB n = A at *
  generalize startB s = B at *
  have hF0 : Hid (Fr (fun _ => False) w (uBox w ⟨n, s, ra, rl, rc, aa, al, ac⟩)) := HF
  cases A with
  | false =>
    go_enter Try.func48, Try.ntmps48
    go_wp2_with (go_at_call 46; refine (HN.out _).mono ?_; rintro e w1 ⟨rfl, rfl⟩)
    go_ret
    exact ⟨by rfl, HF.out⟩
  | true =>
    cases B with
    | false =>
      go_enter Try.func48, Try.ntmps48
      go_wp2_with (first | (go_at_call 46; refine (HN.out _).mono ?_; rintro e w1 ⟨rfl, rfl⟩) | (go_at_call 71; refine (HS.out _).mono ?_; rintro e w1 ⟨rfl, rfl⟩))
      go_ret
      exact ⟨by rfl, HF.out⟩
    | true =>
      cases P with
      | false =>
        go_enter Try.func48, Try.ntmps48
        go_wp2_with (first
          | (go_at_call 46; refine (HN.out _).mono ?_; rintro e w1 ⟨rfl, rfl⟩)
          | (go_at_call 71; refine (HS.out _).mono ?_; rintro e w1 ⟨rfl, rfl⟩)
          | (go_at_call 72; refine HR0.out.mono ?_; rintro e w1 ⟨rfl, f1⟩; have F1 := hid (HF.out.trans f1 (fun _ h => h.elim)); clear f1))
        go_ret
        exact ⟨by rfl, F1.out⟩
      | true =>
        go_enter Try.func48, Try.ntmps48
        go_wp2_with (first
          | (go_at_call 46; refine (HN.out _).mono ?_; rintro e w1 ⟨rfl, rfl⟩)
          | (go_at_call 71; refine (HS.out _).mono ?_; rintro e w1 ⟨rfl, rfl⟩)
          | (go_at_call 72; refine HR0.out.mono ?_; rintro e w1 ⟨rfl, f1⟩; have F1 := hid (HF.out.trans f1 (fun _ h => h.elim)); have HB1 := hid (f1.blk HB.out (fun h => h)); clear f1 HR0 c0 c1 c2 c3; obtain ⟨c0, c1, c2, c3⟩ := HB1.out.fourU)
          | (go_at_call 72; refine (HC2.out _ (Env.of F1.out)).mono ?_; rintro e w2 ⟨rfl, f2⟩; have F2 := hid (F1.out.trans f2 (fun _ h => h.elim)); clear f2))
        go_ret
        exact ⟨by rfl, F2.out⟩
end Go.Proofs.Ytangnoicnogddaa.Tr
