/- The contracts of Same, SameAll, large. -/
import Derived.Test.YtcpeebkfnnkjnaaDoorUsm
namespace Go.Proofs.YtcpeebkfnnkjnaaDoor.Tr
open Go.RowKit

/-- Four cells, one by one. -/
abbrev fourB (W : World) (b o : Nat) (x : Uv) : Prop := W.cell? ⟨b, o, none⟩ = some (.string ⟨x.n.toArray⟩) ∧ W.cell? ⟨b, o + 1, none⟩ = some (.string ⟨x.s.toArray⟩) ∧ W.cell? ⟨b, o + 2, none⟩ = some (.slice x.ra x.rl x.rc) ∧ W.cell? ⟨b, o + 3, none⟩ = some (.slice x.aa x.al x.ac)
theorem Blk.fourU {W : World} {b : Nat} {t : TypeId} {x : Uv} (h : Blk W b t x.cs) : W.cell? ⟨b, 0, none⟩ = some (.string ⟨x.n.toArray⟩) ∧ W.cell? ⟨b, 1, none⟩ = some (.string ⟨x.s.toArray⟩) ∧ W.cell? ⟨b, 2, none⟩ = some (.slice x.ra x.rl x.rc) ∧ W.cell? ⟨b, 3, none⟩ = some (.slice x.aa x.al x.ac) :=
  ⟨h.cell 0, h.cell 1, h.cell 2, h.cell 3⟩
theorem two_blk (w : World) (x y : Uv) : Blk (uBox (uBox w x) y) w.heap.size 32 x.cs ∧ Blk (uBox (uBox w x) y) (w.heap.size + 1) 32 y.cs := by
  refine ⟨(uBlk w x).alloc _, ?_⟩
  have := uBlk (uBox w x) y
  rw [World.size_alloc] at this
  exact this
theorem two_fr (w : World) (x y : Uv) : Fr (fun _ => False) w (uBox (uBox w x) y) := ((Fr.refl _ w).alloc _).alloc _
theorem ut_eq (u v : Ut) : decide (u = v) = ((u.n == v.n) && (u.s == v.s) && decide (u.r = v.r) && decide (u.a = v.a)) := by
  obtain ⟨a, b, c, d⟩ := u
  obtain ⟨a', b', c', d'⟩ := v
  have hb : ∀ p q : Nm, (p == q) = decide (p = q) := fun p q => by by_cases h : p = q <;> simp [h]
  simp only [Ut.mk.injEq, Bool.decide_and, hb, Bool.and_assoc]

set_option maxRecDepth 100000 in
set_option maxHeartbeats 2000000 in
theorem same_any (w : World) (u v : Ut) (x y : Uv) (hx : UIn w u x) (hy : UIn w v y) : Calls Tryd.prog 18 #[x.v, y.v] w fun e w' => e = .returned (.bool (decide (u = v))) ∧ Fr (fun _ => False) w w' := by
  have HB := hid (two_blk w x y)
  have HF := hid (two_fr w x y)
  have HC1 := hid (fun (W : World) (e : Env w W) => sameList_any W x.ra y.ra u.r v.r x.rc y.rc (hx.r.env e) (hy.r.env e) hx.ok.r)
  have HC2 := hid (fun (W : World) (e : Env w W) => sameList_any W x.aa y.aa u.a v.a x.ac y.ac (hx.a.env e) (hy.a.env e) hx.ok.a)
  rw [ut_eq]
  obtain ⟨p1, p2, p3, p4, _, _, _⟩ := hx
  obtain ⟨r1, r2, r3, r4, _, _, _⟩ := hy
  rw [← p3, ← r3] at HC1
  rw [← p4, ← r4] at HC2
  rw [← p1, ← p2, ← r1, ← r2]
  generalize decide (u.r = v.r) = P at *
  generalize decide (u.a = v.a) = Q at *
  clear p1 p2 p3 p4 r1 r2 r3 r4
  obtain ⟨n, s, ra, rl, rc, aa, al, ac⟩ := x
  obtain ⟨n', s', ra', rl', rc', aa', al', ac'⟩ := y
  simp only [Uv.v] at *
  obtain ⟨c0, c1, c2, c3⟩ := HB.out.1.fourU
  obtain ⟨d0, d1, d2, d3⟩ := HB.out.2.fourU
  have HR0 := hid (HC1.out _ (Env.of HF.out))
  go_enter Tryd.func18, Tryd.ntmps18
  go_wp2_with fail
  refine HR0.out.mono ?_
  rintro e w1 ⟨rfl, f1⟩
  have HF1 := hid (HF.out.trans f1 (fun _ h => h.elim))
  have HB1 := hid (And.intro (f1.blk HB.out.1 (fun h => h)) (f1.blk HB.out.2 (fun h => h)))
  have HR1 := hid (HC2.out _ (Env.of HF1.out))
  clear f1 HR0 HC1 HC2 c0 c1 c2 c3 d0 d1 d2 d3 HB HF
  obtain ⟨c0, c1, c2, c3⟩ := HB1.out.1.fourU
  obtain ⟨d0, d1, d2, d3⟩ := HB1.out.2.fourU
  go_wp2_with fail
  refine HR1.out.mono ?_
  rintro e w2 ⟨rfl, f2⟩
  have HF2 := hid (HF1.out.trans f2 (fun _ h => h.elim))
  have HB2 := hid (And.intro (f2.blk HB1.out.1 (fun h => h)) (f2.blk HB1.out.2 (fun h => h)))
  clear f2 HR1 c0 c1 c2 c3 d0 d1 d2 d3 HB1 HF1
  obtain ⟨c0, c1, c2, c3⟩ := HB2.out.1.fourU
  obtain ⟨d0, d1, d2, d3⟩ := HB2.out.2.fourU
  cases hn : (n == n') with
  | false =>
    go_wp2_with fail
    go_ret
    exact ⟨by rw [hn]; rfl, HF2.out⟩
  | true =>
    cases hs : (s == s') with
    | false =>
      go_wp2_with fail
      go_ret
      exact ⟨by rw [hn, hs]; rfl, HF2.out⟩
    | true =>
      cases P with
      | false =>
        go_wp2_with fail
        go_ret
        exact ⟨by rw [hn, hs]; rfl, HF2.out⟩
      | true =>
        go_wp2_with fail
        go_ret
        exact ⟨by rw [hn, hs]; rfl, HF2.out⟩

set_option maxRecDepth 100000 in
set_option maxHeartbeats 2000000 in
theorem sameAll_any (w0 w : World) (e0 : Env w0 w) (A B : List Ut) (ad bd : Option Addr) (ca cb : Nat) (hA : Us w0 w A ad) (hB : Us w0 w B bd) (hl : A.length ≤ lim) :
    Calls Tryd.prog 13 #[.slice ad A.length ca, .slice bd B.length cb] w fun e w' => e = .returned (.bool (decide (A = B))) ∧ Fr (fun _ => False) w w' := by
  have HA := hid hA
  have HB := hid hB
  have HE0 := hid e0
  have hla' : A.length ≤ 140737488351232 := hl
  clear hA hB hl e0
  by_cases hl : A.length = B.length
  · have hl' : (((A.length : Nat) : Int) != ((B.length : Nat) : Int)) = false := by rw [hl]; simp
    have HLn := hid hl
    clear hl
    go_enter Tryd.func13, Tryd.ntmps13
    go_wp2_with fail
    go_loopw [5, 6] (fun iv _ wr => ∃ i : Nat, i ≤ A.length ∧ iv = .int .i64 (i : Int) ∧ A.take i = B.take i ∧ Fr (fun _ => False) w wr) (fun iv _ _ => A.length - (intOf iv).toNat)
    case atStart => exact ⟨0, Nat.zero_le _, rfl, rfl, Fr.refl _ _⟩
    case round =>
      obtain ⟨i, hi, rfl, ht, hF⟩ := hrel
      have HF := hid hF
      clear hF
      by_cases hlt : i < A.length
      · have hi1 : (i : Int) < ((A.length : Nat) : Int) := by omega
        have hi2 : (i : Int) < ((B.length : Nat) : Int) := by have := HLn.out; omega
        have hi0 : (0 : Int) ≤ (i : Int) := Int.natCast_nonneg _
        have hltb : i < B.length := by have := HLn.out; omega
        obtain ⟨b, o, rfl⟩ := HA.out.some hlt
        obtain ⟨b', o', rfl⟩ := HB.out.some hltb
        obtain ⟨x, x1, x2⟩ := HA.out.get i hlt
        obtain ⟨y, y1, y2⟩ := HB.out.get i hltb
        have HK : Hid (∀ W', Fr (fun _ => False) wr W' → fourB W' b (o + i * 4) x ∧ fourB W' b' (o' + i * 4) y) := fun W' hf => ⟨(x1.env (Env.of (HF.out.trans hf (fun _ h => h.elim)))).all, (y1.env (Env.of (HF.out.trans hf (fun _ h => h.elim)))).all⟩
        have HC := hid (same_any wr.drew A[i] B[i] x y (x2.env (HE0.out.trans (Env.of HF.out.drew))) (y2.env (HE0.out.trans (Env.of HF.out.drew))))
        have HT := hid (take_eq_succ ht hlt hltb)
        have HN := hid (ne_of_at hlt hltb (A := A) (B := B))
        clear x1 x2 y1 y2 ht
        by_cases hp : A[i] = B[i]
        · have HT' := hid (HT.out hp)
          rw [decide_eq_true hp] at HC
          clear HT HN hp
          go_wp2_with fail
          go_region_held3 (fun W' => fourB W' b (o + i * 4) x ∧ fourB W' b' (o' + i * 4) y)
            (first | exact HK.out _ (Fr.refl _ _).drew | exact HK.out _ F1.out)
            ((go_at_call 18; refine HC.out.mono ?_; rintro e w2 ⟨rfl, f2⟩; have F1 : Hid (Fr (fun _ => False) wr w2) := (Fr.refl _ wr).drew.trans f2 (fun _ h => h.elim)))
          have HF2 := hid (HF.out.trans F1.out (fun _ h => h.elim))
          go_wp2_with fail
          exact ⟨⟨i + 1, by omega, by go_num, HT'.out, HF2.out⟩, by simp [intOf]; omega⟩
        · have HN' : Hid (decide (A = B) = false) := decide_eq_false (HN.out hp)
          rw [decide_eq_false hp] at HC
          clear HT HN hp
          go_wp2_with fail
          go_region_held3 (fun W' => fourB W' b (o + i * 4) x ∧ fourB W' b' (o' + i * 4) y)
            (first | exact HK.out _ (Fr.refl _ _).drew | exact HK.out _ F1.out)
            ((go_at_call 18; refine HC.out.mono ?_; rintro e w2 ⟨rfl, f2⟩; have F1 : Hid (Fr (fun _ => False) wr w2) := (Fr.refl _ wr).drew.trans f2 (fun _ h => h.elim)))
          have HF2 := hid (HF.out.trans F1.out (fun _ h => h.elim))
          go_wp2_with fail
          go_ret
          exact ⟨by rw [HN'.out]; rfl, HF2.out⟩
      · obtain rfl : i = A.length := by omega
        have hkn : ¬ ((A.length : Nat) : Int) < ((A.length : Nat) : Int) := by omega
        have HE : Hid (decide (A = B) = true) := by
          unfold Hid
          rw [List.take_length, HLn.out, List.take_length] at ht
          exact decide_eq_true ht
        clear ht
        go_wp2
        go_ret
        exact ⟨by rw [HE.out]; rfl, HF.out⟩
  · have hl' : (((A.length : Nat) : Int) != ((B.length : Nat) : Int)) = true := by simpa using fun h => hl (by omega)
    have HE : Hid (decide (A = B) = false) := decide_eq_false (fun h => hl (by rw [h]))
    go_enter Tryd.func13, Tryd.ntmps13
    go_wp2
    go_ret
    exact ⟨by rw [HE.out]; rfl, Fr.refl _ _⟩

/-- How many units and names there are. -/
def tot (l : List Ut) : Nat := (l.map fun u => u.r.length + u.a.length).sum
theorem tot_take (l : List Ut) (i : Nat) (h : i < l.length) : tot (l.take (i + 1)) = tot (l.take i) + (l[i].r.length + l[i].a.length) := by
  rw [List.take_succ_eq_append_getElem h]
  unfold tot
  rw [List.map_append, List.sum_append, List.map_singleton, List.sum_singleton]
theorem tot_le (l : List Ut) (i : Nat) : tot (l.take i) ≤ tot l := by
  conv => rhs; rw [← List.take_append_drop i l]
  simp only [tot, List.map_append, List.sum_append]
  omega

set_option maxRecDepth 100000 in
set_option maxHeartbeats 2000000 in
theorem large_any (w0 w : World) (l : List Ut) (ad : Option Addr) (cap : Nat) (hU : Us w0 w l ad) (hl : l.length ≤ lim) :
    Calls Tryd.prog 9 #[.slice ad l.length cap] w fun e w' => e = .returned (.bool (decide (2000 < l.length + tot l))) ∧ Fr (fun _ => False) w w' := by
  have HU := hid hU
  have hl' : l.length ≤ 140737488351232 := hl
  clear hU hl
  go_enter Tryd.func9, Tryd.ntmps9
  go_wp2_with fail
  go_loopw [3, 4] (fun nv iv wr => ∃ i n : Nat, i ≤ l.length ∧ iv = .int .i64 (i : Int) ∧ nv = .int .i64 (n : Int) ∧ n = l.length + tot (l.take i) ∧ n ≤ 1000000000000000 ∧ Fr (fun _ => False) w wr) (fun _ iv _ => l.length - (intOf iv).toNat)
  case atStart => exact ⟨0, l.length, Nat.zero_le _, rfl, rfl, by simp [tot], by omega, Fr.refl _ _⟩
  case round =>
    obtain ⟨i, n, hi, rfl, rfl, hn, hnb, hF⟩ := hrel
    have HF := hid hF
    have HN := hid hn
    clear hF hn
    by_cases hlt : i < l.length
    · have hi1 : (i : Int) < ((l.length : Nat) : Int) := by omega
      have hi0 : (0 : Int) ≤ (i : Int) := Int.natCast_nonneg _
      by_cases hm : n ≤ 2000
      · have hm' : (n : Int) ≤ 2000 := by omega
        obtain ⟨bb, bo, rfl⟩ := HU.out.some hlt
        obtain ⟨y, y1, y2⟩ := HU.out.get i hlt
        obtain ⟨_, _, k2, k3⟩ := (y1.env (Env.of HF.out)).all
        have q1 := y2.rl
        have q2 := y2.al
        have b1 : l[i].r.length ≤ 140737488351232 := y2.ok.r
        have b2 : l[i].a.length ≤ 140737488351232 := y2.ok.a
        have HT := hid (tot_take l i hlt)
        clear y1 y2
        rw [q1] at k2
        rw [q2] at k3
        generalize l[i].r.length = p1 at *
        generalize l[i].a.length = p2 at *
        clear q1 q2
        go_wp2_with fail
        go_quiet (fail)
        have HWn := hid (HF.out.drewN nq)
        go_wp2
        exact ⟨⟨i + 1, n + p1 + p2, by omega, by go_num, by go_num, by have h1 := HT.out; have h2 := HN.out; omega, by omega, HWn.out⟩, by simp [intOf]; omega⟩
      · have hm' : ¬ ((n : Int) ≤ 2000) := by omega
        have hm2 : (2000 : Int) < (n : Int) := by omega
        have HE : Hid (decide (2000 < l.length + tot l) = true) := decide_eq_true (by have h1 := HN.out; have h2 := tot_le l i; omega)
        go_wp2
        go_ret
        exact ⟨by rw [HE.out]; rfl, HF.out⟩
    · obtain rfl : i = l.length := by omega
      have hkn : ¬ ((l.length : Nat) : Int) < ((l.length : Nat) : Int) := by omega
      have HN2 : Hid (n = l.length + tot l) := by have := HN.out; rw [List.take_length] at this; exact this
      by_cases hm : 2000 < n
      · have hm2 : (2000 : Int) < (n : Int) := by omega
        have HE : Hid (decide (2000 < l.length + tot l) = true) := decide_eq_true (by have h1 := HN2.out; omega)
        go_wp2
        go_ret
        exact ⟨by rw [HE.out]; rfl, HF.out⟩
      · have hm2 : ¬ ((2000 : Int) < (n : Int)) := by omega
        have HE : Hid (decide (2000 < l.length + tot l) = false) := decide_eq_false (by have h1 := HN2.out; omega)
        go_wp2
        go_ret
        exact ⟨by rw [HE.out]; rfl, HF.out⟩
end Go.Proofs.YtcpeebkfnnkjnaaDoor.Tr
