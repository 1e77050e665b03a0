import Derived.Test.YtlepjghfcpgbcaaGreatDoorQutM
import Derived.Test.YtlepjghfcpgbcaaGreatDoorDruM
import Derived.Test.YtlepjghfcpgbcaaGreatDoorEge
import Derived.Test.YtlepjghfcpgbcaaGreatDoorVeq
import Derived.Deep.RegionHeld3
/- The contracts of both Texts over any value. (gen/gentxt.py) -/
namespace Go.Proofs.YtlepjghfcpgbcaaGreatDoor.Tr
open Go.RowKit

/-- What Text tells of fields x that are right, or not. -/
def txX (T : Nat → Nat × Nat) (x : Vv) (R : Bool) : List UInt8 × Int :=
  if R = false then ([], 1) else if x.k = 0 then ([110, 117, 108, 108], 0) else if x.k = 1 then ((if x.n = 1 then [116, 114, 117, 101] else [102, 97, 108, 115, 101]), 0)
  else if x.k = 2 then (Lib.itoa x.n, 0) else if x.k = 3 then (flT T x.f, 0) else if x.k = 4 then (x.t, 0) else ([], 11)
theorem itoaU (n : Int) (h : I64 n) {w W : World} (hT : TabU w) (e : Env w W) : Calls Tryz.prog 43 #[.int .i64 n, .int .i64 10] W fun e w' => e = .returned (.string ⟨(Lib.itoa n).toArray⟩) ∧ Fr (fun _ => False) W w' := by
  refine (Tryz.strconv_FormatInt_10 n h.1 h.2 W (hT.env e)).mono fun r w' hh => ⟨hh.1, ?_⟩
  obtain ⟨k, os, rfl⟩ := hh.2
  exact ⟨rfl, rfl, rfl, by simp [Sort.grow], fun i hi _ => by rw [Sort.heap_grow_old _ _ (by simpa using hi)]; rfl⟩
theorem fboolU (w : World) (q : Bool) : Calls Tryz.prog 42 #[.bool q] w fun e w' => e = .returned (.string ⟨(if q then [116, 114, 117, 101] else [102, 97, 108, 115, 101]).toArray⟩) ∧ w = w' := by
  refine (Tryz.strconv_FormatBool q w).mono fun e w' h => ⟨?_, h.2.symm⟩
  rw [h.1]
  cases q <;> rfl

set_option maxRecDepth 100000 in
set_option maxHeartbeats 4000000 in
theorem text_any {w W : World} {T : Nat → Nat × Nat} (hT : TwU w T) (x : Vv) (R : Bool) (hR : RightOf w x R) (hf : x.f < 18446744073709551616) (hn : I64 x.n) (e : Env w W) :
    Calls Tryz.prog 17 #[x.v] W fun e w' => e = .returned (.tuple #[.string ⟨(txX T x R).1.toArray⟩, .int .i64 (txX T x R).2]) ∧ Fr (fun _ => False) W w' := by
  have HB := hid (vBlk W x)
  have HF := hid (vFr W x)
  have HR := hid (hR _ (e.trans (Env.alloc W (.cells #[.int .i64 x.k, .int .i64 x.n, .float .f64 x.f, .string ⟨x.t.toArray⟩, .slice x.na x.nl x.nc, .slice x.ia x.il x.ic] 26))))
  have HI := hid (fun W' (e' : Env w W') => itoaU x.n hn hT.tab e')
  have HFl := hid (fun W' (e' : Env w W') => float_any (hT.env e') x.f hf)
  have HE := hid e
  clear hT hR hf hn e
  obtain ⟨k, n, f, t, na, nl, nc, ia, il, ic⟩ := x
  simp only [Vv.v] at *
  go_enter Tryz.func17, Tryz.ntmps17
  go_wp2_with fail
  refine HR.out.mono ?_
  rintro e w1 ⟨rfl, f1⟩
  have HB1 := hid (f1.blk HB.out (fun h => h))
  have HF1 := hid (HF.out.trans f1 (fun _ h => h.elim))
  have HE1 := hid (HE.out.trans (Env.of HF1.out))
  clear f1 HB HF HR HE
  obtain ⟨c0, c1, c2, c3, c4, c5⟩ := HB1.out.six
  have HI1 := hid (HI.out _ HE1.out)
  have HFl1 := hid (HFl.out _ HE1.out)
  clear HI HFl HB1
  cases R with
  | false =>
    have HRs : Hid (txX T ⟨k, n, f, t, na, nl, nc, ia, il, ic⟩ false = ([], 1)) := hid rfl
    go_wp2_with fail
    go_ret2
    exact ⟨by rw [HRs.out]; rfl, HF1.out⟩
  | true =>
    by_cases k0 : k = 0
    · subst k0
      have HRs : Hid (txX T ⟨0, n, f, t, na, nl, nc, ia, il, ic⟩ true = ([110, 117, 108, 108], 0)) := hid rfl
      go_wp2_with fail
      go_ret2
      exact ⟨by rw [HRs.out]; rfl, HF1.out⟩
    have q0 : ((k : Int) == 0) = false := by rw [beq_eq_false_iff_ne]; exact k0
    by_cases k1 : k = 1
    · subst k1
      have HRs : Hid (txX T ⟨1, n, f, t, na, nl, nc, ia, il, ic⟩ true = ((if n = 1 then [116, 114, 117, 101] else [102, 97, 108, 115, 101]), 0)) := hid rfl
      have HFb := hid (fboolU w1 (n == 1))
      have eb : (if (n == 1) = true then ([116, 114, 117, 101] : List UInt8) else [102, 97, 108, 115, 101]) = (if n = 1 then [116, 114, 117, 101] else [102, 97, 108, 115, 101]) := by simp
      rw [eb] at HFb
      clear eb
      generalize (if n = 1 then ([116, 114, 117, 101] : List UInt8) else [102, 97, 108, 115, 101]) = S at *
      go_wp2_with fail
      refine HFb.out.mono ?_
      rintro e w2 ⟨rfl, rfl⟩
      go_wp2_with fail
      go_ret2
      exact ⟨by rw [HRs.out]; rfl, HF1.out⟩
    have q1 : ((k : Int) == 1) = false := by rw [beq_eq_false_iff_ne]; exact k1
    by_cases k2 : k = 2
    · subst k2
      have HRs : Hid (txX T ⟨2, n, f, t, na, nl, nc, ia, il, ic⟩ true = (Lib.itoa n, 0)) := hid rfl
      generalize Lib.itoa n = S at *
      go_wp2_with fail
      refine HI1.out.mono ?_
      rintro e w2 ⟨rfl, f2⟩
      have HF1 := hid (HF1.out.trans f2 (fun _ h => h.elim))
      clear f2
      go_wp2_with fail
      go_ret2
      exact ⟨by rw [HRs.out]; rfl, HF1.out⟩
    have q2 : ((k : Int) == 2) = false := by rw [beq_eq_false_iff_ne]; exact k2
    by_cases k3 : k = 3
    · subst k3
      have HRs : Hid (txX T ⟨3, n, f, t, na, nl, nc, ia, il, ic⟩ true = (flT T f, 0)) := hid rfl
      generalize flT T f = S at *
      go_wp2_with fail
      refine HFl1.out.mono ?_
      rintro e w2 ⟨rfl, f2⟩
      have HF1 := hid (HF1.out.trans f2 (fun _ h => h.elim))
      clear f2
      go_wp2_with fail
      go_ret2
      exact ⟨by rw [HRs.out]; rfl, HF1.out⟩
    have q3 : ((k : Int) == 3) = false := by rw [beq_eq_false_iff_ne]; exact k3
    by_cases k4 : k = 4
    · subst k4
      have HRs : Hid (txX T ⟨4, n, f, t, na, nl, nc, ia, il, ic⟩ true = (t, 0)) := hid rfl
      go_wp2_with fail
      go_ret2
      exact ⟨by rw [HRs.out]; rfl, HF1.out⟩
    have q4 : ((k : Int) == 4) = false := by rw [beq_eq_false_iff_ne]; exact k4
    have HRs : Hid (txX T ⟨k, n, f, t, na, nl, nc, ia, il, ic⟩ true = ([], 11)) := by
      unfold Hid txX
      simp only [Bool.true_eq_false, if_false, if_neg k0, if_neg k1, if_neg k2, if_neg k3, if_neg k4]
    go_wp2_with fail
    go_ret2
    exact ⟨by rw [HRs.out]; rfl, HF1.out⟩

set_option maxRecDepth 100000 in
set_option maxHeartbeats 4000000 in
theorem rtext_any {w W : World} {T : Nat → Nat × Nat} (hT : TwU w T) (x : Vv) (R : Bool) (hR : RRightOf w x R) (hf : x.f < 18446744073709551616) (hn : I64 x.n) (e : Env w W) :
    Calls Tryz.prog 18 #[x.v] W fun e w' => e = .returned (.tuple #[.string ⟨(txX T x R).1.toArray⟩, .int .i64 (txX T x R).2]) ∧ Fr (fun _ => False) W w' := by
  have HB := hid (vBlk W x)
  have HF := hid (vFr W x)
  have HR := hid (hR _ (e.trans (Env.alloc W (.cells #[.int .i64 x.k, .int .i64 x.n, .float .f64 x.f, .string ⟨x.t.toArray⟩, .slice x.na x.nl x.nc, .slice x.ia x.il x.ic] 26))))
  have HI := hid (fun W' (e' : Env w W') => itoaU x.n hn hT.tab e')
  have HFl := hid (fun W' (e' : Env w W') => rfloat_any (hT.env e') x.f hf)
  have HE := hid e
  clear hT hR hf hn e
  obtain ⟨k, n, f, t, na, nl, nc, ia, il, ic⟩ := x
  simp only [Vv.v] at *
  go_enter Tryz.func18, Tryz.ntmps18
  go_wp2_with fail
  refine HR.out.mono ?_
  rintro e w1 ⟨rfl, f1⟩
  have HB1 := hid (f1.blk HB.out (fun h => h))
  have HF1 := hid (HF.out.trans f1 (fun _ h => h.elim))
  have HE1 := hid (HE.out.trans (Env.of HF1.out))
  clear f1 HB HF HR HE
  obtain ⟨c0, c1, c2, c3, c4, c5⟩ := HB1.out.six
  have HI1 := hid (HI.out _ HE1.out)
  have HFl1 := hid (HFl.out _ HE1.out)
  clear HI HFl HB1
  cases R with
  | false =>
    have HRs : Hid (txX T ⟨k, n, f, t, na, nl, nc, ia, il, ic⟩ false = ([], 1)) := hid rfl
    go_wp2_with fail
    go_ret2
    exact ⟨by rw [HRs.out]; rfl, HF1.out⟩
  | true =>
    by_cases k0 : k = 0
    · subst k0
      have HRs : Hid (txX T ⟨0, n, f, t, na, nl, nc, ia, il, ic⟩ true = ([110, 117, 108, 108], 0)) := hid rfl
      go_wp2_with fail
      go_ret2
      exact ⟨by rw [HRs.out]; rfl, HF1.out⟩
    have q0 : ((k : Int) == 0) = false := by rw [beq_eq_false_iff_ne]; exact k0
    by_cases k1 : k = 1
    · subst k1
      have HRs : Hid (txX T ⟨1, n, f, t, na, nl, nc, ia, il, ic⟩ true = ((if n = 1 then [116, 114, 117, 101] else [102, 97, 108, 115, 101]), 0)) := hid rfl
      by_cases n1 : n = 1
      · have HS : Hid ((if n = 1 then ([116, 114, 117, 101] : List UInt8) else [102, 97, 108, 115, 101]) = [116, 114, 117, 101]) := hid (if_pos n1)
        have qn : ((n : Int) == 1) = true := by rw [n1]; rfl
        clear n1
        go_wp2_with fail
        go_ret2
        exact ⟨by rw [HRs.out, HS.out]; rfl, HF1.out⟩
      · have HS : Hid ((if n = 1 then ([116, 114, 117, 101] : List UInt8) else [102, 97, 108, 115, 101]) = [102, 97, 108, 115, 101]) := hid (if_neg n1)
        have qn : ((n : Int) == 1) = false := by rw [beq_eq_false_iff_ne]; exact n1
        go_wp2_with fail
        go_ret2
        exact ⟨by rw [HRs.out, HS.out]; rfl, HF1.out⟩
    have q1 : ((k : Int) == 1) = false := by rw [beq_eq_false_iff_ne]; exact k1
    by_cases k2 : k = 2
    · subst k2
      have HRs : Hid (txX T ⟨2, n, f, t, na, nl, nc, ia, il, ic⟩ true = (Lib.itoa n, 0)) := hid rfl
      generalize Lib.itoa n = S at *
      go_wp2_with fail
      refine HI1.out.mono ?_
      rintro e w2 ⟨rfl, f2⟩
      have HF1 := hid (HF1.out.trans f2 (fun _ h => h.elim))
      clear f2
      go_wp2_with fail
      go_ret2
      exact ⟨by rw [HRs.out]; rfl, HF1.out⟩
    have q2 : ((k : Int) == 2) = false := by rw [beq_eq_false_iff_ne]; exact k2
    by_cases k3 : k = 3
    · subst k3
      have HRs : Hid (txX T ⟨3, n, f, t, na, nl, nc, ia, il, ic⟩ true = (flT T f, 0)) := hid rfl
      generalize flT T f = S at *
      go_wp2_with fail
      refine HFl1.out.mono ?_
      rintro e w2 ⟨rfl, f2⟩
      have HF1 := hid (HF1.out.trans f2 (fun _ h => h.elim))
      clear f2
      go_wp2_with fail
      go_ret2
      exact ⟨by rw [HRs.out]; rfl, HF1.out⟩
    have q3 : ((k : Int) == 3) = false := by rw [beq_eq_false_iff_ne]; exact k3
    by_cases k4 : k = 4
    · subst k4
      have HRs : Hid (txX T ⟨4, n, f, t, na, nl, nc, ia, il, ic⟩ true = (t, 0)) := hid rfl
      go_wp2_with fail
      go_ret2
      exact ⟨by rw [HRs.out]; rfl, HF1.out⟩
    have q4 : ((k : Int) == 4) = false := by rw [beq_eq_false_iff_ne]; exact k4
    have HRs : Hid (txX T ⟨k, n, f, t, na, nl, nc, ia, il, ic⟩ true = ([], 11)) := by
      unfold Hid txX
      simp only [Bool.true_eq_false, if_false, if_neg k0, if_neg k1, if_neg k2, if_neg k3, if_neg k4]
    go_wp2_with fail
    go_ret2
    exact ⟨by rw [HRs.out]; rfl, HF1.out⟩

end Go.Proofs.YtlepjghfcpgbcaaGreatDoor.Tr
/- The contract of the program's show over any value that is right. -/
namespace Go.Proofs.YtlepjghfcpgbcaaGreatDoor.Tr
open Go.RowKit

theorem Bs.env {b : Nat} {w0 w w' : World} {u u' : Value} (h : Bs b w w' u u') (e : Env w0 w) (hb : w0.heap.size ≤ b) (hu : ∀ k, u.ownBlock = some k → w0.heap.size ≤ k) : Env w0 w' ∧ ∀ k, u'.ownBlock = some k → w0.heap.size ≤ k := by
  refine ⟨e.fr h.fr ?_, ?_⟩
  · intro j hj
    rcases hj with hj | hj
    · omega
    · exact hu j hj
  · intro k hk
    rcases h.row with hr | ⟨g, hg, hg2⟩
    · rw [hr] at hk; exact hu k hk
    · rw [hg] at hk
      simp only [Option.some.injEq] at hk
      have := e.1
      omega
theorem rtLs_all {l : List Vt} {r : Nat} (h : rtL l r = true) : ∀ u ∈ l, rtB u r = true := by
  induction l with
  | nil => intro u hu; cases hu
  | cons a l ih =>
    rw [rtL_cons, Bool.and_eq_true] at h
    intro u hu
    rcases List.mem_cons.1 hu with rfl | hu
    · exact h.1
    · exact ih h.2 u hu
theorem rt_five {v : Vt} {r : Nat} (h5 : v.k = 5) (h : rtB v r = true) : ∀ u ∈ v.its, rtB u (r - 1) = true := by
  cases v with
  | mk k n f t ns its =>
    simp only [Vt.k] at h5
    subst h5
    rw [rtB, if_pos rfl] at h
    simp only [Bool.and_eq_true] at h
    exact rtLs_all h.1.2
theorem rt_six {v : Vt} {r : Nat} (h6 : v.k = 6) (h : rtB v r = true) : v.ns.length = v.its.length ∧ ∀ u ∈ v.its, rtB u (r - 1) = true := by
  cases v with
  | mk k n f t ns its =>
    simp only [Vt.k] at h6
    subst h6
    rw [rtB, if_neg (by decide), if_pos rfl] at h
    simp only [Bool.and_eq_true, decide_eq_true_eq] at h
    exact ⟨h.1.1.1, rtLs_all h.1.2.2⟩
theorem rt_low {v : Vt} {r s : Nat} (h5 : v.k ≠ 5) (h6 : v.k ≠ 6) : rtB v r = rtB v s := by
  cases v with
  | mk k n f t ns its =>
    simp only [Vt.k] at h5 h6
    rw [rtB, rtB, if_neg h5, if_neg h6, if_neg h5, if_neg h6]
theorem flV_parts {v : Vt} (h : flV v) : v.f < 18446744073709551616 ∧ ∀ u ∈ v.its, flV u := by
  cases v with
  | mk k n f t ns its =>
    rw [flV] at h
    exact ⟨h.1, flL_mem h.2⟩
/-- What show tells of a value. -/
def ShOf (T : Nat → Nat × Nat) (v : Vt) : Prop := ∀ (w0 w : World) (x : Vv) (b : Nat) (u : Value) (xs : List UInt8) (r : Nat), TwU w0 T → VIn w0 v x → flV v → r ≤ 32 → rtB v r = true → Env w0 w → w0.heap.size ≤ b → (∀ k, u.ownBlock = some k → w0.heap.size ≤ k) → Bd b u xs w → xs.length + (shT T v).length ≤ 10000000000 →
  Calls Tryz.prog 45 #[pv b, x.v] w fun e w' => e = .returned (.tuple #[]) ∧ ∃ u', Bd b u' (xs ++ shT T v) w' ∧ Bs b w w' u u'

theorem hshow_next {T : Nat → Nat × Nat} {v : Vt} (h : ShOf T v) (w0 w : World) (x : Vv) (b : Nat) (u : Value) (xs : List UInt8) (r : Nat) (h1 : TwU w0 T) (h2 : VIn w0 v x) (h3 : flV v) (h4 : r ≤ 32) (h5 : rtB v r = true) (h6 : Env w0 w) (h7 : w0.heap.size ≤ b) (h8 : ∀ k, u.ownBlock = some k → w0.heap.size ≤ k) (h9 : Bd b u xs w) (h10 : xs.length + (shT T v).length ≤ 10000000000) :
    Calls Tryz.prog 45 #[pv b, x.v] w fun e w' => e = .returned (.tuple #[]) ∧ ∃ u', Bd b u' (xs ++ shT T v) w' ∧ Bs b w w' u u' := h w0 w x b u xs r h1 h2 h3 h4 h5 h6 h7 h8 h9 h10

set_option maxRecDepth 100000 in
set_option maxHeartbeats 4000000 in
theorem showList_of (T : Nat → Nat × Nat) (l : List Vt) (hS : ∀ v ∈ l, ShOf T v ∧ flV v) (w0 w : World) (ad : Option Addr) (cap b : Nat) (u : Value) (xs : List UInt8) (r : Nat) (hT : TwU w0 T) (hI : IIn w0 l ad) (hlim : l.length ≤ lim) (hr : r ≤ 32) (hrt : ∀ v ∈ l, rtB v r = true) (e : Env w0 w) (hb : w0.heap.size ≤ b) (hu : ∀ k, u.ownBlock = some k → w0.heap.size ≤ k) (hB : Bd b u xs w) (hlen : xs.length + (([91] ++ shL T l ++ [32, 93]).length) ≤ 10000000000) :
    Calls Tryz.prog 84 #[pv b, .slice ad l.length cap] w fun e w' => e = .returned (.tuple #[]) ∧ ∃ u', Bd b u' (xs ++ ([91] ++ shL T l ++ [32, 93])) w' ∧ Bs b w w' u u' := by
  have hl : l.length ≤ 140737488351232 := hlim
  have hst := fun (W : World) (a : Addr) (m : Mode) (f : Nat) => run_store Tryz.prog W a (.float .f64 f) m rfl
  have hlen2 : xs.length + 1 + (shL T l).length + 2 ≤ 10000000000 := by
    simp only [List.length_append, List.length_cons, List.length_nil] at hlen
    omega
  have HC := hid (wrS_any w b u xs [91] hB (by simp; omega))
  have HS := hid hS
  have HI := hid hI
  have HT := hid hT
  have HRt := hid hrt
  have HEn := hid e
  have HU := hid hu
  have HBb := hid hb
  obtain ⟨R, hR⟩ : ∃ R, R = xs ++ ([91] ++ shL T l ++ [32, 93]) := ⟨_, rfl⟩
  rw [← hR]
  have HR := hid hR
  clear hS hI hlim hT hrt hB hlen e hu hb hR
  go_enter Tryz.func84, Tryz.ntmps84
  go_wp2_with fail
  refine HC.out.mono ?_
  rintro e w1 ⟨rfl, u1, d1, s1⟩
  have HD1 := hid d1
  have HS1 := hid s1
  clear d1 s1 HC
  go_wp2_with fail
  go_loopw [10] (fun iv wr => ∃ i : Nat, i ≤ l.length ∧ iv = .int .i64 (i : Int) ∧ ∃ uk X, X ++ shL T (l.drop i) = xs ++ [91] ++ shL T l ∧ Bd b uk X wr ∧ Bs b w wr u uk) (fun iv _ => l.length - (intOf iv).toNat)
  case atStart => exact ⟨0, Nat.zero_le _, rfl, u1, _, by rw [List.drop_zero], HD1.out, HS1.out⟩
  case round =>
    obtain ⟨i, hi, rfl, uk, X, hX, hd, hs⟩ := hrel
    clear HD1 HS1
    have HD := hid hd
    have HSs := hid hs
    have hXl : X.length + (shL T (l.drop i)).length ≤ 10000000000 - 2 := by
      have := congrArg List.length hX
      simp only [List.length_append, List.length_cons, List.length_nil] at this
      omega
    have HX := hid hX
    have HXl := hid hXl
    have hEn := hs.env HEn.out HBb.out HU.out
    have HEk := hid hEn.1
    have HUk := hid hEn.2
    clear hd hs hX hXl hEn
    by_cases hlt : i < l.length
    · have hlt' : (i : Int) < ((l.length : Nat) : Int) := by omega
      obtain ⟨ib, io, e1⟩ := HI.out.some (by intro e; rw [e] at hlt; simp at hlt)
      subst e1
      obtain ⟨y, e2, e3⟩ := HI.out.get i hlt
      obtain ⟨k0, k1, k2, k3, k4, k5⟩ := (e2.env HEk.out).six
      have hdr := shL_drop T l i hlt
      have HN : Hid (∀ Y, Y = X ++ [32] ++ shT T l[i] → Y ++ shL T (l.drop (i + 1)) = xs ++ [91] ++ shL T l) := fun Y hY => by
        rw [hY, ← HX.out, hdr]
        simp only [List.append_assoc]
      have hl2 : X.length + 1 + (shT T l[i]).length ≤ 10000000000 := by
        have h := HXl.out
        rw [hdr] at h
        simp only [List.length_append, List.length_cons, List.length_nil] at h
        omega
      have HL2 := hid hl2
      have HV := hid e3
      have hm := List.getElem_mem hlt
      have HSh := hid (hshow_next (HS.out _ hm).1)
      have HFl := hid (HS.out _ hm).2
      have HRi := hid (HRt.out _ hm)
      have HBx := hid (vBlk wr y)
      have HFx := hid (vFr wr y)
      have HWr := hid (wrS_any (vBox wr y) b uk X [32] (HD.out.same HFx.out) (by have := HL2.out; simp; omega))
      have hsz := HD.out.lt
      have hok := HD.out.own
      have HNo : Hid (∀ k, uk.ownBlock = some k → k ≠ wr.heap.size) := fun k hk => by have := (hok.lt k hk).2; omega
      clear e2 e3 hdr hl2 hm hok
      generalize l[i] = v at *
      go_wp2_with fail
      refine HWr.out.mono ?_
      rintro e w2 ⟨rfl, u2, d2, s2⟩
      have hB2 := s2.fr.blk HBx.out (by
        intro h
        rcases h with h | h
        · omega
        · exact HNo.out _ h rfl)
      have HD2 := hid d2
      have HS2 := hid (HSs.out.trans (Bs.ahead HFx.out s2))
      have hE2 := HS2.out.env HEn.out HBb.out HU.out
      have HE2 := hid hE2.1
      have HU2 := hid hE2.2
      obtain ⟨c0, c1, c2, c3, c4, c5⟩ := hB2.six
      clear d2 s2 HWr hB2 hE2 k0 k1 k2 k3 k4 k5
      have HCs := hid (HSh.out w0 w2 y b u2 (X ++ [32]) r HT.out HV.out HFl.out hr HRi.out HE2.out HBb.out HU2.out HD2.out (by have := HL2.out; simp only [List.length_append, List.length_cons, List.length_nil]; omega))
      simp only [Vv.v] at HCs
      go_wp2_with fail
      refine HCs.out.mono ?_
      rintro e w3 ⟨rfl, u3, d3, s3⟩
      have HD3 := hid d3
      have HS3 := hid (HS2.out.trans s3)
      have HNY := hid (HN.out _ rfl)
      clear d3 s3 HCs c0 c1 c2 c3 c4 c5
      go_wp2_with fail
      exact ⟨⟨i + 1, by omega, by first | rfl | (congr 1), u3, _, HNY.out, HD3.out, HS3.out⟩, by simp [intOf]; omega⟩
    · have hlt' : ¬ (i : Int) < ((l.length : Nat) : Int) := by omega
      have HE : Hid (xs ++ ([91] ++ shL T l ++ [32, 93]) = X ++ [32, 93]) := by
        have h := HX.out
        rw [List.drop_eq_nil_of_le (by omega), shL, List.append_nil] at h
        unfold Hid
        rw [h]
        simp only [List.append_assoc]
      have HWr := hid (wrS_any wr b uk X [32, 93] HD.out (by have := HXl.out; simp; omega))
      go_wp2_with fail
      refine HWr.out.mono ?_
      rintro e w2 ⟨rfl, u2, d2, s2⟩
      have HD2 := hid d2
      have HS2 := hid (HSs.out.trans s2)
      clear d2 s2
      go_wp2_with fail
      go_end0
      exact ⟨rfl, u2, by rw [HR.out, HE.out]; exact HD2.out, HS2.out⟩
end Go.Proofs.YtlepjghfcpgbcaaGreatDoor.Tr
/- The contract of the program's showSet. -/
namespace Go.Proofs.YtlepjghfcpgbcaaGreatDoor.Tr
open Go.RowKit

set_option maxRecDepth 100000 in
set_option maxHeartbeats 8000000 in
theorem showSet_of (T : Nat → Nat × Nat) (v : Vt) (hS : ∀ q ∈ v.its, ShOf T q ∧ flV q) (w0 w : World) (x : Vv) (b : Nat) (u : Value) (xs : List UInt8) (r : Nat) (hT : TwU w0 T) (hV : VIn w0 v x) (hr : r ≤ 32) (hrt : ∀ q ∈ v.its, rtB q r = true) (hnl : v.ns.length = v.its.length) (e : Env w0 w) (hb : w0.heap.size ≤ b) (hu : ∀ k, u.ownBlock = some k → w0.heap.size ≤ k) (hB : Bd b u xs w) (hlen : xs.length + (([123] ++ shS T v.ns v.its ++ [32, 125]).length) ≤ 10000000000) :
    Calls Tryz.prog 85 #[pv b, x.v] w fun e w' => e = .returned (.tuple #[]) ∧ ∃ u', Bd b u' (xs ++ ([123] ++ shS T v.ns v.its ++ [32, 125])) w' ∧ Bs b w w' u u' := by
  obtain ⟨p0, ⟨q1, q2, q3, hsl⟩, ⟨p5, _, hl0, hst0⟩, ⟨p6, _, hlim⟩, hI⟩ := hV.parts
  clear p0 q1 q2 q3
  have hst := fun (W : World) (a : Addr) (m : Mode) (f : Nat) => run_store Tryz.prog W a (.float .f64 f) m rfl
  have hl : v.its.length ≤ 140737488351232 := hlim
  have hlen2 : xs.length + 1 + (shS T v.ns v.its).length + 2 ≤ 10000000000 := by
    simp only [List.length_append, List.length_cons, List.length_nil] at hlen
    omega
  have HBx := hid (vBlk w x)
  have HFx := hid (vFr w x)
  have HC := hid (wrS_any (vBox w x) b u xs [123] (hB.same (vFr w x)) (by simp; omega))
  have hbl := hB.lt
  have hub : ∀ k, u.ownBlock = some k → k ≠ w.heap.size := fun k hk => by have := (hB.own.lt k hk).2; omega
  have HUb := hid hub
  have HS := hid hS
  have HI := hid hI
  have HSt := hid hst0
  have HSl := hid hsl
  have HT := hid hT
  have HRt := hid hrt
  have HEn := hid e
  have HU := hid hu
  have HBb := hid hb
  obtain ⟨R, hR⟩ : ∃ R, R = xs ++ ([123] ++ shS T v.ns v.its ++ [32, 125]) := ⟨_, rfl⟩
  rw [← hR]
  have HR := hid hR
  have hnl2 : x.nl = v.its.length := by rw [p5, hnl]
  have hEx := HEn.out.trans (Env.of HFx.out)
  have HEx := hid hEx
  clear hS hI hlim hT hrt hB hlen e hu hb hR hub hsl hst0 hl0 hV hEx p5
  generalize v.ns = ns at *
  generalize v.its = l at *
  obtain ⟨k, n, f, t, na, nl, nc, ia, il, ic⟩ := x
  simp only at hnl2 p6
  subst hnl2 p6
  simp only [Vv.v] at *
  generalize hbx : w.heap.size = bx at *
  go_enter Tryz.func85, Tryz.ntmps85
  go_wp2_with fail
  refine HC.out.mono ?_
  rintro e w1 ⟨rfl, u1, d1, s1⟩
  have hB1 := s1.fr.blk HBx.out (by
    intro h
    rcases h with h | h
    · omega
    · exact HUb.out _ h rfl)
  have HD1 := hid d1
  have HS1 := hid s1
  have HB1 := hid hB1
  have HN1 : Hid (∀ k, u1.ownBlock = some k → k ≠ bx) := fun k hk => by
    rcases s1.row with hr | ⟨g, hg, hg2⟩
    · rw [hr] at hk; exact HUb.out k hk
    · rw [hg] at hk
      simp only [Option.some.injEq] at hk
      rw [World.size_alloc] at hg2
      omega
  obtain ⟨c0, c1, c2, c3, c4, c5⟩ := hB1.six
  have HSz1 : Hid (bx < w1.heap.size) := hB1.lt
  clear d1 s1 HC hB1
  go_wp2_with fail
  clear c0 c1 c2 c3 c4 c5
  go_loopw [11] (fun iv wr => ∃ i : Nat, i ≤ l.length ∧ iv = .int .i64 (i : Int) ∧ ∃ uk X, X ++ shS T (ns.drop i) (l.drop i) = xs ++ [123] ++ shS T ns l ∧ Bd b uk X wr ∧ Bs b (vBox w ⟨k, n, f, t, na, l.length, nc, ia, l.length, ic⟩) wr u uk ∧ (∀ q, uk.ownBlock = some q → q ≠ bx) ∧ Blk wr bx 26 (Vv.cs ⟨k, n, f, t, na, l.length, nc, ia, l.length, ic⟩)) (fun iv _ => l.length - (intOf iv).toNat)
  case atStart => exact ⟨0, Nat.zero_le _, rfl, u1, _, by rw [List.drop_zero, List.drop_zero], HD1.out, HS1.out, HN1.out, HB1.out⟩
  case round =>
    obtain ⟨i, hi, rfl, uk, X, hX, hd, hs, hn, hbk⟩ := hrel
    clear HD1 HS1 HN1 HB1
    have HD := hid hd
    have HSs := hid hs
    have hXl : X.length + (shS T (ns.drop i) (l.drop i)).length ≤ 10000000000 - 2 := by
      have := congrArg List.length hX
      simp only [List.length_append, List.length_cons, List.length_nil] at this
      omega
    have HX := hid hX
    have HXl := hid hXl
    have hEn := hs.env HEx.out HBb.out HU.out
    have HEk := hid hEn.1
    have HUk := hid hEn.2
    have HNk := hid hn
    have HBk := hid hbk
    clear hd hs hX hXl hEn hn hbk
    by_cases hlt : i < l.length
    · have hlt' : (i : Int) < ((l.length : Nat) : Int) := by omega
      have hltn : i < ns.length := by omega
      obtain ⟨nb, no, en, hnc⟩ := HSt.out (by intro e; rw [e] at hltn; simp at hltn)
      subst en
      have hcn := HEk.out.cell (hnc i hltn)
      obtain ⟨ib, io, e1⟩ := HI.out.some (by intro e; rw [e] at hlt; simp at hlt)
      subst e1
      obtain ⟨y, e2, e3⟩ := HI.out.get i hlt
      have hdr := shS_drop T ns l i hlt hltn
      have HN : Hid (∀ Y, Y = X ++ [32] ++ qoT ns[i] ++ [61] ++ shT T l[i] ++ [59] → Y ++ shS T (ns.drop (i + 1)) (l.drop (i + 1)) = xs ++ [123] ++ shS T ns l) := fun Y hY => by
        rw [hY, ← HX.out, hdr]
        simp only [List.append_assoc]
      have hl2 : X.length + 1 + (qoT ns[i]).length + 1 + (shT T l[i]).length + 1 ≤ 10000000000 := by
        have h := HXl.out
        rw [hdr] at h
        simp only [List.length_append, List.length_cons, List.length_nil] at h
        omega
      have hqs : ns[i].length ≤ (qoT ns[i]).length := by
        unfold qoT
        simp only [List.length_append, List.length_cons, List.length_nil]
        have : ∀ s : List UInt8, s.length ≤ (s.flatMap escB).length := by
          intro s
          induction s with
          | nil => simp
          | cons a s ih =>
            have : 1 ≤ (escB a).length := by
              unfold escB
              repeat' split
              all_goals simp
            simp only [List.flatMap_cons, List.length_append, List.length_cons]
            omega
        have := this ns[i]
        omega
      have HL2 := hid hl2
      have HV := hid e3
      have HY := hid e2
      have hm := List.getElem_mem hlt
      have HSh := hid (hshow_next (HS.out _ hm).1)
      have HFl := hid (HS.out _ hm).2
      have HRi := hid (HRt.out _ hm)
      have hsn : ns[i].length ≤ 140737488351232 := HSl.out _ (List.getElem_mem hltn)
      have HWr := hid (wrS_any wr b uk X [32] HD.out (by have := HL2.out; simp; omega))
      clear e2 e3 hdr hl2 hm hnc
      generalize l[i] = v at *
      generalize ns[i] = s at *
      go_wp2_with fail
      refine HWr.out.mono ?_
      rintro e w2 ⟨rfl, u2, d2, s2⟩
      have HD2 := hid d2
      have HS2 := hid (HSs.out.trans s2)
      have HQt := hid (quote_any w2 b u2 (X ++ [32]) s HD2.out (by have := HL2.out; simp only [List.length_append, List.length_cons, List.length_nil]; omega))
      clear d2 s2 HWr
      go_wp2_with fail
      refine HQt.out.mono ?_
      rintro e w3 ⟨rfl, u3, d3, s3⟩
      have HD3 := hid d3
      have HS3 := hid (HS2.out.trans s3)
      have HWr := hid (wrS_any w3 b u3 (X ++ [32] ++ qoT s) [61] HD3.out (by have := HL2.out; simp only [List.length_append, List.length_cons, List.length_nil]; omega))
      clear d3 s3 HQt
      go_wp2_with fail
      refine HWr.out.mono ?_
      rintro e w4 ⟨rfl, u4, d4, s4⟩
      have HD4 := hid d4
      have hs4 := HS3.out.trans s4
      have HS4 := hid hs4
      have hB4 : Blk w4 bx 26 (Vv.cs ⟨k, n, f, t, some ⟨nb, no, none⟩, l.length, nc, some ⟨ib, io, none⟩, l.length, ic⟩) := hs4.fr.blk HBx.out (by
        intro h
        rcases h with h | h
        · omega
        · exact HUb.out _ h rfl)
      have HN4 : Hid (∀ k, u4.ownBlock = some k → k ≠ bx) := fun k hk => by
        rcases hs4.row with hr | ⟨g, hg, hg2⟩
        · rw [hr] at hk; exact HUb.out k hk
        · rw [hg] at hk
          simp only [Option.some.injEq] at hk
          rw [World.size_alloc] at hg2
          omega
      have hE4 := hs4.env HEx.out HBb.out HU.out
      have HE4 := hid hE4.1
      have HU4 := hid hE4.2
      obtain ⟨c0, c1, c2, c3, c4, c5⟩ := hB4.six
      obtain ⟨k0, k1, k2, k3, k4, k5⟩ := (HY.out.env HE4.out).six
      clear d4 s4 HWr hs4 hB4 hE4 hcn
      have HCs := hid (HSh.out w0 w4 y b u4 (X ++ [32] ++ qoT s ++ [61]) r HT.out HV.out HFl.out hr HRi.out HE4.out HBb.out HU4.out HD4.out (by have := HL2.out; simp only [List.length_append, List.length_cons, List.length_nil]; omega))
      simp only [Vv.v] at HCs
      go_wp2_with fail
      refine HCs.out.mono ?_
      rintro e w5 ⟨rfl, u5, d5, s5⟩
      have HD5 := hid d5
      have HS5 := hid (HS4.out.trans s5)
      have HWr := hid (wrS_any w5 b u5 _ [59] HD5.out (by have := HL2.out; simp only [List.length_append, List.length_cons, List.length_nil]; omega))
      clear d5 s5 HCs c0 c1 c2 c3 c4 c5 k0 k1 k2 k3 k4 k5
      go_wp2_with fail
      refine HWr.out.mono ?_
      rintro e w6 ⟨rfl, u6, d6, s6⟩
      have HD6 := hid d6
      have hs6 := HS5.out.trans s6
      have HS6 := hid hs6
      have hB6 : Blk w6 bx 26 (Vv.cs ⟨k, n, f, t, some ⟨nb, no, none⟩, l.length, nc, some ⟨ib, io, none⟩, l.length, ic⟩) := hs6.fr.blk HBx.out (by
        intro h
        rcases h with h | h
        · omega
        · exact HUb.out _ h rfl)
      have HB6 := hid hB6
      have HN6 : Hid (∀ k, u6.ownBlock = some k → k ≠ bx) := fun k hk => by
        rcases hs6.row with hr | ⟨g, hg, hg2⟩
        · rw [hr] at hk; exact HUb.out k hk
        · rw [hg] at hk
          simp only [Option.some.injEq] at hk
          rw [World.size_alloc] at hg2
          omega
      have HNY := hid (HN.out _ rfl)
      clear d6 s6 hs6 hB6 HWr
      go_wp2_with fail
      exact ⟨⟨i + 1, by omega, by first | rfl | (congr 1), u6, _, HNY.out, HD6.out, HS6.out, HN6.out, HB6.out⟩, by simp [intOf]; omega⟩
    · have hlt' : ¬ (i : Int) < ((l.length : Nat) : Int) := by omega
      have HE : Hid (xs ++ ([123] ++ shS T ns l ++ [32, 125]) = X ++ [32, 125]) := by
        have h := HX.out
        rw [show l.drop i = [] from List.drop_eq_nil_of_le (by omega), shS, List.append_nil] at h
        unfold Hid
        rw [h]
        simp only [List.append_assoc]
      have HWr := hid (wrS_any wr b uk X [32, 125] HD.out (by have := HXl.out; simp; omega))
      go_wp2_with fail
      refine HWr.out.mono ?_
      rintro e w2 ⟨rfl, u2, d2, s2⟩
      have HD2 := hid d2
      have HS2 := hid (Bs.ahead HFx.out (HSs.out.trans s2))
      clear d2 s2
      go_wp2_with fail
      go_end0
      exact ⟨rfl, u2, by rw [HR.out, HE.out]; exact HD2.out, HS2.out⟩
end Go.Proofs.YtlepjghfcpgbcaaGreatDoor.Tr
/- The contracts of the program's show and Show over any value. -/
namespace Go.Proofs.YtlepjghfcpgbcaaGreatDoor.Tr
open Go.RowKit

theorem rs_kind {x : Vv} (h : rightS x = true) : 0 ≤ x.k ∧ x.k ≤ 7 := by
  unfold rightS at h
  repeat' (split at h)
  all_goals first | (simp at h; done) | omega
theorem shT_7 {T : Nat → Nat × Nat} {v : Vt} (h : v.k = 7) : shT T v = [102, 117, 110, 99, 116, 105, 111, 110] := by
  cases v; simp only [Vt.k] at h; rw [shT, if_pos h]
theorem shT_4 {T : Nat → Nat × Nat} {v : Vt} (h : v.k = 4) : shT T v = qoT v.t := by
  cases v; simp only [Vt.k] at h; subst h; rw [shT, if_neg (by decide), if_pos rfl]; rfl
theorem shT_5 {T : Nat → Nat × Nat} {v : Vt} (h : v.k = 5) : shT T v = [91] ++ shL T v.its ++ [32, 93] := by
  cases v; simp only [Vt.k] at h; subst h; rw [shT, if_neg (by decide), if_neg (by decide), if_pos rfl]; rfl
theorem shT_6 {T : Nat → Nat × Nat} {v : Vt} (h : v.k = 6) : shT T v = [123] ++ shS T v.ns v.its ++ [32, 125] := by
  cases v; simp only [Vt.k] at h; subst h; rw [shT, if_neg (by decide), if_neg (by decide), if_neg (by decide), if_pos rfl]; rfl
theorem shT_tx {T : Nat → Nat × Nat} {v : Vt} (h7 : v.k ≠ 7) (h4 : v.k ≠ 4) (h5 : v.k ≠ 5) (h6 : v.k ≠ 6) : shT T v = txT T v.k v.n v.f v.t := by
  cases v; simp only [Vt.k] at *; rw [shT, if_neg h7, if_neg h4, if_neg h5, if_neg h6]; rfl
theorem tx_tx {T : Nat → Nat × Nat} {x : Vv} (h0 : 0 ≤ x.k) (h3 : x.k ≤ 3) : (txX T x true).1 = txT T x.k x.n x.f x.t ∧ (txX T x true).2 = 0 := by
  obtain ⟨k, n, f, t, na, nl, nc, ia, il, ic⟩ := x
  simp only at h0 h3
  have : k = 0 ∨ k = 1 ∨ k = 2 ∨ k = 3 := by omega
  rcases this with rfl | rfl | rfl | rfl
  · exact ⟨rfl, rfl⟩
  · exact ⟨rfl, rfl⟩
  · exact ⟨rfl, rfl⟩
  · exact ⟨rfl, rfl⟩
theorem rt_S {v : Vt} {r : Nat} (h5 : v.k ≠ 5) (h6 : v.k ≠ 6) (h : rtB v r = true) : 0 ≤ v.k ∧ v.k ≤ 7 := by
  cases v with
  | mk k n f t ns its =>
    simp only [Vt.k] at *
    rw [rtB, if_neg h5, if_neg h6] at h
    exact rs_kind h

set_option maxRecDepth 100000 in
set_option maxHeartbeats 4000000 in
theorem show_tree (T : Nat → Nat × Nat) : ∀ (m : Nat) (v : Vt), SizeOf.sizeOf v ≤ m → ShOf T v := by
  intro m
  induction m with
  | zero =>
    intro v hv
    exfalso
    cases v
    simp only [Vt.mk.sizeOf_spec] at hv
    omega
  | succ m ih =>
    intro v hv w0 w x b u xs r hT hV hf hr hrt e hb hu hB hlen
    have HIh := hid (fun q (hq : q ∈ v.its) => And.intro (ih q (by have := Vt.its_lt hq; omega)) ((flV_parts hf).2 q hq))
    have HB := hid (vBlk w x)
    have HF := hid (vFr w x)
    have hB1 := hB.same (vFr w x)
    have HE1 := hid (e.trans (Env.of (vFr w x)))
    obtain ⟨p1, p2, p3, p4⟩ := hV.parts.1
    by_cases h7 : v.k = 7
    · have hk : x.k = 7 := by rw [p1, h7]
      have HW := hid (wrS_any (vBox w x) b u xs [102, 117, 110, 99, 116, 105, 111, 110] hB1 (by rw [shT_7 h7] at hlen; simp at hlen ⊢; omega))
      have HR := hid (shT_7 (T := T) h7)
      clear hT hV hf hrt e hu hB hlen hv ih HIh HE1 p1 p2 p3 p4 h7 hB1
      obtain ⟨k, n, f, t, na, nl, nc, ia, il, ic⟩ := x
      simp only at hk
      subst hk
      simp only [Vv.v] at *
      go_enter Tryz.func45, Tryz.ntmps45
      go_wp2_with fail
      refine HW.out.mono ?_
      rintro e w2 ⟨rfl, u2, d2, s2⟩
      have HD2 := hid d2
      have HS2 := hid (Bs.ahead HF.out s2)
      clear d2 s2
      go_wp2_with fail
      go_end0
      exact ⟨rfl, u2, by rw [HR.out]; exact HD2.out, HS2.out⟩
    by_cases h4 : v.k = 4
    · have hk : x.k = 4 := by rw [p1, h4]
      have hq := shT_4 (T := T) h4
      have hqs : 2 * x.t.length ≤ 2 * (qoT v.t).length := by
        rw [p4]
        unfold qoT
        simp only [List.length_append, List.length_cons, List.length_nil]
        have : ∀ s : List UInt8, s.length ≤ (s.flatMap escB).length := by
          intro s
          induction s with
          | nil => simp
          | cons a s ih =>
            have : 1 ≤ (escB a).length := by
              unfold escB
              repeat' split
              all_goals simp
            simp only [List.flatMap_cons, List.length_append, List.length_cons]
            omega
        have := this v.t
        omega
      have HW := hid (quote_any (vBox w x) b u xs x.t hB1 (by rw [hq] at hlen; omega))
      have HR : Hid (shT T v = qoT x.t) := by unfold Hid; rw [hq, p4]
      clear hT hV hf hrt e hu hB hlen hv ih HIh HE1 p1 p2 p3 p4 h7 h4 hB1 hq hqs
      obtain ⟨k, n, f, t, na, nl, nc, ia, il, ic⟩ := x
      simp only at hk
      subst hk
      obtain ⟨c0, c1, c2, c3, c4, c5⟩ := HB.out.six
      simp only [Vv.v] at *
      go_enter Tryz.func45, Tryz.ntmps45
      go_wp2_with fail
      refine HW.out.mono ?_
      rintro e w2 ⟨rfl, u2, d2, s2⟩
      have HD2 := hid d2
      have HS2 := hid (Bs.ahead HF.out s2)
      clear d2 s2
      go_wp2_with fail
      go_end0
      exact ⟨rfl, u2, by rw [HR.out]; exact HD2.out, HS2.out⟩
    by_cases h5 : v.k = 5
    · have hk : x.k = 5 := by rw [p1, h5]
      have hq := shT_5 (T := T) h5
      have hil := hV.parts.2.2.2.1.1
      have HW := hid (showList_of T v.its HIh.out w0 (vBox w x) x.ia x.ic b u xs (r - 1) hT hV.parts.2.2.2.2 hV.parts.2.2.2.1.2.2 (by omega) (rt_five h5 hrt) HE1.out hb hu hB1 (by rw [← hq]; exact hlen))
      rw [← hq, ← hil] at HW
      clear hT hV hf hrt e hu hB hlen hv ih HIh HE1 p1 p2 p3 p4 h7 h4 h5 hB1 hq hil
      obtain ⟨k, n, f, t, na, nl, nc, ia, il, ic⟩ := x
      simp only at hk
      subst hk
      obtain ⟨c0, c1, c2, c3, c4, c5⟩ := HB.out.six
      simp only [Vv.v] at *
      go_enter Tryz.func45, Tryz.ntmps45
      go_wp2_with fail
      refine HW.out.mono ?_
      rintro e w2 ⟨rfl, u2, d2, s2⟩
      have HD2 := hid d2
      have HS2 := hid (Bs.ahead HF.out s2)
      clear d2 s2
      go_wp2_with fail
      go_end0
      exact ⟨rfl, u2, HD2.out, HS2.out⟩
    by_cases h6 : v.k = 6
    · have hk : x.k = 6 := by rw [p1, h6]
      have hq := shT_6 (T := T) h6
      have h66 := rt_six h6 hrt
      have HW := hid (showSet_of T v HIh.out w0 (vBox w x) x b u xs (r - 1) hT hV (by omega) h66.2 h66.1 HE1.out hb hu hB1 (by rw [← hq]; exact hlen))
      rw [← hq] at HW
      clear hT hV hf hrt e hu hB hlen hv ih HIh HE1 p1 p2 p3 p4 h7 h4 h5 h6 hB1 hq h66
      obtain ⟨k, n, f, t, na, nl, nc, ia, il, ic⟩ := x
      simp only at hk
      subst hk
      obtain ⟨c0, c1, c2, c3, c4, c5⟩ := HB.out.six
      simp only [Vv.v] at *
      go_enter Tryz.func45, Tryz.ntmps45
      go_wp2_with fail
      refine HW.out.mono ?_
      rintro e w2 ⟨rfl, u2, d2, s2⟩
      have HD2 := hid d2
      have HS2 := hid (Bs.ahead HF.out s2)
      clear d2 s2
      go_wp2_with fail
      go_end0
      exact ⟨rfl, u2, HD2.out, HS2.out⟩
    have hk := rt_S h5 h6 hrt
    have hk3 : v.k ≤ 3 := by omega
    have h32 : rtB v 32 = true := by rw [rt_low (s := r) h5 h6]; exact hrt
    have hR := right_any hV
    rw [h32] at hR
    have hx3 : 0 ≤ x.k ∧ x.k ≤ 3 := by omega
    have htx := tx_tx (T := T) hx3.1 hx3.2
    have hq : shT T v = (txX T x true).1 := by rw [shT_tx h7 h4 h5 h6, htx.1, p1, p2, p3, p4]
    have HX := hid (text_any hT x true hR (by rw [p3]; exact (flV_parts hf).1) (by rw [p2]; exact hV.parts.2.1.2.1) HE1.out)
    rw [← hq, htx.2] at HX
    have hl2 : xs.length + (shT T v).length ≤ 10000000000 := hlen
    have g7 : ((x.k : Int) == 7) = false := by rw [beq_eq_false_iff_ne]; omega
    have g4 : ((x.k : Int) == 4) = false := by rw [beq_eq_false_iff_ne]; omega
    have g5 : ((x.k : Int) == 5) = false := by rw [beq_eq_false_iff_ne]; omega
    have g6 : ((x.k : Int) == 6) = false := by rw [beq_eq_false_iff_ne]; omega
    have HBd := hid hB1
    clear hT hV hf hrt e hu hB hlen hv ih HIh HE1 p1 p2 p3 p4 h7 h4 h5 h6 hB1 hq hk hk3 h32 hR hx3 htx
    generalize shT T v = S at *
    obtain ⟨c0, c1, c2, c3, c4, c5⟩ := HB.out.six
    obtain ⟨k, n, f, t, na, nl, nc, ia, il, ic⟩ := x
    simp only [Vv.v] at *
    go_enter Tryz.func45, Tryz.ntmps45
    go_wp2_with fail
    refine HX.out.mono ?_
    rintro e w1 ⟨rfl, f1⟩
    have HW := hid (wrS_any w1 b u xs S (HBd.out.same f1) (by omega))
    have HF1 := hid (HF.out.trans f1 (fun _ h => h.elim))
    clear f1 c0 c1 c2 c3 c4 c5
    go_wp2_with fail
    refine HW.out.mono ?_
    rintro e w2 ⟨rfl, u2, d2, s2⟩
    have HD2 := hid d2
    have HS2 := hid (Bs.ahead HF1.out s2)
    clear d2 s2
    go_wp2_with fail
    go_end0
    exact ⟨rfl, u2, HD2.out, HS2.out⟩

theorem Bd.new (w : World) : Bd w.heap.size (.slice none 0 0) [] (w.alloc (.cells #[.pointer none, .slice none 0 0] 68)) :=
  ⟨⟨_, .inl rfl, Blk.new w _ [.pointer none, .slice none 0 0]⟩, World.ownsRow_nil _ 0 5 1, fun h => by cases h⟩
theorem Bd.isb {b : Nat} {v : Value} {xs : List UInt8} {w : World} (h : Bd b v xs w) (hv : ∀ k, v.ownBlock = some k → b ≤ k) : Lib.IsBuilder 68 5 b b (Lib.byteCells xs) w := by
  obtain ⟨p, hp, hb⟩ := h.blk
  have e : Lib.byteCells xs = bs xs := by first | rfl | simp [Lib.byteCells, bs, bv]
  rw [e]
  have hown : w.ownsRow b 5 1 v (bs xs).length (bs xs) := by
    rw [bs_length]
    refine ⟨h.own.1, ?_⟩
    rcases h.own.2 with h0 | ⟨g, cap, cur, h1, _, h3⟩
    · exact .inl h0
    · exact .inr ⟨g, cap, cur, h1, hv g (by rw [h1]; rfl), h3⟩
  rcases hp with rfl | rfl
  · exact .inl ⟨Nat.le_refl _, v, hb, hown, h.ne⟩
  · exact .inr ⟨Nat.le_refl _, v, hb, hown, h.ne⟩
theorem fr_belowU {B : Nat} {w0 w w' : World} (h : Below B w w') (f : Fr (fun _ => False) w0 w) (hB : w0.heap.size ≤ B) : Fr (fun _ => False) w0 w' :=
  f.trans (F' := fun k => B ≤ k) ⟨h.os, h.tape, h.output, h.size, fun k hk hn => h.block k (by omega)⟩ (fun i hi => .inr (by omega))

/-- The text that Show tells. -/
def shW (T : Nat → Nat × Nat) (v : Vt) : List UInt8 := if rtB v 32 then shT T v else []
set_option maxRecDepth 100000 in
set_option maxHeartbeats 4000000 in
theorem Show_any {w0 W : World} {T : Nat → Nat × Nat} (hT : TwU w0 T) {v : Vt} {x : Vv} (hV : VIn w0 v x) (hf : flV v) (hlen : rtB v 32 = true → (shT T v).length ≤ 10000000000) (e : Env w0 W) :
    Calls Tryz.prog 19 #[x.v] W fun e w' => e = .returned (.string ⟨(shW T v).toArray⟩) ∧ Fr (fun _ => False) W w' := by
  have HB := hid (vBlk W x)
  have HF := hid (vFr W x)
  have HR := hid (right_any hV _ (e.trans (Env.of (vFr W x))))
  have HE := hid e
  cases hr : rtB v 32 with
  | false =>
    have HQ : Hid (shW T v = []) := by unfold Hid shW; rw [hr]; rfl
    rw [hr] at HR
    clear hT hV hf hlen e hr
    obtain ⟨k, n, f, t, na, nl, nc, ia, il, ic⟩ := x
    simp only [Vv.v] at *
    go_enter Tryz.func19, Tryz.ntmps19
    go_wp2_with fail
    refine HR.out.mono ?_
    rintro e w1 ⟨rfl, f1⟩
    have HF1 := hid (HF.out.trans f1 (fun _ h => h.elim))
    clear f1
    go_wp2_with fail
    go_ret
    exact ⟨by rw [HQ.out]; rfl, HF1.out⟩
  | true =>
    have HQ : Hid (shW T v = shT T v) := by unfold Hid shW; rw [hr]; rfl
    rw [hr] at HR
    have HSh := hid (show_tree T _ v (Nat.le_refl _))
    have HC : Hid (∀ W1, Fr (fun _ => False) W W1 → Calls Tryz.prog 45 #[pv W1.heap.size, x.v] (W1.alloc (.cells #[.pointer none, .slice none 0 0] 68)) fun e w' => e = .returned (.tuple #[]) ∧ ∃ u', Bd W1.heap.size u' (shT T v) w' ∧ Bs W1.heap.size (W1.alloc (.cells #[.pointer none, .slice none 0 0] 68)) w' (.slice none 0 0) u') := hid (fun W1 f1 => by
      have h := HSh.out w0 (W1.alloc (.cells #[.pointer none, .slice none 0 0] 68)) x W1.heap.size (.slice none 0 0) [] 32 hT hV hf (Nat.le_refl _) hr ((HE.out.trans (Env.of f1)).trans (Env.alloc W1 _)) (Nat.le_trans HE.out.1 f1.size) (fun k hk => by cases hk) (Bd.new W1) (by have := hlen hr; simp; omega)
      simpa using h)
    clear hT hV hf hlen e hr HSh HE
    generalize shT T v = S at *
    obtain ⟨k, n, f, t, na, nl, nc, ia, il, ic⟩ := x
    simp only [Vv.v] at *
    go_enter Tryz.func19, Tryz.ntmps19
    go_wp2_with fail
    refine HR.out.mono ?_
    rintro e w1 ⟨rfl, f1⟩
    have HB1 := hid (f1.blk HB.out (fun h => h))
    have HF1 := hid (HF.out.trans f1 (fun _ h => h.elim))
    clear f1 HB HF HR
    have HC1 := hid (HC.out w1 HF1.out)
    obtain ⟨c0, c1, c2, c3, c4, c5⟩ := (HB1.out.alloc (.cells #[.pointer none, .slice none 0 0] 68)).six
    clear HC HB1
    go_wp2_with fail
    refine HC1.out.mono ?_
    rintro e w2 ⟨rfl, u2, d2, s2⟩
    have hsz := s2.fr.size
    rw [World.size_alloc] at hsz
    have hown : ∀ k, u2.ownBlock = some k → w1.heap.size ≤ k := fun k hk => by
      rcases s2.row with hr | ⟨g, hg, hg2⟩
      · rw [hr] at hk; cases hk
      · rw [hg] at hk
        simp only [Option.some.injEq] at hk
        rw [World.size_alloc] at hg2
        omega
    have HSt := hid (Tryz.Builder_String_any w1.heap.size w1.heap.size S w2 (d2.isb hown) (by omega))
    have HF2 : Hid (Fr (fun _ => False) W w2) := (HF1.out.alloc _).trans s2.fr (fun i hi => by
      rcases hi with hi | hi
      · right
        have := HF1.out.size
        omega
      · cases hi)
    have HSz : Hid (W.heap.size ≤ w1.heap.size) := HF1.out.size
    clear d2 s2 hown HC1 c0 c1 c2 c3 c4 c5 hsz
    go_wp2_with fail
    refine HSt.out.mono ?_
    rintro e w3 ⟨rfl, bel⟩
    have HF3 := hid (fr_belowU bel HF2.out HSz.out)
    clear bel
    go_wp2_with fail
    go_ret
    exact ⟨by rw [HQ.out]; rfl, HF3.out⟩
end Go.Proofs.YtlepjghfcpgbcaaGreatDoor.Tr
/- The contract of the document's Quote. -/
namespace Go.Proofs.YtlepjghfcpgbcaaGreatDoor.Tr
open Go.RowKit

theorem Dz.apps {B : Nat} {w0 w w' : World} {v v' : Value} {S c : List UInt8} {o : Obj} (d : Dz B w0 w v S) (h : Apd (w.alloc o) w' B v v' (S.length + c.length) (bs S ++ bs c)) : Dz B w0 w' v' (S ++ c) := by
  have e : bs (S ++ c) = bs S ++ bs c := by simp [bs]
  refine ⟨?_, ?_, ?_⟩
  · rw [e, show (S ++ c).length = S.length + c.length by simp]; exact h.own
  · exact (d.fr.alloc o).grown h.grown (fun k hk => .inl (d.own.lt k hk).1)
  · have := h.grown.size
    rw [World.size_alloc] at this
    have := d.le
    omega
theorem ownOne (w : World) (c : UInt8) : (w.alloc (.cells #[.int .u8 (c.toNat : Int)] 5)).ownsRow w.heap.size 5 1 (.slice (some ⟨w.heap.size, 0, none⟩) 1 1) 1 (bs [c]) :=
  ⟨rfl, .inr ⟨w.heap.size, 1, _, rfl, Nat.le_refl _, heap_alloc_new w _, by decide, by unfold maxLen; decide, by rfl, by rfl⟩⟩

set_option maxRecDepth 100000 in
set_option maxHeartbeats 4000000 in
theorem rquote_any (w : World) (s : List UInt8) (hl : s.length ≤ 10000000000) :
    Calls Tryz.prog 89 #[.string ⟨s.toArray⟩] w fun e w' => e = .returned (.string ⟨(qoT s).toArray⟩) ∧ Fr (fun _ => False) w w' := by
  have HO := hid (ownOne w 34)
  have HF0 : Hid (Dz w.heap.size w (w.alloc (.cells #[.int .u8 ((34 : UInt8).toNat : Int)] 5)) (.slice (some ⟨w.heap.size, 0, none⟩) 1 1) [34]) := ⟨HO.out, (Fr.refl _ w).alloc _, by rw [World.size_alloc]; omega⟩
  clear HO
  generalize hn : w.heap.size = n at *
  go_enter Tryz.func89, Tryz.ntmps89
  go_wp2_with fail
  go_loopw [3, 4] (fun ov iv wr => ∃ i : Nat, i ≤ s.length ∧ iv = .int .i64 (i : Int) ∧ Dz n w wr ov ([34] ++ (s.take i).flatMap escB)) (fun _ iv _ => s.length - (intOf iv).toNat)
  case atStart => exact ⟨0, Nat.zero_le _, rfl, by simpa using HF0.out⟩
  case round =>
    obtain ⟨i, hi, rfl, hd⟩ := hrel
    have HD := hid hd
    clear hd HF0
    obtain ⟨X, hX⟩ : ∃ X, X = [34] ++ (s.take i).flatMap escB := ⟨_, rfl⟩
    have hXl : X.length ≤ 100000000000 := by
      have := esc_len (s.take i)
      rw [List.length_take] at this
      rw [hX]
      simp only [List.length_append, List.length_cons, List.length_nil]
      omega
    rw [← hX] at HD
    have HX := hid hX
    clear hX
    obtain ⟨a0, c0, hv0⟩ := own_len HD.out.own
    subst hv0
    by_cases hlt : i < s.length
    · have hlti : (i : Int) < (s.length : Int) := by omega
      have HN := hid (esc_next s i hlt)
      have hidx : (ByteArray.mk s.toArray)[i]'(by simpa [ByteArray.size] using hlt) = s[i] := strU_at s i hlt
      have hok : ∀ e, escB s[i] = e → [34] ++ (s.take (i + 1)).flatMap escB = X ++ e := fun e he => by rw [HN.out, he, ← List.append_assoc, ← HX.out]
      have HK := hid hok
      clear hok HN
      generalize hc : s[i] = c at *
      clear hc
      by_cases c10 : c = 10
      · subst c10
        have HK2 := hid (HK.out [92, 110] rfl)
        go_wp2_with (at_builtin; refine Hid.out ?_)
        refine hid ?_
        refine wpList_append_src (by rfl) _ _ 66 (by rfl) n X.length 2 _ _ (bs X) (bs [92, 110]) (by rfl) (by rfl) (owns_alloc HD.out.own _) (srcMany _ [92, 110]) (by omega) (by rw [World.size_alloc]; have := HD.out.le; omega) ?_
        intro v2 w2 h2
        have hd2 := HD.out.apps (c := [92, 110]) h2
        rw [← HK2.out] at hd2
        have HD2 := hid hd2
        clear h2 hd2 HD
        go_wp2_with fail
        exact ⟨⟨i + 1, by omega, by first | rfl | (congr 1), HD2.out⟩, by simp [intOf]; omega⟩
      by_cases c9 : c = 9
      · subst c9
        have HK2 := hid (HK.out [92, 116] rfl)
        go_wp2_with (at_builtin; refine Hid.out ?_)
        refine hid ?_
        refine wpList_append_src (by rfl) _ _ 66 (by rfl) n X.length 2 _ _ (bs X) (bs [92, 116]) (by rfl) (by rfl) (owns_alloc HD.out.own _) (srcMany _ [92, 116]) (by omega) (by rw [World.size_alloc]; have := HD.out.le; omega) ?_
        intro v2 w2 h2
        have hd2 := HD.out.apps (c := [92, 116]) h2
        rw [← HK2.out] at hd2
        have HD2 := hid hd2
        clear h2 hd2 HD
        go_wp2_with fail
        exact ⟨⟨i + 1, by omega, by first | rfl | (congr 1), HD2.out⟩, by simp [intOf]; omega⟩
      have q10 := byte_ne (n := 10) (by decide) c10
      have q9 := byte_ne (n := 9) (by decide) c9
      by_cases c34 : c = 34
      · subst c34
        have HK2 := hid (HK.out [92, 34] rfl)
        clear q10 q9 c10 c9
        go_wp2_with (at_builtin; refine Hid.out ?_)
        refine hid ?_
        refine wpList_append_src (by rfl) _ _ 66 (by rfl) n X.length 2 _ _ (bs X) (bs [92, 34]) (by rfl) (by rfl) (owns_alloc HD.out.own _) (srcMany _ [92, 34]) (by omega) (by rw [World.size_alloc]; have := HD.out.le; omega) ?_
        intro v2 w2 h2
        have hd2 := HD.out.apps (c := [92, 34]) h2
        rw [← HK2.out] at hd2
        have HD2 := hid hd2
        clear h2 hd2 HD
        go_wp2_with fail
        exact ⟨⟨i + 1, by omega, by first | rfl | (congr 1), HD2.out⟩, by simp [intOf]; omega⟩
      by_cases c92 : c = 92
      · subst c92
        have HK2 := hid (HK.out [92, 92] rfl)
        clear q10 q9 c10 c9 c34
        go_wp2_with (at_builtin; refine Hid.out ?_)
        refine hid ?_
        refine wpList_append_src (by rfl) _ _ 66 (by rfl) n X.length 2 _ _ (bs X) (bs [92, 92]) (by rfl) (by rfl) (owns_alloc HD.out.own _) (srcMany _ [92, 92]) (by omega) (by rw [World.size_alloc]; have := HD.out.le; omega) ?_
        intro v2 w2 h2
        have hd2 := HD.out.apps (c := [92, 92]) h2
        rw [← HK2.out] at hd2
        have HD2 := hid hd2
        clear h2 hd2 HD
        go_wp2_with fail
        exact ⟨⟨i + 1, by omega, by first | rfl | (congr 1), HD2.out⟩, by simp [intOf]; omega⟩
      have q34 := byte_ne (n := 34) (by decide) c34
      have q92 := byte_ne (n := 92) (by decide) c92
      have HK2 := hid (HK.out [c] (by unfold escB; rw [if_neg c10, if_neg c9, if_neg c34, if_neg c92]))
      go_wp2_with (at_builtin; refine Hid.out ?_)
      refine hid ?_
      refine wpList_append_src (by rfl) _ _ 66 (by rfl) n X.length 1 _ _ (bs X) (bs [c]) (by rfl) (by rfl) (owns_alloc HD.out.own _) (srcOne _ c) (by omega) (by rw [World.size_alloc]; have := HD.out.le; omega) ?_
      intro v2 w2 h2
      have hd2 := HD.out.app h2
      rw [← HK2.out] at hd2
      have HD2 := hid hd2
      clear h2 hd2 HD
      go_wp2_with fail
      exact ⟨⟨i + 1, by omega, by first | rfl | (congr 1), HD2.out⟩, by simp [intOf]; omega⟩
    · have hlti : ¬ (i : Int) < (s.length : Int) := by omega
      have HQ : Hid (qoT s = X ++ [34]) := by
        have e : s.take i = s := List.take_of_length_le (by omega)
        unfold Hid qoT
        rw [HX.out, e]
      go_wp2_with (at_builtin; refine Hid.out ?_)
      refine hid ?_
      refine wpList_append_src (by rfl) _ _ 66 (by rfl) n X.length 1 _ _ (bs X) (bs [34]) (by rfl) (by rfl) (owns_alloc HD.out.own _) (srcOne _ 34) (by omega) (by rw [World.size_alloc]; have := HD.out.le; omega) ?_
      intro v2 w2 h2
      have hd2 := HD.out.app h2
      obtain ⟨a2, c2, hv2⟩ := own_len hd2.own
      subst hv2
      have hcv := conv_bytes (b := X ++ [34]) (src_own hd2.own) c2
      rw [← HQ.out] at hd2 hcv
      have HD2 := hid hd2
      have hlq : (X ++ [34]).length = (qoT s).length := by rw [HQ.out]
      rw [hlq]
      obtain ⟨Q, hQ⟩ : ∃ Q, Q = qoT s := ⟨_, rfl⟩
      rw [← hQ] at HD2 hcv ⊢
      have HQe := hid hQ
      clear h2 hd2 HD hlq hQ
      go_wp2_with fail
      go_ret
      exact ⟨by rw [← HQe.out]; rfl, (Fr.refl (fun _ => False) w).trans HD2.out.fr (fun j hj => .inr (by omega))⟩
end Go.Proofs.YtlepjghfcpgbcaaGreatDoor.Tr
/- The contract of the document's show and Show over any value that is right. -/
namespace Go.Proofs.YtlepjghfcpgbcaaGreatDoor.Tr
open Go.RowKit

/-- What the document's show tells of a value. -/
def RsoOf (T : Nat → Nat × Nat) (v : Vt) : Prop := ∀ (w0 w : World) (x : Vv) (r : Nat), TwU w0 T → VIn w0 v x → flV v → r ≤ 32 → rtB v r = true → Env w0 w → (shT T v).length ≤ 10000000000 →
  Calls Tryz.prog 53 #[x.v] w fun e w' => e = .returned (.string ⟨(shT T v).toArray⟩) ∧ Fr (fun _ => False) w w'

set_option maxRecDepth 100000 in
set_option maxHeartbeats 8000000 in
theorem rshow_tree (T : Nat → Nat × Nat) : ∀ (m : Nat) (v : Vt), SizeOf.sizeOf v ≤ m → RsoOf T v := by
  intro m
  induction m with
  | zero =>
    intro v hv
    exfalso
    cases v
    simp only [Vt.mk.sizeOf_spec] at hv
    omega
  | succ m ih =>
    intro v hv w0 w x r hT hV hf hr hrt e hlen
    have HIh := hid (fun q (hq : q ∈ v.its) => And.intro (ih q (by have := Vt.its_lt hq; omega)) ((flV_parts hf).2 q hq))
    have HB := hid (vBlk w x)
    have HF := hid (vFr w x)
    have HE1 := hid (e.trans (Env.of (vFr w x)))
    have HE0 := hid e
    obtain ⟨p1, p2, p3, p4⟩ := hV.parts.1
    by_cases h7 : v.k = 7
    · have hk : x.k = 7 := by rw [p1, h7]
      have HR := hid (shT_7 (T := T) h7)
      clear hT hV hf hrt e hlen hv ih HIh HE1 p1 p2 p3 p4 h7
      obtain ⟨k, n, f, t, na, nl, nc, ia, il, ic⟩ := x
      simp only at hk
      subst hk
      simp only [Vv.v] at *
      go_enter Tryz.func53, Tryz.ntmps53
      go_wp2_with fail
      go_ret
      exact ⟨by rw [HR.out]; rfl, HF.out⟩
    by_cases h4 : v.k = 4
    · have hk : x.k = 4 := by rw [p1, h4]
      have hq := shT_4 (T := T) h4
      have hqs : x.t.length ≤ 10000000000 := by rw [p4]; exact hV.parts.2.1.2.2.1 |> fun h => by
                                                  rw [hq] at hlen
                                                  unfold qoT at hlen
                                                  simp only [List.length_append, List.length_cons, List.length_nil] at hlen
                                                  have : ∀ s : List UInt8, s.length ≤ (s.flatMap escB).length := by
                                                    intro s
                                                    induction s with
                                                    | nil => simp
                                                    | cons a s ih =>
                                                      have : 1 ≤ (escB a).length := by
                                                        unfold escB
                                                        repeat' split
                                                        all_goals simp
                                                      simp only [List.flatMap_cons, List.length_append, List.length_cons]
                                                      omega
                                                  have := this v.t
                                                  omega
      have HW := hid (rquote_any (vBox w x) x.t hqs)
      have HR : Hid (shT T v = qoT x.t) := by unfold Hid; rw [hq, p4]
      clear hT hV hf hrt e hlen hv ih HIh HE1 p1 p2 p3 p4 h7 h4 hq hqs
      obtain ⟨k, n, f, t, na, nl, nc, ia, il, ic⟩ := x
      simp only at hk
      subst hk
      obtain ⟨c0, c1, c2, c3, c4, c5⟩ := HB.out.six
      simp only [Vv.v] at *
      generalize hQQ : qoT t = Q at *
      clear hQQ
      go_enter Tryz.func53, Tryz.ntmps53
      go_wp2_with fail
      refine HW.out.mono ?_
      rintro e w2 ⟨rfl, f2⟩
      have HF2 := hid (HF.out.trans f2 (fun _ h => h.elim))
      clear f2
      go_wp2_with fail
      go_ret
      exact ⟨by rw [HR.out]; rfl, HF2.out⟩
    by_cases h5 : v.k = 5
    · have hk : x.k = 5 := by rw [p1, h5]
      have hq := shT_5 (T := T) h5
      have hil := hV.parts.2.2.2.1.1
      have HI := hid hV.parts.2.2.2.2
      have hl : v.its.length ≤ 140737488351232 := hV.parts.2.2.2.1.2.2
      have HRt := hid (rt_five h5 hrt)
      have HT := hid hT
      have HQ := hid hq
      have hlen2 : 1 + (shL T v.its).length + 2 ≤ 10000000000 := by
        rw [hq] at hlen
        simp only [List.length_append, List.length_cons, List.length_nil] at hlen
        omega
      clear hT hV hf hrt e hlen hv ih p1 p2 p3 p4 h7 h4 h5 hq
      generalize v.its = l at *
      obtain ⟨k, n, f, t, na, nl, nc, ia, il, ic⟩ := x
      simp only at hk hil
      subst hk hil
      obtain ⟨c0, c1, c2, c3, c4, c5⟩ := HB.out.six
      simp only [Vv.v] at *
      generalize hbx : w.heap.size = bx at *
      go_enter Tryz.func53, Tryz.ntmps53
      go_wp2_with fail
      clear c0 c1 c2 c3 c4 c5
      go_loopw [3, 4] (fun sv iv wr => ∃ i : Nat, i ≤ l.length ∧ iv = .int .i64 (i : Int) ∧ ∃ X, X ++ shL T (l.drop i) = [91] ++ shL T l ∧ sv = .string ⟨X.toArray⟩ ∧ Fr (fun _ => False) w wr ∧ Blk wr bx 26 (Vv.cs ⟨5, n, f, t, na, nl, nc, ia, l.length, ic⟩)) (fun _ iv _ => l.length - (intOf iv).toNat)
      case atStart => exact ⟨0, Nat.zero_le _, rfl, [91], by rw [List.drop_zero], rfl, HF.out, HB.out⟩
      case round =>
        obtain ⟨i, hi, rfl, X, hX, rfl, hF, hbk⟩ := hrel
        have hXl : X.length + (shL T (l.drop i)).length ≤ 10000000000 - 2 := by
          have := congrArg List.length hX
          simp only [List.length_append, List.length_cons, List.length_nil] at this
          omega
        have HX := hid hX
        have HXl := hid hXl
        have HFk := hid hF
        have HBk := hid hbk
        clear hX hXl hF hbk
        obtain ⟨c0, c1, c2, c3, c4, c5⟩ := HBk.out.six
        by_cases hlt : i < l.length
        · have hlt' : (i : Int) < ((l.length : Nat) : Int) := by omega
          obtain ⟨ib, io, e1⟩ := HI.out.some (by intro e; rw [e] at hlt; simp at hlt)
          subst e1
          obtain ⟨y, e2, e3⟩ := HI.out.get i hlt
          have hEk := HE0.out.trans (Env.of HFk.out)
          obtain ⟨k0, k1, k2, k3, k4, k5⟩ := (e2.env hEk).six
          have hdr := shL_drop T l i hlt
          have HN : Hid (∀ Y, Y = X ++ [32] ++ shT T l[i] → Y ++ shL T (l.drop (i + 1)) = [91] ++ shL T l) := fun Y hY => by
            rw [hY, ← HX.out, hdr]
            simp only [List.append_assoc]
          have hl2 : X.length + 1 + (shT T l[i]).length ≤ 10000000000 := by
            have h := HXl.out
            rw [hdr] at h
            simp only [List.length_append, List.length_cons, List.length_nil] at h
            omega
          have hm := List.getElem_mem hlt
          have HC := hid ((HIh.out _ hm).1 w0 wr y (5 - 5 + (r - 1)) HT.out e3 (HIh.out _ hm).2 (by omega) (by rw [show 5 - 5 + (r - 1) = r - 1 by omega]; exact HRt.out _ hm) hEk (by omega))
          simp only [Vv.v] at HC
          have q1 := cat3 X [32]
          have q2 := cat3 (X ++ [32]) (shT T l[i])
          obtain ⟨Y1, hY1⟩ : ∃ Y, Y = X ++ [32] := ⟨_, rfl⟩
          obtain ⟨Y2, hY2⟩ : ∃ Y, Y = Y1 ++ shT T l[i] := ⟨_, rfl⟩
          rw [← hY1] at q1 q2
          rw [← hY2] at q2
          have HNY := hid (HN.out Y2 (by rw [hY2, hY1]))
          have g1 : Y1.length ≤ 10000000000 := by rw [hY1]; simp; omega
          have g2 : Y1.length + (shT T l[i]).length ≤ 10000000000 := by rw [hY1]; simp; omega
          have l1 : (9223372036854775807 < X.length + 1) = False := by simp; omega
          have l2 : (9223372036854775807 < Y1.length + (shT T l[i]).length) = False := by simp; omega
          clear e2 e3 hdr hl2 hm hY1 hY2 hEk HN g1 g2
          generalize shT T l[i] = S at *
          go_wp2_with fail
          refine HC.out.mono ?_
          rintro e w2 ⟨rfl, f2⟩
          have HF2 := hid (HFk.out.trans f2 (fun _ h => h.elim))
          have HB2 := hid (f2.blk HBk.out (fun h => h))
          clear f2 HC
          go_wp2_with fail
          exact ⟨⟨i + 1, by omega, by first | rfl | (congr 1), Y2, HNY.out, by first | rfl | rw [q2], HF2.out, HB2.out⟩, by simp [intOf]; omega⟩
        · have hlt' : ¬ (i : Int) < ((l.length : Nat) : Int) := by omega
          have HE : Hid ([91] ++ shL T l ++ [32, 93] = X ++ [32, 93]) := by
            have h := HX.out
            rw [List.drop_eq_nil_of_le (by omega), shL, List.append_nil] at h
            unfold Hid
            rw [h]
          have q1 := cat3 X [32, 93]
          have l1 : (9223372036854775807 < X.length + 2) = False := by have := HXl.out; simp; omega
          go_wp2_with fail
          go_ret
          exact ⟨by rw [HQ.out, HE.out]; first | rfl | (rw [← q1]; rfl), HFk.out⟩
    by_cases h6 : v.k = 6
    · have hk : x.k = 6 := by rw [p1, h6]
      have hq := shT_6 (T := T) h6
      obtain ⟨hnl, hRt⟩ := rt_six h6 hrt
      obtain ⟨p5, _, hl0, hst0⟩ := hV.parts.2.2.1
      have hsl := hV.parts.2.1.2.2.2
      have hil := hV.parts.2.2.2.1.1
      have HI := hid hV.parts.2.2.2.2
      have hl : v.its.length ≤ 140737488351232 := hV.parts.2.2.2.1.2.2
      have HRt := hid hRt
      have HT := hid hT
      have HQ := hid hq
      have HSt := hid hst0
      have HSl := hid hsl
      have hnl2 : x.nl = v.its.length := by rw [p5, hnl]
      have hlen2 : 1 + (shS T v.ns v.its).length + 2 ≤ 10000000000 := by
        rw [hq] at hlen
        simp only [List.length_append, List.length_cons, List.length_nil] at hlen
        omega
      clear hT hV hf hrt e hlen hv ih p1 p2 p3 p4 h7 h4 h5 hq hRt p5 hl0 hst0 hsl h6
      generalize v.its = l at *
      generalize v.ns = ns at *
      obtain ⟨k, n, f, t, na, nl, nc, ia, il, ic⟩ := x
      simp only at hk hil hnl2
      subst hk hil hnl2
      obtain ⟨c0, c1, c2, c3, c4, c5⟩ := HB.out.six
      simp only [Vv.v] at *
      generalize hbx : w.heap.size = bx at *
      go_enter Tryz.func53, Tryz.ntmps53
      go_wp2_with fail
      clear c0 c1 c2 c3 c4 c5
      go_loopw [5, 6] (fun sv iv wr => ∃ i : Nat, i ≤ l.length ∧ iv = .int .i64 (i : Int) ∧ ∃ X, X ++ shS T (ns.drop i) (l.drop i) = [123] ++ shS T ns l ∧ sv = .string ⟨X.toArray⟩ ∧ Fr (fun _ => False) w wr ∧ Blk wr bx 26 (Vv.cs ⟨6, n, f, t, na, l.length, nc, ia, l.length, ic⟩)) (fun _ iv _ => l.length - (intOf iv).toNat)
      case atStart => exact ⟨0, Nat.zero_le _, rfl, [123], by rw [List.drop_zero, List.drop_zero], rfl, HF.out, HB.out⟩
      case round =>
        obtain ⟨i, hi, rfl, X, hX, rfl, hF, hbk⟩ := hrel
        have hXl : X.length + (shS T (ns.drop i) (l.drop i)).length ≤ 10000000000 - 2 := by
          have := congrArg List.length hX
          simp only [List.length_append, List.length_cons, List.length_nil] at this
          omega
        have HX := hid hX
        have HXl := hid hXl
        have HFk := hid hF
        have HBk := hid hbk
        clear hX hXl hF hbk
        by_cases hlt : i < l.length
        · have hlt' : (i : Int) < ((l.length : Nat) : Int) := by omega
          have hltn : i < ns.length := by omega
          obtain ⟨nb, no, en, hnc⟩ := HSt.out (by intro e; rw [e] at hltn; simp at hltn)
          subst en
          obtain ⟨ib, io, e1⟩ := HI.out.some (by intro e; rw [e] at hlt; simp at hlt)
          subst e1
          obtain ⟨y, e2, e3⟩ := HI.out.get i hlt
          have hEk := HE0.out.trans (Env.of HFk.out)
          have hdr := shS_drop T ns l i hlt hltn
          have HN : Hid (∀ Y, Y = X ++ [32] ++ qoT ns[i] ++ [61] ++ shT T l[i] ++ [59] → Y ++ shS T (ns.drop (i + 1)) (l.drop (i + 1)) = [123] ++ shS T ns l) := fun Y hY => by
            rw [hY, ← HX.out, hdr]
            simp only [List.append_assoc]
          have hl2 : X.length + 1 + (qoT ns[i]).length + 1 + (shT T l[i]).length + 1 ≤ 10000000000 := by
            have h := HXl.out
            rw [hdr] at h
            simp only [List.length_append, List.length_cons, List.length_nil] at h
            omega
          have hqs : ns[i].length ≤ 10000000000 := by
            have : ns[i].length ≤ (qoT ns[i]).length := by
              unfold qoT
              simp only [List.length_append, List.length_cons, List.length_nil]
              have : ∀ s : List UInt8, s.length ≤ (s.flatMap escB).length := by
                intro s
                induction s with
                | nil => simp
                | cons a s ih =>
                  have : 1 ≤ (escB a).length := by
                    unfold escB
                    repeat' split
                    all_goals simp
                  simp only [List.flatMap_cons, List.length_append, List.length_cons]
                  omega
              have := this ns[i]
              omega
            omega
          have hm := List.getElem_mem hlt
          have HCd := hid (fun (W : World) (hW : Fr (fun _ => False) w W) => (HIh.out _ hm).1 w0 W y (r - 1) HT.out e3 (HIh.out _ hm).2 (by omega) (HRt.out _ hm) (HE0.out.trans (Env.of hW)) (by omega))
          have HQd := hid (fun (W : World) => rquote_any W ns[i] hqs)
          have HK : Hid (∀ W, Fr (fun _ => False) wr W → sixB W ib (io + i * 6) y ∧ W.cell? ⟨nb, no + i, none⟩ = some (.string ⟨ns[i].toArray⟩) ∧ W.cell? ⟨bx, 4, none⟩ = some (.slice (some ⟨nb, no, none⟩) l.length nc) ∧ W.cell? ⟨bx, 5, none⟩ = some (.slice (some ⟨ib, io, none⟩) l.length ic)) := fun W hW => by
            have hE := HE0.out.trans (Env.of (HFk.out.trans hW (fun _ h => h.elim)))
            have hb := (hW.blk HBk.out (fun h => h)).six
            exact ⟨(e2.env hE).six, hE.cell (hnc i hltn), hb.2.2.2.2.1, hb.2.2.2.2.2⟩
          simp only [Vv.v] at HCd
          have q1 := cat3 X [32]
          have q2 := cat3 (X ++ [32]) (qoT ns[i])
          have q3 := cat3 (X ++ [32] ++ qoT ns[i]) [61]
          have q4 := cat3 (X ++ [32] ++ qoT ns[i] ++ [61]) (shT T l[i])
          have q5 := cat3 (X ++ [32] ++ qoT ns[i] ++ [61] ++ shT T l[i]) [59]
          obtain ⟨Y1, hY1⟩ : ∃ Y, Y = X ++ [32] := ⟨_, rfl⟩
          rw [← hY1] at q1 q2 q3 q4 q5
          obtain ⟨Y2, hY2⟩ : ∃ Y, Y = Y1 ++ qoT ns[i] := ⟨_, rfl⟩
          rw [← hY2] at q2 q3 q4 q5
          obtain ⟨Y3, hY3⟩ : ∃ Y, Y = Y2 ++ [61] := ⟨_, rfl⟩
          rw [← hY3] at q3 q4 q5
          obtain ⟨Y4, hY4⟩ : ∃ Y, Y = Y3 ++ shT T l[i] := ⟨_, rfl⟩
          rw [← hY4] at q4 q5
          obtain ⟨Y5, hY5⟩ : ∃ Y, Y = Y4 ++ [59] := ⟨_, rfl⟩
          rw [← hY5] at q5
          have HNY := hid (HN.out Y5 (by rw [hY5, hY4, hY3, hY2, hY1]))
          have g1 : Y1.length = X.length + 1 := by rw [hY1]; simp
          have g2 : Y2.length = Y1.length + (qoT ns[i]).length := by rw [hY2]; simp
          have g3 : Y3.length = Y2.length + 1 := by rw [hY3]; simp
          have g4 : Y4.length = Y3.length + (shT T l[i]).length := by rw [hY4]; simp
          have l1 : (9223372036854775807 < X.length + 1) = False := by simp; omega
          have l2 : (9223372036854775807 < Y1.length + (qoT ns[i]).length) = False := by simp; omega
          have l3 : (9223372036854775807 < Y2.length + 1) = False := by simp; omega
          have l4 : (9223372036854775807 < Y3.length + (shT T l[i]).length) = False := by simp; omega
          have l5 : (9223372036854775807 < Y4.length + 1) = False := by simp; omega
          clear e2 e3 hdr hl2 hm hY1 hY2 hY3 hY4 hY5 hEk HN g1 g2 g3 g4 hnc hqs
          generalize shT T l[i] = S at *
          generalize qoT ns[i] = Q at *
          generalize ns[i] = s at *
          obtain ⟨c0, c1, c2, c3, c4, c5⟩ := HBk.out.six
          go_wp2_with fail
          clear c0 c1 c2 c3 c4 c5
          go_region_held3 (fun W => sixB W ib (io + i * 6) y ∧ W.cell? ⟨nb, no + i, none⟩ = some (.string ⟨s.toArray⟩) ∧ W.cell? ⟨bx, 4, none⟩ = some (.slice (some ⟨nb, no, none⟩) l.length nc) ∧ W.cell? ⟨bx, 5, none⟩ = some (.slice (some ⟨ib, io, none⟩) l.length ic))
            (first | exact HK.out _ (Fr.refl _ _).drew | exact HK.out _ F2.out | exact HK.out _ F1.out)
            (first
              | (go_at_call 89; refine (HQd.out _).mono ?_; rintro e w2 ⟨rfl, f2⟩; have F1 : Hid (Fr (fun _ => False) wr w2) := (Fr.refl _ wr).drew.trans f2 (fun _ h => h.elim))
              | (go_at_call 53; refine (HCd.out _ (HFk.out.trans F1.out (fun _ h => h.elim))).mono ?_; rintro e w3 ⟨rfl, f3⟩; have F2 : Hid (Fr (fun _ => False) wr w3) := F1.out.trans f3 (fun _ h => h.elim)))
          have HF2 := hid (HFk.out.trans F2.out (fun _ h => h.elim))
          have HB2 := hid (F2.out.blk HBk.out (fun h => h))
          go_wp2_with fail
          exact ⟨⟨i + 1, by omega, by first | rfl | (congr 1), Y5, HNY.out, by first | rfl | rw [q5], HF2.out, HB2.out⟩, by simp [intOf]; omega⟩
        · have hlt' : ¬ (i : Int) < ((l.length : Nat) : Int) := by omega
          obtain ⟨c0, c1, c2, c3, c4, c5⟩ := HBk.out.six
          have HE : Hid ([123] ++ shS T ns l ++ [32, 125] = X ++ [32, 125]) := by
            have h := HX.out
            rw [show l.drop i = [] from List.drop_eq_nil_of_le (by omega), shS, List.append_nil] at h
            unfold Hid
            rw [h]
          have q1 := cat3 X [32, 125]
          have l1 : (9223372036854775807 < X.length + 2) = False := by have := HXl.out; simp; omega
          go_wp2_with fail
          go_ret
          exact ⟨by rw [HQ.out, HE.out]; first | rfl | (rw [← q1]; rfl), HFk.out⟩
    have hk := rt_S h5 h6 hrt
    have hk3 : v.k ≤ 3 := by omega
    have h32 : rtB v 32 = true := by rw [rt_low (s := r) h5 h6]; exact hrt
    have hR := rright_any hV
    rw [h32] at hR
    have hx3 : 0 ≤ x.k ∧ x.k ≤ 3 := by omega
    have htx := tx_tx (T := T) hx3.1 hx3.2
    have hq : shT T v = (txX T x true).1 := by rw [shT_tx h7 h4 h5 h6, htx.1, p1, p2, p3, p4]
    have HX := hid (rtext_any hT x true hR (by rw [p3]; exact (flV_parts hf).1) (by rw [p2]; exact hV.parts.2.1.2.1) HE1.out)
    rw [← hq, htx.2] at HX
    have g7 : ((x.k : Int) == 7) = false := by rw [beq_eq_false_iff_ne]; omega
    have g4 : ((x.k : Int) == 4) = false := by rw [beq_eq_false_iff_ne]; omega
    have g5 : ((x.k : Int) == 5) = false := by rw [beq_eq_false_iff_ne]; omega
    have g6 : ((x.k : Int) == 6) = false := by rw [beq_eq_false_iff_ne]; omega
    clear hT hV hf hrt e hlen hv ih HIh HE1 p1 p2 p3 p4 h7 h4 h5 h6 hq hk hk3 h32 hR hx3 htx
    generalize shT T v = S at *
    obtain ⟨c0, c1, c2, c3, c4, c5⟩ := HB.out.six
    obtain ⟨k, n, f, t, na, nl, nc, ia, il, ic⟩ := x
    simp only [Vv.v] at *
    go_enter Tryz.func53, Tryz.ntmps53
    go_wp2_with fail
    refine HX.out.mono ?_
    rintro e w1 ⟨rfl, f1⟩
    have HF1 := hid (HF.out.trans f1 (fun _ h => h.elim))
    clear f1 c0 c1 c2 c3 c4 c5
    go_wp2_with fail
    go_ret
    exact ⟨rfl, HF1.out⟩
end Go.Proofs.YtlepjghfcpgbcaaGreatDoor.Tr
/- The contract of the document's Show over any value. -/
namespace Go.Proofs.YtlepjghfcpgbcaaGreatDoor.Tr
open Go.RowKit

set_option maxRecDepth 100000 in
set_option maxHeartbeats 2000000 in
theorem RShow_any {w0 W : World} {T : Nat → Nat × Nat} (hT : TwU w0 T) {v : Vt} {x : Vv} (hV : VIn w0 v x) (hf : flV v) (hlen : rtB v 32 = true → (shT T v).length ≤ 10000000000) (e : Env w0 W) :
    Calls Tryz.prog 24 #[x.v] W fun e w' => e = .returned (.string ⟨(shW T v).toArray⟩) ∧ Fr (fun _ => False) W w' := by
  have HB := hid (vBlk W x)
  have HF := hid (vFr W x)
  have HR := hid (rright_any hV _ (e.trans (Env.of (vFr W x))))
  have HE := hid e
  cases hr : rtB v 32 with
  | false =>
    have HQ : Hid (shW T v = []) := by unfold Hid shW; rw [hr]; rfl
    rw [hr] at HR
    clear hT hV hf hlen e hr
    obtain ⟨k, n, f, t, na, nl, nc, ia, il, ic⟩ := x
    simp only [Vv.v] at *
    go_enter Tryz.func24, Tryz.ntmps24
    go_wp2_with fail
    refine HR.out.mono ?_
    rintro e w1 ⟨rfl, f1⟩
    have HF1 := hid (HF.out.trans f1 (fun _ h => h.elim))
    clear f1
    go_wp2_with fail
    go_ret
    exact ⟨by rw [HQ.out]; rfl, HF1.out⟩
  | true =>
    have HQ : Hid (shW T v = shT T v) := by unfold Hid shW; rw [hr]; rfl
    rw [hr] at HR
    have HC : Hid (∀ W1, Fr (fun _ => False) W W1 → Calls Tryz.prog 53 #[x.v] W1 fun e w' => e = .returned (.string ⟨(shT T v).toArray⟩) ∧ Fr (fun _ => False) W1 w') := hid (fun W1 f1 => rshow_tree T _ v (Nat.le_refl _) w0 W1 x 32 hT hV hf (Nat.le_refl _) hr (HE.out.trans (Env.of f1)) (hlen hr))
    clear hT hV hf hlen e hr HE
    generalize shT T v = S at *
    obtain ⟨k, n, f, t, na, nl, nc, ia, il, ic⟩ := x
    simp only [Vv.v] at *
    go_enter Tryz.func24, Tryz.ntmps24
    go_wp2_with fail
    refine HR.out.mono ?_
    rintro e w1 ⟨rfl, f1⟩
    have HB1 := hid (f1.blk HB.out (fun h => h))
    have HF1 := hid (HF.out.trans f1 (fun _ h => h.elim))
    clear f1 HB HF HR
    have HC1 := hid (HC.out w1 HF1.out)
    obtain ⟨c0, c1, c2, c3, c4, c5⟩ := HB1.out.six
    clear HC HB1
    go_wp2_with fail
    refine HC1.out.mono ?_
    rintro e w2 ⟨rfl, f2⟩
    have HF2 := hid (HF1.out.trans f2 (fun _ h => h.elim))
    clear f2
    go_wp2_with fail
    go_ret
    exact ⟨by rw [HQ.out]; rfl, HF2.out⟩
end Go.Proofs.YtlepjghfcpgbcaaGreatDoor.Tr
