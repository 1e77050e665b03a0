/- 'step': a sector is read. -/
import Derived.Test.YtdempopelalafaaStepAsk
namespace Go.Proofs.Ytdempopelalafaa.Dk
open Go.RowKit

theorem conv_nil (w : World) (ad : Option Addr) (cap : Nat) : (convert 28 9 (.slice ad 0 cap)).run Try.prog w = .ok (.string ⟨#[]⟩) w := by
  cases ad with
  | none =>
    rw [run_convert_bytes_string w 28 9 5 none _ cap Try.underlying28 Try.underlying5 Try.underlying9]
    simp [Conv.bytesToString]
    rfl
  | some a => exact run_convert_bytes_back (P := Try.prog) w 28 9 5 a cap [] Try.underlying28 Try.underlying5 Try.underlying9 (fun j hj => by simp at hj)
theorem Duo.setCell {G : Nat → Prop} {w : World} {p q k : Nat} {D : Dsk} {R : RDk} (h : Duo G w p D q R k) {g : Nat} (hg : G g) (o : Nat) (v : Value) : Duo G (w.setCell ⟨g, o, none⟩ v) p D q R k :=
  ⟨h.pr.setG hg o [v], h.sim, h.len⟩
theorem Duo.less {G G' : Nat → Prop} {w : World} {p q k : Nat} {D : Dsk} {R : RDk} (h : Duo G w p D q R k) (hG : ∀ j, G' j → G j) : Duo G' w p D q R k := ⟨h.pr.less hG, h.sim, h.len⟩
theorem Duo.gt {G : Nat → Prop} {w : World} {p q k : Nat} {D : Dsk} {R : RDk} (h : Duo G w p D q R k) {g : Nat} (hg : G g) : g < w.heap.size := by
  obtain ⟨_, _, g1, _⟩ := h.pr
  exact (g1 g hg).1

set_option maxRecDepth 100000 in
set_option maxHeartbeats 1000000 in
theorem step_read {G : Nat → Prop} {w : World} {p q k : Nat} {D : Dsk} {R : RDk} (h : Duo G w p D q R k) (hk : k < 1000) (x : OpR) :
    Calls Try.prog 16 #[pv p, pv q, .agg #[.int .i64 2, .int .i64 x.a, .slice x.ad x.bytes.length x.cap, .int .u8 x.c, .bool x.fit, .int .u64 (x.keep : Int)]] w fun e w' => StepPost G w p q k e w' := by
  have hd := h.box (.cells #[.int .i64 2, .int .i64 x.a, .slice x.ad x.bytes.length x.cap, .int .u8 x.c, .bool x.fit, .int .u64 (x.keep : Int)] 31)
  have hrE := hd.sim.reach x.a
  by_cases hr : D.reach x.a = 0
  · have hup : D.up = true ∧ 0 ≤ x.a ∧ x.a < (D.n : Int) := by
      unfold Dsk.reach at hr
      split at hr
      · cases hr
      · rename_i hu
        split at hr
        · cases hr
        · exact ⟨by simpa using hu, by omega, by omega⟩
    have hsec := hd.sim.read x.a hr
    have hln := sec_length D.N D.n x.a.toNat hd.pr.ok.lN (by omega)
    obtain ⟨i, hi⟩ := Int.eq_ofNat_of_zero_le hup.2.1
    rw [hi] at hsec hln hr hrE
    simp only [Int.toNat_natCast] at hsec hln
    obtain ⟨F, o, back⟩ := hd.pr.disk
    have HC := hid (own_read o i hup.1 (by omega))
    have HD2 := hid (hd.box (.cells (bs (sec D.N i)).toArray 59))
    have hr' : R.reach (i : Int) = 0 := by rw [← hrE]; exact hr
    obtain ⟨wv, r1, _, _⟩ := HD2.out.pr.ref
    have HC2 := hid (rread_any r1 (i : Int) (HD2.out.sW hk))
    rw [hr', ← hsec] at HC2
    rw [hi]
    generalize sec D.N i = l at *
    have HB : Hid (Blk ((w.alloc (.cells #[.int .i64 2, .int .i64 (i : Int), .slice x.ad x.bytes.length x.cap, .int .u8 x.c, .bool x.fit, .int .u64 (x.keep : Int)] 31)).alloc (.cells (bs l).toArray 59)) (w.heap.size + 1) 59 (bs l)) := by
      have := Blk.new (w.alloc (.cells #[.int .i64 2, .int .i64 (i : Int), .slice x.ad x.bytes.length x.cap, .int .u8 x.c, .bool x.fit, .int .u64 (x.keep : Int)] 31)) 59 (bs l)
      unfold Hid; simpa using this
    rw [hi] at HD2 HC HC2
    have hA : (w.alloc (.cells #[.int .i64 2, .int .i64 (i : Int), .slice x.ad x.bytes.length x.cap, .int .u8 x.c, .bool x.fit, .int .u64 (x.keep : Int)] 31)).heap.size = w.heap.size + 1 := by simp
    rw [hA] at HC HD2
    have HLn := hid hln
    clear h hd hr hup hsec hln hi hrE o back r1 hr' hA
    go_enter Try.func16, Try.ntmps16
    go_wp2_with fail
    refine HC.out.mono ?_
    rintro e w1 ⟨rfl, rfl⟩
    go_wp2_with fail
    refine HC2.out.mono ?_
    rintro e w2 ⟨ad2, cap2, rfl, f2, g2⟩
    obtain ⟨g, rfl, hg1, hg2⟩ := g2 (by intro e; have := HLn.out; rw [e] at this; cases this)
    have HD3 := hid (HD2.out.fr0 f2)
    have HB3 : Hid (Blk w2 (w.heap.size + 1) 59 (bs l)) := Fr.blk f2 HB.out (fun h => h)
    have HK3 : Hid (Kp G w w2) := Kp.fr0 ((((Fr.refl _ w).alloc _).alloc _).trans f2 (fun _ h => h.elim))
    have cv1 := conv_any (w := w2) (b := w.heap.size + 1) (o := 0) l (HB3.out.range 0 (bs l) (by simp)) 128 128 HLn.out
    have cv2 := conv_any (w := w2) (b := g) (o := 0) l hg2 cap2 l.length rfl
    clear f2 hg1 hg2 HD2 HC HC2
    go_wp2_with fail
    generalize hG' : (fun j => (G j ∨ j = w.heap.size) ∨ j = w.heap.size + 1) = G' at *
    have HG1 : Hid (G' (w.heap.size + 1)) := by unfold Hid; rw [← hG']; exact .inr rfl
    have HG2 : Hid (∀ j, G j → G' j) := by unfold Hid; rw [← hG']; exact fun _ hj => .inl (.inl hj)
    have HG3 : Hid (w.heap.size ≤ w.heap.size + 1) := Nat.le_succ _
    clear hG'
    have hbl : (bs l).length = 128 := by rw [bs_length]; exact HLn.out
    go_loopw [18] (fun iv wr => ∃ (m : Nat) (xs : List Value), m ≤ 128 ∧ iv = .int .i64 (m : Int) ∧ xs.length = 128 ∧ Blk wr (w.heap.size + 1) 59 xs ∧ Duo G' wr p D q R k ∧ Kp G w wr) (fun iv _ => 128 - (intOf iv).toNat)
    case atStart => exact ⟨0, bs l, by omega, rfl, hbl, HB3.out, HD3.out, HK3.out⟩
    case round =>
      obtain ⟨m, xs, hm, rfl, hxl, hb, hdu, hkp⟩ := hrel
      have HD4 := hid hdu
      have HK4 := hid hkp
      have HB4 := hid hb
      clear hdu hkp
      by_cases hlt : m < 128
      · have hc : wr.cell? ⟨w.heap.size + 1, m, none⟩ = some (xs[m]'(by omega)) := by rw [hb.cell, List.getElem?_eq_getElem]
        have hfz := hb.frozen m
        have hm1 : (m : Int) < 128 := by omega
        have hm0 : (0 : Int) ≤ (m : Int) := Int.natCast_nonneg _
        clear hb
        go_wp2
        refine ⟨⟨m + 1, xs.set m (.int .u8 8), by omega, by simp, by simpa using hxl, HB4.out.setCell m _, HD4.out.setCell HG1.out m _, ?_⟩, by simp [intOf]; omega⟩
        exact Fr.setCell HK4.out (.inr HG3.out) _
      · have hm1 : ¬ (m : Int) < 128 := by omega
        clear hb
        go_wp2
        go_ret
        exact ⟨D, R, by simp, HD4.out.less HG2.out, HK4.out⟩
  · have hup : D.reach x.a = R.reach x.a := hrE
    obtain ⟨F, o, back⟩ := hd.pr.disk
    have HC := hid (own_read_no o x.a hr)
    obtain ⟨wv, r1, _, _⟩ := hd.pr.ref
    have HC2 := hid (rread_any r1 x.a (hd.sW hk))
    have hr' : ¬ R.reach x.a = 0 := by rw [← hrE]; exact hr
    have hrd : R.read x.a = [] := by unfold RDk.read; rw [if_neg hr']
    rw [hrd, ← hrE] at HC2
    have HD2 := hid hd
    generalize D.reach x.a = ev at *
    clear h hd hr hup hrE o back r1 hr' hrd
    go_enter Try.func16, Try.ntmps16
    go_wp2_with fail
    refine HC.out.mono ?_
    rintro e w1 ⟨rfl, rfl⟩
    go_wp2_with fail
    refine HC2.out.mono ?_
    rintro e w2 ⟨ad2, cap2, rfl, f2, _⟩
    have HD3 := hid (HD2.out.fr0 f2)
    have HK3 : Hid (Kp G w w2) := Kp.fr0 (((Fr.refl _ w).alloc _).trans f2 (fun _ h => h.elim))
    have cv1 := conv_nil w2 none 0
    have cv2 := conv_nil w2 ad2 cap2
    clear f2 HD2 HC HC2
    go_wp2_with fail
    go_loopw [18] (fun iv wr => iv = .int .i64 0 ∧ wr = w2) (fun _ _ => 0)
    case atStart => exact ⟨rfl, rfl⟩
    case round =>
      obtain ⟨rfl, rfl⟩ := hrel
      go_wp2
      go_ret
      exact ⟨D, R, by simp, HD3.out.less (fun _ hj => .inl hj), HK3.out⟩

end Go.Proofs.Ytdempopelalafaa.Dk
