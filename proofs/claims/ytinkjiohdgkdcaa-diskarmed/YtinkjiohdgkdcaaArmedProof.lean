/- PROVED: for every size, every list of ops, every number of deeds and every keep, DiskArmed returns true and leaves its arguments as they were. No condition. -/
import Derived.Test.YtinkjiohdgkdcaaRows
import Derived.Test.YtinkjiohdgkdcaaHead
import Derived.Test.YtinkjiohdgkdcaaArgs
namespace Go.Proofs.Ytinkjiohdgkdcaa.diskArmed
open Go.ChangeShapes Go.WideShapes Go.ChangeAt Go.RowKit Go.Proofs.Ytinkjiohdgkdcaa.Dk

theorem own : ownKnob Try.prog.godebug = none := by kernel_rfl
theorem laidOut : laidOutB Try.prog = true := by kernel_rfl

theorem shown_said : ShownSaid := fun G w hG => shown_any G w hG

theorem below_of_kp {w w' : World} (h : Kp (GW w) w w') : Below w.heap.size w w' :=
  ⟨h.os, h.tape, h.output, h.size, fun k hk => h.block k hk (fun hn => hn hk)⟩

theorem cut_neg (a : Int) (h : a < 0) : ∃ A : Nat, A ≤ 49 ∧ -((a + 1).tmod 50) = (A : Int) := by
  rw [neg_mod a h 50]
  have h1 := Int.emod_nonneg (-(a + 1)) (show (50 : Int) ≠ 0 by omega)
  have h2 := Int.emod_lt_of_pos (-(a + 1)) (show (0 : Int) < 50 by omega)
  generalize -(a + 1) % 50 = z at *
  exact ⟨z.toNat, by omega, by omega⟩

theorem walk (w : World) (n : Int) (ad : Option Addr) (len cap : Nat) (a : Int) (kp : Nat) (w0 : (Lit.int .i64 n).wf = true) (w2 : (Lit.int .i64 a).wf = true) (hk : kp < 18446744073709551616) (hL : ArgOps w ad len) :
    Calls Try.prog 5 #[.int .i64 n, .slice ad len cap, .int .i64 a, .int .u64 (kp : Int)] w fun e w' => e = .returned (.bool true) ∧ Below w.heap.size w w' := by
  have b0 := bounds_i64 w0
  have b2 := bounds_i64 w2
  obtain ⟨A, hA, hneg, hpos⟩ : ∃ A : Nat, A ≤ 49 ∧ (a < 0 → -((a + 1).tmod 50) = (A : Int)) ∧ (0 ≤ a → a % 50 = (A : Int)) := by
    by_cases h : a < 0
    · obtain ⟨A, h1, h2⟩ := cut_neg a h
      exact ⟨A, h1, fun _ => h2, fun h' => by omega⟩
    · exact ⟨(a % 50).toNat, by omega, fun h' => absurd h' h, fun _ => by omega⟩
  exact (armed_walk shown_said w n ad len cap a kp b0.1 b0.2 b2.1 b2.2 hk hL.argL A hA hneg hpos).mono fun e w' ⟨he, hb⟩ => ⟨he, below_of_kp hb⟩

set_option maxRecDepth 100000 in
theorem lifted (os : Os) (started : os.Started) (H : Type) (enc : TypeId × Value → H) :
    ReturnsInHanded {} Try.checked os 5 .any (Rows.diskArmedSpec.pre6 enc Try.prog Try.f5 Rows.diskArmedRow.domain false) (Rows.diskArmedSpec.post enc Try.prog Try.f5 false true false false) := by
  refine returnsInHanded_of_change (C := Try.checked) own started (by kernel_rfl) Try.func5
    (ChangeSpec.witness6 (enc := enc) (C := Try.checked) false ⟨#[], #[.int .i64 0, .slice none 0 0, .int .i64 0, .int .u64 0], []⟩ 8 (by kernel_rfl) (by kernel_rfl) (by kernel_rfl) (by kernel_rfl)) ?_
  intro W base args ds gs before hval0 hW hcnd _
  have hval : ∀ (j : Nat) t v, Try.f5.params[j]? = some t → args[j]? = some v → Value.okWide Try.prog W .any base t v := hval0
  have hW' := hW
  obtain ⟨p, q, hA0, hV, rfl, hfz, hnd⟩ := hW
  have hA : DataW.TrodAll enc Try.prog W 0 (fun _ => true) true Try.f5.params.toList args.toList ds p := hA0
  rw [Try.params5] at hA hval
  obtain ⟨v0, vs0, d0, ds0, p0, q0, hargs, rfl, rfl, h0, r0⟩ := trodAll_cons hA
  obtain ⟨v1, vs1, d1, ds1, p1, q1, rfl, rfl, rfl, h1, r1⟩ := trodAll_cons r0
  obtain ⟨v2, vs2, d2, ds2, p2, q2, rfl, rfl, rfl, h2, r2⟩ := trodAll_cons r1
  obtain ⟨v3, vs3, d3, ds3, p3, q3, rfl, rfl, rfl, h3, r3⟩ := trodAll_cons r2
  obtain ⟨rfl, rfl, rfl⟩ := trodAll_nil r3
  obtain rfl : args = #[v0, v1, v2, v3] := by cases args; simp_all
  obtain ⟨rfl, rfl⟩ := trodVars_none hV
  obtain ⟨a0, rfl, rfl, rfl, w0⟩ := open_int Try.underlying3 (hval 0 3 v0 rfl rfl) h0
  obtain ⟨a1, len1, cap1, rfl⟩ := okWide_slice Try.underlying22 (hval 1 22 v1 rfl rfl)
  have k1 := h1
  have lt1 : ∀ x ∈ p1, x.block < W.heap.size := by obtain ⟨m, hm⟩ := k1; exact DataW.trod_lt m _ _ _ hm
  obtain ⟨a2, rfl, rfl, rfl, w2⟩ := open_int Try.underlying3 (hval 2 3 v2 rfl rfl) h2
  obtain ⟨a3, rfl, rfl, rfl, w3⟩ := open_int Try.underlying29 (hval 3 29 v3 rfl rfl) h3
  have b3 := bounds_u64 w3
  obtain ⟨kp, rfl⟩ := Int.eq_ofNat_of_zero_le b3.1
  clear hA0 hval0
  refine (walk W a0 a1 len1 cap1 a2 kp w0 w2 (by have := b3.2; omega) (open_ops k1)).mono fun e W' ⟨he, bel⟩ => ?_
  subst he
  exact ⟨_, rfl, _, _, _, [], _, [], hW', trodAll_mk1 (shut_bool Try.underlying4 _), (trodAll_cons_mk (shut_int Try.underlying3 w0) (trodAll_cons_mk (Below.trod laidOut (by kernel_rfl) (of_decide_eq_true (by kernel_rfl)) k1 bel lt1) (trodAll_cons_mk (shut_int Try.underlying3 w2) (trodAll_cons_mk (shut_int Try.underlying29 w3) trodAll_mk0)))), rfl, bel.frame _, fun h => by cases h⟩

theorem over : Rows.diskArmedRow.holds Try.pinned (OpenSpec.ofChange Rows.diskArmedSpec) :=
  OpenClaim.holds_of_wide 5 Try.f5 rfl rfl rfl rfl rfl rfl rfl ⟨rfl, rfl, rfl, rfl, rfl⟩ rfl rfl rfl rfl rfl (by kernel_rfl) Try.func5 (by kernel_rfl)
    (of_decide_eq_true (by kernel_rfl)) (by unfold Func.isWrapper; first | (rw [if_pos (by decide +kernel)]; kernel_rfl) | (rw [if_neg (by decide +kernel)]; exact ⟨rfl, rfl⟩))
    (fun os started H enc _ => lifted os started H enc)

end Go.Proofs.Ytinkjiohdgkdcaa.diskArmed
namespace Go.Proofs.Ytinkjiohdgkdcaa
theorem diskArmed_proved : Rows.DiskArmedSaid := diskArmed.over
#print axioms diskArmed_proved
end Go.Proofs.Ytinkjiohdgkdcaa
