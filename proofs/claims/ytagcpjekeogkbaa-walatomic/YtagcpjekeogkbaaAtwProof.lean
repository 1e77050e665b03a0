/- PROVED: for all numbers, lists of ops, masks and lists of masks, WalAtomic returns true and leaves its arguments as they were. No condition. -/
import Derived.Test.YtagcpjekeogkbaaRows
import Derived.ProofKit
import Derived.OpenShut
import Derived.Test.YtagcpjekeogkbaaAtw
namespace Go.Proofs.Ytagcpjekeogkbaa.walAtomic
open Go.ChangeShapes Go.WideShapes Go.ChangeAt Go.RowKit Go.Deep Go.Proofs.Ytagcpjekeogkbaa.Dk Go.Proofs.Ytagcpjekeogkbaa.Wl

theorem own : ownKnob Try.prog.godebug = none := by kernel_rfl
theorem laidOut : laidOutB Try.prog = true := by kernel_rfl

theorem open_masks {H : Type} {enc : TypeId × Value → H} {W : World} {ad : Option Addr} {len cap : Nat} {d : DataW H} {ps : List MemPlace}
    (h : DataW.Trod enc Try.prog W 0 (fun _ => true) true 24 (.slice ad len cap) d ps) : ArgU (fun k => k < W.heap.size) W ad len := by
  obtain ⟨fuel, hf⟩ := h
  rcases open_ints Try.underlying24 Try.underlying23 (by kernel_rfl) hf with ⟨hcs, _⟩ | ⟨x, l', c', zs, hcs, _, hl', hm', hz', hx, hcell, hwz⟩
  · simp [Value.cells] at hcs
    obtain ⟨rfl, rfl, rfl⟩ := hcs
    exact fun k hk => by omega
  · simp [Value.cells] at hcs
    obtain ⟨rfl, rfl, rfl⟩ := hcs
    have hzl : zs.length = cap := by simpa using hz'
    intro k hk
    have hk2 : k < zs.length := by omega
    have hq := hcell k (by omega)
    obtain ⟨bb, bo, sp⟩ := x
    have hq0 := hcell 0 (by omega)
    have hsp : sp = none := by
      have := World.cell?_spot hq0
      simpa [Addr.add] using this
    subst hsp
    rw [Addr.add_mid] at hq
    have hb := bounds_u64 (hwz _ (List.getElem_mem hk2))
    obtain ⟨v, hv⟩ := Int.eq_ofNat_of_zero_le hb.1
    have hlt : bb < W.heap.size := World.block_lt_of_cell? W _ hq
    refine ⟨bb, bo, v, rfl, ?_, by have := hb.2; omega, hlt, hlt⟩
    rw [hq, ← hv]
    simp [List.getD, hk2]

theorem walk (w : World) (n : Int) (ad : Option Addr) (len cap : Nat) (ad2 : Option Addr) (len2 cap2 : Nat) (aft keep : Int) (ad3 : Option Addr) (len3 cap3 : Nat) (w0 : (Lit.int .i64 n).wf = true) (w3 : (Lit.int .i64 aft).wf = true) (w4 : (Lit.int .u64 keep).wf = true) (hL : ArgOps (fun k => k < w.heap.size) w ad len) (hL2 : ArgOps (fun k => k < w.heap.size) w ad2 len2) (hL3 : ArgU (fun k => k < w.heap.size) w ad3 len3) :
    Calls Try.prog 3 #[.int .i64 n, .slice ad len cap, .slice ad2 len2 cap2, .int .i64 aft, .int .u64 keep, .slice ad3 len3 cap3] w fun e w' => e = .returned (.bool true) ∧ Below w.heap.size w w' := by
  have b0 := bounds_i64 w0
  have b3 := bounds_i64 w3
  have b4 := bounds_u64 w4
  obtain ⟨kp, rfl⟩ := Int.eq_ofNat_of_zero_le b4.1
  refine (atomic_walk (fun k => k < w.heap.size) w (fun _ h => h) n b0.1 b0.2 ad len cap ad2 len2 cap2 hL hL2 aft b3.1 b3.2 kp (by have := b4.2; omega) ad3 len3 cap3 hL3).mono fun e w' ⟨he, hk⟩ => ⟨he, ?_⟩
  exact hk.below (Nat.le_refl _) (fun k h => by omega)

set_option maxRecDepth 100000 in
theorem lifted (os : Os) (started : os.Started) (H : Type) (enc : TypeId × Value → H) :
    ReturnsInHanded {} Try.checked os 3 .any (Rows.walAtomicSpec.pre6 enc Try.prog Try.f3 Rows.walAtomicRow.domain false) (Rows.walAtomicSpec.post enc Try.prog Try.f3 false true false false) := by
  refine returnsInHanded_of_change (C := Try.checked) own started (by kernel_rfl) Try.func3
    (ChangeSpec.witness6 (enc := enc) (C := Try.checked) false ⟨#[], #[.int .i64 0, .slice none 0 0, .slice none 0 0, .int .i64 0, .int .u64 0, .slice none 0 0], []⟩ 8 (by kernel_rfl) (by kernel_rfl) (by kernel_rfl) (by kernel_rfl)) ?_
  intro W base args ds gs before hval0 hW hcnd _
  have hval : ∀ (j : Nat) t v, Try.f3.params[j]? = some t → args[j]? = some v → Value.okWide Try.prog W .any base t v := hval0
  have hW' := hW
  obtain ⟨p, q, hA0, hV, rfl, hfz, hnd⟩ := hW
  have hA : DataW.TrodAll enc Try.prog W 0 (fun _ => true) true Try.f3.params.toList args.toList ds p := hA0
  rw [Try.params3] at hA hval
  obtain ⟨v0, vs0, d0, ds0, p0, q0, hargs, rfl, rfl, h0, r0⟩ := trodAll_cons hA
  obtain ⟨v1, vs1, d1, ds1, p1, q1, rfl, rfl, rfl, h1, r1⟩ := trodAll_cons r0
  obtain ⟨v2, vs2, d2, ds2, p2, q2, rfl, rfl, rfl, h2, r2⟩ := trodAll_cons r1
  obtain ⟨v3, vs3, d3, ds3, p3, q3, rfl, rfl, rfl, h3, r3⟩ := trodAll_cons r2
  obtain ⟨v4, vs4, d4, ds4, p4, q4, rfl, rfl, rfl, h4, r4⟩ := trodAll_cons r3
  obtain ⟨v5, vs5, d5, ds5, p5, q5, rfl, rfl, rfl, h5, r5⟩ := trodAll_cons r4
  obtain ⟨rfl, rfl, rfl⟩ := trodAll_nil r5
  obtain rfl : args = #[v0, v1, v2, v3, v4, v5] := by cases args; simp_all
  obtain ⟨rfl, rfl⟩ := trodVars_none hV
  obtain ⟨a0, rfl, rfl, rfl, w0⟩ := open_int Try.underlying3 (hval 0 3 v0 rfl rfl) h0
  obtain ⟨a1, len1, cap1, rfl⟩ := okWide_slice Try.underlying22 (hval 1 22 v1 rfl rfl)
  obtain ⟨a2, len2, cap2, rfl⟩ := okWide_slice Try.underlying22 (hval 2 22 v2 rfl rfl)
  obtain ⟨a3, rfl, rfl, rfl, w3⟩ := open_int Try.underlying3 (hval 3 3 v3 rfl rfl) h3
  obtain ⟨a4, rfl, rfl, rfl, w4⟩ := open_int Try.underlying23 (hval 4 23 v4 rfl rfl) h4
  obtain ⟨a5, len5, cap5, rfl⟩ := okWide_slice Try.underlying24 (hval 5 24 v5 rfl rfl)
  have k1 := h1
  have k2 := h2
  have k5 := h5
  have lt1 : ∀ x ∈ p1, x.block < W.heap.size := by obtain ⟨m, hm⟩ := k1; exact DataW.trod_lt m _ _ _ hm
  have lt2 : ∀ x ∈ p2, x.block < W.heap.size := by obtain ⟨m, hm⟩ := k2; exact DataW.trod_lt m _ _ _ hm
  have lt5 : ∀ x ∈ p5, x.block < W.heap.size := by obtain ⟨m, hm⟩ := k5; exact DataW.trod_lt m _ _ _ hm
  clear hA0 hval0
  refine (walk W a0 a1 len1 cap1 a2 len2 cap2 a3 a4 a5 len5 cap5 w0 w3 w4 (open_ops k1).1 (open_ops k2).1 (open_masks k5)).mono fun e W' ⟨he, bel⟩ => ?_
  subst he
  exact ⟨_, rfl, _, _, _, [], _, [], hW', trodAll_mk1 (shut_bool Try.underlying4 _), (trodAll_cons_mk (shut_int Try.underlying3 w0) (trodAll_cons_mk (Below.trod laidOut (by kernel_rfl) (of_decide_eq_true (by kernel_rfl)) k1 bel lt1) (trodAll_cons_mk (Below.trod laidOut (by kernel_rfl) (of_decide_eq_true (by kernel_rfl)) k2 bel lt2) (trodAll_cons_mk (shut_int Try.underlying3 w3) (trodAll_cons_mk (shut_int Try.underlying23 w4) (trodAll_cons_mk (Below.trod laidOut (by kernel_rfl) (of_decide_eq_true (by kernel_rfl)) k5 bel lt5) trodAll_mk0)))))), rfl, bel.frame _, fun h => by cases h⟩

theorem over : Rows.walAtomicRow.holds Try.pinned (OpenSpec.ofChange Rows.walAtomicSpec) :=
  OpenClaim.holds_of_wide 3 Try.f3 rfl rfl rfl rfl rfl rfl rfl ⟨rfl, rfl, rfl, rfl, rfl⟩ rfl rfl rfl rfl rfl (by kernel_rfl) Try.func3 (by kernel_rfl)
    (of_decide_eq_true (by kernel_rfl)) (by unfold Func.isWrapper; first | (rw [if_pos (by decide +kernel)]; kernel_rfl) | (rw [if_neg (by decide +kernel)]; exact ⟨rfl, rfl⟩))
    (fun os started H enc _ => lifted os started H enc)

end Go.Proofs.Ytagcpjekeogkbaa.walAtomic
namespace Go.Proofs.Ytagcpjekeogkbaa
theorem walAtomic_proved : Rows.WalAtomicSaid := walAtomic.over
#print axioms walAtomic_proved
end Go.Proofs.Ytagcpjekeogkbaa
