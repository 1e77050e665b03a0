/- PROVED: for every number, every byte and all lists of numbers, AllocOnce returns true and leaves its arguments as they were. No condition. -/
import Derived.Test.YtehoiahgkbnjdaaGreatRows
import Derived.ProofKit
import Derived.OpenShut
import Derived.Test.YtehoiahgkbnjdaaGreatOnw
namespace Go.Proofs.YtehoiahgkbnjdaaGreat.allocOnce
open Go.ChangeShapes Go.WideShapes Go.ChangeAt Go.RowKit Go.Proofs.YtehoiahgkbnjdaaGreat.Dk Go.Proofs.YtehoiahgkbnjdaaGreat.Wl Go.Proofs.YtehoiahgkbnjdaaGreat.Al

theorem own : ownKnob Tryz.prog.godebug = none := by kernel_rfl
theorem laidOut : laidOutB Tryz.prog = true := by kernel_rfl

theorem open_nums {H : Type} {enc : TypeId × Value → H} {W : World} {ad : Option Addr} {len cap : Nat} {d : DataW H} {ps : List MemPlace}
    (h : DataW.Trod enc Tryz.prog W 0 (fun _ => true) true 47 (.slice ad len cap) d ps) : ArgInts (fun k => k < W.heap.size) W ad len := by
  obtain ⟨fuel, hf⟩ := h
  rcases open_ints Tryz.underlying47 Tryz.underlying3 (by kernel_rfl) hf with ⟨hcs, _⟩ | ⟨x, l', c', zs, hcs, _, hl', hm', hz', hx, hcell, hwz⟩
  · simp [Value.cells] at hcs
    obtain ⟨rfl, rfl, rfl⟩ := hcs
    exact fun k hk => by omega
  · simp [Value.cells] at hcs
    obtain ⟨rfl, rfl, rfl⟩ := hcs
    have hzl : zs.length = cap := by simpa using hz'
    intro k hk
    have hk2 : k < zs.length := by omega
    have hq := hcell k (by omega)
    obtain ⟨bb, bo, sp⟩ := x
    have hq0 := hcell 0 (by omega)
    have hsp : sp = none := by
      have := World.cell?_spot hq0
      simpa [Addr.add] using this
    subst hsp
    rw [Addr.add_mid] at hq
    have hb := bounds_i64 (hwz _ (List.getElem_mem hk2))
    have hlt : bb < W.heap.size := World.block_lt_of_cell? W _ hq
    refine ⟨bb, bo, zs[k], rfl, ?_, hb, hlt, hlt⟩
    rw [hq]
    simp [List.getD, hk2]

theorem walk (w : World) (n by0 : Int) (ad : Option Addr) (len cap : Nat) (w0 : (Lit.int .i64 n).wf = true) (w1 : (Lit.int .u8 by0).wf = true) (hL : ArgInts (fun k => k < w.heap.size) w ad len) :
    Calls Tryz.prog 4 #[.int .i64 n, .int .u8 by0, .slice ad len cap] w fun e w' => e = .returned (.bool true) ∧ Below w.heap.size w w' := by
  have b0 := bounds_i64 w0
  have b1 := bounds_u8 w1
  rw [← Dk.bv_byteOf by0 b1.1 b1.2]
  refine (once_walk (fun k => k < w.heap.size) w (fun _ h => h) n b0.1 b0.2 (Dk.byteOf by0) ad len cap hL).mono fun e w' ⟨he, hk⟩ => ⟨he, ?_⟩
  exact hk.below (Nat.le_refl _) (fun k h => by omega)

set_option maxRecDepth 100000 in
theorem lifted (os : Os) (started : os.Started) (H : Type) (enc : TypeId × Value → H) :
    ReturnsInHanded {} Tryz.checked os 4 .any (Rows.allocOnceSpec.pre6 enc Tryz.prog Tryz.f4 Rows.allocOnceRow.domain false) (Rows.allocOnceSpec.post enc Tryz.prog Tryz.f4 false true false false) := by
  refine returnsInHanded_of_change (C := Tryz.checked) own started (by kernel_rfl) Tryz.func4
    (ChangeSpec.witness6 (enc := enc) (C := Tryz.checked) false ⟨#[], #[.int .i64 0, .int .u8 0, .slice none 0 0], []⟩ 8 (by kernel_rfl) (by kernel_rfl) (by kernel_rfl) (by kernel_rfl)) ?_
  intro W base args ds gs before hval0 hW hcnd _
  have hval : ∀ (j : Nat) t v, Tryz.f4.params[j]? = some t → args[j]? = some v → Value.okWide Tryz.prog W .any base t v := hval0
  have hW' := hW
  obtain ⟨p, q, hA0, hV, rfl, hfz, hnd⟩ := hW
  have hA : DataW.TrodAll enc Tryz.prog W 0 (fun _ => true) true Tryz.f4.params.toList args.toList ds p := hA0
  rw [Tryz.params4] at hA hval
  obtain ⟨v0, vs0, d0, ds0, p0, q0, hargs, rfl, rfl, h0, r0⟩ := trodAll_cons hA
  obtain ⟨v1, vs1, d1, ds1, p1, q1, rfl, rfl, rfl, h1, r1⟩ := trodAll_cons r0
  obtain ⟨v2, vs2, d2, ds2, p2, q2, rfl, rfl, rfl, h2, r2⟩ := trodAll_cons r1
  obtain ⟨rfl, rfl, rfl⟩ := trodAll_nil r2
  obtain rfl : args = #[v0, v1, v2] := by cases args; simp_all
  obtain ⟨rfl, rfl⟩ := trodVars_none hV
  obtain ⟨a0, rfl, rfl, rfl, w0⟩ := open_int Tryz.underlying3 (hval 0 3 v0 rfl rfl) h0
  obtain ⟨a1, rfl, rfl, rfl, w1⟩ := open_int Tryz.underlying5 (hval 1 5 v1 rfl rfl) h1
  obtain ⟨a2, len2, cap2, rfl⟩ := okWide_slice Tryz.underlying47 (hval 2 47 v2 rfl rfl)
  have k2 := h2
  have lt2 : ∀ x ∈ p2, x.block < W.heap.size := by obtain ⟨m, hm⟩ := k2; exact DataW.trod_lt m _ _ _ hm
  clear hA0 hval0
  refine (walk W a0 a1 a2 len2 cap2 w0 w1 (open_nums k2)).mono fun e W' ⟨he, bel⟩ => ?_
  subst he
  exact ⟨_, rfl, _, _, _, [], _, [], hW', trodAll_mk1 (shut_bool Tryz.underlying4 _), (trodAll_cons_mk (shut_int Tryz.underlying3 w0) (trodAll_cons_mk (shut_int Tryz.underlying5 w1) (trodAll_cons_mk (Below.trod laidOut (by kernel_rfl) (of_decide_eq_true (by kernel_rfl)) k2 bel lt2) trodAll_mk0))), rfl, bel.frame _, fun h => by cases h⟩

theorem over : Rows.allocOnceRow.holds Tryz.pinned (OpenSpec.ofChange Rows.allocOnceSpec) :=
  OpenClaim.holds_of_wide 4 Tryz.f4 rfl rfl rfl rfl rfl rfl rfl ⟨rfl, rfl, rfl, rfl, rfl⟩ rfl rfl rfl rfl rfl (by kernel_rfl) Tryz.func4 (by kernel_rfl)
    (of_decide_eq_true (by kernel_rfl)) (by unfold Func.isWrapper; first | (rw [if_pos (by decide +kernel)]; kernel_rfl) | (rw [if_neg (by decide +kernel)]; exact ⟨rfl, rfl⟩))
    (fun os started H enc _ => lifted os started H enc)

end Go.Proofs.YtehoiahgkbnjdaaGreat.allocOnce
namespace Go.Proofs.YtehoiahgkbnjdaaGreat
theorem allocOnce_proved : Rows.AllocOnceSaid := allocOnce.over
#print axioms allocOnce_proved
end Go.Proofs.YtehoiahgkbnjdaaGreat
