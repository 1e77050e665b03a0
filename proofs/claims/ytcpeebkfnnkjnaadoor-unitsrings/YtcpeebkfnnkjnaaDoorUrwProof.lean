/- PROVED: for every two numbers and either word, UnitsRings returns true. The table of the library that the row lists holds what the program's text lays (tied). -/
import Derived.Test.YtcpeebkfnnkjnaaDoorCards
import Derived.Test.YtcpeebkfnnkjnaaDoorTie
import Derived.Test.YtcpeebkfnnkjnaaDoorUrw
import Derived.Test.YtcpeebkfnnkjnaaDoorUrk
import Derived.Test.YtcpeebkfnnkjnaaDoorAru
import Derived.ChangeMaps5
import Derived.ShutString
import Derived.OpenShut
import Derived.Lay
import Derived.MakeChecks
namespace Go.Proofs.YtcpeebkfnnkjnaaDoor.unitsRings
open Go.ChangeShapes Go.WideShapes Go.ChangeAt Go.RowKit Go.ChangeMaps Go.Proofs.YtcpeebkfnnkjnaaDoor.Tr

theorem own : ownKnob Tryd.prog.godebug = none := by kernel_rfl
theorem plainH (W : World) : laidMetH Tryd.prog Rows.unitsRingsRow.laid W = laidMet Tryd.prog Rows.unitsRingsRow.laid W := MakeChecks.laidMetH_plain _ _ _ (by kernel_rfl)
theorem laidOut : laidOutB Tryd.prog = true := fa1
theorem door_met (os : Os) (args : Array Value) : laidMetH Tryd.prog Rows.unitsRingsRow.laid ((World.laidAll Tryd.prog os Rows.unitsRingsRow.laid).forCall (fun _ _ => 0) ⟨#[], args, []⟩).memory := by
  rw [plainH]
  exact laidMet_laidAll args (by kernel_rfl) (by kernel_rfl)
theorem reads (os : Os) {H : Type} (enc : TypeId × Value → H) : ∃ places, DataW.whole enc Tryd.prog ((World.laidAll Tryd.prog os Rows.unitsRingsRow.laid).forCall (fun _ _ => 0) ⟨#[], #[.int .i64 0, .int .i64 0, .bool false], []⟩).memory Tryd.f7.params.toList Rows.unitsRingsSpec.vars false #[Value.int .i64 0, .int .i64 0, .bool false].toList 8 = some ([.lit (.int .i64 0), .lit (.int .i64 0), .lit (.bool false)], [], places) :=
  ⟨[], by kernel_rfl⟩

set_option maxRecDepth 100000 in
theorem lifted (os : Os) (started : os.Started) (H : Type) (enc : TypeId × Value → H) (F : Stop.Interp) :
    ReturnsInHanded {} Tryd.checked os 7 .any ((OpenSpec.ofChange Rows.unitsRingsSpec).preRow enc Tryd.prog Tryd.f7 Rows.unitsRingsRow.domain false Rows.unitsRingsRow.laid) (((OpenSpec.ofChange Rows.unitsRingsSpec).at F).post enc Tryd.prog Tryd.f7 false true false false) := by
  obtain ⟨places, hx⟩ := reads os enc
  refine returnsInHanded_of_row (C := Tryd.checked) (s := OpenSpec.ofChange Rows.unitsRingsSpec) own started (by kernel_rfl) Tryd.func7
    (wit_row (enc := enc) (C := Tryd.checked) (World.laidAll Tryd.prog os Rows.unitsRingsRow.laid) #[.int .i64 0, .int .i64 0, .bool false] (World.laidAll_os _ _ _) (World.shaped_of_ZipB (by kernel_rfl) (by kernel_rfl)) (by kernel_rfl)
      (OpenSpec.preRow_of_cond 8 hx (by kernel_rfl) (fun k hk => by cases hk) (by kernel_rfl) (door_met os _))) ?_
  intro W base args ds gs before hval0 hW _ _ hsz0 hL hShp _
  have hsz : (DataW.weightsEach Tryd.prog (Tryd.f7.params.toList ++ Rows.unitsRingsSpec.plain.varTypes Tryd.prog) (ds ++ gs)).all (· ≤ reachBytes) = true := hsz0
  have hval : ∀ (j : Nat) t v, Tryd.f7.params[j]? = some t → args[j]? = some v → Value.okWide Tryd.prog W .any base t v := hval0
  have hW' : DataW.Whole enc Tryd.prog Tryd.f7.params.toList Rows.unitsRingsSpec.vars false W args.toList ds gs before := hW
  have hW0 := hW'
  obtain ⟨p, q, hA0, hV, rfl, hfz, hnd⟩ := hW0
  have hA : DataW.TrodAll enc Tryd.prog W 0 (fun _ => true) true Tryd.f7.params.toList args.toList ds p := hA0
  rw [Tryd.params7] at hA hval hsz
  obtain ⟨v0, vs0, d0, ds0, p0, q0, hargs, rfl, rfl, h0, r0⟩ := trodAll_cons hA
  obtain ⟨v1, vs1, d1, ds1, p1, q1, rfl, rfl, rfl, h1, r1⟩ := trodAll_cons r0
  obtain ⟨v2, vs2, d2, ds2, p2, q2, rfl, rfl, rfl, h2, r2⟩ := trodAll_cons r1
  obtain ⟨rfl, rfl, rfl⟩ := trodAll_nil r2
  obtain rfl : args = #[v0, v1, v2] := by cases args; simp_all
  obtain ⟨rfl, rfl⟩ := trodVars_none hV
  obtain ⟨z0, rfl, rfl, rfl, wz0⟩ := open_int Tryd.underlying3 (hval 0 3 v0 rfl rfl) h0
  have bz0 := bounds_i64 wz0
  obtain ⟨z1, rfl, rfl, rfl, wz1⟩ := open_int Tryd.underlying3 (hval 1 3 v1 rfl rfl) h1
  have bz1 := bounds_i64 wz1
  obtain ⟨z2, rfl, rfl, rfl⟩ := open_bool Tryd.underlying4 (hval 2 4 v2 rfl rfl) h2
  have hTab := tab_of (show laidMet Tryd.prog Rows.unitsRingsRow.laid W from (plainH W).mp hL) (List.mem_singleton.2 rfl)
  have hc : Calls Tryd.prog 7 #[.int .i64 z0, .int .i64 z1, .bool z2] W fun e w' => e = .returned (.bool true) ∧ Fr (fun _ => False) W w' := by
    exact unitsRings_walk W _ _ _ bz0 bz1 hTab
  refine hc.mono fun e W' ⟨he, fr⟩ => ?_
  have bel := below_of_fr fr
  subst he
  exact ⟨_, rfl, _, _, _, [], _, [], hW', trodAll_mk1 (shut_bool Tryd.underlying4 _), trodAll_cons_mk (shut_int Tryd.underlying3 wz0) (trodAll_cons_mk (shut_int Tryd.underlying3 wz1) (trodAll_mk1 (shut_bool Tryd.underlying4 _))), rfl, bel.frame _, fun h => by cases h⟩

theorem said : Rows.UnitsRingsSaid :=
  OpenClaim.holds_of_cond 7 Tryd.f7 rfl rfl rfl rfl rfl rfl rfl ⟨rfl, rfl, rfl, rfl, rfl⟩ rfl rfl rfl rfl rfl (by kernel_rfl) Tryd.func7 closed
    (of_decide_eq_true (by kernel_rfl)) (by unfold Func.isWrapper; first | (rw [if_pos (by decide +kernel)]; kernel_rfl) | (rw [if_neg (by decide +kernel)]; exact ⟨rfl, rfl⟩))
    (fun os started H enc _ F => by rw [OpenClaim.pre_eq_preRow]; exact lifted os started H enc F)
theorem plain (f : FuncId) (fn : Func) (hf : Tryd.pinned.checked.prog.funcNamed "bootjack/bootjacklaw17.UnitsRings" = some f) (hfn : Tryd.pinned.checked.prog.funcs[f]? = some fn) :
    false = Tryd.pinned.checked.prog.looks [] ∧ ∀ (j : Nat) t, fn.params[j]? = some t → Tryd.pinned.checked.prog.wantsStandIn t = false := by
  obtain rfl : f = 7 := Option.some.inj ((show Tryd.prog.funcNamed "bootjack/bootjacklaw17.UnitsRings" = some 7 by kernel_rfl).symm.trans hf) |>.symm
  obtain rfl : fn = Tryd.f7 := (Option.some.inj (Tryd.func7.symm.trans hfn)).symm
  refine ⟨by kernel_rfl, fun j t ht => ?_⟩
  rw [Tryd.params7] at ht
  have hm : t ∈ [3, 3, 4] := by simpa using Array.mem_of_getElem? ht
  have hall : ([3, 3, 4].all fun u => !Tryd.prog.wantsStandIn u) = true := by kernel_rfl
  exact (show Tryd.prog.wantsStandIn t = false by simpa using List.all_eq_true.1 hall t hm)

end Go.Proofs.YtcpeebkfnnkjnaaDoor.unitsRings
namespace Go.Proofs.YtcpeebkfnnkjnaaDoor
theorem unitsRings_proved : Rows.UnitsRingsCardSaid :=
  Claim7.holds_tied_plain_at .later [] _ _ _ _ unitsRings.said (fun _ h => by cases h) (by kernel_rfl) (fun _ h => by cases h) unitsRings_row_tie rfl ⟨rfl, rfl⟩ (by kernel_rfl) rfl unitsRings.plain (by kernel_rfl)
#print axioms unitsRings_proved
end Go.Proofs.YtcpeebkfnnkjnaaDoor
