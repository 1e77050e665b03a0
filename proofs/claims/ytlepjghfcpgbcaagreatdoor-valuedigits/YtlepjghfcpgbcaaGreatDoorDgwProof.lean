/- PROVED: for every int, ValueDigits returns true. The tables of the library that the row lists hold what the program's text lays (tied; two great tables are pinned by the form). -/
import Derived.Test.YtlepjghfcpgbcaaGreatDoorCards
import Derived.Test.YtlepjghfcpgbcaaGreatDoorTie
import Derived.Test.YtlepjghfcpgbcaaGreatDoorDgw
import Derived.Test.YtlepjghfcpgbcaaGreatDoorDgk
import Derived.Test.YtlepjghfcpgbcaaGreatDoorTws
import Derived.ChangeMaps5
import Derived.ShutString
import Derived.OpenShut
import Derived.Lay
import Derived.MakeChecks
namespace Go.Proofs.YtlepjghfcpgbcaaGreatDoor.valueDigits
open Go.ChangeShapes Go.WideShapes Go.ChangeAt Go.RowKit Go.ChangeMaps Go.Proofs.YtlepjghfcpgbcaaGreatDoor.Tr

theorem own : ownKnob Tryz.prog.godebug = none := by kernel_rfl
theorem plainH (W : World) : laidMetH Tryz.prog Rows.valueDigitsRow.laid W = laidMet Tryz.prog Rows.valueDigitsRow.laid W := MakeChecks.laidMetH_plain _ _ _ (by kernel_rfl)
theorem door_met (os : Os) (args : Array Value) : laidMetH Tryz.prog Rows.valueDigitsRow.laid ((World.laidAll Tryz.prog os Rows.valueDigitsRow.laid).forCall (fun _ _ => 0) ⟨#[], args, []⟩).memory := by
  rw [plainH]
  exact laidMet_laidAll args (by kernel_rfl) (by kernel_rfl)
theorem reads (os : Os) {H : Type} (enc : TypeId × Value → H) : ∃ places, DataW.whole enc Tryz.prog ((World.laidAll Tryz.prog os Rows.valueDigitsRow.laid).forCall (fun _ _ => 0) ⟨#[], #[.int .i64 0], []⟩).memory Tryz.f10.params.toList Rows.valueDigitsSpec.vars false #[Value.int .i64 0].toList 8 = some ([.lit (.int .i64 0)], [], places) :=
  ⟨[], by kernel_rfl⟩

set_option maxRecDepth 100000 in
theorem lifted (os : Os) (started : os.Started) (H : Type) (enc : TypeId × Value → H) (F : Stop.Interp) :
    ReturnsInHanded {} Tryz.checked os 10 .any ((OpenSpec.ofChange Rows.valueDigitsSpec).preRow enc Tryz.prog Tryz.f10 Rows.valueDigitsRow.domain false Rows.valueDigitsRow.laid) (((OpenSpec.ofChange Rows.valueDigitsSpec).at F).post enc Tryz.prog Tryz.f10 false true false false) := by
  obtain ⟨places, hx⟩ := reads os enc
  refine returnsInHanded_of_row (C := Tryz.checked) (s := OpenSpec.ofChange Rows.valueDigitsSpec) own started (by kernel_rfl) Tryz.func10
    (wit_row (enc := enc) (C := Tryz.checked) (World.laidAll Tryz.prog os Rows.valueDigitsRow.laid) #[.int .i64 0] (World.laidAll_os _ _ _) (World.shaped_of_ZipB (by kernel_rfl) (by kernel_rfl)) (by kernel_rfl)
      (OpenSpec.preRow_of_cond 8 hx (by kernel_rfl) (fun k hk => by cases hk) (by kernel_rfl) (door_met os _))) ?_
  intro W base args ds gs before hval0 hW _ _ hsz0 hL hShp _
  have hsz : (DataW.weightsEach Tryz.prog (Tryz.f10.params.toList ++ Rows.valueDigitsSpec.plain.varTypes Tryz.prog) (ds ++ gs)).all (· ≤ reachBytes) = true := hsz0
  have hval : ∀ (j : Nat) t v, Tryz.f10.params[j]? = some t → args[j]? = some v → Value.okWide Tryz.prog W .any base t v := hval0
  have hW' : DataW.Whole enc Tryz.prog Tryz.f10.params.toList Rows.valueDigitsSpec.vars false W args.toList ds gs before := hW
  have hW0 := hW'
  obtain ⟨p, q, hA0, hV, rfl, hfz, hnd⟩ := hW0
  have hA : DataW.TrodAll enc Tryz.prog W 0 (fun _ => true) true Tryz.f10.params.toList args.toList ds p := hA0
  rw [Tryz.params10] at hA hval hsz
  obtain ⟨v0, vs0, d0, ds0, p0, q0, hargs, rfl, rfl, h0, r0⟩ := trodAll_cons hA
  obtain ⟨rfl, rfl, rfl⟩ := trodAll_nil r0
  obtain rfl : args = #[v0] := by cases args; simp_all
  obtain ⟨rfl, rfl⟩ := trodVars_none hV
  obtain ⟨z0, rfl, rfl, rfl, wz0⟩ := open_int Tryz.underlying2 (hval 0 2 v0 rfl rfl) h0
  have hL2 : laidMetH Tryz.prog Rows.valueDigitsRow.laid W := hL
  rw [plainH] at hL2
  have hT : Tw W := tw_of hL2 (by simp [Rows.valueDigitsRow]) (by simp [Rows.valueDigitsRow])
  have bz0 := bounds_i64 wz0
  have hc : Calls Tryz.prog 10 #[.int .i64 z0] W fun e w' => e = .returned (.bool true) ∧ Fr (fun _ => False) W w' := by
    exact digits_walk W z0 ⟨bz0.1, bz0.2⟩ hT
  refine hc.mono fun e W' ⟨he, fr⟩ => ?_
  have bel := below_of_fr fr
  subst he
  exact ⟨_, rfl, _, _, _, [], _, [], hW', trodAll_mk1 (shut_bool Tryz.underlying4 _), trodAll_mk1 (shut_int Tryz.underlying2 wz0), rfl, bel.frame _, fun h => by cases h⟩

theorem said : Rows.ValueDigitsSaid :=
  OpenClaim.holds_of_cond 10 Tryz.f10 rfl rfl rfl rfl rfl rfl rfl ⟨rfl, rfl, rfl, rfl, rfl⟩ rfl rfl rfl rfl rfl (by kernel_rfl) Tryz.func10 closed
    (of_decide_eq_true (by kernel_rfl)) (by unfold Func.isWrapper; first | (rw [if_pos (by decide +kernel)]; kernel_rfl) | (rw [if_neg (by decide +kernel)]; exact ⟨rfl, rfl⟩))
    (fun os started H enc _ F => by rw [OpenClaim.pre_eq_preRow]; exact lifted os started H enc F)
theorem plain (f : FuncId) (fn : Func) (hf : Tryz.pinned.checked.prog.funcNamed "bootjack/bootjacklaw12.ValueDigits" = some f) (hfn : Tryz.pinned.checked.prog.funcs[f]? = some fn) :
    true = Tryz.pinned.checked.prog.looks [] ∧ ∀ (j : Nat) t, fn.params[j]? = some t → Tryz.pinned.checked.prog.wantsStandIn t = false := by
  obtain rfl : f = 10 := Option.some.inj ((show Tryz.prog.funcNamed "bootjack/bootjacklaw12.ValueDigits" = some 10 by kernel_rfl).symm.trans hf) |>.symm
  obtain rfl : fn = Tryz.f10 := (Option.some.inj (Tryz.func10.symm.trans hfn)).symm
  refine ⟨by kernel_rfl, fun j t ht => ?_⟩
  rw [Tryz.params10] at ht
  have hm : t ∈ [2] := by simpa using Array.mem_of_getElem? ht
  have hall : ([2].all fun u => !Tryz.prog.wantsStandIn u) = true := by kernel_rfl
  exact (show Tryz.prog.wantsStandIn t = false by simpa using List.all_eq_true.1 hall t hm)

end Go.Proofs.YtlepjghfcpgbcaaGreatDoor.valueDigits
namespace Go.Proofs.YtlepjghfcpgbcaaGreatDoor
theorem valueDigits_proved : Rows.ValueDigitsCardSaid :=
  Claim7.holds_tied_plain_at .later [] _ _ _ _ valueDigits.said (fun _ h => by cases h) (by kernel_rfl) (fun _ h => by cases h) valueDigits_row_tie rfl ⟨rfl, rfl⟩ (by kernel_rfl) rfl valueDigits.plain (by kernel_rfl)
#print axioms valueDigits_proved
end Go.Proofs.YtlepjghfcpgbcaaGreatDoor
