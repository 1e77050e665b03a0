/- PROVED: for every three texts, ValueStrings returns true and leaves them as they were. The tables of the library that the row lists hold what the program's text lays (tied; two great tables are pinned by the form). -/
import Derived.Test.YtlepjghfcpgbcaaGreatDoorCards
import Derived.Test.YtlepjghfcpgbcaaGreatDoorTie
import Derived.Test.YtlepjghfcpgbcaaGreatDoorStw
import Derived.Test.YtlepjghfcpgbcaaGreatDoorStk
import Derived.Test.YtlepjghfcpgbcaaGreatDoorTws
import Derived.ChangeMaps5
import Derived.ShutString
import Derived.OpenShut
import Derived.Lay
import Derived.MakeChecks
namespace Go.Proofs.YtlepjghfcpgbcaaGreatDoor.valueStrings
open Go.ChangeShapes Go.WideShapes Go.ChangeAt Go.RowKit Go.ChangeMaps Go.Proofs.YtlepjghfcpgbcaaGreatDoor.Tr

theorem own : ownKnob Tryz.prog.godebug = none := by kernel_rfl
theorem plainH (W : World) : laidMetH Tryz.prog Rows.valueStringsRow.laid W = laidMet Tryz.prog Rows.valueStringsRow.laid W := MakeChecks.laidMetH_plain _ _ _ (by kernel_rfl)
theorem door_met (os : Os) (args : Array Value) : laidMetH Tryz.prog Rows.valueStringsRow.laid ((World.laidAll Tryz.prog os Rows.valueStringsRow.laid).forCall (fun _ _ => 0) ⟨#[], args, []⟩).memory := by
  rw [plainH]
  exact laidMet_laidAll args (by kernel_rfl) (by kernel_rfl)
theorem reads (os : Os) {H : Type} (enc : TypeId × Value → H) : ∃ places, DataW.whole enc Tryz.prog ((World.laidAll Tryz.prog os Rows.valueStringsRow.laid).forCall (fun _ _ => 0) ⟨#[], #[.string ⟨#[]⟩, .string ⟨#[]⟩, .string ⟨#[]⟩], []⟩).memory Tryz.f11.params.toList Rows.valueStringsSpec.vars false #[Value.string ⟨#[]⟩, .string ⟨#[]⟩, .string ⟨#[]⟩].toList 8 = some ([.lit (.string []), .lit (.string []), .lit (.string [])], [], places) :=
  ⟨[], by kernel_rfl⟩

set_option maxRecDepth 100000 in
theorem lifted (os : Os) (started : os.Started) (H : Type) (enc : TypeId × Value → H) (F : Stop.Interp) :
    ReturnsInHanded {} Tryz.checked os 11 .any ((OpenSpec.ofChange Rows.valueStringsSpec).preRow enc Tryz.prog Tryz.f11 Rows.valueStringsRow.domain false Rows.valueStringsRow.laid) (((OpenSpec.ofChange Rows.valueStringsSpec).at F).post enc Tryz.prog Tryz.f11 false true false false) := by
  obtain ⟨places, hx⟩ := reads os enc
  refine returnsInHanded_of_row (C := Tryz.checked) (s := OpenSpec.ofChange Rows.valueStringsSpec) own started (by kernel_rfl) Tryz.func11
    (wit_row (enc := enc) (C := Tryz.checked) (World.laidAll Tryz.prog os Rows.valueStringsRow.laid) #[.string ⟨#[]⟩, .string ⟨#[]⟩, .string ⟨#[]⟩] (World.laidAll_os _ _ _) (World.shaped_of_ZipB (by kernel_rfl) (by kernel_rfl)) (by kernel_rfl)
      (OpenSpec.preRow_of_cond 8 hx (by kernel_rfl) (fun k hk => by cases hk) (by kernel_rfl) (door_met os _))) ?_
  intro W base args ds gs before hval0 hW _ _ hsz0 hL hShp _
  have hsz : (DataW.weightsEach Tryz.prog (Tryz.f11.params.toList ++ Rows.valueStringsSpec.plain.varTypes Tryz.prog) (ds ++ gs)).all (· ≤ reachBytes) = true := hsz0
  have hval : ∀ (j : Nat) t v, Tryz.f11.params[j]? = some t → args[j]? = some v → Value.okWide Tryz.prog W .any base t v := hval0
  have hW' : DataW.Whole enc Tryz.prog Tryz.f11.params.toList Rows.valueStringsSpec.vars false W args.toList ds gs before := hW
  have hW0 := hW'
  obtain ⟨p, q, hA0, hV, rfl, hfz, hnd⟩ := hW0
  have hA : DataW.TrodAll enc Tryz.prog W 0 (fun _ => true) true Tryz.f11.params.toList args.toList ds p := hA0
  rw [Tryz.params11] at hA hval hsz
  obtain ⟨v0, vs0, d0, ds0, p0, q0, hargs, rfl, rfl, h0, r0⟩ := trodAll_cons hA
  obtain ⟨v1, vs1, d1, ds1, p1, q1, rfl, rfl, rfl, h1, r1⟩ := trodAll_cons r0
  obtain ⟨v2, vs2, d2, ds2, p2, q2, rfl, rfl, rfl, h2, r2⟩ := trodAll_cons r1
  obtain ⟨rfl, rfl, rfl⟩ := trodAll_nil r2
  obtain rfl : args = #[v0, v1, v2] := by cases args; simp_all
  obtain ⟨rfl, rfl⟩ := trodVars_none hV
  obtain ⟨z0, rfl, rfl, rfl, wz0⟩ := open_string Tryz.underlying9 (hval 0 9 v0 rfl rfl) h0
  obtain ⟨z1, rfl, rfl, rfl, wz1⟩ := open_string Tryz.underlying9 (hval 1 9 v1 rfl rfl) h1
  obtain ⟨z2, rfl, rfl, rfl, wz2⟩ := open_string Tryz.underlying9 (hval 2 9 v2 rfl rfl) h2
  have hL2 : laidMetH Tryz.prog Rows.valueStringsRow.laid W := hL
  rw [plainH] at hL2
  have hT : Tw W := tw_of hL2 (by simp [Rows.valueStringsRow]) (by simp [Rows.valueStringsRow])
  have hw0 : ∀ n ∈ (DataW.lit (.string z0.data.toList) : DataW H).weights Tryz.prog 9, n ≤ reachBytes := fun n hn => of_decide_eq_true (List.all_eq_true.1 hsz _ (DataW.weights_mem_each (j := 0) (t := 9) rfl rfl n hn))
  have hsl0 : z0.data.toList.length ≤ 140737488351232 := hw0 _ (by simp [DataW.weights])
  have es0 : z0 = ⟨z0.data.toList.toArray⟩ := by cases z0; rfl
  have hw1 : ∀ n ∈ (DataW.lit (.string z1.data.toList) : DataW H).weights Tryz.prog 9, n ≤ reachBytes := fun n hn => of_decide_eq_true (List.all_eq_true.1 hsz _ (DataW.weights_mem_each (j := 1) (t := 9) rfl rfl n hn))
  have hsl1 : z1.data.toList.length ≤ 140737488351232 := hw1 _ (by simp [DataW.weights])
  have es1 : z1 = ⟨z1.data.toList.toArray⟩ := by cases z1; rfl
  have hw2 : ∀ n ∈ (DataW.lit (.string z2.data.toList) : DataW H).weights Tryz.prog 9, n ≤ reachBytes := fun n hn => of_decide_eq_true (List.all_eq_true.1 hsz _ (DataW.weights_mem_each (j := 2) (t := 9) rfl rfl n hn))
  have hsl2 : z2.data.toList.length ≤ 140737488351232 := hw2 _ (by simp [DataW.weights])
  have es2 : z2 = ⟨z2.data.toList.toArray⟩ := by cases z2; rfl
  have hc : Calls Tryz.prog 11 #[.string z0, .string z1, .string z2] W fun e w' => e = .returned (.bool true) ∧ Fr (fun _ => False) W w' := by
    rw [es0, es1, es2]
    exact strings_walk W _ _ _ hsl0 hsl1 hsl2 hT
  refine hc.mono fun e W' ⟨he, fr⟩ => ?_
  have bel := below_of_fr fr
  subst he
  exact ⟨_, rfl, _, _, _, [], _, [], hW', trodAll_mk1 (shut_bool Tryz.underlying4 _), trodAll_cons_mk (shut_string Tryz.underlying9 wz0) (trodAll_cons_mk (shut_string Tryz.underlying9 wz1) (trodAll_mk1 (shut_string Tryz.underlying9 wz2))), rfl, bel.frame _, fun h => by cases h⟩

theorem said : Rows.ValueStringsSaid :=
  OpenClaim.holds_of_cond 11 Tryz.f11 rfl rfl rfl rfl rfl rfl rfl ⟨rfl, rfl, rfl, rfl, rfl⟩ rfl rfl rfl rfl rfl (by kernel_rfl) Tryz.func11 closed
    (of_decide_eq_true (by kernel_rfl)) (by unfold Func.isWrapper; first | (rw [if_pos (by decide +kernel)]; kernel_rfl) | (rw [if_neg (by decide +kernel)]; exact ⟨rfl, rfl⟩))
    (fun os started H enc _ F => by rw [OpenClaim.pre_eq_preRow]; exact lifted os started H enc F)
theorem plain (f : FuncId) (fn : Func) (hf : Tryz.pinned.checked.prog.funcNamed "bootjack/bootjacklaw12.ValueStrings" = some f) (hfn : Tryz.pinned.checked.prog.funcs[f]? = some fn) :
    true = Tryz.pinned.checked.prog.looks [] ∧ ∀ (j : Nat) t, fn.params[j]? = some t → Tryz.pinned.checked.prog.wantsStandIn t = false := by
  obtain rfl : f = 11 := Option.some.inj ((show Tryz.prog.funcNamed "bootjack/bootjacklaw12.ValueStrings" = some 11 by kernel_rfl).symm.trans hf) |>.symm
  obtain rfl : fn = Tryz.f11 := (Option.some.inj (Tryz.func11.symm.trans hfn)).symm
  refine ⟨by kernel_rfl, fun j t ht => ?_⟩
  rw [Tryz.params11] at ht
  have hm : t ∈ [9, 9, 9] := by simpa using Array.mem_of_getElem? ht
  have hall : ([9, 9, 9].all fun u => !Tryz.prog.wantsStandIn u) = true := by kernel_rfl
  exact (show Tryz.prog.wantsStandIn t = false by simpa using List.all_eq_true.1 hall t hm)

end Go.Proofs.YtlepjghfcpgbcaaGreatDoor.valueStrings
namespace Go.Proofs.YtlepjghfcpgbcaaGreatDoor
theorem valueStrings_proved : Rows.ValueStringsCardSaid :=
  Claim7.holds_tied_plain_at .later [] _ _ _ _ valueStrings.said (fun _ h => by cases h) (by kernel_rfl) (fun _ h => by cases h) valueStrings_row_tie rfl ⟨rfl, rfl⟩ (by kernel_rfl) rfl valueStrings.plain (by kernel_rfl)
#print axioms valueStrings_proved
end Go.Proofs.YtlepjghfcpgbcaaGreatDoor
