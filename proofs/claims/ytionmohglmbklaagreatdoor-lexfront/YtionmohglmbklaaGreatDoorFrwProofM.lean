import Derived.Test.YtionmohglmbklaaGreatDoorCards
import Derived.JoinedCond
import Derived.WalkKit
import Derived.Test.YtionmohglmbklaaGreatDoorTie
import Derived.Test.YtionmohglmbklaaGreatDoorFrwM
import Derived.Test.YtionmohglmbklaaGreatDoorLag
import Derived.ChangeMaps5
import Derived.ShutString
import Derived.OpenShut
import Derived.Lay
import Derived.MakeChecks
/- Closed facts of LexFront' row. -/
namespace Go.Proofs.YtionmohglmbklaaGreatDoor.lexFront
open Go.RowKit
theorem fa1 : laidOutB Tryz.prog = true := by kernel_rfl
theorem fa2 : mapsRowed Tryz.prog = true := by kernel_rfl
theorem fa3 : (Rows.lexFrontRow.inPlace == Tryz.prog.inPlace 7) = true := by kernel_rfl
theorem fa4 : (Rows.lexFrontRow.unfollowed == Tryz.prog.unfollowed 7) = true := by kernel_rfl
theorem fa5 : (Rows.lexFrontRow.recurses == Tryz.prog.recurses 7) = true := by kernel_rfl
theorem fa6 : (Rows.lexFrontRow.named == Tryz.prog.varsNamed 7) = true := by kernel_rfl
set_option maxRecDepth 100000 in
theorem closed : joinedFacts Tryz.prog 7 Tryz.f7 (OpenSpec.ofChange Rows.lexFrontSpec).bare Rows.lexFrontRow = true := by
  simp only [joinedFacts, Bool.and_eq_true]
  repeat' apply And.intro
  all_goals first | (with_reducible exact fa1) | (with_reducible exact fa2) | (with_reducible exact fa3) | (with_reducible exact fa4) | (with_reducible exact fa5) | (with_reducible exact fa6) | kernel_rfl
end Go.Proofs.YtionmohglmbklaaGreatDoor.lexFront
/- PROVED: for every text and every number, LexFront returns true and leaves its arguments as they were. The tables and the errors of the library that the row lists hold what the program's text lays (tied; two great tables are pinned by the form). -/
namespace Go.Proofs.YtionmohglmbklaaGreatDoor.lexFront
open Go.ChangeShapes Go.WideShapes Go.ChangeAt Go.RowKit Go.ChangeMaps Go.Proofs.YtionmohglmbklaaGreatDoor.Tr

theorem own : ownKnob Tryz.prog.godebug = none := by kernel_rfl
theorem plainH (W : World) : laidMetH Tryz.prog Rows.lexFrontRow.laid W = laidMet Tryz.prog Rows.lexFrontRow.laid W := MakeChecks.laidMetH_plain _ _ _ (by kernel_rfl)
theorem door_met (os : Os) (args : Array Value) : laidMetH Tryz.prog Rows.lexFrontRow.laid ((World.laidAll Tryz.prog os Rows.lexFrontRow.laid).forCall (fun _ _ => 0) ⟨#[], args, []⟩).memory := by
  rw [plainH]
  exact laidMet_laidAll args (by kernel_rfl) (by kernel_rfl)
theorem reads (os : Os) {H : Type} (enc : TypeId × Value → H) : ∃ places, DataW.whole enc Tryz.prog ((World.laidAll Tryz.prog os Rows.lexFrontRow.laid).forCall (fun _ _ => 0) ⟨#[], #[.string ⟨#[]⟩, .int .i64 0], []⟩).memory Tryz.f7.params.toList Rows.lexFrontSpec.vars false #[Value.string ⟨#[]⟩, .int .i64 0].toList 8 = some ([.lit (.string []), .lit (.int .i64 0)], [], places) :=
  ⟨[], by kernel_rfl⟩

set_option maxRecDepth 100000 in
theorem lifted (os : Os) (started : os.Started) (H : Type) (enc : TypeId × Value → H) (F : Stop.Interp) :
    ReturnsInHanded {} Tryz.checked os 7 .any ((OpenSpec.ofChange Rows.lexFrontSpec).preRow enc Tryz.prog Tryz.f7 Rows.lexFrontRow.domain false Rows.lexFrontRow.laid) (((OpenSpec.ofChange Rows.lexFrontSpec).at F).post enc Tryz.prog Tryz.f7 false true false false) := by
  obtain ⟨places, hx⟩ := reads os enc
  refine returnsInHanded_of_row (C := Tryz.checked) (s := OpenSpec.ofChange Rows.lexFrontSpec) own started (by kernel_rfl) Tryz.func7
    (wit_row (enc := enc) (C := Tryz.checked) (World.laidAll Tryz.prog os Rows.lexFrontRow.laid) #[.string ⟨#[]⟩, .int .i64 0] (World.laidAll_os _ _ _) (World.shaped_of_ZipB (by kernel_rfl) (by kernel_rfl)) (by kernel_rfl)
      (OpenSpec.preRow_of_cond 8 hx (by kernel_rfl) (fun k hk => by cases hk) (by kernel_rfl) (door_met os _))) ?_
  intro W base args ds gs before hval0 hW _ _ hsz0 hL hShp _
  have hsz : (DataW.weightsEach Tryz.prog (Tryz.f7.params.toList ++ Rows.lexFrontSpec.plain.varTypes Tryz.prog) (ds ++ gs)).all (· ≤ reachBytes) = true := hsz0
  have hval : ∀ (j : Nat) t v, Tryz.f7.params[j]? = some t → args[j]? = some v → Value.okWide Tryz.prog W .any base t v := hval0
  have hW' : DataW.Whole enc Tryz.prog Tryz.f7.params.toList Rows.lexFrontSpec.vars false W args.toList ds gs before := hW
  have hW0 := hW'
  obtain ⟨p, q, hA0, hV, rfl, hfz, hnd⟩ := hW0
  have hA : DataW.TrodAll enc Tryz.prog W 0 (fun _ => true) true Tryz.f7.params.toList args.toList ds p := hA0
  rw [Tryz.params7] at hA hval hsz
  obtain ⟨v0, vs0, d0, ds0, p0, q0, hargs, rfl, rfl, h0, r0⟩ := trodAll_cons hA
  obtain ⟨v1, vs1, d1, ds1, p1, q1, rfl, rfl, rfl, h1, r1⟩ := trodAll_cons r0
  obtain ⟨rfl, rfl, rfl⟩ := trodAll_nil r1
  obtain rfl : args = #[v0, v1] := by cases args; simp_all
  obtain ⟨rfl, rfl⟩ := trodVars_none hV
  obtain ⟨s, rfl, rfl, rfl, ws⟩ := open_string Tryz.underlying9 (hval 0 9 v0 rfl rfl) h0
  obtain ⟨z, rfl, rfl, rfl, wz⟩ := open_int Tryz.underlying3 (hval 1 3 v1 rfl rfl) h1
  have hL2 : laidMetH Tryz.prog Rows.lexFrontRow.laid W := hL
  rw [plainH] at hL2
  have hT : Tabs W := tabs_of hL2 (by simp [Rows.lexFrontRow]) (by simp [Rows.lexFrontRow]) (by simp [Rows.lexFrontRow])
  have hN : Nums2 W := nums2_of (tbs_of hL2 hT (by simp [Rows.lexFrontRow]) (by simp [Rows.lexFrontRow]) (by simp [Rows.lexFrontRow])) (fbt_of hL2 (by simp [Rows.lexFrontRow]) (by simp [Rows.lexFrontRow]) (by simp [Rows.lexFrontRow])) (fun i _ => (tabQ_lt i).1) q10_fin
  have hw0 : ∀ n ∈ (DataW.lit (.string s.data.toList) : DataW H).weights Tryz.prog 9, n ≤ reachBytes := fun n hn => of_decide_eq_true (List.all_eq_true.1 hsz _ (DataW.weights_mem_each (j := 0) (t := 9) rfl rfl n hn))
  have hsl : s.data.toList.length ≤ 140737488351232 := hw0 _ (by simp [DataW.weights])
  have es : s = ⟨s.data.toList.toArray⟩ := by cases s; rfl
  have hc : Calls Tryz.prog 7 #[.string s, .int .i64 z] W fun e w' => e = .returned (.bool true) ∧ Fr (fun _ => False) W w' := by
    rw [es]
    have bz := bounds_i64 wz
    exact lexFront_any hT hN _ hsl z bz.1 (by omega)
  refine hc.mono fun e W' ⟨he, fr⟩ => ?_
  have bel := below_of_fr fr
  subst he
  exact ⟨_, rfl, _, _, _, [], _, [], hW', trodAll_mk1 (shut_bool Tryz.underlying4 _), trodAll_cons_mk (shut_string Tryz.underlying9 ws) (trodAll_mk1 (shut_int Tryz.underlying3 wz)), rfl, bel.frame _, fun h => by cases h⟩

theorem said : Rows.LexFrontSaid :=
  OpenClaim.holds_of_cond 7 Tryz.f7 rfl rfl rfl rfl rfl rfl rfl ⟨rfl, rfl, rfl, rfl, rfl⟩ rfl rfl rfl rfl rfl (by kernel_rfl) Tryz.func7 closed
    (of_decide_eq_true (by kernel_rfl)) (by unfold Func.isWrapper; first | (rw [if_pos (by decide +kernel)]; kernel_rfl) | (rw [if_neg (by decide +kernel)]; exact ⟨rfl, rfl⟩))
    (fun os started H enc _ F => by rw [OpenClaim.pre_eq_preRow]; exact lifted os started H enc F)
theorem plain (f : FuncId) (fn : Func) (hf : Tryz.pinned.checked.prog.funcNamed "bootjack/bootjacklaw10.LexFront" = some f) (hfn : Tryz.pinned.checked.prog.funcs[f]? = some fn) :
    true = Tryz.pinned.checked.prog.looks [] ∧ ∀ (j : Nat) t, fn.params[j]? = some t → Tryz.pinned.checked.prog.wantsStandIn t = false := by
  obtain rfl : f = 7 := Option.some.inj ((show Tryz.prog.funcNamed "bootjack/bootjacklaw10.LexFront" = some 7 by kernel_rfl).symm.trans hf) |>.symm
  obtain rfl : fn = Tryz.f7 := (Option.some.inj (Tryz.func7.symm.trans hfn)).symm
  refine ⟨by kernel_rfl, fun j t ht => ?_⟩
  rw [Tryz.params7] at ht
  have hm : t ∈ [9, 3] := by simpa using Array.mem_of_getElem? ht
  have hall : ([9, 3].all fun u => !Tryz.prog.wantsStandIn u) = true := by kernel_rfl
  exact (show Tryz.prog.wantsStandIn t = false by simpa using List.all_eq_true.1 hall t hm)

end Go.Proofs.YtionmohglmbklaaGreatDoor.lexFront
namespace Go.Proofs.YtionmohglmbklaaGreatDoor
theorem lexFront_proved : Rows.LexFrontCardSaid :=
  Claim7.holds_tied_plain_at .later [] _ _ _ _ lexFront.said (fun _ h => by cases h) (by kernel_rfl) (fun _ h => by cases h) lexFront_row_tie rfl ⟨rfl, rfl⟩ (by kernel_rfl) rfl lexFront.plain (by kernel_rfl)
#print axioms lexFront_proved
end Go.Proofs.YtionmohglmbklaaGreatDoor
