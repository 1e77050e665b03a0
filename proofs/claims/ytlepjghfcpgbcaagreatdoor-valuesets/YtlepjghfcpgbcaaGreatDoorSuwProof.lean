/- PROVED: for every two values, ValueSets returns true and leaves them as they were. The tables of the library that the row lists hold what the program's text lays (tied; two great tables are pinned by the form). -/
import Derived.Test.YtlepjghfcpgbcaaGreatDoorCards
import Derived.Test.YtlepjghfcpgbcaaGreatDoorTie
import Derived.Test.YtlepjghfcpgbcaaGreatDoorSuw
import Derived.Test.YtlepjghfcpgbcaaGreatDoorSuk
import Derived.Test.YtlepjghfcpgbcaaGreatDoorTws
import Derived.Test.YtlepjghfcpgbcaaGreatDoorArv
import Derived.ChangeMaps5
import Derived.ShutString
import Derived.OpenShut
import Derived.Lay
import Derived.MakeChecks
namespace Go.Proofs.YtlepjghfcpgbcaaGreatDoor.valueSets
open Go.ChangeShapes Go.WideShapes Go.ChangeAt Go.RowKit Go.ChangeMaps Go.Proofs.YtlepjghfcpgbcaaGreatDoor.Tr

theorem own : ownKnob Tryz.prog.godebug = none := by kernel_rfl
theorem plainH (W : World) : laidMetH Tryz.prog Rows.valueSetsRow.laid W = laidMet Tryz.prog Rows.valueSetsRow.laid W := MakeChecks.laidMetH_plain _ _ _ (by kernel_rfl)
theorem laidOut : laidOutB Tryz.prog = true := fa1
theorem door_met (os : Os) (args : Array Value) : laidMetH Tryz.prog Rows.valueSetsRow.laid ((World.laidAll Tryz.prog os Rows.valueSetsRow.laid).forCall (fun _ _ => 0) ⟨#[], args, []⟩).memory := by
  rw [plainH]
  exact laidMet_laidAll args (by kernel_rfl) (by kernel_rfl)
theorem reads (os : Os) {H : Type} (enc : TypeId × Value → H) : ∃ places, DataW.whole enc Tryz.prog ((World.laidAll Tryz.prog os Rows.valueSetsRow.laid).forCall (fun _ _ => 0) ⟨#[], #[vZ.v, vZ.v], []⟩).memory Tryz.f9.params.toList Rows.valueSetsSpec.vars false #[vZ.v, vZ.v].toList 8 = some ([.agg [.lit (.int .i64 0), .lit (.int .i64 0), .lit (.float .f64 0), .lit (.string []), .nil, .nil], .agg [.lit (.int .i64 0), .lit (.int .i64 0), .lit (.float .f64 0), .lit (.string []), .nil, .nil]], [], places) :=
  ⟨[], by kernel_rfl⟩

set_option maxRecDepth 100000 in
theorem lifted (os : Os) (started : os.Started) (H : Type) (enc : TypeId × Value → H) (F : Stop.Interp) :
    ReturnsInHanded {} Tryz.checked os 9 .any ((OpenSpec.ofChange Rows.valueSetsSpec).preRow enc Tryz.prog Tryz.f9 Rows.valueSetsRow.domain false Rows.valueSetsRow.laid) (((OpenSpec.ofChange Rows.valueSetsSpec).at F).post enc Tryz.prog Tryz.f9 false true false false) := by
  obtain ⟨places, hx⟩ := reads os enc
  refine returnsInHanded_of_row (C := Tryz.checked) (s := OpenSpec.ofChange Rows.valueSetsSpec) own started (by kernel_rfl) Tryz.func9
    (wit_row (enc := enc) (C := Tryz.checked) (World.laidAll Tryz.prog os Rows.valueSetsRow.laid) #[vZ.v, vZ.v] (World.laidAll_os _ _ _) (World.shaped_of_ZipB (by kernel_rfl) (by kernel_rfl)) (by kernel_rfl)
      (OpenSpec.preRow_of_cond 8 hx (by kernel_rfl) (fun k hk => by cases hk) (by kernel_rfl) (door_met os _))) ?_
  intro W base args ds gs before hval0 hW _ _ hsz0 hL hShp _
  have hsz : (DataW.weightsEach Tryz.prog (Tryz.f9.params.toList ++ Rows.valueSetsSpec.plain.varTypes Tryz.prog) (ds ++ gs)).all (· ≤ reachBytes) = true := hsz0
  have hval : ∀ (j : Nat) t v, Tryz.f9.params[j]? = some t → args[j]? = some v → Value.okWide Tryz.prog W .any base t v := hval0
  have hW' : DataW.Whole enc Tryz.prog Tryz.f9.params.toList Rows.valueSetsSpec.vars false W args.toList ds gs before := hW
  have hW0 := hW'
  obtain ⟨p, q, hA0, hV, rfl, hfz, hnd⟩ := hW0
  have hA : DataW.TrodAll enc Tryz.prog W 0 (fun _ => true) true Tryz.f9.params.toList args.toList ds p := hA0
  rw [Tryz.params9] at hA hval hsz
  obtain ⟨v0, vs0, d0, ds0, p0, q0, hargs, rfl, rfl, h0, r0⟩ := trodAll_cons hA
  obtain ⟨v1, vs1, d1, ds1, p1, q1, rfl, rfl, rfl, h1, r1⟩ := trodAll_cons r0
  obtain ⟨rfl, rfl, rfl⟩ := trodAll_nil r1
  obtain rfl : args = #[v0, v1] := by cases args; simp_all
  obtain ⟨rfl, rfl⟩ := trodVars_none hV
  obtain ⟨cs0, rfl, hcs0⟩ := okWide_struct Tryz.underlying26 (hval 0 26 v0 rfl rfl)
  have k0 := h0
  have lt0 : ∀ x ∈ p0, x.block < W.heap.size := by obtain ⟨m, hm⟩ := k0; exact DataW.trod_lt m _ _ _ hm
  have hw0 : ∀ n ∈ d0.weights Tryz.prog 26, n ≤ reachBytes := fun n hn => of_decide_eq_true (List.all_eq_true.1 hsz _ (DataW.weights_mem_each (j := 0) (t := 26) rfl rfl n hn))
  obtain ⟨u0, x0, e0, hx0⟩ : ∃ (v : Vt) (x : Vv), cs0.toList = x.cs ∧ VIn W v x := by obtain ⟨m, hm⟩ := k0; exact open_tree _ (Nat.le_refl _) hm (by rw [cellsV] at hcs0; simpa using hcs0) hw0
  have ev0 : Value.agg cs0 = x0.v := by rw [← Array.toArray_toList (xs := cs0), e0]
  obtain ⟨cs1, rfl, hcs1⟩ := okWide_struct Tryz.underlying26 (hval 1 26 v1 rfl rfl)
  have k1 := h1
  have lt1 : ∀ x ∈ p1, x.block < W.heap.size := by obtain ⟨m, hm⟩ := k1; exact DataW.trod_lt m _ _ _ hm
  have hw1 : ∀ n ∈ d1.weights Tryz.prog 26, n ≤ reachBytes := fun n hn => of_decide_eq_true (List.all_eq_true.1 hsz _ (DataW.weights_mem_each (j := 1) (t := 26) rfl rfl n hn))
  obtain ⟨u1, x1, e1, hx1⟩ : ∃ (v : Vt) (x : Vv), cs1.toList = x.cs ∧ VIn W v x := by obtain ⟨m, hm⟩ := k1; exact open_tree _ (Nat.le_refl _) hm (by rw [cellsV] at hcs1; simpa using hcs1) hw1
  have ev1 : Value.agg cs1 = x1.v := by rw [← Array.toArray_toList (xs := cs1), e1]
  have hL2 : laidMetH Tryz.prog Rows.valueSetsRow.laid W := hL
  rw [plainH] at hL2
  have hT : Tw W := tw_of hL2 (by simp [Rows.valueSetsRow]) (by simp [Rows.valueSetsRow])
  have hc : Calls Tryz.prog 9 #[.agg cs0, .agg cs1] W fun e w' => e = .returned (.bool true) ∧ Fr (fun _ => False) W w' := by
    rw [ev0, ev1]
    exact sets_walk W _ _ _ _ hx0 hx1 hT
  refine hc.mono fun e W' ⟨he, fr⟩ => ?_
  have bel := below_of_fr fr
  subst he
  exact ⟨_, rfl, _, _, _, [], _, [], hW', trodAll_mk1 (shut_bool Tryz.underlying4 _), trodAll_cons_mk (Below.trod laidOut (by kernel_rfl) (of_decide_eq_true (by kernel_rfl)) k0 bel lt0) (trodAll_cons_mk (Below.trod laidOut (by kernel_rfl) (of_decide_eq_true (by kernel_rfl)) k1 bel lt1) trodAll_mk0), rfl, bel.frame _, fun h => by cases h⟩

theorem said : Rows.ValueSetsSaid :=
  OpenClaim.holds_of_cond 9 Tryz.f9 rfl rfl rfl rfl rfl rfl rfl ⟨rfl, rfl, rfl, rfl, rfl⟩ rfl rfl rfl rfl rfl (by kernel_rfl) Tryz.func9 closed
    (of_decide_eq_true (by kernel_rfl)) (by unfold Func.isWrapper; first | (rw [if_pos (by decide +kernel)]; kernel_rfl) | (rw [if_neg (by decide +kernel)]; exact ⟨rfl, rfl⟩))
    (fun os started H enc _ F => by rw [OpenClaim.pre_eq_preRow]; exact lifted os started H enc F)
theorem plain (f : FuncId) (fn : Func) (hf : Tryz.pinned.checked.prog.funcNamed "bootjack/bootjacklaw12.ValueSets" = some f) (hfn : Tryz.pinned.checked.prog.funcs[f]? = some fn) :
    true = Tryz.pinned.checked.prog.looks [] ∧ ∀ (j : Nat) t, fn.params[j]? = some t → Tryz.pinned.checked.prog.wantsStandIn t = false := by
  obtain rfl : f = 9 := Option.some.inj ((show Tryz.prog.funcNamed "bootjack/bootjacklaw12.ValueSets" = some 9 by kernel_rfl).symm.trans hf) |>.symm
  obtain rfl : fn = Tryz.f9 := (Option.some.inj (Tryz.func9.symm.trans hfn)).symm
  refine ⟨by kernel_rfl, fun j t ht => ?_⟩
  rw [Tryz.params9] at ht
  have hm : t ∈ [26, 26] := by simpa using Array.mem_of_getElem? ht
  have hall : ([26, 26].all fun u => !Tryz.prog.wantsStandIn u) = true := by kernel_rfl
  exact (show Tryz.prog.wantsStandIn t = false by simpa using List.all_eq_true.1 hall t hm)

end Go.Proofs.YtlepjghfcpgbcaaGreatDoor.valueSets
namespace Go.Proofs.YtlepjghfcpgbcaaGreatDoor
theorem valueSets_proved : Rows.ValueSetsCardSaid :=
  Claim7.holds_tied_plain_at .later [] _ _ _ _ valueSets.said (fun _ h => by cases h) (by kernel_rfl) (fun _ h => by cases h) valueSets_row_tie rfl ⟨rfl, rfl⟩ (by kernel_rfl) rfl valueSets.plain (by kernel_rfl)
#print axioms valueSets_proved
end Go.Proofs.YtlepjghfcpgbcaaGreatDoor
