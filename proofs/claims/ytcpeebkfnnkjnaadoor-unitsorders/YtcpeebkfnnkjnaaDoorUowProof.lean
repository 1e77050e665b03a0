/- PROVED: for every row of units, UnitsOrders returns true and leaves it as it was. The table of the library that the row lists holds what the program's text lays (tied). -/
import Derived.Test.YtcpeebkfnnkjnaaDoorCards
import Derived.Test.YtcpeebkfnnkjnaaDoorTie
import Derived.Test.YtcpeebkfnnkjnaaDoorUow
import Derived.Test.YtcpeebkfnnkjnaaDoorUok
import Derived.Test.YtcpeebkfnnkjnaaDoorAru
import Derived.ChangeMaps5
import Derived.ShutString
import Derived.OpenShut
import Derived.Lay
import Derived.MakeChecks
namespace Go.Proofs.YtcpeebkfnnkjnaaDoor.unitsOrders
open Go.ChangeShapes Go.WideShapes Go.ChangeAt Go.RowKit Go.ChangeMaps Go.Proofs.YtcpeebkfnnkjnaaDoor.Tr

theorem own : ownKnob Tryd.prog.godebug = none := by kernel_rfl
theorem plainH (W : World) : laidMetH Tryd.prog Rows.unitsOrdersRow.laid W = laidMet Tryd.prog Rows.unitsOrdersRow.laid W := MakeChecks.laidMetH_plain _ _ _ (by kernel_rfl)
theorem laidOut : laidOutB Tryd.prog = true := fa1
theorem door_met (os : Os) (args : Array Value) : laidMetH Tryd.prog Rows.unitsOrdersRow.laid ((World.laidAll Tryd.prog os Rows.unitsOrdersRow.laid).forCall (fun _ _ => 0) ⟨#[], args, []⟩).memory := by
  rw [plainH]
  exact laidMet_laidAll args (by kernel_rfl) (by kernel_rfl)
theorem reads (os : Os) {H : Type} (enc : TypeId × Value → H) : ∃ places, DataW.whole enc Tryd.prog ((World.laidAll Tryd.prog os Rows.unitsOrdersRow.laid).forCall (fun _ _ => 0) ⟨#[], #[.slice none 0 0], []⟩).memory Tryd.f3.params.toList Rows.unitsOrdersSpec.vars false #[Value.slice none 0 0].toList 8 = some ([.nil], [], places) :=
  ⟨[], by kernel_rfl⟩

set_option maxRecDepth 100000 in
theorem lifted (os : Os) (started : os.Started) (H : Type) (enc : TypeId × Value → H) (F : Stop.Interp) :
    ReturnsInHanded {} Tryd.checked os 3 .any ((OpenSpec.ofChange Rows.unitsOrdersSpec).preRow enc Tryd.prog Tryd.f3 Rows.unitsOrdersRow.domain false Rows.unitsOrdersRow.laid) (((OpenSpec.ofChange Rows.unitsOrdersSpec).at F).post enc Tryd.prog Tryd.f3 false true false false) := by
  obtain ⟨places, hx⟩ := reads os enc
  refine returnsInHanded_of_row (C := Tryd.checked) (s := OpenSpec.ofChange Rows.unitsOrdersSpec) own started (by kernel_rfl) Tryd.func3
    (wit_row (enc := enc) (C := Tryd.checked) (World.laidAll Tryd.prog os Rows.unitsOrdersRow.laid) #[.slice none 0 0] (World.laidAll_os _ _ _) (World.shaped_of_ZipB (by kernel_rfl) (by kernel_rfl)) (by kernel_rfl)
      (OpenSpec.preRow_of_cond 8 hx (by kernel_rfl) (fun k hk => by cases hk) (by kernel_rfl) (door_met os _))) ?_
  intro W base args ds gs before hval0 hW _ _ hsz0 hL hShp _
  have hsz : (DataW.weightsEach Tryd.prog (Tryd.f3.params.toList ++ Rows.unitsOrdersSpec.plain.varTypes Tryd.prog) (ds ++ gs)).all (· ≤ reachBytes) = true := hsz0
  have hval : ∀ (j : Nat) t v, Tryd.f3.params[j]? = some t → args[j]? = some v → Value.okWide Tryd.prog W .any base t v := hval0
  have hW' : DataW.Whole enc Tryd.prog Tryd.f3.params.toList Rows.unitsOrdersSpec.vars false W args.toList ds gs before := hW
  have hW0 := hW'
  obtain ⟨p, q, hA0, hV, rfl, hfz, hnd⟩ := hW0
  have hA : DataW.TrodAll enc Tryd.prog W 0 (fun _ => true) true Tryd.f3.params.toList args.toList ds p := hA0
  rw [Tryd.params3] at hA hval hsz
  obtain ⟨v0, vs0, d0, ds0, p0, q0, hargs, rfl, rfl, h0, r0⟩ := trodAll_cons hA
  obtain ⟨rfl, rfl, rfl⟩ := trodAll_nil r0
  obtain rfl : args = #[v0] := by cases args; simp_all
  obtain ⟨rfl, rfl⟩ := trodVars_none hV
  obtain ⟨a0, len0, cap0, rfl⟩ := okWide_slice Tryd.underlying22 (hval 0 22 v0 rfl rfl)
  have k0 := h0
  have lt0 : ∀ x ∈ p0, x.block < W.heap.size := by obtain ⟨m, hm⟩ := k0; exact DataW.trod_lt m _ _ _ hm
  have hw0 : ∀ n ∈ d0.weights Tryd.prog 22, n ≤ reachBytes := fun n hn => of_decide_eq_true (List.all_eq_true.1 hsz _ (DataW.weights_mem_each (j := 0) (t := 22) rfl rfl n hn))
  obtain ⟨L0, e0, hl0, hd0⟩ : ∃ L : List Ut, len0 = L.length ∧ L.length ≤ lim ∧ Us W W L a0 := by
    obtain ⟨m, hm⟩ := k0
    obtain ⟨L, ad, cap, e, _, b1, b2⟩ := open_units hm hw0
    simp only [Value.slice.injEq] at e
    obtain ⟨rfl, rfl, rfl⟩ := e
    exact ⟨L, rfl, b1, b2⟩
  subst e0
  have hTab := tab_of (show laidMet Tryd.prog Rows.unitsOrdersRow.laid W from (plainH W).mp hL) (List.mem_singleton.2 rfl)
  have hc : Calls Tryd.prog 3 #[.slice a0 L0.length cap0] W fun e w' => e = .returned (.bool true) ∧ Fr (fun _ => False) W w' := by
    exact unitsOrders_walk W L0 a0 cap0 hd0 hl0 hTab
  refine hc.mono fun e W' ⟨he, fr⟩ => ?_
  have bel := below_of_fr fr
  subst he
  exact ⟨_, rfl, _, _, _, [], _, [], hW', trodAll_mk1 (shut_bool Tryd.underlying4 _), trodAll_cons_mk (Below.trod laidOut (by kernel_rfl) (of_decide_eq_true (by kernel_rfl)) k0 bel lt0) trodAll_mk0, rfl, bel.frame _, fun h => by cases h⟩

theorem said : Rows.UnitsOrdersSaid :=
  OpenClaim.holds_of_cond 3 Tryd.f3 rfl rfl rfl rfl rfl rfl rfl ⟨rfl, rfl, rfl, rfl, rfl⟩ rfl rfl rfl rfl rfl (by kernel_rfl) Tryd.func3 closed
    (of_decide_eq_true (by kernel_rfl)) (by unfold Func.isWrapper; first | (rw [if_pos (by decide +kernel)]; kernel_rfl) | (rw [if_neg (by decide +kernel)]; exact ⟨rfl, rfl⟩))
    (fun os started H enc _ F => by rw [OpenClaim.pre_eq_preRow]; exact lifted os started H enc F)
theorem plain (f : FuncId) (fn : Func) (hf : Tryd.pinned.checked.prog.funcNamed "bootjack/bootjacklaw17.UnitsOrders" = some f) (hfn : Tryd.pinned.checked.prog.funcs[f]? = some fn) :
    false = Tryd.pinned.checked.prog.looks [] ∧ ∀ (j : Nat) t, fn.params[j]? = some t → Tryd.pinned.checked.prog.wantsStandIn t = false := by
  obtain rfl : f = 3 := Option.some.inj ((show Tryd.prog.funcNamed "bootjack/bootjacklaw17.UnitsOrders" = some 3 by kernel_rfl).symm.trans hf) |>.symm
  obtain rfl : fn = Tryd.f3 := (Option.some.inj (Tryd.func3.symm.trans hfn)).symm
  refine ⟨by kernel_rfl, fun j t ht => ?_⟩
  rw [Tryd.params3] at ht
  have hm : t ∈ [22] := by simpa using Array.mem_of_getElem? ht
  have hall : ([22].all fun u => !Tryd.prog.wantsStandIn u) = true := by kernel_rfl
  exact (show Tryd.prog.wantsStandIn t = false by simpa using List.all_eq_true.1 hall t hm)

end Go.Proofs.YtcpeebkfnnkjnaaDoor.unitsOrders
namespace Go.Proofs.YtcpeebkfnnkjnaaDoor
theorem unitsOrders_proved : Rows.UnitsOrdersCardSaid :=
  Claim7.holds_tied_plain_at .later [] _ _ _ _ unitsOrders.said (fun _ h => by cases h) (by kernel_rfl) (fun _ h => by cases h) unitsOrders_row_tie rfl ⟨rfl, rfl⟩ (by kernel_rfl) rfl unitsOrders.plain (by kernel_rfl)
#print axioms unitsOrders_proved
end Go.Proofs.YtcpeebkfnnkjnaaDoor
