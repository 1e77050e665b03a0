/- PROVED: for every two rows of units, UnitsDiffs returns true and leaves them as they were. The table of the library that the row lists holds what the program's text lays (tied). -/
import Derived.Test.YtcpeebkfnnkjnaaDoorCards
import Derived.Test.YtcpeebkfnnkjnaaDoorTie
import Derived.Test.YtcpeebkfnnkjnaaDoorUdv
import Derived.Test.YtcpeebkfnnkjnaaDoorUdk
import Derived.Test.YtcpeebkfnnkjnaaDoorAru
import Derived.ChangeMaps5
import Derived.ShutString
import Derived.OpenShut
import Derived.Lay
import Derived.MakeChecks
namespace Go.Proofs.YtcpeebkfnnkjnaaDoor.unitsDiffs
open Go.ChangeShapes Go.WideShapes Go.ChangeAt Go.RowKit Go.ChangeMaps Go.Proofs.YtcpeebkfnnkjnaaDoor.Tr

theorem own : ownKnob Tryd.prog.godebug = none := by kernel_rfl
theorem plainH (W : World) : laidMetH Tryd.prog Rows.unitsDiffsRow.laid W = laidMet Tryd.prog Rows.unitsDiffsRow.laid W := MakeChecks.laidMetH_plain _ _ _ (by kernel_rfl)
theorem laidOut : laidOutB Tryd.prog = true := fa1
theorem door_met (os : Os) (args : Array Value) : laidMetH Tryd.prog Rows.unitsDiffsRow.laid ((World.laidAll Tryd.prog os Rows.unitsDiffsRow.laid).forCall (fun _ _ => 0) ⟨#[], args, []⟩).memory := by
  rw [plainH]
  exact laidMet_laidAll args (by kernel_rfl) (by kernel_rfl)
theorem reads (os : Os) {H : Type} (enc : TypeId × Value → H) : ∃ places, DataW.whole enc Tryd.prog ((World.laidAll Tryd.prog os Rows.unitsDiffsRow.laid).forCall (fun _ _ => 0) ⟨#[], #[.slice none 0 0, .slice none 0 0], []⟩).memory Tryd.f4.params.toList Rows.unitsDiffsSpec.vars false #[Value.slice none 0 0, .slice none 0 0].toList 8 = some ([.nil, .nil], [], places) :=
  ⟨[], by kernel_rfl⟩

set_option maxRecDepth 100000 in
theorem lifted (os : Os) (started : os.Started) (H : Type) (enc : TypeId × Value → H) (F : Stop.Interp) :
    ReturnsInHanded {} Tryd.checked os 4 .any ((OpenSpec.ofChange Rows.unitsDiffsSpec).preRow enc Tryd.prog Tryd.f4 Rows.unitsDiffsRow.domain false Rows.unitsDiffsRow.laid) (((OpenSpec.ofChange Rows.unitsDiffsSpec).at F).post enc Tryd.prog Tryd.f4 false true false false) := by
  obtain ⟨places, hx⟩ := reads os enc
  refine returnsInHanded_of_row (C := Tryd.checked) (s := OpenSpec.ofChange Rows.unitsDiffsSpec) own started (by kernel_rfl) Tryd.func4
    (wit_row (enc := enc) (C := Tryd.checked) (World.laidAll Tryd.prog os Rows.unitsDiffsRow.laid) #[.slice none 0 0, .slice none 0 0] (World.laidAll_os _ _ _) (World.shaped_of_ZipB (by kernel_rfl) (by kernel_rfl)) (by kernel_rfl)
      (OpenSpec.preRow_of_cond 8 hx (by kernel_rfl) (fun k hk => by cases hk) (by kernel_rfl) (door_met os _))) ?_
  intro W base args ds gs before hval0 hW _ _ hsz0 hL hShp _
  have hsz : (DataW.weightsEach Tryd.prog (Tryd.f4.params.toList ++ Rows.unitsDiffsSpec.plain.varTypes Tryd.prog) (ds ++ gs)).all (· ≤ reachBytes) = true := hsz0
  have hval : ∀ (j : Nat) t v, Tryd.f4.params[j]? = some t → args[j]? = some v → Value.okWide Tryd.prog W .any base t v := hval0
  have hW' : DataW.Whole enc Tryd.prog Tryd.f4.params.toList Rows.unitsDiffsSpec.vars false W args.toList ds gs before := hW
  have hW0 := hW'
  obtain ⟨p, q, hA0, hV, rfl, hfz, hnd⟩ := hW0
  have hA : DataW.TrodAll enc Tryd.prog W 0 (fun _ => true) true Tryd.f4.params.toList args.toList ds p := hA0
  rw [Tryd.params4] at hA hval hsz
  obtain ⟨v0, vs0, d0, ds0, p0, q0, hargs, rfl, rfl, h0, r0⟩ := trodAll_cons hA
  obtain ⟨v1, vs1, d1, ds1, p1, q1, rfl, rfl, rfl, h1, r1⟩ := trodAll_cons r0
  obtain ⟨rfl, rfl, rfl⟩ := trodAll_nil r1
  obtain rfl : args = #[v0, v1] := by cases args; simp_all
  obtain ⟨rfl, rfl⟩ := trodVars_none hV
  obtain ⟨a0, len0, cap0, rfl⟩ := okWide_slice Tryd.underlying22 (hval 0 22 v0 rfl rfl)
  have k0 := h0
  have lt0 : ∀ x ∈ p0, x.block < W.heap.size := by obtain ⟨m, hm⟩ := k0; exact DataW.trod_lt m _ _ _ hm
  have hw0 : ∀ n ∈ d0.weights Tryd.prog 22, n ≤ reachBytes := fun n hn => of_decide_eq_true (List.all_eq_true.1 hsz _ (DataW.weights_mem_each (j := 0) (t := 22) rfl rfl n hn))
  obtain ⟨L0, e0, hl0, hd0⟩ : ∃ L : List Ut, len0 = L.length ∧ L.length ≤ lim ∧ Us W W L a0 := by
    obtain ⟨m, hm⟩ := k0
    obtain ⟨L, ad, cap, e, _, b1, b2⟩ := open_units hm hw0
    simp only [Value.slice.injEq] at e
    obtain ⟨rfl, rfl, rfl⟩ := e
    exact ⟨L, rfl, b1, b2⟩
  subst e0
  obtain ⟨a1, len1, cap1, rfl⟩ := okWide_slice Tryd.underlying22 (hval 1 22 v1 rfl rfl)
  have k1 := h1
  have lt1 : ∀ x ∈ p1, x.block < W.heap.size := by obtain ⟨m, hm⟩ := k1; exact DataW.trod_lt m _ _ _ hm
  have hw1 : ∀ n ∈ d1.weights Tryd.prog 22, n ≤ reachBytes := fun n hn => of_decide_eq_true (List.all_eq_true.1 hsz _ (DataW.weights_mem_each (j := 1) (t := 22) rfl rfl n hn))
  obtain ⟨L1, e1, hl1, hd1⟩ : ∃ L : List Ut, len1 = L.length ∧ L.length ≤ lim ∧ Us W W L a1 := by
    obtain ⟨m, hm⟩ := k1
    obtain ⟨L, ad, cap, e, _, b1, b2⟩ := open_units hm hw1
    simp only [Value.slice.injEq] at e
    obtain ⟨rfl, rfl, rfl⟩ := e
    exact ⟨L, rfl, b1, b2⟩
  subst e1
  have hTab := tab_of (show laidMet Tryd.prog Rows.unitsDiffsRow.laid W from (plainH W).mp hL) (List.mem_singleton.2 rfl)
  have hc : Calls Tryd.prog 4 #[.slice a0 L0.length cap0, .slice a1 L1.length cap1] W fun e w' => e = .returned (.bool true) ∧ Fr (fun _ => False) W w' := by
    exact unitsDiffs_walk W L0 L1 a0 a1 cap0 cap1 hd0 hd1 hl0 hl1 hTab
  refine hc.mono fun e W' ⟨he, fr⟩ => ?_
  have bel := below_of_fr fr
  subst he
  exact ⟨_, rfl, _, _, _, [], _, [], hW', trodAll_mk1 (shut_bool Tryd.underlying4 _), trodAll_cons_mk (Below.trod laidOut (by kernel_rfl) (of_decide_eq_true (by kernel_rfl)) k0 bel lt0) (trodAll_cons_mk (Below.trod laidOut (by kernel_rfl) (of_decide_eq_true (by kernel_rfl)) k1 bel lt1) trodAll_mk0), rfl, bel.frame _, fun h => by cases h⟩

theorem said : Rows.UnitsDiffsSaid :=
  OpenClaim.holds_of_cond 4 Tryd.f4 rfl rfl rfl rfl rfl rfl rfl ⟨rfl, rfl, rfl, rfl, rfl⟩ rfl rfl rfl rfl rfl (by kernel_rfl) Tryd.func4 closed
    (of_decide_eq_true (by kernel_rfl)) (by unfold Func.isWrapper; first | (rw [if_pos (by decide +kernel)]; kernel_rfl) | (rw [if_neg (by decide +kernel)]; exact ⟨rfl, rfl⟩))
    (fun os started H enc _ F => by rw [OpenClaim.pre_eq_preRow]; exact lifted os started H enc F)
theorem plain (f : FuncId) (fn : Func) (hf : Tryd.pinned.checked.prog.funcNamed "bootjack/bootjacklaw17.UnitsDiffs" = some f) (hfn : Tryd.pinned.checked.prog.funcs[f]? = some fn) :
    false = Tryd.pinned.checked.prog.looks [] ∧ ∀ (j : Nat) t, fn.params[j]? = some t → Tryd.pinned.checked.prog.wantsStandIn t = false := by
  obtain rfl : f = 4 := Option.some.inj ((show Tryd.prog.funcNamed "bootjack/bootjacklaw17.UnitsDiffs" = some 4 by kernel_rfl).symm.trans hf) |>.symm
  obtain rfl : fn = Tryd.f4 := (Option.some.inj (Tryd.func4.symm.trans hfn)).symm
  refine ⟨by kernel_rfl, fun j t ht => ?_⟩
  rw [Tryd.params4] at ht
  have hm : t ∈ [22, 22] := by simpa using Array.mem_of_getElem? ht
  have hall : ([22, 22].all fun u => !Tryd.prog.wantsStandIn u) = true := by kernel_rfl
  exact (show Tryd.prog.wantsStandIn t = false by simpa using List.all_eq_true.1 hall t hm)

end Go.Proofs.YtcpeebkfnnkjnaaDoor.unitsDiffs
namespace Go.Proofs.YtcpeebkfnnkjnaaDoor
theorem unitsDiffs_proved : Rows.UnitsDiffsCardSaid :=
  Claim7.holds_tied_plain_at .later [] _ _ _ _ unitsDiffs.said (fun _ h => by cases h) (by kernel_rfl) (fun _ h => by cases h) unitsDiffs_row_tie rfl ⟨rfl, rfl⟩ (by kernel_rfl) rfl unitsDiffs.plain (by kernel_rfl)
#print axioms unitsDiffs_proved
end Go.Proofs.YtcpeebkfnnkjnaaDoor
