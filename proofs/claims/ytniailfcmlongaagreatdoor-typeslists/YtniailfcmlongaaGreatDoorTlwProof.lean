/- PROVED: for every rows of texts and orders, TypesLists returns true and leaves them as they were. The tables and the errors of the library that the row lists hold what the program's text lays (tied; one table is pinned by the form). -/
import Derived.Test.YtniailfcmlongaaGreatDoorCards
import Derived.Test.YtniailfcmlongaaGreatDoorTie
import Derived.Test.YtniailfcmlongaaGreatDoorTlw
import Derived.Test.YtniailfcmlongaaGreatDoorTlk
import Derived.Test.YtniailfcmlongaaGreatDoorTpf
import Derived.Test.YtniailfcmlongaaGreatDoorArt
import Derived.ChangeMaps5
import Derived.ShutString
import Derived.OpenShut
import Derived.Lay
import Derived.MakeChecks
namespace Go.Proofs.YtniailfcmlongaaGreatDoor.typesLists
open Go.ChangeShapes Go.WideShapes Go.ChangeAt Go.RowKit Go.ChangeMaps Go.Proofs.YtniailfcmlongaaGreatDoor.Tr

theorem own : ownKnob Tryz.prog.godebug = none := by kernel_rfl
theorem plainH (W : World) : laidMetH Tryz.prog Rows.typesListsRow.laid W = laidMet Tryz.prog Rows.typesListsRow.laid W := MakeChecks.laidMetH_plain _ _ _ (by kernel_rfl)
theorem laidOut : laidOutB Tryz.prog = true := fa1
theorem door_met (os : Os) (args : Array Value) : laidMetH Tryz.prog Rows.typesListsRow.laid ((World.laidAll Tryz.prog os Rows.typesListsRow.laid).forCall (fun _ _ => 0) ⟨#[], args, []⟩).memory := by
  rw [plainH]
  exact laidMet_laidAll args (by kernel_rfl) (by kernel_rfl)
theorem reads (os : Os) {H : Type} (enc : TypeId × Value → H) : ∃ places, DataW.whole enc Tryz.prog ((World.laidAll Tryz.prog os Rows.typesListsRow.laid).forCall (fun _ _ => 0) ⟨#[], #[.slice none 0 0, .slice none 0 0], []⟩).memory Tryz.f7.params.toList Rows.typesListsSpec.vars false #[Value.slice none 0 0, .slice none 0 0].toList 8 = some ([.nil, .nil], [], places) :=
  ⟨[], by kernel_rfl⟩

set_option maxRecDepth 100000 in
theorem lifted (os : Os) (started : os.Started) (H : Type) (enc : TypeId × Value → H) (F : Stop.Interp) :
    ReturnsInHanded {} Tryz.checked os 7 .any ((OpenSpec.ofChange Rows.typesListsSpec).preRow enc Tryz.prog Tryz.f7 Rows.typesListsRow.domain false Rows.typesListsRow.laid) (((OpenSpec.ofChange Rows.typesListsSpec).at F).post enc Tryz.prog Tryz.f7 false true false false) := by
  obtain ⟨places, hx⟩ := reads os enc
  refine returnsInHanded_of_row (C := Tryz.checked) (s := OpenSpec.ofChange Rows.typesListsSpec) own started (by kernel_rfl) Tryz.func7
    (wit_row (enc := enc) (C := Tryz.checked) (World.laidAll Tryz.prog os Rows.typesListsRow.laid) #[.slice none 0 0, .slice none 0 0] (World.laidAll_os _ _ _) (World.shaped_of_ZipB (by kernel_rfl) (by kernel_rfl)) (by kernel_rfl)
      (OpenSpec.preRow_of_cond 8 hx (by kernel_rfl) (fun k hk => by cases hk) (by kernel_rfl) (door_met os _))) ?_
  intro W base args ds gs before hval0 hW _ _ hsz0 hL hShp _
  have hsz : (DataW.weightsEach Tryz.prog (Tryz.f7.params.toList ++ Rows.typesListsSpec.plain.varTypes Tryz.prog) (ds ++ gs)).all (· ≤ reachBytes) = true := hsz0
  have hval : ∀ (j : Nat) t v, Tryz.f7.params[j]? = some t → args[j]? = some v → Value.okWide Tryz.prog W .any base t v := hval0
  have hW' : DataW.Whole enc Tryz.prog Tryz.f7.params.toList Rows.typesListsSpec.vars false W args.toList ds gs before := hW
  have hW0 := hW'
  obtain ⟨p, q, hA0, hV, rfl, hfz, hnd⟩ := hW0
  have hA : DataW.TrodAll enc Tryz.prog W 0 (fun _ => true) true Tryz.f7.params.toList args.toList ds p := hA0
  rw [Tryz.params7] at hA hval hsz
  obtain ⟨v0, vs0, d0, ds0, p0, q0, hargs, rfl, rfl, h0, r0⟩ := trodAll_cons hA
  obtain ⟨v1, vs1, d1, ds1, p1, q1, rfl, rfl, rfl, h1, r1⟩ := trodAll_cons r0
  obtain ⟨rfl, rfl, rfl⟩ := trodAll_nil r1
  obtain rfl : args = #[v0, v1] := by cases args; simp_all
  obtain ⟨rfl, rfl⟩ := trodVars_none hV
  obtain ⟨a0, len0, cap0, rfl⟩ := okWide_slice Tryz.underlying43 (hval 0 43 v0 rfl rfl)
  have k0 := h0
  have lt0 : ∀ x ∈ p0, x.block < W.heap.size := by obtain ⟨m, hm⟩ := k0; exact DataW.trod_lt m _ _ _ hm
  have hw0 : ∀ n ∈ d0.weights Tryz.prog 43, n ≤ reachBytes := fun n hn => of_decide_eq_true (List.all_eq_true.1 hsz _ (DataW.weights_mem_each (j := 0) (t := 43) rfl rfl n hn))
  obtain ⟨L0, e0, hl0, hd0⟩ : ∃ L : List (List (List UInt8)), len0 = L.length ∧ L.length ≤ lim ∧ Txs W a0 L := by
    obtain ⟨m, hm⟩ := k0
    obtain ⟨L, ad, cap, e, b1, b2⟩ := open_texts hm hw0
    simp only [Value.slice.injEq] at e
    obtain ⟨rfl, rfl, rfl⟩ := e
    exact ⟨L, rfl, b1, b2⟩
  subst e0
  obtain ⟨a1, len1, cap1, rfl⟩ := okWide_slice Tryz.underlying44 (hval 1 44 v1 rfl rfl)
  have k1 := h1
  have lt1 : ∀ x ∈ p1, x.block < W.heap.size := by obtain ⟨m, hm⟩ := k1; exact DataW.trod_lt m _ _ _ hm
  have hw1 : ∀ n ∈ d1.weights Tryz.prog 44, n ≤ reachBytes := fun n hn => of_decide_eq_true (List.all_eq_true.1 hsz _ (DataW.weights_mem_each (j := 1) (t := 44) rfl rfl n hn))
  obtain ⟨L1, e1, hl1, hd1⟩ : ∃ L : List Int, len1 = L.length ∧ L.length ≤ lim ∧ Ods W a1 L := by
    obtain ⟨m, hm⟩ := k1
    obtain ⟨L, ad, cap, e, b1, b2⟩ := open_nums hm hw1
    simp only [Value.slice.injEq] at e
    obtain ⟨rfl, rfl, rfl⟩ := e
    exact ⟨L, rfl, b1, b2⟩
  subst e1
  have hc : Calls Tryz.prog 7 #[.slice a0 L0.length cap0, .slice a1 L1.length cap1] W fun e w' => e = .returned (.bool true) ∧ Fr (fun _ => False) W w' := by
    exact typesLists_walk W L0 L1 a0 a1 cap0 cap1 hd0 hd1 (mx_of hShp)
  refine hc.mono fun e W' ⟨he, fr⟩ => ?_
  have bel := below_of_fr fr
  subst he
  exact ⟨_, rfl, _, _, _, [], _, [], hW', trodAll_mk1 (shut_bool Tryz.underlying4 _), trodAll_cons_mk (Below.trod laidOut (by kernel_rfl) (of_decide_eq_true (by kernel_rfl)) k0 bel lt0) (trodAll_cons_mk (Below.trod laidOut (by kernel_rfl) (of_decide_eq_true (by kernel_rfl)) k1 bel lt1) trodAll_mk0), rfl, bel.frame _, fun h => by cases h⟩

theorem said : Rows.TypesListsSaid :=
  OpenClaim.holds_of_cond 7 Tryz.f7 rfl rfl rfl rfl rfl rfl rfl ⟨rfl, rfl, rfl, rfl, rfl⟩ rfl rfl rfl rfl rfl (by kernel_rfl) Tryz.func7 closed
    (of_decide_eq_true (by kernel_rfl)) (by unfold Func.isWrapper; first | (rw [if_pos (by decide +kernel)]; kernel_rfl) | (rw [if_neg (by decide +kernel)]; exact ⟨rfl, rfl⟩))
    (fun os started H enc _ F => by rw [OpenClaim.pre_eq_preRow]; exact lifted os started H enc F)
theorem plain (f : FuncId) (fn : Func) (hf : Tryz.pinned.checked.prog.funcNamed "bootjack/bootjacklaw14.TypesLists" = some f) (hfn : Tryz.pinned.checked.prog.funcs[f]? = some fn) :
    true = Tryz.pinned.checked.prog.looks [] ∧ ∀ (j : Nat) t, fn.params[j]? = some t → Tryz.pinned.checked.prog.wantsStandIn t = false := by
  obtain rfl : f = 7 := Option.some.inj ((show Tryz.prog.funcNamed "bootjack/bootjacklaw14.TypesLists" = some 7 by kernel_rfl).symm.trans hf) |>.symm
  obtain rfl : fn = Tryz.f7 := (Option.some.inj (Tryz.func7.symm.trans hfn)).symm
  refine ⟨by kernel_rfl, fun j t ht => ?_⟩
  rw [Tryz.params7] at ht
  have hm : t ∈ [43, 44] := by simpa using Array.mem_of_getElem? ht
  have hall : ([43, 44].all fun u => !Tryz.prog.wantsStandIn u) = true := by kernel_rfl
  exact (show Tryz.prog.wantsStandIn t = false by simpa using List.all_eq_true.1 hall t hm)

end Go.Proofs.YtniailfcmlongaaGreatDoor.typesLists
namespace Go.Proofs.YtniailfcmlongaaGreatDoor
theorem typesLists_proved : Rows.TypesListsCardSaid :=
  Claim7.holds_tied_plain_at .later [] _ _ _ _ typesLists.said (fun _ h => by cases h) (by kernel_rfl) (fun _ h => by cases h) typesLists_row_tie rfl ⟨rfl, rfl⟩ (by kernel_rfl) rfl typesLists.plain (by kernel_rfl)
#print axioms typesLists_proved
end Go.Proofs.YtniailfcmlongaaGreatDoor
