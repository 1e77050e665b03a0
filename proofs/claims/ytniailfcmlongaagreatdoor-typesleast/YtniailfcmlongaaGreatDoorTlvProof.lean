/- PROVED: for every text, every two rows of definitions and every row of places, TypesLeast returns true and leaves them as they were. The tables and the errors of the library that the row lists hold what the program's text lays (tied; one table is pinned by the form). -/
import Derived.Test.YtniailfcmlongaaGreatDoorCards
import Derived.Test.YtniailfcmlongaaGreatDoorTie
import Derived.Test.YtniailfcmlongaaGreatDoorTlv
import Derived.Test.YtniailfcmlongaaGreatDoorTlc
import Derived.Test.YtniailfcmlongaaGreatDoorTpf
import Derived.Test.YtniailfcmlongaaGreatDoorArdM
import Derived.ChangeMaps5
import Derived.ShutString
import Derived.OpenShut
import Derived.Lay
import Derived.MakeChecks
namespace Go.Proofs.YtniailfcmlongaaGreatDoor.typesLeast
open Go.ChangeShapes Go.WideShapes Go.ChangeAt Go.RowKit Go.ChangeMaps Go.Proofs.YtniailfcmlongaaGreatDoor.Tr

theorem own : ownKnob Tryz.prog.godebug = none := by kernel_rfl
theorem plainH (W : World) : laidMetH Tryz.prog Rows.typesLeastRow.laid W = laidMet Tryz.prog Rows.typesLeastRow.laid W := MakeChecks.laidMetH_plain _ _ _ (by kernel_rfl)
theorem laidOut : laidOutB Tryz.prog = true := fa1
theorem door_met (os : Os) (args : Array Value) : laidMetH Tryz.prog Rows.typesLeastRow.laid ((World.laidAll Tryz.prog os Rows.typesLeastRow.laid).forCall (fun _ _ => 0) ⟨#[], args, []⟩).memory := by
  rw [plainH]
  exact laidMet_laidAll args (by kernel_rfl) (by kernel_rfl)
theorem reads (os : Os) {H : Type} (enc : TypeId × Value → H) : ∃ places, DataW.whole enc Tryz.prog ((World.laidAll Tryz.prog os Rows.typesLeastRow.laid).forCall (fun _ _ => 0) ⟨#[], #[.string ⟨#[]⟩, .slice none 0 0, .slice none 0 0, .slice none 0 0], []⟩).memory Tryz.f6.params.toList Rows.typesLeastSpec.vars false #[Value.string ⟨#[]⟩, .slice none 0 0, .slice none 0 0, .slice none 0 0].toList 8 = some ([.lit (.string []), .nil, .nil, .nil], [], places) :=
  ⟨[], by kernel_rfl⟩

set_option maxRecDepth 100000 in
theorem lifted (os : Os) (started : os.Started) (H : Type) (enc : TypeId × Value → H) (F : Stop.Interp) :
    ReturnsInHanded {} Tryz.checked os 6 .any ((OpenSpec.ofChange Rows.typesLeastSpec).preRow enc Tryz.prog Tryz.f6 Rows.typesLeastRow.domain false Rows.typesLeastRow.laid) (((OpenSpec.ofChange Rows.typesLeastSpec).at F).post enc Tryz.prog Tryz.f6 false true false false) := by
  obtain ⟨places, hx⟩ := reads os enc
  refine returnsInHanded_of_row (C := Tryz.checked) (s := OpenSpec.ofChange Rows.typesLeastSpec) own started (by kernel_rfl) Tryz.func6
    (wit_row (enc := enc) (C := Tryz.checked) (World.laidAll Tryz.prog os Rows.typesLeastRow.laid) #[.string ⟨#[]⟩, .slice none 0 0, .slice none 0 0, .slice none 0 0] (World.laidAll_os _ _ _) (World.shaped_of_ZipB (by kernel_rfl) (by kernel_rfl)) (by kernel_rfl)
      (OpenSpec.preRow_of_cond 8 hx (by kernel_rfl) (fun k hk => by cases hk) (by kernel_rfl) (door_met os _))) ?_
  intro W base args ds gs before hval0 hW _ _ hsz0 hL hShp _
  have hsz : (DataW.weightsEach Tryz.prog (Tryz.f6.params.toList ++ Rows.typesLeastSpec.plain.varTypes Tryz.prog) (ds ++ gs)).all (· ≤ reachBytes) = true := hsz0
  have hval : ∀ (j : Nat) t v, Tryz.f6.params[j]? = some t → args[j]? = some v → Value.okWide Tryz.prog W .any base t v := hval0
  have hW' : DataW.Whole enc Tryz.prog Tryz.f6.params.toList Rows.typesLeastSpec.vars false W args.toList ds gs before := hW
  have hW0 := hW'
  obtain ⟨p, q, hA0, hV, rfl, hfz, hnd⟩ := hW0
  have hA : DataW.TrodAll enc Tryz.prog W 0 (fun _ => true) true Tryz.f6.params.toList args.toList ds p := hA0
  rw [Tryz.params6] at hA hval hsz
  obtain ⟨v0, vs0, d0, ds0, p0, q0, hargs, rfl, rfl, h0, r0⟩ := trodAll_cons hA
  obtain ⟨v1, vs1, d1, ds1, p1, q1, rfl, rfl, rfl, h1, r1⟩ := trodAll_cons r0
  obtain ⟨v2, vs2, d2, ds2, p2, q2, rfl, rfl, rfl, h2, r2⟩ := trodAll_cons r1
  obtain ⟨v3, vs3, d3, ds3, p3, q3, rfl, rfl, rfl, h3, r3⟩ := trodAll_cons r2
  obtain ⟨rfl, rfl, rfl⟩ := trodAll_nil r3
  obtain rfl : args = #[v0, v1, v2, v3] := by cases args; simp_all
  obtain ⟨rfl, rfl⟩ := trodVars_none hV
  obtain ⟨z0, rfl, rfl, rfl, wz0⟩ := open_string Tryz.underlying9 (hval 0 9 v0 rfl rfl) h0
  have hw0 : ∀ n ∈ (DataW.lit (.string z0.data.toList) : DataW H).weights Tryz.prog 9, n ≤ reachBytes := fun n hn => of_decide_eq_true (List.all_eq_true.1 hsz _ (DataW.weights_mem_each (j := 0) (t := 9) rfl rfl n hn))
  have hsl0 : z0.data.toList.length ≤ 140737488351232 := hw0 _ (by simp [DataW.weights])
  have es0 : z0 = ⟨z0.data.toList.toArray⟩ := by cases z0; rfl
  obtain ⟨a1, len1, cap1, rfl⟩ := okWide_slice Tryz.underlying31 (hval 1 31 v1 rfl rfl)
  have k1 := h1
  have lt1 : ∀ x ∈ p1, x.block < W.heap.size := by obtain ⟨m, hm⟩ := k1; exact DataW.trod_lt m _ _ _ hm
  have hw1 : ∀ n ∈ d1.weights Tryz.prog 31, n ≤ reachBytes := fun n hn => of_decide_eq_true (List.all_eq_true.1 hsz _ (DataW.weights_mem_each (j := 1) (t := 31) rfl rfl n hn))
  obtain ⟨L1, e1, hl1, hd1⟩ : ∃ L : List Dt, len1 = L.length ∧ L.length ≤ lim ∧ DsIn W L a1 := by
    obtain ⟨m, hm⟩ := k1
    obtain ⟨L, ad, cap, e, _, b1, b2⟩ := open_defs hm hw1
    simp only [Value.slice.injEq] at e
    obtain ⟨rfl, rfl, rfl⟩ := e
    exact ⟨L, rfl, b1, b2⟩
  subst e1
  obtain ⟨a2, len2, cap2, rfl⟩ := okWide_slice Tryz.underlying31 (hval 2 31 v2 rfl rfl)
  have k2 := h2
  have lt2 : ∀ x ∈ p2, x.block < W.heap.size := by obtain ⟨m, hm⟩ := k2; exact DataW.trod_lt m _ _ _ hm
  have hw2 : ∀ n ∈ d2.weights Tryz.prog 31, n ≤ reachBytes := fun n hn => of_decide_eq_true (List.all_eq_true.1 hsz _ (DataW.weights_mem_each (j := 2) (t := 31) rfl rfl n hn))
  obtain ⟨L2, e2, hl2, hd2⟩ : ∃ L : List Dt, len2 = L.length ∧ L.length ≤ lim ∧ DsIn W L a2 := by
    obtain ⟨m, hm⟩ := k2
    obtain ⟨L, ad, cap, e, _, b1, b2⟩ := open_defs hm hw2
    simp only [Value.slice.injEq] at e
    obtain ⟨rfl, rfl, rfl⟩ := e
    exact ⟨L, rfl, b1, b2⟩
  subst e2
  obtain ⟨a3, len3, cap3, rfl⟩ := okWide_slice Tryz.underlying40 (hval 3 40 v3 rfl rfl)
  have k3 := h3
  have lt3 : ∀ x ∈ p3, x.block < W.heap.size := by obtain ⟨m, hm⟩ := k3; exact DataW.trod_lt m _ _ _ hm
  have hw3 : ∀ n ∈ d3.weights Tryz.prog 40, n ≤ reachBytes := fun n hn => of_decide_eq_true (List.all_eq_true.1 hsz _ (DataW.weights_mem_each (j := 3) (t := 40) rfl rfl n hn))
  obtain ⟨L3, e3, hl3, hd3⟩ : ∃ L : List Int, len3 = L.length ∧ L.length ≤ lim ∧ Ins W a3 L := by
    obtain ⟨m, hm⟩ := k3
    obtain ⟨L, ad, cap, e, b1, b2⟩ := open_ints hm hw3
    simp only [Value.slice.injEq] at e
    obtain ⟨rfl, rfl, rfl⟩ := e
    exact ⟨L, rfl, b1, b2⟩
  subst e3
  have hc : Calls Tryz.prog 6 #[.string z0, .slice a1 L1.length cap1, .slice a2 L2.length cap2, .slice a3 L3.length cap3] W fun e w' => e = .returned (.bool true) ∧ Fr (fun _ => False) W w' := by
    rw [es0]
    exact typesLeast_walk W _ L1 L2 L3 a1 a2 a3 cap1 cap2 cap3 (by omega) (mx_of hShp) hd1 hd2 hd3 hl1 hl2 hl3
  refine hc.mono fun e W' ⟨he, fr⟩ => ?_
  have bel := below_of_fr fr
  subst he
  exact ⟨_, rfl, _, _, _, [], _, [], hW', trodAll_mk1 (shut_bool Tryz.underlying4 _), trodAll_cons_mk (shut_string Tryz.underlying9 wz0) (trodAll_cons_mk (Below.trod laidOut (by kernel_rfl) (of_decide_eq_true (by kernel_rfl)) k1 bel lt1) (trodAll_cons_mk (Below.trod laidOut (by kernel_rfl) (of_decide_eq_true (by kernel_rfl)) k2 bel lt2) (trodAll_cons_mk (Below.trod laidOut (by kernel_rfl) (of_decide_eq_true (by kernel_rfl)) k3 bel lt3) trodAll_mk0))), rfl, bel.frame _, fun h => by cases h⟩

theorem said : Rows.TypesLeastSaid :=
  OpenClaim.holds_of_cond 6 Tryz.f6 rfl rfl rfl rfl rfl rfl rfl ⟨rfl, rfl, rfl, rfl, rfl⟩ rfl rfl rfl rfl rfl (by kernel_rfl) Tryz.func6 closed
    (of_decide_eq_true (by kernel_rfl)) (by unfold Func.isWrapper; first | (rw [if_pos (by decide +kernel)]; kernel_rfl) | (rw [if_neg (by decide +kernel)]; exact ⟨rfl, rfl⟩))
    (fun os started H enc _ F => by rw [OpenClaim.pre_eq_preRow]; exact lifted os started H enc F)
theorem plain (f : FuncId) (fn : Func) (hf : Tryz.pinned.checked.prog.funcNamed "bootjack/bootjacklaw14.TypesLeast" = some f) (hfn : Tryz.pinned.checked.prog.funcs[f]? = some fn) :
    true = Tryz.pinned.checked.prog.looks [] ∧ ∀ (j : Nat) t, fn.params[j]? = some t → Tryz.pinned.checked.prog.wantsStandIn t = false := by
  obtain rfl : f = 6 := Option.some.inj ((show Tryz.prog.funcNamed "bootjack/bootjacklaw14.TypesLeast" = some 6 by kernel_rfl).symm.trans hf) |>.symm
  obtain rfl : fn = Tryz.f6 := (Option.some.inj (Tryz.func6.symm.trans hfn)).symm
  refine ⟨by kernel_rfl, fun j t ht => ?_⟩
  rw [Tryz.params6] at ht
  have hm : t ∈ [9, 31, 31, 40] := by simpa using Array.mem_of_getElem? ht
  have hall : ([9, 31, 31, 40].all fun u => !Tryz.prog.wantsStandIn u) = true := by kernel_rfl
  exact (show Tryz.prog.wantsStandIn t = false by simpa using List.all_eq_true.1 hall t hm)

end Go.Proofs.YtniailfcmlongaaGreatDoor.typesLeast
namespace Go.Proofs.YtniailfcmlongaaGreatDoor
theorem typesLeast_proved : Rows.TypesLeastCardSaid :=
  Claim7.holds_tied_plain_at .later [] _ _ _ _ typesLeast.said (fun _ h => by cases h) (by kernel_rfl) (fun _ h => by cases h) typesLeast_row_tie rfl ⟨rfl, rfl⟩ (by kernel_rfl) rfl typesLeast.plain (by kernel_rfl)
#print axioms typesLeast_proved
end Go.Proofs.YtniailfcmlongaaGreatDoor
