/- PROVED: for every text, LexPlaces returns true and leaves its argument as it was. The tables, the errors and the type's handle of the library that the row lists hold what the program's text lays (tied; two great tables are pinned by the form). -/
import Derived.Test.YtionmohglmbklaaGreatDoorCards
import Derived.Test.YtionmohglmbklaaGreatDoorTie
import Derived.Test.YtionmohglmbklaaGreatDoorPlw
import Derived.Test.YtionmohglmbklaaGreatDoorPlk
import Derived.Test.YtionmohglmbklaaGreatDoorLag
import Derived.ChangeMaps5
import Derived.ShutString
import Derived.Lay
import Derived.LaidHandle
import Derived.MakeChecks
namespace Go.Proofs.YtionmohglmbklaaGreatDoor.lexPlaces
open Go.ChangeShapes Go.WideShapes Go.ChangeAt Go.RowKit Go.ChangeMaps Go.Proofs.YtionmohglmbklaaGreatDoor.Tr

theorem own : ownKnob Tryz.prog.godebug = none := by kernel_rfl
/-- What the row lists, but for the handle. -/
abbrev L0 : List (String × DataW Unit) := Rows.lexPlacesRow.laid.filter fun x => x.2.handleName?.isNone
/-- A start: the handle of 'error' where the library keeps it, then the rest. -/
noncomputable def w0 (os : Os) : World := (World.holding Tryz.prog os ⟨#[], #[], []⟩).setCell ⟨1, 0, none⟩ (.iface 122 (.agg #[hdl 28]))
noncomputable def w1 (os : Os) : World := (w0 os).layVars Tryz.prog L0
theorem w1_os (os : Os) : (w1 os).os = os := by
  unfold w1; rw [World.layVars_os]; rfl
theorem met (os : Os) : laidMet Tryz.prog L0 (w1 os) := by
  have e1 : (L0.filter fun x => (L0.map (·.1)).contains x.1) = L0 := List.filter_eq_self.2 fun x hx => List.contains_iff_mem.2 (List.mem_map.2 ⟨x, hx, rfl⟩)
  have e2 : (L0.filter fun x => !(L0.map (·.1)).contains x.1) = [] := List.filter_eq_nil_iff.2 fun x hx => by rw [List.contains_iff_mem.2 (List.mem_map.2 ⟨x, hx, rfl⟩)]; simp
  exact laidMet_layVars (w0 := w0 os) (L0.map (·.1)) [] (by rw [e1]; rfl) (by rw [e1]; kernel_rfl) (by rw [e1]; kernel_rfl) (by rw [e2]; exact LaidIn.none)
theorem door_met (os : Os) (args : Array Value) : laidMetH Tryz.prog Rows.lexPlacesRow.laid ((w1 os).forCall (fun _ _ => 0) ⟨#[], args, []⟩).memory :=
  laidMetH_of_parts ((met os).of_heap (by simp [World.memory, World.forCall, Input.heap])) (by kernel_rfl)
theorem reads (os : Os) {H : Type} (enc : TypeId × Value → H) : ∃ places, DataW.whole enc Tryz.prog ((w1 os).forCall (fun _ _ => 0) ⟨#[], #[.string ⟨#[]⟩], []⟩).memory Tryz.f5.params.toList Rows.lexPlacesSpec.vars false #[Value.string ⟨#[]⟩].toList 8 = some ([.lit (.string [])], [], places) :=
  ⟨[], by kernel_rfl⟩

theorem gE : Tryz.prog.globalNamed "errors.errorType" = some 1 := by kernel_rfl
theorem rt : (Tryz.prog.cutTypes.find? (·.1 == "internal/reflectlite.rtype")).map (·.2) = some 122 := by kernel_rfl
theorem tsize : Tryz.prog.types.size = 293 := by kernel_rfl
theorem oneRow : ((List.range 293).filter fun t => Tryz.prog.rowNamed t [101, 114, 114, 111, 114]) = [28] := by kernel_rfl
theorem hParts {W : World} (h : laidMetH Tryz.prog Rows.lexPlacesRow.laid W) : laidMet Tryz.prog L0 W ∧ handlesMet Tryz.prog [("errors.errorType", Rows.laid_errors_errorType)] W := h
theorem hnl_of {W : World} (h : laidMetH Tryz.prog Rows.lexPlacesRow.laid W) : Hnl W := by
  obtain ⟨name, u, ty, e1, e2, e3, e4, e5⟩ := (hParts h).2 _ (List.mem_singleton.2 rfl)
  have en : name = [101, 114, 114, 111, 114] := (Option.some.inj e1).symm
  subst en
  obtain rfl := Option.some.inj (rt.symm.trans e2)
  have hm : ty ∈ (List.range 293).filter fun t => Tryz.prog.rowNamed t [101, 114, 114, 111, 114] := List.mem_filter.2 ⟨List.mem_range.2 (by rw [← tsize]; exact e3), e4⟩
  rw [oneRow] at hm
  obtain rfl := List.mem_singleton.1 hm
  have hh : typeHandle Tryz.prog 28 = hdl 28 := by kernel_rfl
  rw [hh] at e5
  have hc : W.cell? ⟨1, 0, none⟩ = some (.iface 122 (.agg #[hdl 28])) := by simpa using World.var?_cell gE e5 0
  refine ⟨hc, ?_⟩
  rcases Nat.lt_or_ge 1 W.heap.size with hl | hl
  · exact hl
  · exfalso
    unfold World.cell? at hc
    rw [Array.getElem?_eq_none hl] at hc
    simp at hc

set_option maxRecDepth 100000 in
theorem lifted (os : Os) (started : os.Started) (H : Type) (enc : TypeId × Value → H) (F : Stop.Interp) :
    ReturnsInHanded {} Tryz.checked os 5 .any ((OpenSpec.ofChange Rows.lexPlacesSpec).preRow enc Tryz.prog Tryz.f5 Rows.lexPlacesRow.domain false Rows.lexPlacesRow.laid) (((OpenSpec.ofChange Rows.lexPlacesSpec).at F).post enc Tryz.prog Tryz.f5 false true false false) := by
  obtain ⟨places, hx⟩ := reads os enc
  refine returnsInHanded_of_row (C := Tryz.checked) (s := OpenSpec.ofChange Rows.lexPlacesSpec) own started (by kernel_rfl) Tryz.func5
    (wit_row (enc := enc) (C := Tryz.checked) (w1 os) #[.string ⟨#[]⟩] (w1_os os) (World.shaped_of_ZipB (by kernel_rfl) (by kernel_rfl)) (by kernel_rfl)
      (OpenSpec.preRow_of_cond 8 hx (by kernel_rfl) (fun k hk => by cases hk) (by kernel_rfl) (door_met os _))) ?_
  intro W base args ds gs before hval0 hW _ _ hsz0 hL hShp _
  have hsz : (DataW.weightsEach Tryz.prog (Tryz.f5.params.toList ++ Rows.lexPlacesSpec.plain.varTypes Tryz.prog) (ds ++ gs)).all (· ≤ reachBytes) = true := hsz0
  have hval : ∀ (j : Nat) t v, Tryz.f5.params[j]? = some t → args[j]? = some v → Value.okWide Tryz.prog W .any base t v := hval0
  have hW' : DataW.Whole enc Tryz.prog Tryz.f5.params.toList Rows.lexPlacesSpec.vars false W args.toList ds gs before := hW
  have hW0 := hW'
  obtain ⟨p, q, hA0, hV, rfl, hfz, hnd⟩ := hW0
  have hA : DataW.TrodAll enc Tryz.prog W 0 (fun _ => true) true Tryz.f5.params.toList args.toList ds p := hA0
  rw [Tryz.params5] at hA hval hsz
  obtain ⟨v0, vs0, d0, ds0, p0, q0, hargs, rfl, rfl, h0, r0⟩ := trodAll_cons hA
  obtain ⟨rfl, rfl, rfl⟩ := trodAll_nil r0
  obtain rfl : args = #[v0] := by cases args; simp_all
  obtain ⟨rfl, rfl⟩ := trodVars_none hV
  obtain ⟨s, rfl, rfl, rfl, ws⟩ := open_string Tryz.underlying9 (hval 0 9 v0 rfl rfl) h0
  have hL2 : laidMetH Tryz.prog Rows.lexPlacesRow.laid W := hL
  have hT : Tabs W := tabs_of (hParts hL2).1 (List.mem_filter.2 ⟨by simp [Rows.lexPlacesRow], by kernel_rfl⟩) (List.mem_filter.2 ⟨by simp [Rows.lexPlacesRow], by kernel_rfl⟩) (List.mem_filter.2 ⟨by simp [Rows.lexPlacesRow], by kernel_rfl⟩)
  have hN : Nums W := nums_of (tbs_of (hParts hL2).1 hT (List.mem_filter.2 ⟨by simp [Rows.lexPlacesRow], by kernel_rfl⟩) (List.mem_filter.2 ⟨by simp [Rows.lexPlacesRow], by kernel_rfl⟩) (List.mem_filter.2 ⟨by simp [Rows.lexPlacesRow], by kernel_rfl⟩)) (fbt_of (hParts hL2).1 (List.mem_filter.2 ⟨by simp [Rows.lexPlacesRow], by kernel_rfl⟩) (List.mem_filter.2 ⟨by simp [Rows.lexPlacesRow], by kernel_rfl⟩) (List.mem_filter.2 ⟨by simp [Rows.lexPlacesRow], by kernel_rfl⟩))
  have hw0 : ∀ n ∈ (DataW.lit (.string s.data.toList) : DataW H).weights Tryz.prog 9, n ≤ reachBytes := fun n hn => of_decide_eq_true (List.all_eq_true.1 hsz _ (DataW.weights_mem_each (j := 0) (t := 9) rfl rfl n hn))
  have hsl : s.data.toList.length ≤ 140737488351232 := hw0 _ (by simp [DataW.weights])
  have es : s = ⟨s.data.toList.toArray⟩ := by cases s; rfl
  have hc : Calls Tryz.prog 5 #[.string s] W fun e w' => e = .returned (.bool true) ∧ Fr (fun _ => False) W w' := by
    rw [es]
    exact lexPlaces_any hT (hnl_of hL2) hN _ hsl
  refine hc.mono fun e W' ⟨he, fr⟩ => ?_
  have bel := below_of_fr fr
  subst he
  exact ⟨_, rfl, _, _, _, [], [], [], hW', trodAll_mk1 (shut_bool Tryz.underlying4 _), trodAll_mk1 (shut_string Tryz.underlying9 ws), rfl, bel.frame _, fun h => by cases h⟩

theorem said : Rows.LexPlacesSaid :=
  OpenClaim.holds_of_cond 5 Tryz.f5 rfl rfl rfl rfl rfl rfl rfl ⟨rfl, rfl, rfl, rfl, rfl⟩ rfl rfl rfl rfl rfl (by kernel_rfl) Tryz.func5 closed
    (of_decide_eq_true (by kernel_rfl)) (by unfold Func.isWrapper; first | (rw [if_pos (by decide +kernel)]; kernel_rfl) | (rw [if_neg (by decide +kernel)]; exact ⟨rfl, rfl⟩))
    (fun os started H enc _ F => by rw [OpenClaim.pre_eq_preRow]; exact lifted os started H enc F)
theorem plain (f : FuncId) (fn : Func) (hf : Tryz.pinned.checked.prog.funcNamed "bootjack/bootjacklaw10.LexPlaces" = some f) (hfn : Tryz.pinned.checked.prog.funcs[f]? = some fn) :
    true = Tryz.pinned.checked.prog.looks [] ∧ ∀ (j : Nat) t, fn.params[j]? = some t → Tryz.pinned.checked.prog.wantsStandIn t = false := by
  obtain rfl : f = 5 := Option.some.inj ((show Tryz.prog.funcNamed "bootjack/bootjacklaw10.LexPlaces" = some 5 by kernel_rfl).symm.trans hf) |>.symm
  obtain rfl : fn = Tryz.f5 := (Option.some.inj (Tryz.func5.symm.trans hfn)).symm
  refine ⟨by kernel_rfl, fun j t ht => ?_⟩
  rw [Tryz.params5] at ht
  have hm : t ∈ [9] := by simpa using Array.mem_of_getElem? ht
  have hall : ([9].all fun u => !Tryz.prog.wantsStandIn u) = true := by kernel_rfl
  exact (show Tryz.prog.wantsStandIn t = false by simpa using List.all_eq_true.1 hall t hm)

end Go.Proofs.YtionmohglmbklaaGreatDoor.lexPlaces
namespace Go.Proofs.YtionmohglmbklaaGreatDoor
theorem lexPlaces_proved : Rows.LexPlacesCardSaid :=
  Claim7.holds_tied_plain_at .later [] _ _ _ _ lexPlaces.said (fun _ h => by cases h) (by kernel_rfl) (fun _ h => by cases h) lexPlaces_row_tie rfl ⟨rfl, rfl⟩ (by kernel_rfl) rfl lexPlaces.plain (by kernel_rfl)
#print axioms lexPlaces_proved
end Go.Proofs.YtionmohglmbklaaGreatDoor
