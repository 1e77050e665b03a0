import Derived.Test.YtionmohglmbklaaGreatDoorCards
import Derived.JoinedCond
import Derived.WalkKit
import Derived.Test.YtionmohglmbklaaGreatDoorTie
import Derived.Test.YtionmohglmbklaaGreatDoorNuwM
import Derived.Test.YtionmohglmbklaaGreatDoorLag
import Derived.ChangeMaps5
import Derived.ShutString
import Derived.Lay
import Derived.LaidHandle
import Derived.OpenShut
import Derived.MakeChecks
/- Closed facts of LexNumbers' row. -/
namespace Go.Proofs.YtionmohglmbklaaGreatDoor.lexNumbers
open Go.RowKit
theorem fa1 : laidOutB Tryz.prog = true := by kernel_rfl
theorem fa2 : mapsRowed Tryz.prog = true := by kernel_rfl
theorem fa3 : (Rows.lexNumbersRow.inPlace == Tryz.prog.inPlace 6) = true := by kernel_rfl
theorem fa4 : (Rows.lexNumbersRow.unfollowed == Tryz.prog.unfollowed 6) = true := by kernel_rfl
theorem fa5 : (Rows.lexNumbersRow.recurses == Tryz.prog.recurses 6) = true := by kernel_rfl
theorem fa6 : (Rows.lexNumbersRow.named == Tryz.prog.varsNamed 6) = true := by kernel_rfl
set_option maxRecDepth 100000 in
theorem closed : joinedFacts Tryz.prog 6 Tryz.f6 (OpenSpec.ofChange Rows.lexNumbersSpec).bare Rows.lexNumbersRow = true := by
  simp only [joinedFacts, Bool.and_eq_true]
  repeat' apply And.intro
  all_goals first | (with_reducible exact fa1) | (with_reducible exact fa2) | (with_reducible exact fa3) | (with_reducible exact fa4) | (with_reducible exact fa5) | (with_reducible exact fa6) | kernel_rfl
end Go.Proofs.YtionmohglmbklaaGreatDoor.lexNumbers
/- PROVED: for every two numbers, LexNumbers returns true. The tables, the errors and the type's handle of the library that the row lists hold what the program's text lays (tied; two great tables are pinned by the form). -/
namespace Go.Proofs.YtionmohglmbklaaGreatDoor.lexNumbers
open Go.ChangeShapes Go.WideShapes Go.ChangeAt Go.RowKit Go.ChangeMaps Go.Proofs.YtionmohglmbklaaGreatDoor.Tr

theorem own : ownKnob Tryz.prog.godebug = none := by kernel_rfl
/-- What the row lists, but for the handle. -/
abbrev L0 : List (String × DataW Unit) := Rows.lexNumbersRow.laid.filter fun x => x.2.handleName?.isNone
/-- A start: the handle of 'error' where the library keeps it, then the rest. -/
noncomputable def w0 (os : Os) : World := (World.holding Tryz.prog os ⟨#[], #[], []⟩).setCell ⟨1, 0, none⟩ (.iface 122 (.agg #[hdl 28]))
noncomputable def w1 (os : Os) : World := (w0 os).layVars Tryz.prog L0
theorem w1_os (os : Os) : (w1 os).os = os := by
  unfold w1; rw [World.layVars_os]; rfl
theorem met (os : Os) : laidMet Tryz.prog L0 (w1 os) := by
  have e1 : (L0.filter fun x => (L0.map (·.1)).contains x.1) = L0 := List.filter_eq_self.2 fun x hx => List.contains_iff_mem.2 (List.mem_map.2 ⟨x, hx, rfl⟩)
  have e2 : (L0.filter fun x => !(L0.map (·.1)).contains x.1) = [] := List.filter_eq_nil_iff.2 fun x hx => by rw [List.contains_iff_mem.2 (List.mem_map.2 ⟨x, hx, rfl⟩)]; simp
  exact laidMet_layVars (w0 := w0 os) (L0.map (·.1)) [] (by rw [e1]; rfl) (by rw [e1]; kernel_rfl) (by rw [e1]; kernel_rfl) (by rw [e2]; exact LaidIn.none)
theorem door_met (os : Os) (args : Array Value) : laidMetH Tryz.prog Rows.lexNumbersRow.laid ((w1 os).forCall (fun _ _ => 0) ⟨#[], args, []⟩).memory :=
  laidMetH_of_parts ((met os).of_heap (by simp [World.memory, World.forCall, Input.heap])) (by kernel_rfl)
theorem reads (os : Os) {H : Type} (enc : TypeId × Value → H) : ∃ places, DataW.whole enc Tryz.prog ((w1 os).forCall (fun _ _ => 0) ⟨#[], #[.int .i64 0, .int .i64 0], []⟩).memory Tryz.f6.params.toList Rows.lexNumbersSpec.vars false #[Value.int .i64 0, .int .i64 0].toList 8 = some ([.lit (.int .i64 0), .lit (.int .i64 0)], [], places) :=
  ⟨[], by kernel_rfl⟩

theorem gE : Tryz.prog.globalNamed "errors.errorType" = some 1 := by kernel_rfl
theorem rt : (Tryz.prog.cutTypes.find? (·.1 == "internal/reflectlite.rtype")).map (·.2) = some 122 := by kernel_rfl
theorem tsize : Tryz.prog.types.size = 293 := by kernel_rfl
theorem oneRow : ((List.range 293).filter fun t => Tryz.prog.rowNamed t [101, 114, 114, 111, 114]) = [28] := by kernel_rfl
theorem hParts {W : World} (h : laidMetH Tryz.prog Rows.lexNumbersRow.laid W) : laidMet Tryz.prog L0 W ∧ handlesMet Tryz.prog [("errors.errorType", Rows.laid_errors_errorType)] W := h
theorem hnl_of {W : World} (h : laidMetH Tryz.prog Rows.lexNumbersRow.laid W) : Hnl W := by
  obtain ⟨name, u, ty, e1, e2, e3, e4, e5⟩ := (hParts h).2 _ (List.mem_singleton.2 rfl)
  have en : name = [101, 114, 114, 111, 114] := (Option.some.inj e1).symm
  subst en
  obtain rfl := Option.some.inj (rt.symm.trans e2)
  have hm : ty ∈ (List.range 293).filter fun t => Tryz.prog.rowNamed t [101, 114, 114, 111, 114] := List.mem_filter.2 ⟨List.mem_range.2 (by rw [← tsize]; exact e3), e4⟩
  rw [oneRow] at hm
  obtain rfl := List.mem_singleton.1 hm
  have hh : typeHandle Tryz.prog 28 = hdl 28 := by kernel_rfl
  rw [hh] at e5
  have hc : W.cell? ⟨1, 0, none⟩ = some (.iface 122 (.agg #[hdl 28])) := by simpa using World.var?_cell gE e5 0
  refine ⟨hc, ?_⟩
  rcases Nat.lt_or_ge 1 W.heap.size with hl | hl
  · exact hl
  · exfalso
    unfold World.cell? at hc
    rw [Array.getElem?_eq_none hl] at hc
    simp at hc

set_option maxRecDepth 100000 in
theorem lifted (os : Os) (started : os.Started) (H : Type) (enc : TypeId × Value → H) (F : Stop.Interp) :
    ReturnsInHanded {} Tryz.checked os 6 .any ((OpenSpec.ofChange Rows.lexNumbersSpec).preRow enc Tryz.prog Tryz.f6 Rows.lexNumbersRow.domain false Rows.lexNumbersRow.laid) (((OpenSpec.ofChange Rows.lexNumbersSpec).at F).post enc Tryz.prog Tryz.f6 false true false false) := by
  obtain ⟨places, hx⟩ := reads os enc
  refine returnsInHanded_of_row (C := Tryz.checked) (s := OpenSpec.ofChange Rows.lexNumbersSpec) own started (by kernel_rfl) Tryz.func6
    (wit_row (enc := enc) (C := Tryz.checked) (w1 os) #[.int .i64 0, .int .i64 0] (w1_os os) (World.shaped_of_ZipB (by kernel_rfl) (by kernel_rfl)) (by kernel_rfl)
      (OpenSpec.preRow_of_cond 8 hx (by kernel_rfl) (fun k hk => by cases hk) (by kernel_rfl) (door_met os _))) ?_
  intro W base args ds gs before hval0 hW _ _ hsz0 hL hShp _
  have hsz : (DataW.weightsEach Tryz.prog (Tryz.f6.params.toList ++ Rows.lexNumbersSpec.plain.varTypes Tryz.prog) (ds ++ gs)).all (· ≤ reachBytes) = true := hsz0
  have hval : ∀ (j : Nat) t v, Tryz.f6.params[j]? = some t → args[j]? = some v → Value.okWide Tryz.prog W .any base t v := hval0
  have hW' : DataW.Whole enc Tryz.prog Tryz.f6.params.toList Rows.lexNumbersSpec.vars false W args.toList ds gs before := hW
  have hW0 := hW'
  obtain ⟨p, q, hA0, hV, rfl, hfz, hnd⟩ := hW0
  have hA : DataW.TrodAll enc Tryz.prog W 0 (fun _ => true) true Tryz.f6.params.toList args.toList ds p := hA0
  rw [Tryz.params6] at hA hval hsz
  obtain ⟨v0, vs0, d0, ds0, p0, q0, hargs, rfl, rfl, h0, r0⟩ := trodAll_cons hA
  obtain ⟨v1, vs1, d1, ds1, p1, q1, rfl, rfl, rfl, h1, r1⟩ := trodAll_cons r0
  obtain ⟨rfl, rfl, rfl⟩ := trodAll_nil r1
  obtain rfl : args = #[v0, v1] := by cases args; simp_all
  obtain ⟨rfl, rfl⟩ := trodVars_none hV
  obtain ⟨z0, rfl, rfl, rfl, wz0⟩ := open_int Tryz.underlying2 (hval 0 2 v0 rfl rfl) h0
  obtain ⟨z1, rfl, rfl, rfl, wz1⟩ := open_int Tryz.underlying2 (hval 1 2 v1 rfl rfl) h1
  have hL2 : laidMetH Tryz.prog Rows.lexNumbersRow.laid W := hL
  have hT : Tabs W := tabs_of (hParts hL2).1 (List.mem_filter.2 ⟨by simp [Rows.lexNumbersRow], by kernel_rfl⟩) (List.mem_filter.2 ⟨by simp [Rows.lexNumbersRow], by kernel_rfl⟩) (List.mem_filter.2 ⟨by simp [Rows.lexNumbersRow], by kernel_rfl⟩)
  have hB := tbs_of (hParts hL2).1 hT (List.mem_filter.2 ⟨by simp [Rows.lexNumbersRow], by kernel_rfl⟩) (List.mem_filter.2 ⟨by simp [Rows.lexNumbersRow], by kernel_rfl⟩) (List.mem_filter.2 ⟨by simp [Rows.lexNumbersRow], by kernel_rfl⟩)
  have hC := fbt_of (hParts hL2).1 (List.mem_filter.2 ⟨by simp [Rows.lexNumbersRow], by kernel_rfl⟩) (List.mem_filter.2 ⟨by simp [Rows.lexNumbersRow], by kernel_rfl⟩) (List.mem_filter.2 ⟨by simp [Rows.lexNumbersRow], by kernel_rfl⟩)
  have hc : Calls Tryz.prog 6 #[.int .i64 z0, .int .i64 z1] W fun e w' => e = .returned (.bool true) ∧ Fr (fun _ => False) W w' := by
    have b0 := bounds_i64 wz0
    have b1 := bounds_i64 wz1
    exact lexNumbers_any hT (hnl_of hL2) hB hC z0 z1 b0.1 (by omega) b1.1 (by omega)
  refine hc.mono fun e W' ⟨he, fr⟩ => ?_
  have bel := below_of_fr fr
  subst he
  exact ⟨_, rfl, _, _, _, [], [], [], hW', trodAll_mk1 (shut_bool Tryz.underlying4 _), trodAll_cons_mk (shut_int Tryz.underlying2 wz0) (trodAll_mk1 (shut_int Tryz.underlying2 wz1)), rfl, bel.frame _, fun h => by cases h⟩

theorem said : Rows.LexNumbersSaid :=
  OpenClaim.holds_of_cond 6 Tryz.f6 rfl rfl rfl rfl rfl rfl rfl ⟨rfl, rfl, rfl, rfl, rfl⟩ rfl rfl rfl rfl rfl (by kernel_rfl) Tryz.func6 closed
    (of_decide_eq_true (by kernel_rfl)) (by unfold Func.isWrapper; first | (rw [if_pos (by decide +kernel)]; kernel_rfl) | (rw [if_neg (by decide +kernel)]; exact ⟨rfl, rfl⟩))
    (fun os started H enc _ F => by rw [OpenClaim.pre_eq_preRow]; exact lifted os started H enc F)
theorem plain (f : FuncId) (fn : Func) (hf : Tryz.pinned.checked.prog.funcNamed "bootjack/bootjacklaw10.LexNumbers" = some f) (hfn : Tryz.pinned.checked.prog.funcs[f]? = some fn) :
    true = Tryz.pinned.checked.prog.looks [] ∧ ∀ (j : Nat) t, fn.params[j]? = some t → Tryz.pinned.checked.prog.wantsStandIn t = false := by
  obtain rfl : f = 6 := Option.some.inj ((show Tryz.prog.funcNamed "bootjack/bootjacklaw10.LexNumbers" = some 6 by kernel_rfl).symm.trans hf) |>.symm
  obtain rfl : fn = Tryz.f6 := (Option.some.inj (Tryz.func6.symm.trans hfn)).symm
  refine ⟨by kernel_rfl, fun j t ht => ?_⟩
  rw [Tryz.params6] at ht
  have hm : t ∈ [2, 2] := by simpa using Array.mem_of_getElem? ht
  have hall : ([2, 2].all fun u => !Tryz.prog.wantsStandIn u) = true := by kernel_rfl
  exact (show Tryz.prog.wantsStandIn t = false by simpa using List.all_eq_true.1 hall t hm)

end Go.Proofs.YtionmohglmbklaaGreatDoor.lexNumbers
namespace Go.Proofs.YtionmohglmbklaaGreatDoor
theorem lexNumbers_proved : Rows.LexNumbersCardSaid :=
  Claim7.holds_tied_plain_at .later [] _ _ _ _ lexNumbers.said (fun _ h => by cases h) (by kernel_rfl) (fun _ h => by cases h) lexNumbers_row_tie rfl ⟨rfl, rfl⟩ (by kernel_rfl) rfl lexNumbers.plain (by kernel_rfl)
#print axioms lexNumbers_proved
end Go.Proofs.YtionmohglmbklaaGreatDoor
