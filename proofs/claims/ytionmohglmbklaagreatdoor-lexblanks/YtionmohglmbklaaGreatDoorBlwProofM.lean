import Derived.Test.YtionmohglmbklaaGreatDoorCards
import Derived.JoinedCond
import Derived.WalkKit
import Derived.Test.YtionmohglmbklaaGreatDoorTie
import Derived.Test.YtionmohglmbklaaGreatDoorBlwM
import Derived.Test.YtionmohglmbklaaGreatDoorLag
import Derived.ChangeMaps5
import Derived.ShutString
import Derived.OpenShut
import Derived.Lay
import Derived.MakeChecks
/- Closed facts of LexBlanks' row. -/
namespace Go.Proofs.YtionmohglmbklaaGreatDoor.lexBlanks
open Go.RowKit
theorem fa1 : laidOutB Tryz.prog = true := by kernel_rfl
theorem fa2 : mapsRowed Tryz.prog = true := by kernel_rfl
theorem fa3 : (Rows.lexBlanksRow.inPlace == Tryz.prog.inPlace 4) = true := by kernel_rfl
theorem fa4 : (Rows.lexBlanksRow.unfollowed == Tryz.prog.unfollowed 4) = true := by kernel_rfl
theorem fa5 : (Rows.lexBlanksRow.recurses == Tryz.prog.recurses 4) = true := by kernel_rfl
theorem fa6 : (Rows.lexBlanksRow.named == Tryz.prog.varsNamed 4) = true := by kernel_rfl
set_option maxRecDepth 100000 in
theorem closed : joinedFacts Tryz.prog 4 Tryz.f4 (OpenSpec.ofChange Rows.lexBlanksSpec).bare Rows.lexBlanksRow = true := by
  simp only [joinedFacts, Bool.and_eq_true]
  repeat' apply And.intro
  all_goals first | (with_reducible exact fa1) | (with_reducible exact fa2) | (with_reducible exact fa3) | (with_reducible exact fa4) | (with_reducible exact fa5) | (with_reducible exact fa6) | kernel_rfl
end Go.Proofs.YtionmohglmbklaaGreatDoor.lexBlanks
/- PROVED: for every text and every row of numbers, LexBlanks returns true and leaves its arguments as they were. The tables and the errors of the library that the row lists hold what the program's text lays (tied; two great tables are pinned by the form). -/
namespace Go.Proofs.YtionmohglmbklaaGreatDoor.lexBlanks
open Go.ChangeShapes Go.WideShapes Go.ChangeAt Go.RowKit Go.ChangeMaps Go.Proofs.YtionmohglmbklaaGreatDoor.Tr

theorem laidOut : laidOutB Tryz.prog = true := fa1
set_option maxRecDepth 100000 in
theorem open_noise {H : Type} {enc : TypeId × Value → H} {W : World} {ad : Option Addr} {len cap : Nat} {d : DataW H} {ps : List MemPlace}
    (h : DataW.Trod enc Tryz.prog W 0 (fun _ => true) true 39 (.slice ad len cap) d ps) (hw : ∀ n ∈ d.weights Tryz.prog 39, n ≤ reachBytes) : ∃ L : List Int, len = L.length ∧ L.length ≤ 140737488351232 ∧ Nzs W ad L := by
  obtain ⟨fuel, hf⟩ := h
  rcases open_ints Tryz.underlying39 Tryz.underlying3 (by kernel_rfl) hf with ⟨hcs, _⟩ | ⟨x, l', c', zs, hcs, _, hl', hm', hz', hx, hcell, hwz⟩
  · simp [Value.cells] at hcs
    obtain ⟨rfl, rfl, rfl⟩ := hcs
    exact ⟨[], rfl, by simp, fun h => absurd rfl h⟩
  · simp [Value.cells] at hcs
    obtain ⟨rfl, rfl, rfl⟩ := hcs
    have hzl : zs.length = cap := by simpa using hz'
    have hb : Tryz.prog.bytesOf 3 = 8 := by kernel_rfl
    have hd : d = .slice (lits .i64 (zs.take len)) (lits .i64 (zs.drop len)) := congrArg Prod.fst hx
    have hw0 : cap * 8 ≤ reachBytes := hw _ (by
      rw [hd]
      simp only [DataW.weights, Tryz.underlying39, hb, List.mem_cons]
      left
      congr 1
      simp [lits]
      omega)
    have hr : reachBytes = 140737488351232 := rfl
    refine ⟨zs.take len, by simp; omega, by simp; omega, fun hne => ?_⟩
    have hpos : 0 < len := by
      rcases Nat.eq_zero_or_pos len with e | e
      · subst e; exact absurd rfl hne
      · exact e
    have hq0 := hcell 0 (by omega)
    obtain ⟨bb, bo, sp⟩ := x
    have hsp : sp = none := by
      have := World.cell?_spot hq0
      simpa [Addr.add] using this
    subst hsp
    refine ⟨bb, bo, rfl, fun j hj => ?_⟩
    have hj' : j < zs.length := by simp at hj; omega
    have hq := hcell j hj'
    rw [Addr.add_mid] at hq
    rw [hq, List.getElem_take]
    simp [List.getD_eq_getElem?_getD, List.getElem?_eq_getElem hj']

theorem own : ownKnob Tryz.prog.godebug = none := by kernel_rfl
theorem plainH (W : World) : laidMetH Tryz.prog Rows.lexBlanksRow.laid W = laidMet Tryz.prog Rows.lexBlanksRow.laid W := MakeChecks.laidMetH_plain _ _ _ (by kernel_rfl)
theorem door_met (os : Os) (args : Array Value) : laidMetH Tryz.prog Rows.lexBlanksRow.laid ((World.laidAll Tryz.prog os Rows.lexBlanksRow.laid).forCall (fun _ _ => 0) ⟨#[], args, []⟩).memory := by
  rw [plainH]
  exact laidMet_laidAll args (by kernel_rfl) (by kernel_rfl)
theorem reads (os : Os) {H : Type} (enc : TypeId × Value → H) : ∃ places, DataW.whole enc Tryz.prog ((World.laidAll Tryz.prog os Rows.lexBlanksRow.laid).forCall (fun _ _ => 0) ⟨#[], #[.string ⟨#[]⟩, .slice none 0 0], []⟩).memory Tryz.f4.params.toList Rows.lexBlanksSpec.vars false #[Value.string ⟨#[]⟩, .slice none 0 0].toList 8 = some ([.lit (.string []), .nil], [], places) :=
  ⟨[], by kernel_rfl⟩

set_option maxRecDepth 100000 in
theorem lifted (os : Os) (started : os.Started) (H : Type) (enc : TypeId × Value → H) (F : Stop.Interp) :
    ReturnsInHanded {} Tryz.checked os 4 .any ((OpenSpec.ofChange Rows.lexBlanksSpec).preRow enc Tryz.prog Tryz.f4 Rows.lexBlanksRow.domain false Rows.lexBlanksRow.laid) (((OpenSpec.ofChange Rows.lexBlanksSpec).at F).post enc Tryz.prog Tryz.f4 false true false false) := by
  obtain ⟨places, hx⟩ := reads os enc
  refine returnsInHanded_of_row (C := Tryz.checked) (s := OpenSpec.ofChange Rows.lexBlanksSpec) own started (by kernel_rfl) Tryz.func4
    (wit_row (enc := enc) (C := Tryz.checked) (World.laidAll Tryz.prog os Rows.lexBlanksRow.laid) #[.string ⟨#[]⟩, .slice none 0 0] (World.laidAll_os _ _ _) (World.shaped_of_ZipB (by kernel_rfl) (by kernel_rfl)) (by kernel_rfl)
      (OpenSpec.preRow_of_cond 8 hx (by kernel_rfl) (fun k hk => by cases hk) (by kernel_rfl) (door_met os _))) ?_
  intro W base args ds gs before hval0 hW _ _ hsz0 hL hShp _
  have hsz : (DataW.weightsEach Tryz.prog (Tryz.f4.params.toList ++ Rows.lexBlanksSpec.plain.varTypes Tryz.prog) (ds ++ gs)).all (· ≤ reachBytes) = true := hsz0
  have hval : ∀ (j : Nat) t v, Tryz.f4.params[j]? = some t → args[j]? = some v → Value.okWide Tryz.prog W .any base t v := hval0
  have hW' : DataW.Whole enc Tryz.prog Tryz.f4.params.toList Rows.lexBlanksSpec.vars false W args.toList ds gs before := hW
  have hW0 := hW'
  obtain ⟨p, q, hA0, hV, rfl, hfz, hnd⟩ := hW0
  have hA : DataW.TrodAll enc Tryz.prog W 0 (fun _ => true) true Tryz.f4.params.toList args.toList ds p := hA0
  rw [Tryz.params4] at hA hval hsz
  obtain ⟨v0, vs0, d0, ds0, p0, q0, hargs, rfl, rfl, h0, r0⟩ := trodAll_cons hA
  obtain ⟨v1, vs1, d1, ds1, p1, q1, rfl, rfl, rfl, h1, r1⟩ := trodAll_cons r0
  obtain ⟨rfl, rfl, rfl⟩ := trodAll_nil r1
  obtain rfl : args = #[v0, v1] := by cases args; simp_all
  obtain ⟨rfl, rfl⟩ := trodVars_none hV
  obtain ⟨s, rfl, rfl, rfl, ws⟩ := open_string Tryz.underlying9 (hval 0 9 v0 rfl rfl) h0
  obtain ⟨a1, len1, cap1, rfl⟩ := okWide_slice Tryz.underlying39 (hval 1 39 v1 rfl rfl)
  have k1 := h1
  have lt1 : ∀ x ∈ p1, x.block < W.heap.size := by obtain ⟨m, hm⟩ := k1; exact DataW.trod_lt m _ _ _ hm
  have hw1 : ∀ n ∈ d1.weights Tryz.prog 39, n ≤ reachBytes := fun n hn => of_decide_eq_true (List.all_eq_true.1 hsz _ (DataW.weights_mem_each (j := 1) (t := 39) rfl rfl n hn))
  obtain ⟨L1, e1, hl1, hd1⟩ := open_noise k1 hw1
  subst e1
  have hL2 : laidMetH Tryz.prog Rows.lexBlanksRow.laid W := hL
  rw [plainH] at hL2
  have hT : Tabs W := tabs_of hL2 (by simp [Rows.lexBlanksRow]) (by simp [Rows.lexBlanksRow]) (by simp [Rows.lexBlanksRow])
  have hN : Nums2 W := nums2_of (tbs_of hL2 hT (by simp [Rows.lexBlanksRow]) (by simp [Rows.lexBlanksRow]) (by simp [Rows.lexBlanksRow])) (fbt_of hL2 (by simp [Rows.lexBlanksRow]) (by simp [Rows.lexBlanksRow]) (by simp [Rows.lexBlanksRow])) (fun i _ => (tabQ_lt i).1) q10_fin
  have hw0 : ∀ n ∈ (DataW.lit (.string s.data.toList) : DataW H).weights Tryz.prog 9, n ≤ reachBytes := fun n hn => of_decide_eq_true (List.all_eq_true.1 hsz _ (DataW.weights_mem_each (j := 0) (t := 9) rfl rfl n hn))
  have hsl : s.data.toList.length ≤ 140737488351232 := hw0 _ (by simp [DataW.weights])
  have es : s = ⟨s.data.toList.toArray⟩ := by cases s; rfl
  have hc : Calls Tryz.prog 4 #[.string s, .slice a1 L1.length cap1] W fun e w' => e = .returned (.bool true) ∧ Fr (fun _ => False) W w' := by
    rw [es]
    exact lexBlanks_any hT hN _ hsl L1 a1 cap1 hd1 hl1
  refine hc.mono fun e W' ⟨he, fr⟩ => ?_
  have bel := below_of_fr fr
  subst he
  exact ⟨_, rfl, _, _, _, [], _, [], hW', trodAll_mk1 (shut_bool Tryz.underlying4 _), trodAll_cons_mk (shut_string Tryz.underlying9 ws) (trodAll_cons_mk (Below.trod laidOut (by kernel_rfl) (of_decide_eq_true (by kernel_rfl)) k1 bel lt1) trodAll_mk0), rfl, bel.frame _, fun h => by cases h⟩

theorem said : Rows.LexBlanksSaid :=
  OpenClaim.holds_of_cond 4 Tryz.f4 rfl rfl rfl rfl rfl rfl rfl ⟨rfl, rfl, rfl, rfl, rfl⟩ rfl rfl rfl rfl rfl (by kernel_rfl) Tryz.func4 closed
    (of_decide_eq_true (by kernel_rfl)) (by unfold Func.isWrapper; first | (rw [if_pos (by decide +kernel)]; kernel_rfl) | (rw [if_neg (by decide +kernel)]; exact ⟨rfl, rfl⟩))
    (fun os started H enc _ F => by rw [OpenClaim.pre_eq_preRow]; exact lifted os started H enc F)
theorem plain (f : FuncId) (fn : Func) (hf : Tryz.pinned.checked.prog.funcNamed "bootjack/bootjacklaw10.LexBlanks" = some f) (hfn : Tryz.pinned.checked.prog.funcs[f]? = some fn) :
    true = Tryz.pinned.checked.prog.looks [] ∧ ∀ (j : Nat) t, fn.params[j]? = some t → Tryz.pinned.checked.prog.wantsStandIn t = false := by
  obtain rfl : f = 4 := Option.some.inj ((show Tryz.prog.funcNamed "bootjack/bootjacklaw10.LexBlanks" = some 4 by kernel_rfl).symm.trans hf) |>.symm
  obtain rfl : fn = Tryz.f4 := (Option.some.inj (Tryz.func4.symm.trans hfn)).symm
  refine ⟨by kernel_rfl, fun j t ht => ?_⟩
  rw [Tryz.params4] at ht
  have hm : t ∈ [9, 39] := by simpa using Array.mem_of_getElem? ht
  have hall : ([9, 39].all fun u => !Tryz.prog.wantsStandIn u) = true := by kernel_rfl
  exact (show Tryz.prog.wantsStandIn t = false by simpa using List.all_eq_true.1 hall t hm)

end Go.Proofs.YtionmohglmbklaaGreatDoor.lexBlanks
namespace Go.Proofs.YtionmohglmbklaaGreatDoor
theorem lexBlanks_proved : Rows.LexBlanksCardSaid :=
  Claim7.holds_tied_plain_at .later [] _ _ _ _ lexBlanks.said (fun _ h => by cases h) (by kernel_rfl) (fun _ h => by cases h) lexBlanks_row_tie rfl ⟨rfl, rfl⟩ (by kernel_rfl) rfl lexBlanks.plain (by kernel_rfl)
#print axioms lexBlanks_proved
end Go.Proofs.YtionmohglmbklaaGreatDoor
