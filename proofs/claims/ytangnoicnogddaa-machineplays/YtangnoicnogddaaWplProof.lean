/- PROVED: for every plan, every row of acts and every row of numbers, MachinePlays returns true and leaves them as they were. Condition: the arguments are of bulk at most 1048576 together. -/
import Derived.Test.YtangnoicnogddaaWpd
import Derived.Test.YtangnoicnogddaaWpk
import Derived.Test.YtangnoicnogddaaMas
import Derived.Test.YtangnoicnogddaaMan
import Derived.Test.YtangnoicnogddaaMar
import Derived.ChangeMaps5
import Derived.ShutString
import Derived.OpenShut
import Derived.Lay
import Derived.MakeChecks
namespace Go.Proofs.Ytangnoicnogddaa.machinePlays
open Go.ChangeShapes Go.WideShapes Go.ChangeAt Go.RowKit Go.ChangeMaps Go.Proofs.Ytangnoicnogddaa.Tr

theorem own : ownKnob Try.prog.godebug = none := by kernel_rfl
theorem plainH (W : World) : laidMetH Try.prog Rows.machinePlaysUptoRow.laid W = laidMet Try.prog Rows.machinePlaysUptoRow.laid W := MakeChecks.laidMetH_plain _ _ _ (by kernel_rfl)
theorem laidOut : laidOutB Try.prog = true := fa1
theorem door_met (os : Os) (args : Array Value) : laidMetH Try.prog Rows.machinePlaysUptoRow.laid ((World.laidAll Try.prog os Rows.machinePlaysUptoRow.laid).forCall (fun _ _ => 0) ⟨#[], args, []⟩).memory := by
  rw [plainH]
  exact laidMet_laidAll args (by kernel_rfl) (by kernel_rfl)
theorem reads (os : Os) {H : Type} (enc : TypeId × Value → H) : ∃ places, DataW.whole enc Try.prog ((World.laidAll Try.prog os Rows.machinePlaysUptoRow.laid).forCall (fun _ _ => 0) ⟨#[], #[.slice none 0 0, .slice none 0 0, .slice none 0 0], []⟩).memory Try.f3.params.toList Rows.machinePlaysSpec.vars false #[Value.slice none 0 0, .slice none 0 0, .slice none 0 0].toList 8 = some ([.nil, .nil, .nil], [], places) :=
  ⟨[], by kernel_rfl⟩

set_option maxRecDepth 100000 in
theorem lifted (os : Os) (started : os.Started) (H : Type) (enc : TypeId × Value → H) (F : Stop.Interp) :
    ReturnsInHanded {} Try.checked os 3 .any ((Rows.OpenSpec.upto Rows.machinePlaysSpec).preRow enc Try.prog Try.f3 Rows.machinePlaysUptoRow.domain false Rows.machinePlaysUptoRow.laid) (((Rows.OpenSpec.upto Rows.machinePlaysSpec).at F).post enc Try.prog Try.f3 false true false false) := by
  obtain ⟨places, hx⟩ := reads os enc
  refine returnsInHanded_of_row (C := Try.checked) (s := Rows.OpenSpec.upto Rows.machinePlaysSpec) own started (by kernel_rfl) Try.func3
    (wit_row (enc := enc) (C := Try.checked) (World.laidAll Try.prog os Rows.machinePlaysUptoRow.laid) #[.slice none 0 0, .slice none 0 0, .slice none 0 0] (World.laidAll_os _ _ _) (World.shaped_of_ZipB (by kernel_rfl) (by kernel_rfl)) (by kernel_rfl)
      (OpenSpec.preRow_of_cond 8 hx (by kernel_rfl) (fun k hk => by cases hk; kernel_rfl) (by kernel_rfl) (door_met os _))) ?_
  intro W base args ds gs before hval0 hW _ hcond hsz0 hL hShp _
  have hbulk : Rows.uptoBulkAll (ds ++ gs) ≤ 1048576 := of_decide_eq_true (hcond _ rfl)
  have hsz : (DataW.weightsEach Try.prog (Try.f3.params.toList ++ Rows.machinePlaysSpec.plain.varTypes Try.prog) (ds ++ gs)).all (· ≤ reachBytes) = true := hsz0
  have hval : ∀ (j : Nat) t v, Try.f3.params[j]? = some t → args[j]? = some v → Value.okWide Try.prog W .any base t v := hval0
  have hW' : DataW.Whole enc Try.prog Try.f3.params.toList Rows.machinePlaysSpec.vars false W args.toList ds gs before := hW
  have hW0 := hW'
  obtain ⟨p, q, hA0, hV, rfl, hfz, hnd⟩ := hW0
  have hA : DataW.TrodAll enc Try.prog W 0 (fun _ => true) true Try.f3.params.toList args.toList ds p := hA0
  rw [Try.params3] at hA hval hsz
  obtain ⟨v0, vs0, d0, ds0, p0, q0, hargs, rfl, rfl, h0, r0⟩ := trodAll_cons hA
  obtain ⟨v1, vs1, d1, ds1, p1, q1, rfl, rfl, rfl, h1, r1⟩ := trodAll_cons r0
  obtain ⟨v2, vs2, d2, ds2, p2, q2, rfl, rfl, rfl, h2, r2⟩ := trodAll_cons r1
  obtain ⟨rfl, rfl, rfl⟩ := trodAll_nil r2
  obtain rfl : args = #[v0, v1, v2] := by cases args; simp_all
  obtain ⟨rfl, rfl⟩ := trodVars_none hV
  obtain ⟨a0, len0, cap0, rfl⟩ := okWide_slice Try.underlying22 (hval 0 22 v0 rfl rfl)
  have k0 := h0
  have lt0 : ∀ x ∈ p0, x.block < W.heap.size := by obtain ⟨m, hm⟩ := k0; exact DataW.trod_lt m _ _ _ hm
  have hw0 : ∀ n ∈ d0.weights Try.prog 22, n ≤ reachBytes := fun n hn => of_decide_eq_true (List.all_eq_true.1 hsz _ (DataW.weights_mem_each (j := 0) (t := 22) rfl rfl n hn))
  obtain ⟨L0, e0, hl0, hd0⟩ : ∃ L : List Bool, len0 = L.length ∧ L.length ≤ 140737488351232 ∧ Bools W a0 L := by
    obtain ⟨m, hm⟩ := k0
    obtain ⟨L, ad, cap, e, _, b1, b2⟩ := open_bools hm hw0
    simp only [Value.slice.injEq] at e
    obtain ⟨rfl, rfl, rfl⟩ := e
    exact ⟨L, rfl, b1, b2⟩
  subst e0
  obtain ⟨a1, len1, cap1, rfl⟩ := okWide_slice Try.underlying23 (hval 1 23 v1 rfl rfl)
  have k1 := h1
  have lt1 : ∀ x ∈ p1, x.block < W.heap.size := by obtain ⟨m, hm⟩ := k1; exact DataW.trod_lt m _ _ _ hm
  have hw1 : ∀ n ∈ d1.weights Try.prog 23, n ≤ reachBytes := fun n hn => of_decide_eq_true (List.all_eq_true.1 hsz _ (DataW.weights_mem_each (j := 1) (t := 23) rfl rfl n hn))
  obtain ⟨L1, e1, hl1, hd1, hb1⟩ : ∃ L : List Ac, len1 = L.length ∧ L.length ≤ lim ∧ Acs W L a1 ∧ ∀ a ∈ L, a.u.r.length + a.u.a.length ≤ Rows.uptoBulk d1 := by
    obtain ⟨m, hm⟩ := k1
    obtain ⟨L, ad, cap, e, _, b1, b2, b3⟩ := open_acts2 hm hw1
    simp only [Value.slice.injEq] at e
    obtain ⟨rfl, rfl, rfl⟩ := e
    exact ⟨L, rfl, b1, b2, b3⟩
  subst e1
  obtain ⟨a2, len2, cap2, rfl⟩ := okWide_slice Try.underlying24 (hval 2 24 v2 rfl rfl)
  have k2 := h2
  have lt2 : ∀ x ∈ p2, x.block < W.heap.size := by obtain ⟨m, hm⟩ := k2; exact DataW.trod_lt m _ _ _ hm
  have hw2 : ∀ n ∈ d2.weights Try.prog 24, n ≤ reachBytes := fun n hn => of_decide_eq_true (List.all_eq_true.1 hsz _ (DataW.weights_mem_each (j := 2) (t := 24) rfl rfl n hn))
  obtain ⟨L2, e2, hl2, hd2⟩ : ∃ L : List Int, len2 = L.length ∧ L.length ≤ lim ∧ Nums W a2 L := by
    obtain ⟨m, hm⟩ := k2
    obtain ⟨L, ad, cap, e, _, b1, b2⟩ := open_nums hm hw2
    simp only [Value.slice.injEq] at e
    obtain ⟨rfl, rfl, rfl⟩ := e
    exact ⟨L, rfl, b1, b2⟩
  subst e2
  have hbd : ∀ a ∈ L1, Bnd a.u := fun a ha => by
    have h1 := hb1 a ha
    have h2 := hbulk
    simp only [List.append_nil, Rows.uptoBulkAll] at h2
    unfold Bnd
    omega
  have hc : Calls Try.prog 3 #[.slice a0 L0.length cap0, .slice a1 L1.length cap1, .slice a2 L2.length cap2] W fun e w' => e = .returned (.bool true) ∧ Fr (fun _ => False) W w' := by
    exact plays_walk doc_any W L0 a0 cap0 L1 a1 cap1 L2 a2 cap2 hd0 hl0 hd1 hl1 hbd hd2 hl2
  refine hc.mono fun e W' ⟨he, fr⟩ => ?_
  have bel := below_of_fr fr
  subst he
  exact ⟨_, rfl, _, _, _, [], _, [], hW', trodAll_mk1 (shut_bool Try.underlying4 _), trodAll_cons_mk (Below.trod laidOut (by kernel_rfl) (of_decide_eq_true (by kernel_rfl)) k0 bel lt0) (trodAll_cons_mk (Below.trod laidOut (by kernel_rfl) (of_decide_eq_true (by kernel_rfl)) k1 bel lt1) (trodAll_cons_mk (Below.trod laidOut (by kernel_rfl) (of_decide_eq_true (by kernel_rfl)) k2 bel lt2) trodAll_mk0)), rfl, bel.frame _, fun h => by cases h⟩

theorem said : Rows.MachinePlaysUptoSaid :=
  OpenClaim.holds_of_cond 3 Try.f3 rfl rfl rfl rfl rfl rfl rfl ⟨rfl, rfl, rfl, rfl, rfl⟩ rfl rfl rfl rfl rfl (by kernel_rfl) Try.func3 closed
    (of_decide_eq_true (by kernel_rfl)) (by unfold Func.isWrapper; first | (rw [if_pos (by decide +kernel)]; kernel_rfl) | (rw [if_neg (by decide +kernel)]; exact ⟨rfl, rfl⟩))
    (fun os started H enc _ F => by rw [OpenClaim.pre_eq_preRow]; exact lifted os started H enc F)

end Go.Proofs.Ytangnoicnogddaa.machinePlays
namespace Go.Proofs.Ytangnoicnogddaa
theorem machinePlays_proved : Rows.MachinePlaysUptoSaid := machinePlays.said
#print axioms machinePlays_proved
end Go.Proofs.Ytangnoicnogddaa
