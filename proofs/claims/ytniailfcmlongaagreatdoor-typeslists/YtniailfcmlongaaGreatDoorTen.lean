/- The contracts of slices.Contains of texts, readEnum. -/
import Derived.Test.YtniailfcmlongaaGreatDoorTri
import Derived.Lib.SlicesS
namespace Go.Proofs.YtniailfcmlongaaGreatDoor.Tr
open Go.RowKit

theorem ba_inj {a b : List UInt8} : (ByteArray.mk a.toArray = ByteArray.mk b.toArray) ↔ a = b := by
  constructor
  · intro h
    have := congrArg (fun z => z.data.toList) h
    simpa using this
  · rintro rfl; rfl
theorem contains_ba (ws : List (List UInt8)) (x : List UInt8) : Lib.containsS (ws.map fun l => ByteArray.mk l.toArray) ⟨x.toArray⟩ = ws.contains x := by
  rw [Bool.eq_iff_iff, Lib.containsS_iff, List.contains_iff_mem]
  constructor
  · intro h
    obtain ⟨l, h1, h2⟩ := List.mem_map.1 h
    rw [← ba_inj.1 h2]; exact h1
  · intro h
    exact List.mem_map.2 ⟨x, h, rfl⟩
theorem contains_any (w : World) (ad : Option Addr) (n cap : Nat) (ws : List (List UInt8)) (hS : Strs w ad ws) (hn : n ≤ ws.length) (hl : ws.length ≤ 140737488351232) (x : List UInt8) :
    Calls Tryz.prog 43 #[.slice ad n cap, .string ⟨x.toArray⟩] w fun e w' => e = .returned (.bool ((ws.take n).contains x)) ∧ w = w' := by
  rcases Nat.eq_zero_or_pos n with h0 | hpos
  · subst h0
    refine (Tryz.slices_Contains_string_empty ad cap ⟨x.toArray⟩ w).mono ?_
    rintro e w' ⟨rfl, rfl⟩
    exact ⟨by simp, rfl⟩
  · obtain ⟨b, o, rfl, hc⟩ := hS (by intro e; rw [e] at hn; simp at hn; omega)
    refine (Tryz.slices_Contains_string b o n cap (ws.map fun l => ByteArray.mk l.toArray) ⟨x.toArray⟩ w (by simpa using hn) (by omega) (fun j hj => ?_)).mono ?_
    · have hj' : j < ws.length := by simpa using hj
      rw [hc j hj', List.getD_eq_getElem?_getD, List.getElem?_map, List.getElem?_eq_getElem hj']
      rfl
    · rintro e w' ⟨rfl, rfl⟩
      refine ⟨?_, rfl⟩
      rw [← List.map_take, contains_ba]

/-- May the word at i stand there? -/
def enAt (ws : List (List UInt8)) (i : Nat) : Bool := choiceB (ws.getD i []) && !(ws.take i).contains (ws.getD i [])
theorem enumB_true {ws : List (List UInt8)} (h : ∀ j, j < ws.length → enAt ws j = true) : enumB ws = true := List.all_eq_true.2 fun j hj => h j (List.mem_range.1 hj)
theorem enumB_false {ws : List (List UInt8)} {j : Nat} (hj : j < ws.length) (h : enAt ws j = false) : enumB ws = false := by
  cases e : enumB ws with
  | false => rfl
  | true =>
    have := List.all_eq_true.1 e j (List.mem_range.2 hj)
    unfold enAt at h
    rw [h] at this; cases this
def enumTy (ws : List (List UInt8)) : Option Ty := if ws ≠ [] ∧ enumB ws = true then some (.enum ws) else none

set_option maxRecDepth 100000 in
set_option maxHeartbeats 4000000 in
theorem readEnum_any (w : World) (ad : Option Addr) (cap : Nat) (ws : List (List UInt8)) (h : Wds w ad ws) (hcap : ws.length ≤ cap) : Calls Tryz.prog 62 #[.slice ad ws.length cap] w fun e w' => KPost w (enumTy ws) e w' := by
  by_cases h0 : ws = []
  · subst h0
    go_enter Tryz.func62, Tryz.ntmps62
    go_wp2_with fail
    go_ret
    exact ⟨Fr.refl _ _, .inl ⟨rfl, rfl⟩⟩
  obtain ⟨rb, ro, rfl, hc⟩ := h.at_ h0
  have HW := hid h
  have HC := hid hc
  have hfew : ws.length ≤ 100 := h.few
  have h0' : (((ws.length : Nat) : Int) == 0) = false := by simp; exact h0
  have HT : Hid (enumTy ws = if enumB ws = true then some (.enum ws) else none) := by unfold Hid enumTy; simp [h0]
  generalize enumTy ws = T at *
  clear h hc h0
  go_enter Tryz.func62, Tryz.ntmps62
  go_wp2_with fail
  go_loopw [3, 4, 10] (fun _ _ iv wr => ∃ i : Nat, i ≤ ws.length ∧ iv = .int .i64 (i : Int) ∧ (∀ j, j < i → enAt ws j = true) ∧ Fr (fun _ => False) w wr) (fun _ _ iv _ => ws.length - (intOf iv).toNat)
  case atStart => exact ⟨0, Nat.zero_le _, rfl, fun j hj => absurd hj (by omega), Fr.refl _ _⟩
  case round =>
    obtain ⟨i, hi, rfl, hA, hF⟩ := hrel
    have HA := hid hA
    have HF := hid hF
    clear hA hF
    by_cases hlt : i < ws.length
    · have hlt' : (i : Int) < ((ws.length : Nat) : Int) := by omega
      have hic : i ≤ cap := by omega
      have c0 := (Env.of HF.out).cell (HC.out i hlt)
      have hlen : ws[i].length ≤ 64 := HW.out.short _ (List.getElem_mem hlt)
      have eg : ws.getD i [] = ws[i] := by rw [List.getD_eq_getElem?_getD, List.getElem?_eq_getElem hlt]; rfl
      have HCh := hid (isChoice_any wr ws[i] (by omega))
      have HCo : Hid (∀ W, Fr (fun _ => False) w W → Calls Tryz.prog 43 #[.slice (some ⟨rb, ro, none⟩) i cap, .string ⟨ws[i].toArray⟩] W fun e w' => e = .returned (.bool ((ws.take i).contains ws[i])) ∧ W = w') := fun W f => contains_any W _ i cap ws (HW.out.at_.env (Env.of f)) (by omega) (by omega) ws[i]
      have HE : Hid (enAt ws i = (choiceB ws[i] && !(ws.take i).contains ws[i])) := by unfold Hid enAt; rw [eg]
      have HN0 : Hid (enAt ws i = false → enumB ws = false) := fun h => enumB_false hlt h
      have HN1 : Hid (enAt ws i = true → ∀ j, j < i + 1 → enAt ws j = true) := fun h j hj => by
        by_cases e : j = i
        · subst e; exact h
        · exact HA.out j (by omega)
      generalize enAt ws i = en at HE HN0 HN1
      generalize choiceB ws[i] = ch at *
      generalize (ws.take i).contains ws[i] = co at *
      generalize ws[i] = word at *
      clear HA eg
      go_wp2_with fail
      refine HCh.out.mono ?_
      rintro e w2 ⟨rfl, f2⟩
      have HF2 := hid (HF.out.trans f2 (fun _ h => h.elim))
      clear f2 c0
      cases ch with
      | false =>
        have HE2 := hid (HN0.out (by rw [HE.out]; rfl))
        go_wp2_with fail
        go_ret
        exact ⟨HF2.out, .inl ⟨by rw [HT.out, HE2.out]; rfl, rfl⟩⟩
      | true =>
        go_wp2_with fail
        refine (HCo.out _ HF2.out).mono ?_
        rintro e w3 ⟨rfl, rfl⟩
        cases co with
        | true =>
          have HE2 := hid (HN0.out (by rw [HE.out]; rfl))
          go_wp2_with fail
          go_ret
          exact ⟨HF2.out, .inl ⟨by rw [HT.out, HE2.out]; rfl, rfl⟩⟩
        | false =>
          have HE2 := hid (HN1.out (by rw [HE.out]; rfl))
          go_wp2_with fail
          exact ⟨⟨i + 1, by omega, by first | rfl | (congr 1), HE2.out, HF2.out⟩, by simp [intOf]; omega⟩
    · have hlt' : ¬ (i : Int) < ((ws.length : Nat) : Int) := by omega
      have HE : Hid (enumB ws = true) := enumB_true fun j hj => HA.out j (by omega)
      have HFk : Hid (Fr (fun _ => False) w (kBox wr sEnum 0 0 (some ⟨rb, ro, none⟩) ws.length cap none)) := HF.out.alloc _
      have HBk := hid (kBlk wr sEnum 0 0 (some ⟨rb, ro, none⟩) ws.length cap none)
      go_wp2_with fail
      go_ret
      exact ⟨HFk.out, .inr ⟨.enum ws, wr.heap.size, by rw [HT.out, HE.out]; rfl, rfl, HBk.out.cell 0, _, cap, HBk.out.cell 3, by omega, HW.out.at_.env (Env.of HFk.out)⟩⟩
end Go.Proofs.YtniailfcmlongaaGreatDoor.Tr
