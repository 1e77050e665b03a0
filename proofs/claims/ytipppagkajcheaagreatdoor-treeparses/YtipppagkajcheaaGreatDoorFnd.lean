/- The contracts of Clone, Find and SameTexts. -/
import Derived.Test.YtipppagkajcheaaGreatDoorCop
namespace Go.Proofs.YtipppagkajcheaaGreatDoor.Tr
open Go.RowKit

theorem clone_any (w : World) (ad : Option Addr) (b : List UInt8) (cap : Nat) (hs : Src w ad b) (hl : b.length ≤ 140737488355328) :
    Calls Tryz.prog 43 #[.slice ad b.length cap] w fun e w' => ∃ v, e = .returned v ∧ w'.ownsRow w.heap.size 5 1 v b.length (bs b) ∧ Fr (fun _ => False) w w' := by
  have eb : (ints b).map (Value.int .u8) = bs b := by simp [ints, bs, bv]
  cases ad with
  | none =>
    by_cases hb : b = []
    · subst hb
      refine (Tryz.bytes_Clone_nil 0 cap w).mono (fun e w' h => ?_)
      obtain ⟨rfl, rfl⟩ := h
      exact ⟨_, rfl, World.ownsRow_nil _ _ _ _, Fr.refl _ _⟩
    · obtain ⟨_, _, e, _⟩ := hs hb
      cases e
  | some a =>
    refine (Tryz.bytes_Clone_at a b.length cap (ints b) w (ints_len b) hl (fun i hi => ?_)).mono (fun e w' h => ?_)
    · obtain ⟨bb, bo, e, hc⟩ := hs.at i hi
      cases e
      rw [Addr.add_mid, ints_at b i hi]
      exact hc
    · obtain ⟨v', h1, h2, _, h4⟩ := h
      rw [eb] at h2
      exact ⟨v', h1, h2, fr_below h4⟩

/-- The first entry with a path. -/
def findB (L : List Ent) (p : List UInt8) : Option Ent := L.find? (fun x => x.path == p)
theorem find_hit (L : List Ent) (p : List UInt8) (i : Nat) (h : i < L.length) (hn : ∀ j (hj : j < i), L[j].path ≠ p) (e : L[i].path = p) : findB L p = some L[i] := by
  unfold findB
  rw [List.find?_eq_some_iff_getElem]
  exact ⟨by simpa using e, i, h, rfl, fun j hj => by simpa using hn j hj⟩
theorem find_miss (L : List Ent) (p : List UInt8) (hn : ∀ j (hj : j < L.length), L[j].path ≠ p) : findB L p = none := by
  unfold findB
  rw [List.find?_eq_none]
  intro x hx
  obtain ⟨j, hj, rfl⟩ := List.getElem_of_mem hx
  simpa using hn j hj
def FindPost (w : World) (L : List Ent) (p : List UInt8) (e : Ending) (w' : World) : Prop :=
  ∃ (da : Option Addr) (dc : Nat), Fr (fun _ => False) w w' ∧ match findB L p with
    | some x => e = .returned (.tuple #[entV x da dc, .bool true]) ∧ w'.ownsRow w.heap.size 5 1 (.slice da x.data.length dc) x.data.length (bs x.data)
    | none => e = .returned (.tuple #[.agg #[.string ⟨#[]⟩, .int .i64 0, .slice none 0 0], .bool false])

theorem resultsE {fn : Func} {t1 t2 : Tmp} (h : fn.results = #[.cell t1 36, .tmp t2]) {tmps : Array Value} {W : World} {b1 : Nat} {a0 a1 a2 v2 : Value} {x1 : TypeId} (ha : tmps.getD t1 undef = .pointer (some ⟨b1, 0, none⟩)) (ha2 : tmps.getD t2 undef = v2) (hb : Blk W b1 x1 [a0, a1, a2]) :
    (results fn tmps).run Tryz.prog W = .ok (.tuple #[.agg #[a0, a1, a2], v2]) W := by
  have ha' : tmps[t1]?.getD undef = .pointer (some ⟨b1, 0, none⟩) := by simpa using ha
  have ha2' : tmps[t2]?.getD undef = v2 := by simpa using ha2
  have hc := hb.cell 0
  have hc1 := hb.cell 1
  have hc2 := hb.cell 2
  simp only [List.getElem?_cons_zero, List.getElem?_cons_succ] at hc hc1 hc2
  have hu := Tryz.underlying36
  simp [results, h, ha', ha2', asAddr, loadVar, isAgg, run_underlying hu, go_sem, hc, hc1, hc2, loadCells, loadCellsFrom, Addr.add]

end Go.Proofs.YtipppagkajcheaaGreatDoor.Tr
