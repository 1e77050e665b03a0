/- The contract of shown. -/
import Derived.Test.YtcpeebkfnnkjnaaDoorUor
namespace Go.Proofs.YtcpeebkfnnkjnaaDoor.Tr
open Go.RowKit Go.Maps

def L1 : List Ut := [⟨[99], [], [], [[97]]⟩, ⟨[98], [], [], []⟩, ⟨[97], [], [[98]], []⟩]
def L2 : List Ut := [⟨[97], [], [], [[97]]⟩]
theorem ord1 : ordF L1 = ([⟨[98], [], [], []⟩, ⟨[97], [], [[98]], []⟩, ⟨[99], [], [], [[97]]⟩], [], 0) := by decide +kernel
theorem ord2 : ordF L2 = ([], [97], 29) := by decide +kernel

theorem us_of_blk {W : World} {b : Nat} {U : List Ut} {X : List Uv} (hB : Blk W b 32 (flatU X)) (hR : RowIs W U X) : Us W W U (some ⟨b, 0, none⟩) := fun _ => ⟨b, 0, rfl, fun i hi => by
  have hi' : i < X.length := by rw [hR.1]; exact hi
  refine ⟨X[i], fun j v hv => ?_, hR.2 i hi hi'⟩
  have hj : j < 4 := (List.getElem?_eq_some_iff.1 hv).1
  rw [show 0 + i * 4 + j = i * 4 + j by omega, hB.cell, flatU_at X i j hi' hj]
  exact hv⟩
theorem strs_one {W : World} {b : Nat} {x : Nm} (hB : Blk W b 9 [.string ⟨x.toArray⟩]) : Strs W (some ⟨b, 0, none⟩) [x] := fun _ => ⟨b, 0, rfl, fun i hi => by
  obtain rfl : i = 0 := by simpa using hi
  exact hB.cell 0⟩
theorem strs_none (W : World) (ad : Option Addr) : Strs W ad [] := fun h => absurd rfl h
theorem ok_small {u : Ut} (h : u.n.length ≤ 100 ∧ u.s.length ≤ 100 ∧ u.r.length ≤ 100 ∧ u.a.length ≤ 100 ∧ (∀ x ∈ u.r, x.length ≤ 100) ∧ (∀ x ∈ u.a, x.length ≤ 100)) : u.ok :=
  ⟨by unfold lim; omega, by unfold lim; omega, by unfold lim; omega, by unfold lim; omega, fun x hx => by have := h.2.2.2.2.1 x hx; unfold lim; omega, fun x hx => by have := h.2.2.2.2.2 x hx; unfold lim; omega⟩
theorem okL1 : ∀ u ∈ L1, u.ok := fun u hu => ok_small (by revert u; decide)
theorem okL2 : ∀ u ∈ L2, u.ok := fun u hu => ok_small (by revert u; decide)
theorem us1 {W : World} {b : Nat} (h0 : Blk W b 9 [.string ⟨#[97]⟩]) (h1 : Blk W (b + 1) 9 [.string ⟨#[98]⟩]) (h2 : Blk W (b + 1 + 1) 32 [.string ⟨#[99]⟩, .string ⟨#[]⟩, .slice none 0 0, .slice (some ⟨b, 0, none⟩) 1 1, .string ⟨#[98]⟩, .string ⟨#[]⟩, .slice none 0 0, .slice none 0 0, .string ⟨#[97]⟩, .string ⟨#[]⟩, .slice (some ⟨b + 1, 0, none⟩) 1 1, .slice none 0 0]) : Us W W L1 (some ⟨b + 1 + 1, 0, none⟩) := by
  refine us_of_blk (X := [⟨[99], [], none, 0, 0, some ⟨b, 0, none⟩, 1, 1⟩, ⟨[98], [], none, 0, 0, none, 0, 0⟩, ⟨[97], [], some ⟨b + 1, 0, none⟩, 1, 1, none, 0, 0⟩]) h2 ⟨rfl, fun i h h' => ?_⟩
  match i, h with
  | 0, _ => exact ⟨rfl, rfl, rfl, rfl, strs_none _ _, strs_one h0, okL1 _ (List.getElem_mem _)⟩
  | 1, _ => exact ⟨rfl, rfl, rfl, rfl, strs_none _ _, strs_none _ _, okL1 _ (List.getElem_mem _)⟩
  | 2, _ => exact ⟨rfl, rfl, rfl, rfl, strs_one h1, strs_none _ _, okL1 _ (List.getElem_mem _)⟩
theorem us2 {W : World} {b : Nat} (h0 : Blk W b 9 [.string ⟨#[97]⟩]) (h2 : Blk W (b + 1) 32 [.string ⟨#[97]⟩, .string ⟨#[]⟩, .slice none 0 0, .slice (some ⟨b, 0, none⟩) 1 1]) : Us W W L2 (some ⟨b + 1, 0, none⟩) := by
  refine us_of_blk (X := [⟨[97], [], none, 0, 0, some ⟨b, 0, none⟩, 1, 1⟩]) h2 ⟨rfl, fun i h h' => ?_⟩
  match i, h with
  | 0, _ => exact ⟨rfl, rfl, rfl, rfl, strs_none _ _, strs_one h0, okL2 _ (List.getElem_mem _)⟩
theorem tab_fr {w W : World} (h : TabAt 1 Lib.deBruijn32tab w) (f : Fr (fun _ => False) w W) : TabAt 1 Lib.deBruijn32tab W := fun j hj => (Env.of f).cell (h j hj)
theorem few1 : ∀ u ∈ L1, u.r.length ≤ 1000000 ∧ u.a.length ≤ 1000000 := by decide
theorem few2 : ∀ u ∈ L2, u.r.length ≤ 1000000 ∧ u.a.length ≤ 1000000 := by decide

set_option maxRecDepth 100000 in
set_option maxHeartbeats 4000000 in
theorem shown_any (w : World) (hT : TabAt 1 Lib.deBruijn32tab w) :
    Calls Tryd.prog 8 #[] w fun e w' => e = .returned (.bool true) ∧ Fr (fun _ => False) w w' := by
  have HT := hid hT
  clear hT
  have HW1 : Hid (∃ W1 : World, ((w.alloc (.cells #[.string ⟨#[97]⟩] 9)).alloc (.cells #[.string ⟨#[98]⟩] 9)).alloc (.cells #[.string ⟨#[99]⟩, .string ⟨#[]⟩, .slice none 0 0, .slice (some ⟨w.heap.size, 0, none⟩) 1 1, .string ⟨#[98]⟩, .string ⟨#[]⟩, .slice none 0 0, .slice none 0 0, .string ⟨#[97]⟩, .string ⟨#[]⟩, .slice (some ⟨w.heap.size + 1, 0, none⟩) 1 1, .slice none 0 0] 32) = W1 ∧ Fr (fun _ => False) w W1 ∧ Us W1 W1 L1 (some ⟨w.heap.size + 1 + 1, 0, none⟩)) := by
    refine ⟨_, rfl, (((Fr.refl _ w).alloc _).alloc _).alloc _, us1 ?_ ?_ ?_⟩
    · exact ((Blk.new w 9 [.string ⟨#[97]⟩]).alloc _).alloc _
    · have := (Blk.new (w.alloc (.cells #[.string ⟨#[97]⟩] 9)) 9 [.string ⟨#[98]⟩]).alloc (.cells #[.string ⟨#[99]⟩, .string ⟨#[]⟩, .slice none 0 0, .slice (some ⟨w.heap.size, 0, none⟩) 1 1, .string ⟨#[98]⟩, .string ⟨#[]⟩, .slice none 0 0, .slice none 0 0, .string ⟨#[97]⟩, .string ⟨#[]⟩, .slice (some ⟨w.heap.size + 1, 0, none⟩) 1 1, .slice none 0 0] 32)
      rw [World.size_alloc] at this
      exact this
    · have := Blk.new ((w.alloc (.cells #[.string ⟨#[97]⟩] 9)).alloc (.cells #[.string ⟨#[98]⟩] 9)) 32 [.string ⟨#[99]⟩, .string ⟨#[]⟩, .slice none 0 0, .slice (some ⟨w.heap.size, 0, none⟩) 1 1, .string ⟨#[98]⟩, .string ⟨#[]⟩, .slice none 0 0, .slice none 0 0, .string ⟨#[97]⟩, .string ⟨#[]⟩, .slice (some ⟨w.heap.size + 1, 0, none⟩) 1 1, .slice none 0 0]
      rw [World.size_alloc, World.size_alloc] at this
      exact this
  obtain ⟨W1, hW1, hF1, hU1⟩ := HW1.out
  have HC1 := hid (order_any W1 W1 (Env.refl _) L1 (some ⟨w.heap.size + 1 + 1, 0, none⟩) 3 hU1 (by decide) few1 (tab_fr HT.out hF1))
  rw [ord1] at HC1
  have HF1 := hid hF1
  clear hF1 hU1 HW1
  go_enter Tryd.func8, Tryd.ntmps8
  go_wp2_with fail
  refine HC1.out.mono ?_
  rintro e w2 ⟨f2, v, X, rfl, hO⟩
  have HF2 := hid (HF1.out.trans f2 (fun _ h => h.elim))
  have hXl : X.length = 3 := hO.row.1
  obtain ⟨g, vc, hv, _, hcell⟩ := own_cell hO.own (fun e => by have := flatU_len X; rw [e, hXl] at this; simp at this)
  rw [hXl] at hv
  subst hv
  have c0 : w2.cell? ⟨g, 0, none⟩ = some (.string ⟨#[98]⟩) := by
    have h1 := hcell (0 * 4 + 0) (.string ⟨(X[0]'(by omega)).n.toArray⟩) (by rw [flatU_at X 0 0 (by omega) (by omega)]; rfl)
    have h2 := (hO.row.2 0 (by simp) (by omega)).n
    rw [h2] at h1
    exact h1
  have c8 : w2.cell? ⟨g, 8, none⟩ = some (.string ⟨#[99]⟩) := by
    have h1 := hcell (2 * 4 + 0) (.string ⟨(X[2]'(by omega)).n.toArray⟩) (by rw [flatU_at X 2 0 (by omega) (by omega)]; rfl)
    have h2 := (hO.row.2 2 (by simp) (by omega)).n
    rw [h2] at h1
    exact h1
  have HW3 : Hid (∃ W3 : World, (w2.alloc (.cells #[.string ⟨#[97]⟩] 9)).alloc (.cells #[.string ⟨#[97]⟩, .string ⟨#[]⟩, .slice none 0 0, .slice (some ⟨w2.heap.size, 0, none⟩) 1 1] 32) = W3 ∧ Fr (fun _ => False) w2 W3 ∧ Us W3 W3 L2 (some ⟨w2.heap.size + 1, 0, none⟩)) := by
    refine ⟨_, rfl, ((Fr.refl _ w2).alloc _).alloc _, us2 ?_ ?_⟩
    · exact (Blk.new w2 9 [.string ⟨#[97]⟩]).alloc _
    · have := Blk.new (w2.alloc (.cells #[.string ⟨#[97]⟩] 9)) 32 [.string ⟨#[97]⟩, .string ⟨#[]⟩, .slice none 0 0, .slice (some ⟨w2.heap.size, 0, none⟩) 1 1]
      rw [World.size_alloc] at this
      exact this
  obtain ⟨W3, hW3, hF3, hU3⟩ := HW3.out
  have HF3 := hid (HF2.out.trans hF3 (fun _ h => h.elim))
  have HC3 := hid (order_any W3 W3 (Env.refl _) L2 (some ⟨w2.heap.size + 1, 0, none⟩) 1 hU3 (by decide) few2 (tab_fr HT.out HF3.out))
  rw [ord2] at HC3
  have HK0 := hid ((Env.of hF3).cell c0)
  have HK8 := hid ((Env.of hF3).cell c8)
  clear hF3 hU3 HW3 HF2 c0 c8 hcell hO f2 HC1 hW1 HF1 hXl X
  go_wp2_with fail
  clear hW3
  refine HC3.out.mono ?_
  rintro e w4 ⟨f4, v, X, rfl, hO⟩
  have HF4 := hid (HF3.out.trans f4 (fun _ h => h.elim))
  have c0 := (Env.of f4).cell HK0.out
  have c8 := (Env.of f4).cell HK8.out
  have e1 : (([98] : Nm) == [98]) = true := by decide
  have e2 : (([99] : Nm) == [99]) = true := by decide
  have e3 : (([97] : Nm) == [97]) = true := by decide
  clear f4 HK0 HK8 HC3 HF3 hO
  go_wp2_with fail
  go_ret
  exact ⟨rfl, HF4.out⟩
end Go.Proofs.YtcpeebkfnnkjnaaDoor.Tr
