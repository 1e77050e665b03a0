/- Entries in a slice; the contracts of fits, Right and the document's Right. -/
import Derived.Test.YtangnoicnogddaaEnt
import Derived.Test.YtangnoicnogddaaHpx
namespace Go.Proofs.Ytangnoicnogddaa.Tr
open Go.RowKit

/-- Entries, one behind the other, from a place on. -/
def EntsAt (w : World) (bb bo : Nat) (L : List Ent) : Prop := ∀ i (h : i < L.length), ∃ ad cap, w.cell? ⟨bb, bo + i * 3, none⟩ = some (.string ⟨L[i].path.toArray⟩) ∧ w.cell? ⟨bb, bo + i * 3 + 1, none⟩ = some (.int .i64 L[i].kind) ∧ w.cell? ⟨bb, bo + i * 3 + 2, none⟩ = some (.slice ad L[i].data.length cap) ∧ EntV w L[i] ad cap
def Ents (w : World) (ad : Option Addr) (L : List Ent) : Prop := L ≠ [] → ∃ bb bo, ad = some ⟨bb, bo, none⟩ ∧ EntsAt w bb bo L
theorem cell_fr {w w' : World} (f : Fr (fun _ => False) w w') {a : Addr} {v : Value} (h : w.cell? a = some v) : w'.cell? a = some v := by
  have hlt := World.block_lt_of_cell? w a h
  rw [World.cell?_of_block (w := w) (f.block a.block hlt (fun h => h))]
  exact h
theorem EntsAt.fr {w w' : World} {bb bo : Nat} {L : List Ent} (h : EntsAt w bb bo L) (f : Fr (fun _ => False) w w') : EntsAt w' bb bo L := fun i hi => by
  obtain ⟨ad, cap, h1, h2, h3, h4⟩ := h i hi
  exact ⟨ad, cap, cell_fr f h1, cell_fr f h2, cell_fr f h3, h4.fr f⟩
theorem Ents.fr {w w' : World} {ad : Option Addr} {L : List Ent} (h : Ents w ad L) (f : Fr (fun _ => False) w w') : Ents w' ad L := fun hne => by
  obtain ⟨bb, bo, e, hr⟩ := h hne
  exact ⟨bb, bo, e, hr.fr f⟩
theorem Ents.nil (w : World) (ad : Option Addr) : Ents w ad [] := fun h => absurd rfl h
theorem Ents.take {w : World} {ad : Option Addr} {L : List Ent} (h : Ents w ad L) (k : Nat) : Ents w ad (L.take k) := fun hne => by
  obtain ⟨bb, bo, e, hr⟩ := h (fun e => hne (by simp [e]))
  refine ⟨bb, bo, e, fun i hi => ?_⟩
  have hi' : i < L.length := by simp at hi; omega
  have := hr i hi'
  simpa [List.getElem_take] using this
/-- The i-th of them. -/
theorem Ents.at {w : World} {ad : Option Addr} {L : List Ent} (h : Ents w ad L) (i : Nat) (hi : i < L.length) : ∃ bb bo da dc, ad = some ⟨bb, bo, none⟩ ∧ w.cell? ⟨bb, bo + i * 3, none⟩ = some (.string ⟨L[i].path.toArray⟩) ∧ w.cell? ⟨bb, bo + i * 3 + 1, none⟩ = some (.int .i64 L[i].kind) ∧ w.cell? ⟨bb, bo + i * 3 + 2, none⟩ = some (.slice da L[i].data.length dc) ∧ EntV w L[i] da dc := by
  obtain ⟨bb, bo, e, hr⟩ := h (fun e => by simp [e] at hi)
  obtain ⟨da, dc, h1, h2, h3, h4⟩ := hr i hi
  exact ⟨bb, bo, da, dc, e, h1, h2, h3, h4⟩

theorem hasPrefix_slash (p a : List UInt8) : Lib.hasPrefix p (a ++ [47]) = (decide (a.length < p.length) && (p.take (a.length + 1) == a ++ [47])) := by
  rw [Bool.eq_iff_iff]
  simp only [Lib.hasPrefix, List.isPrefixOf_iff_prefix, Bool.and_eq_true, decide_eq_true_eq, beq_iff_eq]
  constructor
  · rintro ⟨t, rfl⟩
    constructor
    · simp
    · have : a.length + 1 = (a ++ [47]).length := by simp
      rw [this, List.take_left]
  · rintro ⟨h1, h2⟩
    exact ⟨p.drop (a.length + 1), by rw [← h2, List.take_append_drop]⟩
theorem clash_eq (a p : List UInt8) : clash a p = (!(Op.bytesLess a p) || Lib.hasPrefix p (a ++ [47])) := by
  rw [hasPrefix_slash]; rfl
theorem all_clash_bad (L : List Ent) (p : List UInt8) (i : Nat) (h : i < L.length) (e : clash L[i].path p = true) : L.all (fun y => !clash y.path p) = false :=
  all_false_of _ L i h (by rw [e]; rfl)
theorem all_clash_ok (L : List Ent) (p : List UInt8) (i : Nat) (h : i < L.length) (ha : (L.take i).all (fun y => !clash y.path p) = true) (e : clash L[i].path p = false) : (L.take (i + 1)).all (fun y => !clash y.path p) = true := by
  rw [all_take_succ _ L i h, ha, e]; rfl

set_option maxRecDepth 100000 in
set_option maxHeartbeats 1000000 in
theorem fits_any (w : World) (ad : Option Addr) (L : List Ent) (cap : Nat) (p : List UInt8) (hL : Ents w ad L) (hn : L.length ≤ 140737488351232) :
    Calls Try.prog 64 #[.slice ad L.length cap, .string ⟨p.toArray⟩] w fun e w' => e = .returned (.bool (L.all (fun y => !clash y.path p))) ∧ Fr (fun _ => False) w w' := by
  have HL := hid hL
  clear hL
  go_enter Try.func64, Try.ntmps64
  go_wp2_with fail
  go_loopw [9] (fun iv wr => ∃ i : Nat, i ≤ L.length ∧ iv = .int .i64 (i : Int) ∧ (L.take i).all (fun y => !clash y.path p) = true ∧ Fr (fun _ => False) w wr) (fun iv _ => L.length - (intOf iv).toNat)
  case atStart => exact ⟨0, Nat.zero_le _, rfl, rfl, Fr.refl _ _⟩
  case round =>
    obtain ⟨i, hi, rfl, ha, hF⟩ := hrel
    have HF := hid hF
    by_cases hlt : i < L.length
    · have hi1 : (i : Int) < ((L.length : Nat) : Int) := by omega
      have hi0 : (0 : Int) ≤ (i : Int) := Int.natCast_nonneg _
      obtain ⟨bb, bo, da, dc, rfl, c0, c1, c2, hv⟩ := (HL.out.fr HF.out).at i hlt
      have hpl := hv.path
      have hp1 : ¬ (9223372036854775807 : Int) < ((L[i].path.length : Nat) : Int) + 1 := by omega
      have hp2 : ¬ 9223372036854775807 < L[i].path.length + 1 := by omega
      have HC := hid (clash_eq L[i].path p)
      have HBad := hid (all_clash_bad L p i hlt)
      have HOk := hid (all_clash_ok L p i hlt ha)
      have HF2 : Hid (∀ o, Fr (fun _ => False) w (wr.alloc o)) := fun o => HF.out.alloc o
      generalize L[i] = x at *
      clear HL hv ha hF
      cases hb : Op.bytesLess x.path p with
      | false =>
        have HB := hid (HBad.out (by rw [HC.out, hb]; rfl))
        clear HBad HOk HC
        go_wp2
        go_ret
        exact ⟨by rw [HB.out]; rfl, HF2.out _⟩
      | true =>
        cases hq : Lib.hasPrefix p (x.path ++ [47]) with
        | true =>
          have HB := hid (HBad.out (by rw [HC.out, hq]; simp))
          clear HBad HOk HC
          go_wp2_with (go_at_call 81; rw [str_cat x.path [47]]; refine (hpx_any _ _ _).mono ?_; rintro e w1 ⟨rfl, rfl⟩; simp only [hq])
          go_ret
          exact ⟨by rw [HB.out]; rfl, HF2.out _⟩
        | false =>
          have HB := hid (HOk.out (by rw [HC.out, hb, hq]; rfl))
          clear HBad HOk HC
          go_wp2_with (go_at_call 81; rw [str_cat x.path [47]]; refine (hpx_any _ _ _).mono ?_; rintro e w1 ⟨rfl, rfl⟩; simp only [hq])
          exact ⟨⟨i + 1, by omega, by go_num, HB.out, HF2.out _⟩, by simp [intOf]; omega⟩
    · obtain rfl : i = L.length := by omega
      have hkn : ¬ ((L.length : Nat) : Int) < ((L.length : Nat) : Int) := by omega
      rw [List.take_length] at ha
      have HA := hid ha
      clear ha
      go_wp2
      go_ret
      exact ⟨by rw [HA.out]; rfl, HF.out⟩

end Go.Proofs.Ytangnoicnogddaa.Tr
