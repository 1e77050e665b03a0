/- The contract of setDigits; appending one byte. -/
import Derived.Test.YtlepjghfcpgbcaaGreatDoorApp
import Derived.Lib.ItoaMem
namespace Go.Proofs.YtlepjghfcpgbcaaGreatDoor.Tr
open Go.RowKit

abbrev encB : UInt8 → Value := fun b => Value.int .u8 (b.toNat : Int)
theorem putCells_zero (d : Array UInt8) (xs : List Value) (h : d.size ≤ xs.length) : Sort.putCells encB 0 d xs.toArray = (bs d.toList ++ xs.drop d.size).toArray := by
  apply Array.ext_getElem?
  intro k
  simp only [Sort.putCells, Array.getElem?_mapIdx, List.getElem?_toArray]
  by_cases hk : k < d.size
  · rw [List.getElem?_append_left (by rw [bs_length]; simpa using hk), bs, List.getElem?_map]
    simp [hk, bv, List.getElem?_eq_getElem (show k < xs.length by omega)]
  · rw [List.getElem?_append_right (by rw [bs_length]; simpa using hk), bs_length, List.getElem?_drop]
    have e : d.size + (k - d.toList.length) = k := by simp; omega
    rw [e]
    cases xs[k]? with
    | none => rfl
    | some y => simp [hk]
theorem Blk.putRow {w : World} {b : Nat} {t : TypeId} {xs : List Value} (h : Blk w b t xs) (d : Array UInt8) (hl : d.size ≤ xs.length) : Blk (Sort.putRow encB w b 0 d) b t (bs d.toList ++ xs.drop d.size) := by
  have h' : w.heap[b]? = some (.cells xs.toArray t (0, 0)) := h
  unfold Blk Sort.putRow Sort.mapBlock
  simp [Array.getElem?_modify, h', Sort.onCells, putCells_zero d xs hl]
theorem Fr.putRow (w : World) (b : Nat) (d : Array UInt8) : Fr (· = b) w (Sort.putRow encB w b 0 d) := by
  refine ⟨rfl, rfl, rfl, by simp [Sort.putRow, Sort.mapBlock], fun k _ hk => ?_⟩
  simp only [Sort.putRow, Sort.mapBlock, Array.getElem?_modify]
  rw [if_neg (fun e => hk e.symm)]

/-- How many bytes are left, when noughts at the end are struck. -/
def trimN (D : List UInt8) : Nat → Nat
  | 0 => 0
  | k + 1 => if (D.getD k 0).toNat = 48 then trimN D k else k + 1
theorem trimN_le (D : List UInt8) : ∀ k, trimN D k ≤ k
  | 0 => Nat.le_refl _
  | k + 1 => by
    have := trimN_le D k
    unfold trimN
    split <;> omega

set_option maxRecDepth 100000 in
set_option maxHeartbeats 2000000 in
theorem setDigits_any (w : World) (b : Nat) (t : TypeId) (L : List UInt8) (hb : Blk w b t (bs L)) (hL : L.length = 32) (d : Nat) (hd : d < 18446744073709551616) (nd : Nat) (hn1 : 1 ≤ nd) (hn2 : nd ≤ 20) (hnd : d < 10 ^ nd) (hdig : nd = Lib.nDigits d) (p : Int) (hp0 : -3000 ≤ p) (hp1 : p ≤ 3000) :
    Calls Tryz.prog 141 #[.slice (some ⟨b, 0, none⟩) 32 32, .int .u64 (d : Int), .int .i64 p, .int .i64 (nd : Int)] w fun e w' => e = .returned (.tuple #[.int .i64 ((nd : Int) + p), .int .i64 ((trimN (Lib.decDigits d) nd : Nat) : Int)]) ∧ Blk w' b t (bs (Lib.decDigits d ++ L.drop nd)) ∧ Fr (· = b) w w' := by
  have hH : Sort.Holds encB w b 0 (L.take nd).toArray := fun j hj => by
    have hj' : j < nd := by simp at hj; omega
    refine ⟨?_, hb.frozen _⟩
    rw [Nat.zero_add, hb.cell, bs, List.getElem?_map, List.getElem?_eq_getElem (by omega), getElem!_pos _ j hj]
    simp [bv]
  have hsz : (L.take nd).toArray.size = nd := by simp; omega
  have HFB := hid (Tryz.internal_strconv_formatBase10 b 0 32 d (L.take nd).toArray w hH (by rw [hsz]; exact hnd) hd (by rw [hsz]; omega))
  rw [hsz] at HFB
  have hlen : (Lib.decDigits d).length = nd := by rw [Lib.decDigits_length, hdig]
  have HD : Hid (∀ v' dk, Lib.FmtInv nd d 0 v' dk → dk.toList = Lib.decDigits d) := by
    intro v' dk hi
    have hs := hi.size
    apply List.ext_getElem
    · rw [hlen]; simpa using hs
    · intro j h1 h2
      rw [hdig] at hi
      rw [Lib.row_is_numeral hi j h2, getElem!_pos dk j (by simpa using h1)]
      simp
  have HB := hid hb
  have HLn := hid hL
  have HDl := hid hlen
  clear hb hH hsz hdig hnd hd hL hlen
  have hle : ¬ (32 : Int) < (nd : Int) := by omega
  have h32 : (nd : Int) ≤ 32 := by omega
  generalize Lib.decDigits d = D at *
  go_enter Tryz.func141, Tryz.ntmps141
  go_wp2_with fail
  refine HFB.out.mono ?_
  rintro e w2 ⟨rfl, q, v', dk, hw, hi⟩
  have hdk := HD.out v' dk hi
  have hds : dk.size = nd := hi.size
  have hB2 : Blk w2 b t (bs (D ++ L.drop nd)) := by
    have h := HB.out.putRow dk (by rw [hds, bs_length, HLn.out]; omega)
    rw [hdk, hds] at h
    have e : bs (D ++ L.drop nd) = bs D ++ (bs L).drop nd := by simp [bs]
    rw [e, hw]
    exact h
  have hF2 : Fr (· = b) w w2 := by rw [hw]; exact (Fr.putRow w b dk).drewN q
  have HP := hid (And.intro hB2 hF2)
  have hcell : ∀ j : Nat, j < nd → w2.cell? ⟨b, j, none⟩ = some (.int .u8 (((D.getD j 0).toNat : Nat) : Int)) := fun j hj => by
    rw [hB2.cell, bs, List.getElem?_map, List.getElem?_append_left (by rw [HDl.out]; exact hj), List.getElem?_eq_getElem (by rw [HDl.out]; exact hj), List.getD_eq_getElem?_getD, List.getElem?_eq_getElem (by rw [HDl.out]; exact hj)]
    rfl
  have HC := hid hcell
  clear hw hi hdk hds hB2 hF2 HFB HD HB hcell
  go_wp2_with fail
  go_loopw [3] (fun kv wr => ∃ k : Nat, k ≤ nd ∧ kv = .int .i64 (k : Int) ∧ trimN D k = trimN D nd ∧ wr = w2) (fun kv _ => (intOf kv).toNat)
  case atStart => exact ⟨nd, Nat.le_refl _, rfl, rfl, rfl⟩
  case round =>
    obtain ⟨k, hk, rfl, hT, rfl⟩ := hrel
    have HT := hid hT
    clear hT
    cases k with
    | zero =>
      have HT0 : Hid (trimN D nd = 0) := HT.out.symm
      clear HT
      go_wp2_with fail
      go_ret2
      exact ⟨by rw [HT0.out]; rfl, HP.out⟩
    | succ k =>
      have hc := HC.out k (by omega)
      have hk1 : (((k + 1 : Nat) : Int) - 1) = (k : Int) := by omega
      have hpos : (0 : Int) < ((k + 1 : Nat) : Int) := by omega
      by_cases h48 : (D.getD k 0).toNat = 48
      · have HT2 : Hid (trimN D k = trimN D nd) := by
          unfold Hid; rw [← HT.out]
          show _ = if (D.getD k 0).toNat = 48 then trimN D k else k + 1
          rw [if_pos h48]
        rw [h48] at hc
        clear HT
        go_wp2_with fail
        exact ⟨⟨k, by omega, by congr 1, HT2.out, by first | rfl | trivial⟩, by simp [intOf]⟩
      · have HT2 : Hid (trimN D nd = k + 1) := by
          unfold Hid; rw [← HT.out]
          show (if (D.getD k 0).toNat = 48 then trimN D k else k + 1) = _
          rw [if_neg h48]
        have h48' : (((D.getD k 0).toNat : Int) == 48) = false := by rw [beq_eq_false_iff_ne]; omega
        generalize (D.getD k 0).toNat = c at *
        clear HT
        go_wp2_with fail
        go_ret2
        exact ⟨by rw [HT2.out]; rfl, HP.out⟩
end Go.Proofs.YtlepjghfcpgbcaaGreatDoor.Tr
