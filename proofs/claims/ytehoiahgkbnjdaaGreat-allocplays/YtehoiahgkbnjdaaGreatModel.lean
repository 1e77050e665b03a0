
/- Plain laws of the abstract disk: what is read is what lasts with all loose writes laid over it. -/
import Derived.Test.YtehoiahgkbnjdaaGreatShown
namespace Go.Proofs.YtehoiahgkbnjdaaGreat.Dk
open Go.RowKit

theorem ones_bit (m : Nat) : ones.testBit (m % 64) = true := by
  have e : ones = 2 ^ 64 - 1 := rfl
  rw [e, Nat.testBit_two_pow_sub_one]
  have : m % 64 < 64 := Nat.mod_lt _ (by omega)
  simpa using this

theorem settleTo_app (keep : Nat) (Q : List (Nat × List UInt8)) (q : Nat × List UInt8) (L : List UInt8) : ∀ k, k ≤ Q.length → settleTo keep (Q ++ [q]) L k = settleTo keep Q L k
  | 0, _ => rfl
  | k + 1, h => by
    have e : (Q ++ [q])[k]? = Q[k]? := by rw [List.getElem?_append_left (by omega)]
    simp only [settleTo, e, settleTo_app keep Q q L k (by omega)]
theorem settle_push (keep : Nat) (Q : List (Nat × List UInt8)) (q : Nat × List UInt8) (L : List UInt8) : settleTo keep (Q ++ [q]) L (Q ++ [q]).length = settle1 keep (settleTo keep Q L Q.length) Q.length q := by
  rw [List.length_append, List.length_singleton, settleTo_succ keep (Q ++ [q]) L Q.length q (by simp), settleTo_app keep Q q L _ (Nat.le_refl _)]
theorem settle_zero (Q : List (Nat × List UInt8)) (L : List UInt8) : ∀ k, settleTo 0 Q L k = L
  | 0 => rfl
  | k + 1 => by
    unfold settleTo
    split
    · simp [settle1, settle_zero Q L k]
    · exact settle_zero Q L k

/-- A disk that has power and is not bound to lose it; what is read is what lasts with all loose writes laid over it. -/
structure DInv (k : Nat) (D : Dsk) : Prop where
  up : D.up = true
  free : D.bound = false
  now : D.N = settleTo ones D.Q D.L D.Q.length
  q : D.Q.length ≤ k
  d : D.deeds ≤ k

theorem DInv.new (m : Nat) : DInv 0 (Dsk.new m) := ⟨rfl, rfl, rfl, by simp [Dsk.new], by simp [Dsk.new]⟩
theorem DInv.deedE {k : Nat} {D : Dsk} (h : DInv k D) : D.deedE = 0 := by simp [Dsk.deedE, h.free]
theorem DInv.deed {k : Nat} {D : Dsk} (h : DInv k D) : D.deed = { D with deeds := D.deeds + 1 } := by simp [Dsk.deed, h.free]

theorem DInv.write {k : Nat} {D : Dsk} (h : DInv k D) (i : Int) (b : List UInt8) : DInv (k + 1) (D.write i b) ∧ (D.write i b).L = D.L ∧ (D.write i b).n = D.n := by
  have hw : DInv (k + 1) D := ⟨h.up, h.free, h.now, by have := h.q; omega, by have := h.d; omega⟩
  unfold Dsk.write
  by_cases h1 : D.reach i ≠ 0
  · rw [if_pos h1]; exact ⟨hw, rfl, rfl⟩
  · rw [if_neg h1]
    by_cases h2 : b.length ≠ 128
    · rw [if_pos h2]; exact ⟨hw, rfl, rfl⟩
    · rw [if_neg h2, if_pos h.deedE]
      unfold Dsk.written
      rw [h.deed]
      refine ⟨⟨h.up, h.free, ?_, ?_, ?_⟩, rfl, rfl⟩
      · show splice D.N (i.toNat * 128) b = settleTo ones (D.Q ++ [(i.toNat, b)]) D.L (D.Q ++ [(i.toNat, b)]).length
        rw [settle_push, settle1, ones_bit, if_pos rfl, ← h.now]
      · show (D.Q ++ [(i.toNat, b)]).length ≤ _
        have := h.q
        simp; omega
      · show D.deeds + 1 ≤ _
        have := h.d; omega
theorem DInv.write_ok {k : Nat} {D : Dsk} (h : DInv k D) (i : Nat) (b : List UInt8) (hi : i < D.n) (hb : b.length = 128) :
    D.write (i : Int) b = { D with deeds := D.deeds + 1, N := splice D.N (i * 128) b, Q := D.Q ++ [(i, b)] } := by
  have hr : D.reach (i : Int) = 0 := by
    unfold Dsk.reach; rw [h.up, if_neg (by simp), if_neg (by omega)]
  unfold Dsk.write
  rw [if_neg (by omega), if_neg (by omega), if_pos h.deedE]
  unfold Dsk.written
  rw [h.deed]
  rfl
theorem DInv.flush {k : Nat} {D : Dsk} (h : DInv k D) : D.flush = { D with deeds := D.deeds + 1, L := D.N, Q := [] } := by
  unfold Dsk.flush
  have hu : ¬ D.up = false := by rw [h.up]; simp
  rw [if_neg hu, if_pos h.deedE]
  unfold Dsk.flushed
  rw [h.deed]
  simp only [← h.now]
theorem DInv.flushed {k : Nat} {D : Dsk} (h : DInv k D) : DInv (k + 1) D.flush ∧ D.flush.L = D.N ∧ D.flush.N = D.N ∧ D.flush.Q = [] ∧ D.flush.n = D.n := by
  rw [h.flush]
  exact ⟨⟨h.up, h.free, rfl, by simp, by show D.deeds + 1 ≤ _; have := h.d; omega⟩, rfl, rfl, rfl, rfl⟩
theorem DInv.more {k k' : Nat} {D : Dsk} (h : DInv k D) (hk : k ≤ k') : DInv k' D := ⟨h.up, h.free, h.now, by have := h.q; omega, by have := h.d; omega⟩

end Go.Proofs.YtehoiahgkbnjdaaGreat.Dk
