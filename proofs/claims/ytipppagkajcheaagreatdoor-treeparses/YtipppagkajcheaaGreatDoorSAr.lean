/- What the arguments are: their cells, read off the row's own reading. -/
import Derived.Test.YtipppagkajcheaaGreatDoorSSh
import Derived.ProofKit
import Derived.OpenShut
import Derived.ShutString
import Derived.ChangeOld
import Derived.SizedLaws
import Derived.Deep.Slices
namespace Go.Proofs.YtipppagkajcheaaGreatDoor.Tr
open Go.ChangeShapes Go.WideShapes Go.ChangeAt Go.RowKit Go.Deep

theorem bytes5 : Tryz.prog.bytesOf 5 = 1 := by kernel_rfl
def byteOf (x : Int) : UInt8 := UInt8.ofNat x.toNat
theorem bv_byteOf (x : Int) (h0 : 0 ≤ x) (h1 : x ≤ 255) : bv (byteOf x) = .int .u8 x := by
  unfold bv byteOf
  obtain ⟨n, rfl⟩ := Int.eq_ofNat_of_zero_le h0
  have : n % 2 ^ 8 = n := Nat.mod_eq_of_lt (by omega)
  simp [this]

theorem bs_of_nums (zs : List Int) (h : ∀ n ∈ zs, (Lit.int .u8 n).wf = true) : bs (zs.map byteOf) = zs.map (Value.int .u8) := by
  simp only [bs, List.map_map]
  apply List.map_congr_left
  intro n hn
  have hb := bounds_u8 (h n hn)
  exact bv_byteOf n hb.1 hb.2

theorem open_bytes {H : Type} {enc : TypeId × Value → H} {W : World} {ad : Option Addr} {len cap : Nat} {d : DataW H} {ps : List MemPlace}
    (h : DataW.Trod enc Tryz.prog W 0 (fun _ => true) true 22 (.slice ad len cap) d ps) (hw : ∀ n ∈ d.weights Tryz.prog 22, n ≤ reachBytes) :
    ∃ b : List UInt8, len = b.length ∧ b.length ≤ 140737488351232 ∧ Src W ad b ∧ b.length ≤ cap := by
  obtain ⟨fuel, hf⟩ := h
  rcases open_ints Tryz.underlying22 Tryz.underlying5 (by kernel_rfl) hf with ⟨hcs, _⟩ | ⟨x, l', c', zs, hcs, _, hl', hm', hz', hx, hcell, hwz⟩
  · simp [Value.cells] at hcs
    obtain ⟨rfl, rfl, rfl⟩ := hcs
    exact ⟨[], rfl, by simp, Src.nil _ _, by simp⟩
  · simp [Value.cells] at hcs
    obtain ⟨rfl, rfl, rfl⟩ := hcs
    have hzl : zs.length = cap := by simpa using hz'
    have hwt : ∀ q ∈ zs.take len, (Lit.int .u8 q).wf = true := fun q hq => hwz q (List.mem_of_mem_take hq)
    have hln : ((zs.take len).map byteOf).length = len := by simp [hzl, hl']
    have hd : d = .slice (lits .u8 (zs.take len)) (lits .u8 (zs.drop len)) := by
      have := congrArg Prod.fst hx
      simpa using this
    have hwz2 := hw (zs.length * 1) (by
      rw [hd]
      simp only [DataW.weights, Tryz.underlying22, bytes5, List.mem_cons]
      left
      simp [lits]
      omega)
    have hr : reachBytes = 140737488351232 := rfl
    refine ⟨(zs.take len).map byteOf, hln.symm, by rw [hln]; omega, fun hne => ?_, by rw [hln]; omega⟩
    have hl0 : 0 < len := by
      rcases Nat.eq_zero_or_pos len with h | h
      · subst h; simp at hne
      · exact h
    have hq0 := hcell 0 (by omega)
    obtain ⟨bb, bo, sp⟩ := x
    have hsp : sp = none := by
      have := World.cell?_spot hq0
      simpa [Addr.add] using this
    subst hsp
    refine ⟨bb, bo, rfl, ?_⟩
    rw [bs_of_nums _ hwt]
    intro j v hv
    have hj : j < len := by
      have := (List.getElem?_eq_some_iff.1 hv).1
      simp at this
      omega
    have := hcell j (by omega)
    rw [Addr.add_mid] at this
    rw [this, ← hv]
    simp [hj, List.getD_eq_getElem?_getD, List.getElem?_eq_getElem (show j < zs.length by omega)]

theorem below_of_fr {w w' : World} (h : Fr (fun _ => False) w w') : Below w.heap.size w w' := h.below (Nat.le_refl _) (fun _ h => h.elim)

end Go.Proofs.YtipppagkajcheaaGreatDoor.Tr
