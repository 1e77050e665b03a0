/- The walk of DiskArmed. -/
import Derived.Test.YtinkjiohdgkdcaaMadeNil
namespace Go.Proofs.Ytinkjiohdgkdcaa.Dk
open Go.RowKit

/-- Behind k deeds that were tried, with power bound to fail behind A of them. -/
structure AInv (m A k : Nat) (D : Dsk) : Prop where
  n : D.n = m
  q : D.Q.length ≤ k
  d : D.deeds ≤ 1 + k
  on : k ≤ A → D.up = true ∧ D.bound = true ∧ D.after = (A : Int) - (k : Int) ∧ D.deeds = 1 + k
  off : A < k → D.up = false ∧ D.deeds = 1 + A

def code (A k : Nat) : Int := if k < A then 0 else if k = A then 41 else 40

theorem AInv.start {m A kp : Nat} : AInv m A 0 ((Dsk.new m).flush.arm (A : Int) kp) := by
  have e : (Dsk.new m).flush.arm (A : Int) kp = (Dsk.new m).flush.armed (A : Int) kp := by
    have h : ¬ ((A : Int) < 0) := by omega
    simp [Dsk.arm, Dsk.flush, Dsk.flushed, Dsk.deedE, Dsk.deed, Dsk.new, h]
  rw [e]
  exact ⟨by simp [Dsk.armed, Dsk.flush, Dsk.flushed, Dsk.deedE, Dsk.deed, Dsk.new], by simp [Dsk.armed, Dsk.flush, Dsk.flushed, Dsk.deedE, Dsk.deed, Dsk.new], by simp [Dsk.armed, Dsk.flush, Dsk.flushed, Dsk.deedE, Dsk.deed, Dsk.new],
    fun _ => ⟨by simp [Dsk.armed, Dsk.flush, Dsk.flushed, Dsk.deedE, Dsk.deed, Dsk.new], rfl, by simp [Dsk.armed], by simp [Dsk.armed, Dsk.flush, Dsk.flushed, Dsk.deedE, Dsk.deed, Dsk.new]⟩, fun h => by omega⟩

theorem AInv.deed {m A k : Nat} {D : Dsk} (h : AInv m A k D) (hk : k < A) : D.deedE = 0 ∧ D.deed.n = m ∧ D.deed.up = true ∧ D.deed.bound = true ∧ D.deed.after = (A : Int) - ((k + 1 : Nat) : Int) ∧ D.deed.deeds = 1 + (k + 1) ∧ D.deed.Q = D.Q := by
  obtain ⟨h1, h2, h3, h4⟩ := h.on (by omega)
  have hc : ¬ (D.bound = true ∧ D.after = 0) := fun hc => by have := hc.2; omega
  unfold Dsk.deedE Dsk.deed
  rw [if_neg hc, if_neg hc]
  refine ⟨rfl, h.n, h1, h2, ?_, ?_, rfl⟩
  · show (if D.bound = true then D.after - 1 else D.after) = _
    rw [if_pos h2, h3]; omega
  · show D.deeds + 1 = _
    omega
theorem AInv.dies {m A k : Nat} {D : Dsk} (h : AInv m A k D) (hk : k = A) : D.deedE = 41 ∧ D.deed.n = m ∧ D.deed.up = false ∧ D.deed.deeds = 1 + A ∧ D.deed.Q = [] := by
  obtain ⟨h1, h2, h3, h4⟩ := h.on (by omega)
  have hc : D.bound = true ∧ D.after = 0 := ⟨h2, by omega⟩
  unfold Dsk.deedE Dsk.deed
  rw [if_pos hc, if_pos hc]
  exact ⟨rfl, h.n, rfl, by show D.deeds = _; omega, rfl⟩

theorem code_lt {A k : Nat} (h : k < A) : code A k = 0 := by simp [code, h]
theorem code_eq {A k : Nat} (h : k = A) : code A k = 41 := by simp [code, h]
theorem code_gt {A k : Nat} (h : A < k) : code A k = 40 := by
  have h1 : ¬ k < A := by omega
  have h2 : ¬ k = A := by omega
  simp [code, h1, h2]

theorem AInv.flush {m A k : Nat} {D : Dsk} (h : AInv m A k D) : D.flushE = code A k ∧ AInv m A (k + 1) D.flush := by
  rcases Nat.lt_trichotomy k A with hk | hk | hk
  · obtain ⟨e, n, u, b, a, d, q⟩ := h.deed hk
    have hu := (h.on (by omega)).1
    have e1 : D.flushE = 0 := by simp [Dsk.flushE, hu, e]
    have e2 : D.flush = D.flushed := by simp [Dsk.flush, hu, e]
    rw [e1, e2, code_lt hk]
    exact ⟨rfl, ⟨n, by simp [Dsk.flushed], by show D.deed.deeds ≤ _; omega, fun _ => ⟨u, b, a, by show D.deed.deeds = _; omega⟩, fun _ => by omega⟩⟩
  · obtain ⟨e, n, u, d, q⟩ := h.dies hk
    have hu := (h.on (by omega)).1
    have e1 : D.flushE = 41 := by simp [Dsk.flushE, hu, e]
    have e2 : D.flush = D.deed := by simp [Dsk.flush, hu, e]
    rw [e1, e2, code_eq hk]
    exact ⟨rfl, ⟨n, by rw [q]; simp, by omega, fun _ => by omega, fun _ => ⟨u, d⟩⟩⟩
  · obtain ⟨u, d⟩ := h.off hk
    have e1 : D.flushE = 40 := by simp [Dsk.flushE, u]
    have e2 : D.flush = D := by simp [Dsk.flush, u]
    rw [e1, e2, code_gt hk]
    exact ⟨rfl, ⟨h.n, by have := h.q; omega, by omega, fun _ => by omega, fun _ => ⟨u, d⟩⟩⟩

theorem AInv.write {m A k : Nat} {D : Dsk} (h : AInv m A k D) (i : Int) (b : List UInt8) (i0 : 0 ≤ i) (i1 : i < (m : Int)) (hb : b.length = 128) : D.writeE i 128 = code A k ∧ AInv m A (k + 1) (D.write i b) := by
  rcases Nat.lt_trichotomy k A with hk | hk | hk
  · obtain ⟨e, n, u, b', a, d, q⟩ := h.deed hk
    have hu := (h.on (by omega)).1
    have hr : D.reach i = 0 := by
      unfold Dsk.reach; rw [hu, if_neg (by simp), if_neg (by rw [h.n]; omega)]
    have e1 : D.writeE i 128 = 0 := by simp [Dsk.writeE, hr, e]
    have e2 : D.write i b = D.written i.toNat b := by simp [Dsk.write, hr, hb, e]
    rw [e1, e2, code_lt hk]
    exact ⟨rfl, ⟨n, by simp only [Dsk.written, List.length_append, List.length_singleton, q]; have := h.q; omega, by show D.deed.deeds ≤ _; omega, fun _ => ⟨u, b', a, by show D.deed.deeds = _; omega⟩, fun _ => by omega⟩⟩
  · obtain ⟨e, n, u, d, q⟩ := h.dies hk
    have hu := (h.on (by omega)).1
    have hr : D.reach i = 0 := by
      unfold Dsk.reach; rw [hu, if_neg (by simp), if_neg (by rw [h.n]; omega)]
    have e1 : D.writeE i 128 = 41 := by simp [Dsk.writeE, hr, e]
    have e2 : D.write i b = D.deed := by simp [Dsk.write, hr, hb, e]
    rw [e1, e2, code_eq hk]
    exact ⟨rfl, ⟨n, by rw [q]; simp, by omega, fun _ => by omega, fun _ => ⟨u, d⟩⟩⟩
  · obtain ⟨u, d⟩ := h.off hk
    have hr : D.reach i = 40 := by
      unfold Dsk.reach; rw [u, if_pos rfl]
    have e1 : D.writeE i 128 = 40 := by simp [Dsk.writeE, hr]
    have e2 : D.write i b = D := by simp [Dsk.write, hr]
    rw [e1, e2, code_gt hk]
    exact ⟨rfl, ⟨h.n, by have := h.q; omega, by omega, fun _ => by omega, fun _ => ⟨u, d⟩⟩⟩

end Go.Proofs.Ytinkjiohdgkdcaa.Dk
