/- What lies in memory from the beginning. Nothing here speaks of the Go text. -/
import Derived.Test.YtangnoicnogddaaBase
namespace Go.Proofs.Ytangnoicnogddaa.Tr
open Go.RowKit

/-- What lay in memory at the beginning is there as it was. -/
def Env (w0 W : World) : Prop := w0.heap.size ≤ W.heap.size ∧ ∀ j, j < w0.heap.size → W.heap[j]? = w0.heap[j]?
theorem Env.refl (w : World) : Env w w := ⟨Nat.le_refl _, fun _ _ => rfl⟩
theorem Env.fr {w0 W W' : World} (h : Env w0 W) {F : Nat → Prop} (f : Fr F W W') (hF : ∀ j, F j → w0.heap.size ≤ j) : Env w0 W' :=
  ⟨Nat.le_trans h.1 f.size, fun j hj => (f.block j (Nat.lt_of_lt_of_le hj h.1) (fun hf => absurd (hF j hf) (by omega))).trans (h.2 j hj)⟩

theorem Env.cell {w0 W : World} (h : Env w0 W) {a : Addr} {v : Value} (hc : w0.cell? a = some v) : W.cell? a = some v := by
  have hb : a.block < w0.heap.size := by
    rcases Nat.lt_or_ge a.block w0.heap.size with hl | hl
    · exact hl
    · exfalso
      unfold World.cell? at hc
      rw [Array.getElem?_eq_none hl] at hc
      simp at hc
  have e := h.2 a.block hb
  unfold World.cell? at hc ⊢
  rw [e]; exact hc
theorem Env.trans {a b c : World} (h : Env a b) (k : Env b c) : Env a c :=
  ⟨Nat.le_trans h.1 k.1, fun j hj => (k.2 j (Nat.lt_of_lt_of_le hj h.1)).trans (h.2 j hj)⟩
theorem Env.alloc (w : World) (o : Obj) : Env w (w.alloc o) := (Env.refl w).fr ((Fr.refl (fun _ => False) w).alloc o) (fun _ h => h.elim)
theorem Env.of {w W : World} (f : Fr (fun _ => False) w W) : Env w W := (Env.refl w).fr f (fun _ h => h.elim)

end Go.Proofs.Ytangnoicnogddaa.Tr
