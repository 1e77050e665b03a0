/- A list of entries in memory of its own: how it grows. -/
import Derived.Test.YtipppagkajcheaaGreatDoorCop
namespace Go.Proofs.YtipppagkajcheaaGreatDoor.Tr
open Go.RowKit

theorem Cop.more {w W : World} {L : List Ent} {v : Value} (h : Cop w W L L.length v) (x : Ent) : Cop w W (L ++ [x]) L.length v := by
  obtain ⟨M, hM, ho, hd⟩ := h.own
  refine ⟨h.f, M, hM, ?_, fun j hj hl => ?_⟩
  · rw [List.take_left]; rw [List.take_length] at ho; exact ho
  · have hjl : j < L.length := by omega
    have := hd j hj hjl
    rw [List.getElem_append_left hjl]; exact this
theorem Cop.fr {w W W' : World} {L : List Ent} {i : Nat} {v : Value} (h : Cop w W L i v) (f : Fr (fun _ => False) W W') : Cop w W' L i v := by
  obtain ⟨M, hM, ho, hd⟩ := h.own
  exact ⟨h.f.trans f (fun _ h => h.elim), M, hM, owns_of_eq ho (fun k hk => f.block k (ho.lt k hk).2 (fun h => h)), fun j hj hl => (hd j hj hl).fr f⟩
theorem Cop.none {w W : World} (f : Fr (fun _ => False) w W) : Cop w W [] ([] : List Ent).length (.slice none 0 0) :=
  ⟨f, [], rfl, World.ownsRow_nil _ _ _ _, fun j hj => absurd hj (by simp)⟩
theorem cop_snoc {w wr W4 : World} {A : List Ent} {u : Value} {x : Ent} {m : Mv} (hC : Cop w wr A A.length u) (f4 : Fr (fun _ => False) wr W4) (hd : DOwn w.heap.size W4 x m) :
    ∃ Z, W4.ownsRow w.heap.size 36 3 u A.length Z ∧ ∀ W5 v', W5.ownsRow w.heap.size 36 3 v' (A.length + 1) (Z ++ entC x m) → W4.grownBy W5 u.ownBlock → Cop w W5 (A ++ [x]) (A.length + 1) v' := by
  obtain ⟨M, hM, ho, hdM⟩ := hC.own
  rw [List.take_length] at ho
  have ho4 : W4.ownsRow w.heap.size 36 3 u A.length (entsC A M) := owns_of_eq ho (fun k hk => f4.block k (ho.lt k hk).2 (fun h => h))
  refine ⟨_, ho4, fun W5 v' ho5 g5 => ⟨(hC.f.trans f4 (fun _ h => h.elim)).grown g5 (fun k hk => .inr (ho4.lt k hk).1), M ++ [m], by simp [hM], ?_, fun j hj hl => ?_⟩⟩
  · rw [← entsC_snoc A M x m hM] at ho5
    have e : (A ++ [x]).take (A.length + 1) = A ++ [x] := List.take_of_length_le (by simp)
    rw [e]; exact ho5
  · by_cases hji : j < A.length
    · have e : (M ++ [m])[j] = M[j]'(by omega) := List.getElem_append_left (by omega)
      have e2 : (A ++ [x])[j] = A[j] := List.getElem_append_left hji
      rw [e, e2]
      exact ((hdM j (by omega) hji).fr f4).tag g5 (Cop.tag ho4)
    · have hj' : j = A.length := by simp at hl; omega
      subst hj'
      have e : (M ++ [m])[A.length] = m := by rw [List.getElem_append_right (by omega)]; simp [hM]
      have e2 : (A ++ [x])[A.length] = x := by simp
      rw [e, e2]
      exact hd.tag g5 (Cop.tag ho4)
def lenV : Value → Nat
  | .slice _ n _ => n
  | _ => 0

end Go.Proofs.YtipppagkajcheaaGreatDoor.Tr
