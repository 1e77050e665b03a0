
/- load: the making of the places. -/
import Derived.Test.YtehoiahgkbnjdaaGreatTak
namespace Go.Proofs.YtehoiahgkbnjdaaGreat.Wl
open Go.RowKit Dk

theorem secsC_zeros : ∀ n : Nat, secsC (List.replicate n zeros) = List.replicate (n * 128) (Value.int .u8 0)
  | 0 => rfl
  | n + 1 => by
    have e : secsC (List.replicate (n + 1) zeros) = bs zeros ++ secsC (List.replicate n zeros) := by rw [List.replicate_succ]; rfl
    have e2 : bs zeros = List.replicate 128 (Value.int .u8 0) := by simp [bs, zeros, bv]
    rw [e, secsC_zeros n, e2, List.replicate_append_replicate]
    congr 1
    omega
theorem secsC_append (a b : List Sec) : secsC (a ++ b) = secsC a ++ secsC b := by simp [secsC]
theorem secsC_length (S : List Sec) (h : ∀ s ∈ S, s.length = 128) : (secsC S).length = 128 * S.length := by
  induction S with
  | nil => rfl
  | cons s r ih =>
    have e : secsC (s :: r) = bs s ++ secsC r := rfl
    rw [e, List.length_append, bs_length, h s (by simp), ih (fun x hx => h x (by simp [hx])), List.length_cons]
    omega
/-- A place is filled. -/
theorem secsC_fill (A Z : List Sec) (y s : Sec) (hA : ∀ x ∈ A, x.length = 128) (hy : y.length = 128) (hs : s.length = 128) : splice (secsC (A ++ y :: Z)) (128 * A.length) (bs s) = secsC (A ++ s :: Z) := by
  have e1 : secsC (A ++ y :: Z) = secsC A ++ (bs y ++ secsC Z) := by rw [secsC_append]; rfl
  have e2 : secsC (A ++ s :: Z) = secsC A ++ (bs s ++ secsC Z) := by rw [secsC_append]; rfl
  have lA := secsC_length A hA
  have ly : (bs y).length = 128 := by rw [bs_length, hy]
  have ls : (bs s).length = 128 := by rw [bs_length, hs]
  rw [e1, e2, ← lA, splice, ls, List.take_left', List.drop_append]
  · have e3 : (secsC A).drop ((secsC A).length + 128) = [] := List.drop_eq_nil_of_le (by omega)
    rw [e3, Nat.add_sub_cancel_left, List.drop_append, ← ly, List.drop_length, Nat.sub_self]
    simp
  · rfl
theorem make95 (w : World) (m : Nat) (hm : m ≤ 255) : (Instr.makeSlice 109 (.int .i64 (m : Int)) (.int .i64 (m : Int))).run Tryz.prog w = .ok (.slice (some ⟨w.heap.size, 0, none⟩) m m) (w.alloc (.cells (secsC (List.replicate m zeros)).toArray 81)) := by
  obtain ⟨i, hi⟩ := Option.isSome_iff_exists.1 (by kernel_rfl : (Tryz.prog.info? 81).isSome = true)
  have hz : (Tryz.prog.info? 81).bind (·.zero) = some (.agg (bs zeros).toArray) := by kernel_rfl
  have hs : (Tryz.prog.info? 81).map (·.size) = some 128 := by kernel_rfl
  have hb : (Tryz.prog.info? 81).map (·.bytes) = some 128 := by kernel_rfl
  rw [hi] at hz hs hb
  simp only [Option.bind_some, Option.map_some, Option.some.injEq] at hz hs hb
  have h := run_make (P := Tryz.prog) w 109 81 i (.agg (bs zeros).toArray) Tryz.underlying109 hi hz .i64 .i64 m m (by omega) (Int.le_refl _) (by rw [hb]; omega) (by omega)
  rw [h, hs]
  simp only [Int.toNat_natCast]
  have e : madeCells (Value.agg (bs zeros).toArray).cells (m * 128) = (secsC (List.replicate m zeros)).toArray := by
    rw [secsC_zeros]
    apply Array.toList_inj.1
    have hc : (Value.agg (bs zeros).toArray).cells = Array.replicate 128 (Value.int .u8 0) := by kernel_rfl
    rw [hc]
    apply List.ext_getElem?
    intro j
    by_cases hj : j < m * 128
    · have : j % 128 < 128 := Nat.mod_lt _ (by omega)
      simp [madeCells, hj, this]
    · simp [madeCells, hj]
  rw [e]

end Go.Proofs.YtehoiahgkbnjdaaGreat.Wl
