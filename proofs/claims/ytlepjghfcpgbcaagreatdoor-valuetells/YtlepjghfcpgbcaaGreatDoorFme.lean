/- The contract of fmtEFG where there is no fraction. -/
import Derived.Test.YtlepjghfcpgbcaaGreatDoorFmd
namespace Go.Proofs.YtlepjghfcpgbcaaGreatDoor.Tr
open Go.RowKit

/-- One byte in a slice of its own. -/
theorem srcOne (w : World) (c : UInt8) : Go.Src Tryz.prog 1 66 (.slice (some ⟨w.heap.size, 0, none⟩) 1 1) 1 (bs [c]) (w.alloc (.cells #[.int .u8 (c.toNat : Int)] 5)) :=
  srcBytes (b := [c]) (fun _ => ⟨_, _, rfl, (Blk.new w 5 [bv c]).range 0 (bs [c]) rfl⟩) 1
theorem owns_alloc {w : World} {B : Nat} {e : TypeId} {s : Nat} {v : Value} {n : Nat} {xs : List Value} (h : w.ownsRow B e s v n xs) (o : Obj) : (w.alloc o).ownsRow B e s v n xs :=
  owns_of_eq h (fun k hk => Below.heap_alloc w o k (h.lt k hk).2)

/-- A text under way, beside a block that stays. -/
structure Dst (B bb : Nat) (T : TypeId) (L : List Value) (w0 w : World) (v : Value) (S : List UInt8) : Prop where
  own : w.ownsRow B 5 1 v S.length (bs S)
  ne : v.ownBlock ≠ some bb
  blk : Blk w bb T L
  fr : Fr (fun k => B ≤ k) w0 w
  le : B ≤ w.heap.size
theorem Dst.app {B bb : Nat} {T : TypeId} {L : List Value} {w0 w w' : World} {v v' : Value} {S : List UInt8} {c : UInt8} {o : Obj} (d : Dst B bb T L w0 w v S) (h : Apd (w.alloc o) w' B v v' (S.length + 1) (bs S ++ bs [c])) : Dst B bb T L w0 w' v' (S ++ [c]) := by
  have hb := d.blk.lt
  have e : bs (S ++ [c]) = bs S ++ bs [c] := by simp [bs]
  refine ⟨?_, ?_, ?_, ?_, ?_⟩
  · rw [e, show (S ++ [c]).length = S.length + 1 by simp]; exact h.own
  · rcases h.row with h1 | h1
    · rw [h1]; exact d.ne
    · rw [h1]
      intro h2
      simp only [Option.some.injEq, World.size_alloc] at h2
      omega
  · refine (d.blk.alloc o).of_eq (h.grown.block bb (by rw [World.size_alloc]; omega) (fun h2 => d.ne h2.symm))
  · exact (d.fr.alloc o).grown h.grown (fun k hk => .inl (d.own.lt k hk).1)
  · have := h.grown.size
    rw [World.size_alloc] at this
    have := d.le
    omega

theorem take_next (D : List UInt8) (i : Nat) (h : i < D.length) : D.take (i + 1) = D.take i ++ [D[i]] := List.take_succ_eq_append_getElem h

set_option maxRecDepth 100000 in
set_option maxHeartbeats 4000000 in
theorem efg_whole (w : World) (B b : Nat) (t : TypeId) (L : List UInt8) (v : Value) (S : List UInt8) (hD : Dst B b t (bs L) w w v S) (hL : L.length = 32) (hS : S.length ≤ 100) (dp nd : Nat) (h0 : 0 < dp) (h1 : dp ≤ 400) (h2 : nd ≤ 20) :
    Calls Tryz.prog 139 #[v, .bool false, .slice (some ⟨b, 0, none⟩) 32 32, .int .i64 (dp : Int), .int .i64 (nd : Int), .int .i64 0, .int .u8 102, .bool true] w fun e w' => ∃ v', e = .returned v' ∧ Dst B b t (bs L) w w' v' (S ++ L.take (min nd dp) ++ List.replicate (dp - min nd dp) 48) := by
  have h0' : (0 : Int) < (dp : Int) := by omega
  have HD := hid hD
  have HL := hid hL
  obtain ⟨m, hm⟩ : ∃ m, m = min nd dp := ⟨_, rfl⟩
  have hm0 : m ≤ 20 := by omega
  have hm1 : m ≤ dp := by omega
  have hmi : min (nd : Int) (dp : Int) = (m : Int) := by omega
  have hmi2 : (if (nd : Int) ≤ (dp : Int) then (nd : Int) else (dp : Int)) = (m : Int) := by split <;> omega
  rw [← hm]
  clear hD hm hL
  have hm32 : ¬ (32 : Int) < (m : Int) := by omega
  have hm32' : (m : Int) ≤ 32 := by omega
  obtain ⟨a0, c0, hv0⟩ := own_len HD.out.own
  subst hv0
  go_enter Tryz.func139, Tryz.ntmps139
  go_wp2_with fail
  go_loopw [0, 25, 191] (fun v0 _ iv wr => ∃ i : Nat, i ≤ m ∧ iv = .int .i64 (i : Int) ∧ Dst B b t (bs L) w wr v0 (S ++ L.take i)) (fun _ _ iv _ => m - (intOf iv).toNat)
  case atStart => exact ⟨0, Nat.zero_le _, rfl, by simpa using HD.out⟩
  case round =>
    obtain ⟨i, hi, rfl, hd⟩ := hrel
    clear HD
    have HD := hid hd
    clear hd
    obtain ⟨a1, c1, hv1⟩ := own_len HD.out.own
    subst hv1
    by_cases him : i < m
    · have hlt : (i : Int) < (m : Int) := by omega
      have hiL : i < L.length := by rw [HL.out]; omega
      have hc := HD.out.blk.cell i
      rw [bs_at L i hiL] at hc
      have HN : Hid (L.take (i + 1) = L.take i ++ [L[i]]) := take_next L i hiL
      have hSl : (S ++ L.take i).length ≤ 200 := by simp; omega
      unfold bv at hc
      generalize L[i] = c at *
      generalize hX : S ++ L.take i = X at *
      have HX := hid hX
      clear hX
      go_wp2_with (at_builtin; refine Hid.out ?_)
      refine hid ?_
      refine wpList_append_src (by rfl) _ _ 66 (by rfl) B X.length 1 _ _ (bs X) (bs [c]) (by rfl) (by rfl) (owns_alloc HD.out.own _) (srcOne _ c) (by omega) (by rw [World.size_alloc]; have := HD.out.le; omega) ?_
      intro v2 w2 h2
      have hd2 := HD.out.app h2
      obtain ⟨a2, c2, hv2⟩ := own_len hd2.own
      subst hv2
      have HD2 : Hid (Dst B b t (bs L) w w2 (.slice a2 (X.length + 1) c2) (S ++ L.take (i + 1))) := by
        have e : (X ++ [c]).length = X.length + 1 := by simp
        rw [e] at hd2
        unfold Hid; rw [HN.out, ← List.append_assoc, HX.out]; exact hd2
      clear h2 hd2 HD
      go_wp2_with fail
      exact ⟨⟨i + 1, by omega, by first | rfl | (congr 1), HD2.out⟩, by simp [intOf]; omega⟩
    · obtain rfl : i = m := by omega
      have hlt : ¬ (i : Int) < (i : Int) := by omega
      generalize hX : S ++ L.take i = X at *
      have hXl : X.length ≤ 120 := by rw [← hX]; simp; omega
      have HX2 := hid hX
      clear hX
      obtain ⟨N, hN⟩ : ∃ N, N = dp - i := ⟨_, rfl⟩
      have hNi : (dp : Int) - (i : Int) = (N : Int) := by omega
      have HN2 := hid hN
      have hNd : N ≤ 400 := by omega
      clear hN
      go_wp2_with fail
      go_loopw [0, 203] (fun v0 iv wr2 => ∃ j : Nat, j ≤ N ∧ iv = .int .i64 (j : Int) ∧ Dst B b t (bs L) w wr2 v0 (X ++ List.replicate j 48)) (fun _ iv _ => N - (intOf iv).toNat)
      case atStart => exact ⟨0, Nat.zero_le _, rfl, by simpa using HD.out⟩
      case round =>
        obtain ⟨j, hj, rfl, hd⟩ := hrel
        clear HD
        have HD := hid hd
        clear hd
        obtain ⟨a3, c3, hv3⟩ := own_len HD.out.own
        subst hv3
        by_cases hjn : j < N
        · have hlt2 : (j : Int) < (N : Int) := by omega
          have HN : Hid (List.replicate (j + 1) (48 : UInt8) = List.replicate j 48 ++ [48]) := List.replicate_succ'
          have hSl : (X ++ List.replicate j (48 : UInt8)).length ≤ 600 := by simp; omega
          generalize hY : X ++ List.replicate j (48 : UInt8) = Y at *
          have HY := hid hY
          clear hY
          go_wp2_with (at_builtin; refine Hid.out ?_)
          refine hid ?_
          refine wpList_append_src (by rfl) _ _ 66 (by rfl) B Y.length 1 _ _ (bs Y) (bs [48]) (by rfl) (by rfl) (owns_alloc HD.out.own _) (srcOne _ 48) (by omega) (by rw [World.size_alloc]; have := HD.out.le; omega) ?_
          intro v2 w2 h2
          have hd2 := HD.out.app h2
          obtain ⟨a2, c2, hv2⟩ := own_len hd2.own
          subst hv2
          have HD2 : Hid (Dst B b t (bs L) w w2 (.slice a2 (Y.length + 1) c2) (X ++ List.replicate (j + 1) 48)) := by
            have e : (Y ++ [48]).length = Y.length + 1 := by simp
            rw [e] at hd2
            unfold Hid; rw [HN.out, ← List.append_assoc, HY.out]; exact hd2
          clear h2 hd2 HD
          go_wp2_with fail
          exact ⟨⟨j + 1, by omega, by first | rfl | (congr 1), HD2.out⟩, by simp [intOf]; omega⟩
        · obtain rfl : j = N := by omega
          have hlt2 : ¬ (j : Int) < (j : Int) := by omega
          generalize hY : X ++ List.replicate j (48 : UInt8) = Y at *
          have HY := hid hY
          clear hY
          go_wp2_with fail
          go_ret
          exact ⟨_, rfl, by rw [← List.append_assoc, HX2.out, ← HN2.out, HY.out]; exact HD.out⟩
end Go.Proofs.YtlepjghfcpgbcaaGreatDoor.Tr
