/- The contract of spoil: whoever has entries in memory of their own writes over them, and over nothing else. -/
import Derived.Test.YtipppagkajcheaaGreatDoorCop
namespace Go.Proofs.YtipppagkajcheaaGreatDoor.Tr
open Go.RowKit

/-- A row of bytes that may be written over. -/
def BRow (B : Nat) (W : World) (m : Mv) (n : Nat) : Prop := ∃ c : List UInt8, W.ownsRow B 5 1 (.slice m.1 n m.2) n (bs c)
theorem brow_eq {B n : Nat} {W W' : World} {m : Mv} (h : BRow B W m n) (he : ∀ (k : Nat) (cs : Array Value), W.heap[k]? = some (.cells cs 5 (0, 0)) → W'.heap[k]? = W.heap[k]?) : BRow B W' m n := by
  obtain ⟨c, hc⟩ := h
  refine ⟨c, owns_of_eq hc (fun k hk => ?_)⟩
  rcases hc.2 with ⟨h0, _⟩ | ⟨g', cap, cur, h0, _, hg, _⟩
  · rw [h0] at hk; cases hk
  · rw [h0] at hk
    have : g' = k := Option.some.inj hk
    subst this
    exact he _ _ hg
theorem brow_set {B n g j : Nat} {W : World} {m : Mv} {ys : List Value} (h : BRow B W m n) (hb : Blk W g 5 ys) (x : UInt8) : BRow B (W.setCell ⟨g, j, none⟩ (bv x)) m n := by
  obtain ⟨c, hc⟩ := h
  rcases hc.2 with ⟨h0, h1⟩ | ⟨g', cap, cur, h0, hB, hg, hn, hm, hs, ht⟩
  · exact ⟨c, hc.1, .inl ⟨h0, h1⟩⟩
  · by_cases e : g' = g
    · subst e
      have hB0 : Blk W g' 5 cur.toList := by unfold Blk; rw [hg]
      have hB' := hB0.setCell j (bv x)
      refine ⟨c.set j x, by have := hc.1; simpa [bs_length] using this, .inr ⟨g', cap, _, h0, hB, hB', hn, hm, by simp; omega, ?_⟩⟩
      rw [Nat.mul_one] at ht ⊢
      rw [List.take_set, ht]
      simp [bs, List.map_set]
    · refine ⟨c, owns_of_eq hc (fun k hk => ?_)⟩
      rw [h0] at hk
      have : g' = k := Option.some.inj hk
      subst this
      exact Below.heap_setCell W _ _ g' (by show g' ≠ g; exact e)
theorem brow_at {B n : Nat} {W : World} {m : Mv} (h : BRow B W m n) (k : Nat) (hk : k < n) : ∃ g ys, m.1 = some ⟨g, 0, none⟩ ∧ B ≤ g ∧ Blk W g 5 ys ∧ k < ys.length := by
  obtain ⟨c, hc⟩ := h
  rcases hc.2 with ⟨h0, h1⟩ | ⟨g', cap, cur, h0, hB, hg, hn, hm, hs, ht⟩
  · omega
  · cases m
    simp only at h0
    cases h0
    exact ⟨g', cur.toList, rfl, hB, by unfold Blk; rw [hg], by rw [Array.length_toList]; omega⟩

/-- Entries that are written over, up to a place. -/
structure Sp (w W : World) (L : List Ent) (M : List Mv) (g i : Nat) : Prop where
  f : Fr (fun _ => False) w W
  row : ∃ xs, Blk W g 36 xs ∧ L.length * 3 ≤ xs.length ∧ ∀ j (_ : i ≤ j) (hj : j < L.length) (hm : j < M.length), xs[j * 3 + 2]? = some (.slice M[j].1 L[j].data.length M[j].2)
  dat : ∀ j (hj : j < L.length) (hm : j < M.length), BRow w.heap.size W M[j] L[j].data.length
theorem Sp.start {w W : World} {L : List Ent} {v : Value} (h : Cop w W L L.length v) (hne : 0 < L.length) : ∃ M g cap, M.length = L.length ∧ v = .slice (some ⟨g, 0, none⟩) L.length cap ∧ w.heap.size ≤ g ∧ Sp w W L M g 0 := by
  obtain ⟨M, hM, ho, hd⟩ := h.own
  rw [List.take_length] at ho
  rcases ho.2 with ⟨_, h0⟩ | ⟨g, cap, cur, rfl, hB, hg, hn, hm, hs, ht⟩
  · omega
  · have hcl : cur.toList.length = cap * 3 := by rw [Array.length_toList, hs]
    refine ⟨M, g, cap, hM, rfl, hB, h.f, ⟨cur.toList, by unfold Blk; rw [hg], by omega, fun j _ hj hmj => ?_⟩, fun j hj hmj => ⟨_, hd j hmj hj⟩⟩
    have := (entsC_at L M hM j hj).2.2
    rw [← ht, List.getElem?_take] at this
    split at this
    · exact this
    · cases this
theorem Sp.byte {w W : World} {L : List Ent} {M : List Mv} {g i gb k : Nat} {ys : List Value} (h : Sp w W L M g i) (hb : Blk W gb 5 ys) (hB : w.heap.size ≤ gb) (x : UInt8) : Sp w (W.setCell ⟨gb, k, none⟩ (bv x)) L M g i := by
  obtain ⟨xs, h1, h2, h3⟩ := h.row
  have hne : g ≠ gb := by
    rintro rfl
    have h1' := h1
    unfold Blk at h1' hb
    rw [hb] at h1'
    cases h1'
  exact ⟨h.f.setCell (.inr hB) _, ⟨xs, h1.setCell_ne hne _, h2, h3⟩, fun j hj hm => brow_set (h.dat j hj hm) hb x⟩
theorem Sp.entry {w W W' : World} {L : List Ent} {M : List Mv} {g i : Nat} (h : Sp w W L M g i) (hf : Fr (fun _ => False) w W') (hne : ∀ k, k ≠ g → W'.heap[k]? = W.heap[k]?) (hr : ∀ xs, Blk W g 36 xs → ∃ ys, Blk W' g 36 ys ∧ ys.length = xs.length ∧ ∀ j, i + 1 ≤ j → ys[j * 3 + 2]? = xs[j * 3 + 2]?) : Sp w W' L M g (i + 1) := by
  obtain ⟨xs, h1, h2, h3⟩ := h.row
  obtain ⟨ys, g1, g2, g3⟩ := hr xs h1
  refine ⟨hf, ⟨ys, g1, by omega, fun j hj hl hm => by rw [g3 j hj]; exact h3 j (by omega) hl hm⟩, fun j hj hm => brow_eq (h.dat j hj hm) (fun k cs hc => hne k ?_)⟩
  rintro rfl
  unfold Blk at h1
  rw [hc] at h1
  cases h1

set_option maxRecDepth 100000 in
set_option maxHeartbeats 4000000 in
theorem spoil_any (w W : World) (L : List Ent) (v : Value) (h : Cop w W L L.length v) (hl : L.length ≤ 140737488351232) (hd : ∀ x ∈ L, x.data.length ≤ 140737488351232) :
    Calls Tryz.prog 9 #[v] W fun e W' => e = .returned (.tuple #[]) ∧ Fr (fun _ => False) w W' := by
  by_cases hne : L.length = 0
  · obtain ⟨M0, hM0, ho0, _⟩ := h.own
    obtain ⟨va, vc, rfl⟩ := own_len ho0
    have HF := hid h.f
    rw [hne]
    clear h ho0 hd
    go_enter Tryz.func9, Tryz.ntmps9
    go_wp2_with fail
    go_loopw [2] (fun iv wr => iv = .int .i64 0 ∧ wr = W) (fun _ _ => 0)
    case atStart => exact ⟨rfl, rfl⟩
    case round =>
      obtain ⟨rfl, rfl⟩ := hrel
      go_wp2
      go_end0
      exact ⟨rfl, HF.out⟩
  · obtain ⟨M, g, cap, hM, rfl, hg, hS⟩ := Sp.start h (by omega)
    have HS0 := hid hS
    have HD := hid hd
    have HM := hid hM
    clear h hS hd hM
    go_enter Tryz.func9, Tryz.ntmps9
    go_wp2_with fail
    go_loopw [2] (fun iv wr => ∃ i : Nat, i ≤ L.length ∧ iv = .int .i64 (i : Int) ∧ Sp w wr L M g i) (fun iv _ => L.length - (intOf iv).toNat)
    case atStart => exact ⟨0, Nat.zero_le _, rfl, HS0.out⟩
    case round =>
      obtain ⟨i, hi, rfl, hS⟩ := hrel
      have HS := hid hS
      clear hS HS0
      by_cases hlt : i < L.length
      · have hi1 : (i : Int) < ((L.length : Nat) : Int) := by omega
        have hi0 : (0 : Int) ≤ (i : Int) := Int.natCast_nonneg _
        have hm : i < M.length := by rw [HM.out]; exact hlt
        obtain ⟨m, hmm⟩ : ∃ m, m = M[i] := ⟨_, rfl⟩
        obtain ⟨dn, hdn⟩ : ∃ dn, dn = L[i].data.length := ⟨_, rfl⟩
        have hdl : dn ≤ 140737488351232 := by rw [hdn]; exact HD.out _ (List.getElem_mem _)
        have HC : Hid (∀ W', Sp w W' L M g i → W'.cell? ⟨g, i * 3 + 2, none⟩ = some (.slice m.1 dn m.2) ∧ BRow w.heap.size W' m dn) := fun W' hW => by
          obtain ⟨xs, h1, h2, h3⟩ := hW.row
          rw [hmm, hdn]
          exact ⟨by rw [h1.cell]; exact h3 i (Nat.le_refl _) hlt hm, hW.dat i hlt hm⟩
        clear hmm hdn hm
        obtain ⟨ma, mc⟩ := m
        simp only at HC
        generalize wr = wo at *
        go_wp2_with fail
        go_loopw [3] (fun kv wr => ∃ k : Nat, k ≤ dn ∧ kv = .int .i64 (k : Int) ∧ Sp w wr L M g i) (fun kv _ => dn - (intOf kv).toNat)
        case atStart => exact ⟨0, Nat.zero_le _, rfl, HS.out⟩
        case round =>
          obtain ⟨k, hk, rfl, hS2⟩ := hrel
          obtain ⟨hc2, hbr⟩ := HC.out _ hS2
          have hk0 : (0 : Int) ≤ (k : Int) := Int.natCast_nonneg _
          by_cases hkl : k < dn
          · have hk1 : (k : Int) < (dn : Int) := by omega
            obtain ⟨gb, ys, e, hgb, hB, hky⟩ := brow_at hbr k hkl
            simp only at e
            subst e
            have c2 := hB.cell k
            have fz := hB.frozen k
            rw [List.getElem?_eq_getElem hky] at c2
            generalize ys[k] = v0 at c2
            have HS2 : Hid (Sp w (wr.setCell ⟨gb, k, none⟩ (.int .u8 7)) L M g i) := hS2.byte hB hgb 7
            clear hS2 hbr HS hB hky HC HD HM
            go_wp2
            exact ⟨⟨k + 1, by omega, by go_num, HS2.out⟩, by simp [intOf]; omega⟩
          · have hk1 : ¬ (k : Int) < (dn : Int) := by omega
            obtain ⟨xs, hX, hXl, _⟩ := hS2.row
            have d0 := hX.cell (i * 3)
            have d1 := hX.cell (i * 3 + 1)
            have z0 := hX.frozen (i * 3)
            have z1 := hX.frozen (i * 3 + 1)
            have z2 := hX.frozen (i * 3 + 2)
            rw [List.getElem?_eq_getElem (by omega)] at d0 d1
            generalize xs[i * 3] = e0 at d0
            generalize xs[i * 3 + 1] = e1 at d1
            have HS2 := hid hS2
            clear hS2 hbr HS HC HD HM hX
            go_wp2
            refine ⟨⟨i + 1, by omega, by go_num, HS2.out.entry (((HS2.out.f.setCell (.inr hg) _).setCell (.inr hg) _).setCell (.inr hg) _) (fun kk hkk => ?_) (fun ys hY => ⟨_, ((hY.setCell _ _).setCell _ _).setCell _ _, by simp, fun j hj => ?_⟩)⟩, by simp [intOf]; omega⟩
            · rw [Below.heap_setCell _ _ _ kk hkk, Below.heap_setCell _ _ _ kk hkk, Below.heap_setCell _ _ _ kk hkk]
            · rw [List.getElem?_set_ne (by omega), List.getElem?_set_ne (by omega), List.getElem?_set_ne (by omega)]
      · obtain rfl : i = L.length := by omega
        have hi1 : ¬ ((L.length : Nat) : Int) < ((L.length : Nat) : Int) := by omega
        go_wp2
        go_end0
        exact ⟨rfl, HS.out.f⟩

end Go.Proofs.YtipppagkajcheaaGreatDoor.Tr
