/- The contract of the law's copied, and that what it makes may be written over. -/
import Derived.Test.YtangnoicnogddaaWsp
namespace Go.Proofs.Ytangnoicnogddaa.Tr
open Go.RowKit

theorem wr_own {W : World} {B A t n c : Nat} {ad : Option Addr} {xs : List Value} (h : W.ownsRow B t 1 (.slice ad n c) n xs) (hA : A ≤ B) : Wr (Bt A W.heap.size) W t ad n := fun hn => by
  obtain ⟨g, cap, cur, hv, hB, hc, hnc, _, _⟩ := own_get (owns_down h (Nat.zero_le _)) hn
  cases hv
  have hg := (own_lt h g rfl).1
  exact ⟨g, cur, rfl, ⟨by omega, hB.lt⟩, hB, by omega⟩
def CdW (w : World) (a : Ac) (e : Ending) (w' : World) : Prop := Fr (fun _ => False) w w' ∧ ∃ z : Zv, e = .returned z.v ∧ AK (Bt w.heap.size w'.heap.size) w' a z ∧ WrA (Bt w.heap.size w'.heap.size) w' z
set_option maxRecDepth 100000 in
set_option maxHeartbeats 8000000 in
theorem cdw_any (w : World) (a : Ac) (z : Zv) (h : AIn w a z) : Calls Try.prog 10 #[z.v] w fun e w' => CdW w a e w' := by
  have HA := hid h
  obtain ⟨hk, hn, hp, hq, hl, hf, hu⟩ := h
  have hrl := hu.rl
  have hal := hu.al
  have hun := hu.n
  have hus := hu.s
  have HF := hid hf
  have HU := hid hu
  clear hf hu
  obtain ⟨k, n, ⟨xp, xk, xa, xl, xc⟩, ⟨yn, ys, yra, yrl, yrc, yaa, yal, yac⟩⟩ := z
  obtain ⟨k', n', ⟨fp, fk, fd⟩, ⟨un, us, ur, ua⟩⟩ := a
  simp only at hk hn hp hq hl hrl hal hun hus
  subst hk hn hp hq hl hrl hal hun hus
  obtain ⟨Z0, hZ0⟩ : ∃ Z0 : Zv, Z0 = ⟨k, n, ⟨xp, xk, xa, fd.length, xc⟩, ⟨yn, ys, yra, ur.length, yrc, yaa, ua.length, yac⟩⟩ := ⟨_, rfl⟩
  have hB1 : Blk (zBox (zBox w Z0) zZ) w.heap.size 43 Z0.cs := (Blk.new w _ Z0.cs).alloc _
  have hB2 : Blk (zBox (zBox w Z0) zZ) (w.heap.size + 1) 43 zZ.cs := by
    have := Blk.new (zBox w Z0) 43 zZ.cs
    rw [World.size_alloc] at this
    exact this
  have hF0 : Fr (fun _ => False) w (zBox (zBox w Z0) zZ) := ((Fr.refl _ w).alloc _).alloc _
  have hs0 : (zBox (zBox w Z0) zZ).heap.size = w.heap.size + 1 + 1 := by rw [World.size_alloc, World.size_alloc]
  -- the bytes
  have E1 := own_empty (zBox (zBox w Z0) zZ) 5 1
  rw [hs0] at E1
  have FA1 : Fr (fun _ => False) w ((zBox (zBox w Z0) zZ).alloc (.cells #[] 5)) := hF0.alloc _
  have HE1 := hid E1
  have HS1 := hid (HF.out.src.fr FA1)
  have HL1 : Hid (0 + fd.length ≤ 140737488355328) := by have := HF.out.len; unfold Hid; simp only at this; omega
  have HB1 := hid (hB1.alloc (.cells #[] 5))
  have HB2 := hid (hB2.alloc (.cells #[] 5))
  have HFA1 := hid FA1
  have HS0 : Hid (w.heap.size + 1 + 1 ≤ ((zBox (zBox w Z0) zZ).alloc (.cells #[] 5)).heap.size) := by unfold Hid; rw [World.size_alloc]; omega
  have k4 := HB1.out.cell 4
  subst hZ0
  clear hB1 hB2 hF0 E1 FA1 hs0
  simp only [Zv.cs, List.getElem?_cons_zero, List.getElem?_cons_succ] at k4
  simp only [Zv.v, Zv.cs]
  go_enter Try.func10, Try.ntmps10
  go_wp2_with (at_builtin; refine Hid.out ?_)
  refine wpList_append_bytes (by rfl) _ _ (by rfl) (w.heap.size + 1 + 1) 0 _ [] fd xa xc (by rfl) (by rfl) HE1.out HS0.out HL1.out HS1.out ?_
  intro v1 W1 o1 g1
  rw [Nat.zero_add, List.nil_append] at o1
  obtain ⟨a1, c1, rfl⟩ := own_len o1
  have hn1 : ∀ k, k < w.heap.size + 1 + 1 → (some k : Option Nat) ≠ (Value.slice (some ⟨w.heap.size + 1 + 1, 0, none⟩) 0 0).ownBlock := fun k hk e => by simp [Value.ownBlock] at e; omega
  have b1 := HB1.out.of_eq (g1.block w.heap.size HB1.out.lt (hn1 _ (by omega)))
  have b2 := HB2.out.of_eq (g1.block (w.heap.size + 1) HB2.out.lt (hn1 _ (by omega)))
  have HF1 := hid (HFA1.out.grown g1 (fun k hk => .inr (by have := obk hk; omega)))
  have q4 := b1.cell 4
  have z4 := b1.frozen 4
  simp only [Zv.cs, List.getElem?_cons_zero, List.getElem?_cons_succ] at q4
  -- behind the first store
  have HC1 : Hid (Blk (W1.setCell ⟨w.heap.size, 4, none⟩ (.slice a1 fd.length c1)) w.heap.size 43 (Zv.cs ⟨k, n, ⟨xp, xk, a1, fd.length, c1⟩, ⟨yn, ys, yra, ur.length, yrc, yaa, ua.length, yac⟩⟩)) := b1.setCell 4 _
  have HC2 : Hid (Blk (W1.setCell ⟨w.heap.size, 4, none⟩ (.slice a1 fd.length c1)) (w.heap.size + 1) 43 zZ.cs) := b2.setCell_ne (by simp) _
  have HG1 : Hid (Fr (fun _ => False) w (W1.setCell ⟨w.heap.size, 4, none⟩ (.slice a1 fd.length c1))) := HF1.out.setCell (p := ⟨w.heap.size, 4, none⟩) (.inr (Nat.le_refl _)) _
  have HO1 : Hid ((W1.setCell ⟨w.heap.size, 4, none⟩ (.slice a1 fd.length c1)).ownsRow (w.heap.size + 1 + 1) 5 1 (.slice a1 fd.length c1) fd.length (bs fd)) := owns_of_eq o1 (fun k hk => by
    have := (own_lt o1 k hk).1
    exact Below.heap_setCell _ _ _ k (by simp; omega))
  have hsz1 : (W1.setCell ⟨w.heap.size, 4, none⟩ (.slice a1 fd.length c1)).heap.size = W1.heap.size := by simp [World.setCell]
  have E2 := own_empty (W1.setCell ⟨w.heap.size, 4, none⟩ (.slice a1 fd.length c1)) 9 1
  rw [hsz1] at E2
  have HE2 := hid E2
  have HA1 : Hid (W1.heap.size ≤ ((W1.setCell ⟨w.heap.size, 4, none⟩ (.slice a1 fd.length c1)).alloc (.cells #[] 9)).heap.size ∧ w.heap.size + 1 + 1 ≤ W1.heap.size) := ⟨by rw [World.size_alloc, hsz1]; omega, Nat.le_trans HS0.out g1.size⟩
  have HS2 := hid (HU.out.r.env (Env.of (HG1.out.alloc (.cells #[] 9))))
  have HL2 := hid HU.out.ok.r
  have HL3 := hid HU.out.ok.a
  have HZ1 := hid hsz1
  have k7 := (HC1.out.alloc (.cells #[] 9)).cell 7
  simp only [Zv.cs, List.getElem?_cons_zero, List.getElem?_cons_succ] at k7
  clear o1 g1 hn1 b1 b2 E2 k4 hsz1
  go_wp2_with (at_builtin; refine Hid.out ?_)
  refine wpList_app_S (by rfl) _ _ (by rfl) W1.heap.size _ [] ur yra yrc (by rfl) (by rfl) HE2.out HS2.out HA1.out.1 (by have := HL2.out; simpa using this) ?_
  intro v2 W2 o2 g2 _
  simp only [List.nil_append] at o2
  obtain ⟨a2, c2, rfl⟩ := own_len o2
  have hn2 : ∀ k, k < W1.heap.size → (some k : Option Nat) ≠ (Value.slice (some ⟨W1.heap.size, 0, none⟩) 0 0).ownBlock := fun k hk e => by simp [Value.ownBlock] at e; omega
  have hW1 := HA1.out.2
  have hl2 : ∀ k, k < W1.heap.size → W2.heap[k]? = (W1.setCell ⟨w.heap.size, 4, none⟩ (.slice a1 fd.length c1)).heap[k]? := fun k hk =>
    (g2.block k (by have := HA1.out.1; omega) (hn2 k hk)).trans (Below.heap_alloc _ _ k (by rw [HZ1.out]; exact hk))
  have b1 := HC1.out.of_eq (hl2 w.heap.size (by omega))
  have b2 := HC2.out.of_eq (hl2 (w.heap.size + 1) (by omega))
  have HF2 := hid ((HG1.out.alloc (.cells #[] 9)).grown g2 (fun k hk => .inr (by have := obk hk; omega)))
  have ow1 := owns_of_eq HO1.out (fun k hk => hl2 k (by have := (own_lt HO1.out k hk).2; rw [HZ1.out] at this; exact this))
  have q7 := b1.cell 7
  have z7 := b1.frozen 7
  simp only [Zv.cs, List.getElem?_cons_zero, List.getElem?_cons_succ] at q7
  have HD1 : Hid (Blk (W2.setCell ⟨w.heap.size, 7, none⟩ (.slice a2 ur.length c2)) w.heap.size 43 (Zv.cs ⟨k, n, ⟨xp, xk, a1, fd.length, c1⟩, ⟨yn, ys, a2, ur.length, c2, yaa, ua.length, yac⟩⟩)) := b1.setCell 7 _
  have HD2 : Hid (Blk (W2.setCell ⟨w.heap.size, 7, none⟩ (.slice a2 ur.length c2)) (w.heap.size + 1) 43 zZ.cs) := b2.setCell_ne (by simp) _
  have HG2 : Hid (Fr (fun _ => False) w (W2.setCell ⟨w.heap.size, 7, none⟩ (.slice a2 ur.length c2))) := HF2.out.setCell (p := ⟨w.heap.size, 7, none⟩) (.inr (Nat.le_refl _)) _
  have hsc2 : ∀ k, w.heap.size < k → (W2.setCell ⟨w.heap.size, 7, none⟩ (.slice a2 ur.length c2)).heap[k]? = W2.heap[k]? := fun k hk => Below.heap_setCell _ _ _ k (by simp; omega)
  have HO12 : Hid ((W2.setCell ⟨w.heap.size, 7, none⟩ (.slice a2 ur.length c2)).ownsRow (w.heap.size + 1 + 1) 5 1 (.slice a1 fd.length c1) fd.length (bs fd)) := owns_of_eq ow1 (fun k hk => hsc2 k (by have := (own_lt ow1 k hk).1; omega))
  have HO22 : Hid ((W2.setCell ⟨w.heap.size, 7, none⟩ (.slice a2 ur.length c2)).ownsRow W1.heap.size 9 1 (.slice a2 ur.length c2) ur.length (strC ur)) := owns_of_eq o2 (fun k hk => hsc2 k (by have := (own_lt o2 k hk).1; omega))
  have hsz2 : (W2.setCell ⟨w.heap.size, 7, none⟩ (.slice a2 ur.length c2)).heap.size = W2.heap.size := by simp [World.setCell]
  have E3 := own_empty (W2.setCell ⟨w.heap.size, 7, none⟩ (.slice a2 ur.length c2)) 9 1
  rw [hsz2] at E3
  have HE3 := hid E3
  have HA2 : Hid (W2.heap.size ≤ ((W2.setCell ⟨w.heap.size, 7, none⟩ (.slice a2 ur.length c2)).alloc (.cells #[] 9)).heap.size ∧ w.heap.size + 1 + 1 ≤ W2.heap.size ∧ W1.heap.size ≤ W2.heap.size) := ⟨by rw [World.size_alloc, hsz2]; omega, by have := g2.size; have := HA1.out.1; omega, by have := g2.size; have := HA1.out.1; omega⟩
  have HS3 := hid (HU.out.a.env (Env.of (HG2.out.alloc (.cells #[] 9))))
  have HZ2 := hid hsz2
  have k8 := (HD1.out.alloc (.cells #[] 9)).cell 8
  simp only [Zv.cs, List.getElem?_cons_zero, List.getElem?_cons_succ] at k8
  clear o2 g2 hn2 b1 b2 E3 hsz2 k7 q4 z4 ow1 hl2 hsc2 HC1 HC2
  go_wp2_with (at_builtin; refine Hid.out ?_)
  refine wpList_app_S (by rfl) _ _ (by rfl) W2.heap.size _ [] ua yaa yac (by rfl) (by rfl) HE3.out HS3.out HA2.out.1 (by have := HL3.out; simpa using this) ?_
  intro v3 W3 o3 g3 _
  simp only [List.nil_append] at o3
  obtain ⟨a3, c3, rfl⟩ := own_len o3
  have hn3 : ∀ k, k < W2.heap.size → (some k : Option Nat) ≠ (Value.slice (some ⟨W2.heap.size, 0, none⟩) 0 0).ownBlock := fun k hk e => by simp [Value.ownBlock] at e; omega
  have hW2 := HA2.out.2.1
  have hW12 := HA2.out.2.2
  have hl3 : ∀ k, k < W2.heap.size → W3.heap[k]? = (W2.setCell ⟨w.heap.size, 7, none⟩ (.slice a2 ur.length c2)).heap[k]? := fun k hk =>
    (g3.block k (by have := HA2.out.1; omega) (hn3 k hk)).trans (Below.heap_alloc _ _ k (by rw [HZ2.out]; exact hk))
  have b1 := HD1.out.of_eq (hl3 w.heap.size (by omega))
  have b2 := HD2.out.of_eq (hl3 (w.heap.size + 1) (by omega))
  have HF3 := hid ((HG2.out.alloc (.cells #[] 9)).grown g3 (fun k hk => .inr (by have := obk hk; omega)))
  have ow1 := owns_of_eq HO12.out (fun k hk => hl3 k (by have := (own_lt HO12.out k hk).2; rw [HZ2.out] at this; exact this))
  have ow2 := owns_of_eq HO22.out (fun k hk => hl3 k (by have := (own_lt HO22.out k hk).2; rw [HZ2.out] at this; exact this))
  have hB4 : Blk (W3.setCell ⟨w.heap.size, 8, none⟩ (.slice a3 ua.length c3)) w.heap.size 43 (Zv.cs ⟨k, n, ⟨xp, xk, a1, fd.length, c1⟩, ⟨yn, ys, a2, ur.length, c2, a3, ua.length, c3⟩⟩) := b1.setCell 8 _
  have HB5 : Hid (Blk (W3.setCell ⟨w.heap.size, 8, none⟩ (.slice a3 ua.length c3)) (w.heap.size + 1) 43 zZ.cs) := b2.setCell_ne (by simp) _
  have HG3 : Hid (Fr (fun _ => False) w (W3.setCell ⟨w.heap.size, 8, none⟩ (.slice a3 ua.length c3))) := HF3.out.setCell (p := ⟨w.heap.size, 8, none⟩) (.inr (Nat.le_refl _)) _
  have hsc3 : ∀ k, w.heap.size < k → (W3.setCell ⟨w.heap.size, 8, none⟩ (.slice a3 ua.length c3)).heap[k]? = W3.heap[k]? := fun k hk => Below.heap_setCell _ _ _ k (by simp; omega)
  have HO13 : Hid ((W3.setCell ⟨w.heap.size, 8, none⟩ (.slice a3 ua.length c3)).ownsRow (w.heap.size + 1 + 1) 5 1 (.slice a1 fd.length c1) fd.length (bs fd)) := owns_of_eq ow1 (fun k hk => hsc3 k (by have := (own_lt ow1 k hk).1; omega))
  have HO23 : Hid ((W3.setCell ⟨w.heap.size, 8, none⟩ (.slice a3 ua.length c3)).ownsRow (w.heap.size + 1 + 1) 9 1 (.slice a2 ur.length c2) ur.length (strC ur)) := owns_down (owns_of_eq ow2 (fun k hk => hsc3 k (by have := (own_lt ow2 k hk).1; omega))) (by omega)
  have HO33 : Hid ((W3.setCell ⟨w.heap.size, 8, none⟩ (.slice a3 ua.length c3)).ownsRow (w.heap.size + 1 + 1) 9 1 (.slice a3 ua.length c3) ua.length (strC ua)) := owns_down (owns_of_eq o3 (fun k hk => hsc3 k (by have := (own_lt o3 k hk).1; omega))) (by omega)
  have q8 := b1.cell 8
  have z8 := b1.frozen 8
  have m0 := b1.cell 0
  have m1 := b1.cell 1
  have m2 := b1.cell 2
  have m3 := b1.cell 3
  have m4 := b1.cell 4
  have m5 := b1.cell 5
  have m6 := b1.cell 6
  have m7 := b1.cell 7
  have n0 := b2.cell 0
  have n1 := b2.cell 1
  have n2 := b2.cell 2
  have n3 := b2.cell 3
  have n4 := b2.cell 4
  have n5 := b2.cell 5
  have n6 := b2.cell 6
  have n7 := b2.cell 7
  have n8 := b2.cell 8
  simp only [Zv.cs, zZ, xZ, uZ, List.getElem?_cons_zero, List.getElem?_cons_succ] at q8 m0 m1 m2 m3 m4 m5 m6 m7 n0 n1 n2 n3 n4 n5 n6 n7 n8
  have f0 := b2.frozen 0
  have f1 := b2.frozen 1
  have f2 := b2.frozen 2
  have f3 := b2.frozen 3
  have f4 := b2.frozen 4
  have f5 := b2.frozen 5
  have f6 := b2.frozen 6
  have f7 := b2.frozen 7
  have f8 := b2.frozen 8
  clear o3 g3 hn3 b1 b2 k8 q7 z7 ow1 ow2 hl3 hsc3 HD1 HD2 hB4
  go_wp2_with fail
  clear q8 z8 m0 m1 m2 m3 m4 m5 m6 m7 n0 n1 n2 n3 n4 n5 n6 n7 n8 f0 f1 f2 f3 f4 f5 f6 f7 f8
  generalize W3.setCell ⟨w.heap.size, 8, none⟩ (.slice a3 ua.length c3) = W4 at *
  have B6 : Blk (((((((((W4.setCell ⟨w.heap.size + 1, 0, none⟩ (.int .i64 k)).setCell ⟨w.heap.size + 1, 1, none⟩ (.string ⟨n.toArray⟩)).setCell ⟨w.heap.size + 1, 2, none⟩ (.string ⟨xp.toArray⟩)).setCell ⟨w.heap.size + 1, 3, none⟩ (.int .i64 xk)).setCell ⟨w.heap.size + 1, 4, none⟩ (.slice a1 fd.length c1)).setCell ⟨w.heap.size + 1, 5, none⟩ (.string ⟨yn.toArray⟩)).setCell ⟨w.heap.size + 1, 6, none⟩ (.string ⟨ys.toArray⟩)).setCell ⟨w.heap.size + 1, 7, none⟩ (.slice a2 ur.length c2)).setCell ⟨w.heap.size + 1, 8, none⟩ (.slice a3 ua.length c3)) (w.heap.size + 1) 43 (Zv.cs ⟨k, n, ⟨xp, xk, a1, fd.length, c1⟩, ⟨yn, ys, a2, ur.length, c2, a3, ua.length, c3⟩⟩) :=
    ((((((((HB5.out.setCell 0 _).setCell 1 _).setCell 2 _).setCell 3 _).setCell 4 _).setCell 5 _).setCell 6 _).setCell 7 _).setCell 8 _
  have hle : w.heap.size ≤ w.heap.size + 1 := Nat.le_succ _
  have F6 : Fr (fun _ => False) w (((((((((W4.setCell ⟨w.heap.size + 1, 0, none⟩ (.int .i64 k)).setCell ⟨w.heap.size + 1, 1, none⟩ (.string ⟨n.toArray⟩)).setCell ⟨w.heap.size + 1, 2, none⟩ (.string ⟨xp.toArray⟩)).setCell ⟨w.heap.size + 1, 3, none⟩ (.int .i64 xk)).setCell ⟨w.heap.size + 1, 4, none⟩ (.slice a1 fd.length c1)).setCell ⟨w.heap.size + 1, 5, none⟩ (.string ⟨yn.toArray⟩)).setCell ⟨w.heap.size + 1, 6, none⟩ (.string ⟨ys.toArray⟩)).setCell ⟨w.heap.size + 1, 7, none⟩ (.slice a2 ur.length c2)).setCell ⟨w.heap.size + 1, 8, none⟩ (.slice a3 ua.length c3)) :=
    ((((((((HG3.out.setCell (p := ⟨w.heap.size + 1, 0, none⟩) (.inr hle) _).setCell (p := ⟨w.heap.size + 1, 1, none⟩) (.inr hle) _).setCell (p := ⟨w.heap.size + 1, 2, none⟩) (.inr hle) _).setCell (p := ⟨w.heap.size + 1, 3, none⟩) (.inr hle) _).setCell (p := ⟨w.heap.size + 1, 4, none⟩) (.inr hle) _).setCell (p := ⟨w.heap.size + 1, 5, none⟩) (.inr hle) _).setCell (p := ⟨w.heap.size + 1, 6, none⟩) (.inr hle) _).setCell (p := ⟨w.heap.size + 1, 7, none⟩) (.inr hle) _).setCell (p := ⟨w.heap.size + 1, 8, none⟩) (.inr hle) _
  have hG : ∀ k', w.heap.size + 1 < k' → (((((((((W4.setCell ⟨w.heap.size + 1, 0, none⟩ (.int .i64 k)).setCell ⟨w.heap.size + 1, 1, none⟩ (.string ⟨n.toArray⟩)).setCell ⟨w.heap.size + 1, 2, none⟩ (.string ⟨xp.toArray⟩)).setCell ⟨w.heap.size + 1, 3, none⟩ (.int .i64 xk)).setCell ⟨w.heap.size + 1, 4, none⟩ (.slice a1 fd.length c1)).setCell ⟨w.heap.size + 1, 5, none⟩ (.string ⟨yn.toArray⟩)).setCell ⟨w.heap.size + 1, 6, none⟩ (.string ⟨ys.toArray⟩)).setCell ⟨w.heap.size + 1, 7, none⟩ (.slice a2 ur.length c2)).setCell ⟨w.heap.size + 1, 8, none⟩ (.slice a3 ua.length c3)).heap[k']? = W4.heap[k']? := fun k' hk => by
    have hne : ∀ j, k' ≠ (⟨w.heap.size + 1, j, none⟩ : Addr).block := fun j => by simp; omega
    rw [Below.heap_setCell _ _ _ k' (hne _), Below.heap_setCell _ _ _ k' (hne _), Below.heap_setCell _ _ _ k' (hne _), Below.heap_setCell _ _ _ k' (hne _), Below.heap_setCell _ _ _ k' (hne _), Below.heap_setCell _ _ _ k' (hne _), Below.heap_setCell _ _ _ k' (hne _), Below.heap_setCell _ _ _ k' (hne _), Below.heap_setCell _ _ _ k' (hne _)]
  refine bodyPost_ret (resZ rfl rfl B6) rfl ?_
  generalize (((((((((W4.setCell ⟨w.heap.size + 1, 0, none⟩ (.int .i64 k)).setCell ⟨w.heap.size + 1, 1, none⟩ (.string ⟨n.toArray⟩)).setCell ⟨w.heap.size + 1, 2, none⟩ (.string ⟨xp.toArray⟩)).setCell ⟨w.heap.size + 1, 3, none⟩ (.int .i64 xk)).setCell ⟨w.heap.size + 1, 4, none⟩ (.slice a1 fd.length c1)).setCell ⟨w.heap.size + 1, 5, none⟩ (.string ⟨yn.toArray⟩)).setCell ⟨w.heap.size + 1, 6, none⟩ (.string ⟨ys.toArray⟩)).setCell ⟨w.heap.size + 1, 7, none⟩ (.slice a2 ur.length c2)).setCell ⟨w.heap.size + 1, 8, none⟩ (.slice a3 ua.length c3)) = W6 at *
  have p1 := owns_of_eq HO13.out (fun k' hk => hG k' (by have := (own_lt HO13.out k' hk).1; omega))
  have p2 := owns_of_eq HO23.out (fun k' hk => hG k' (by have := (own_lt HO23.out k' hk).1; omega))
  have p3 := owns_of_eq HO33.out (fun k' hk => hG k' (by have := (own_lt HO33.out k' hk).1; omega))
  exact ⟨F6, ⟨k, n, ⟨xp, xk, a1, fd.length, c1⟩, ⟨yn, ys, a2, ur.length, c2, a3, ua.length, c3⟩⟩, rfl, ⟨rfl, rfl,
    ⟨rfl, rfl, rfl, ⟨src_own p1, (own_cap p1).2.1, HF.out.len, HF.out.path, HF.out.k0, HF.out.k1⟩, dn_own p1 (by omega)⟩,
    ⟨⟨rfl, rfl, rfl, rfl, strs_own p2, strs_own p3, HU.out.ok⟩, dn_own p2 (by omega), dn_own p3 (by omega)⟩⟩, ⟨wr_own p1 (by omega), wr_own p2 (by omega), wr_own p3 (by omega)⟩⟩
end Go.Proofs.Ytangnoicnogddaa.Tr
