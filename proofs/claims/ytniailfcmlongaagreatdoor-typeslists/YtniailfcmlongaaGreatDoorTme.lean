/- The contracts of mergeEqual. (Written by gen/Tme.py.) -/
import Derived.Test.YtniailfcmlongaaGreatDoorTct
import Derived.Test.YtniailfcmlongaaGreatDoorVeq
namespace Go.Proofs.YtniailfcmlongaaGreatDoor.Tr
open Go.RowKit

/-- What merging leaves: a value, or an error. -/
def MPost (w : World) (r : Vt ⊕ Int) (e : Ending) (w' : World) : Prop :=
  Fr (fun _ => False) w w' ∧ ((∃ n, r = .inr n ∧ e = .returned (.tuple #[vZ.v, .int .i64 n])) ∨ ∃ v x, r = .inl v ∧ e = .returned (.tuple #[x.v, .int .i64 0]) ∧ VIn w' v x)
/-- Values of which each is equal to the first. -/
def meq : List Vt → Vt ⊕ Int
  | [] => .inr 0
  | v :: r => if r.all (fun u => (eqV v u).1) = true then .inl v else .inr 27
theorem vin_bare {w : World} {v : Vt} {x : Vv} (h : VIn w v x) (hn : v.ns = []) (hi : v.its = []) : VIn w v ⟨x.k, x.n, x.f, x.t, none, 0, 0, none, 0, 0⟩ := by
  cases v with
  | mk k n f t ns its =>
    simp only [Vt.ns, Vt.its] at hn hi
    subst hn hi
    rw [VIn] at h ⊢
    exact ⟨h.1, h.2.1, ⟨rfl, by simp, by simp, fun e => absurd rfl e⟩, ⟨rfl, by simp, by simp⟩, by rw [IIn]; trivial⟩
theorem rest_iin {w : World} {v : Vt} {r : List Vt} {b o : Nat} (h : IIn w (v :: r) (some ⟨b, o, none⟩)) : IIn w r (some ⟨b, o + 6, none⟩) := by
  rw [IIn] at h
  obtain ⟨b', o', x, h1, h2, h3, h4⟩ := h
  simp only [Option.some.injEq, Addr.mk.injEq, and_true] at h1
  obtain ⟨rfl, rfl⟩ := h1
  exact h4

set_option maxRecDepth 100000 in
set_option maxHeartbeats 4000000 in
theorem mergeEqual_any (w : World) (v : Vt) (r : List Vt) (ad : Option Addr) (cap : Nat) (hI : IIn w (v :: r) ad) (hcap : r.length + 1 ≤ cap) (hlim : r.length + 1 ≤ 140737488351232) (hR : ∀ u ∈ v :: r, rtB u 32 = true) (hn : v.ns = []) (hi : v.its = []) :
    Calls Tryz.prog 58 #[.slice ad (r.length + 1) cap] w fun e w' => MPost w (meq (v :: r)) e w' := by
  have hst := fun (W : World) (a : Addr) (m : Mode) (f : Nat) => run_store Tryz.prog W a (.float .f64 f) m rfl
  obtain ⟨bb, bo, rfl⟩ := hI.some (by simp)
  have HI := hid (rest_iin hI)
  have h0 := hI.get 0 (by simp)
  obtain ⟨x, x1, x2⟩ := h0
  have x2' : VIn w v x := x2
  have HX := hid x2'
  have HXb := hid (vin_bare x2' hn hi)
  obtain ⟨k0, k1, k2, k3, k4, k5⟩ := (x1.env (Env.alloc w (.cells #[.int .i64 0, .int .i64 0, .float .f64 0, .string ⟨#[]⟩, .slice none 0 0, .slice none 0 0] 26))).six
  simp only [Nat.zero_mul, Nat.add_zero] at k0 k1 k2 k3 k4 k5
  have HF0 : Hid (Fr (fun _ => False) w (vBox (vBox w vZ) x)) := ((Fr.refl _ w).alloc _).alloc _
  have HB0 := hid (two_blk w vZ x)
  have HRr := hid hR
  have HT : Hid (meq (v :: r) = if r.all (fun u => (eqV v u).1) = true then .inl v else .inr 27) := rfl
  generalize meq (v :: r) = T at *
  clear hI x1 x2 x2' hR hn hi
  obtain ⟨k, n, f, t, na, nl, nc, ia, il, ic⟩ := x
  by_cases hc1 : cap = 1
  · subst hc1
    obtain rfl : r = [] := List.eq_nil_of_length_eq_zero (by omega)
    go_enter Tryz.func58, Tryz.ntmps58
    go_wp2_with fail
    go_loopw [6, 7, 8, 15] (fun _ _ _ iv wr => iv = .int .i64 0 ∧ Fr (fun _ => False) w wr ∧ Blk wr w.heap.size 26 vZ.cs ∧ Blk wr (w.heap.size + 1) 26 (Vv.cs ⟨k, n, f, t, na, nl, nc, ia, il, ic⟩)) (fun _ _ _ _ _ => 0)
    case atStart => exact ⟨rfl, HF0.out, HB0.out.1, HB0.out.2⟩
    case round =>
      obtain ⟨rfl, hF, hB1, hB2⟩ := hrel
      clear HF0 HB0 k0 k1 k2 k3 k4 k5
      have HF := hid hF
      have HB := hid (And.intro hB1 hB2)
      clear hF hB1 hB2
      have HT2 : Hid (T = .inl v) := by unfold Hid; rw [HT.out, if_pos (by simp)]
      obtain ⟨c0, c1, c2, c3, c4, c5⟩ := HB.out.2.six
      have z4 := HB.out.2.frozen 4
      have z5 := HB.out.2.frozen 5
      have HBz : Hid (Blk ((wr.setCell ⟨w.heap.size + 1, 4, none⟩ (.slice none 0 0)).setCell ⟨w.heap.size + 1, 5, none⟩ (.slice none 0 0)) w.heap.size 26 vZ.cs) := (HB.out.1.setCell_ne (by show w.heap.size ≠ w.heap.size + 1; omega) _).setCell_ne (by show w.heap.size ≠ w.heap.size + 1; omega) _
      have HFz : Hid (Fr (fun _ => False) w ((wr.setCell ⟨w.heap.size + 1, 4, none⟩ (.slice none 0 0)).setCell ⟨w.heap.size + 1, 5, none⟩ (.slice none 0 0))) := (HF.out.setCell (.inr (by show w.heap.size ≤ w.heap.size + 1; omega)) _).setCell (.inr (by show w.heap.size ≤ w.heap.size + 1; omega)) _
      clear hst
      go_wp2_with (refine wpList_storeV ⟨k, n, f, t, none, 0, 0, none, 0, 0⟩ (by rfl) _ _ (by rfl) HBz.out (by rfl) (by rfl) ?_; intro w5 b5 f5)
      have HF5 : Hid (Fr (fun _ => False) w w5) := HFz.out.trans f5 (fun j hj => .inr (by omega))
      have HV5 := hid (VIn.env (Env.of HF5.out) _ _ HXb.out)
      have HB5 := hid b5
      clear b5 f5
      go_wp2_with fail
      exact bodyPost_ret (resVE rfl rfl HB5.out) rfl ⟨HF5.out, .inr ⟨v, _, HT2.out, rfl, HV5.out⟩⟩
  · go_enter Tryz.func58, Tryz.ntmps58
    go_wp2_with fail
    go_loopw [6, 7, 8, 15] (fun _ _ _ iv wr => ∃ i : Nat, i ≤ r.length ∧ iv = .int .i64 (i : Int) ∧ (∀ j (h : j < r.length), j < i → (eqV v r[j]).1 = true) ∧ Fr (fun _ => False) w wr ∧ Blk wr w.heap.size 26 vZ.cs ∧ Blk wr (w.heap.size + 1) 26 (Vv.cs ⟨k, n, f, t, na, nl, nc, ia, il, ic⟩)) (fun _ _ _ iv _ => r.length - (intOf iv).toNat)
    case atStart => exact ⟨0, by omega, rfl, fun j _ hj => absurd hj (by omega), HF0.out, HB0.out.1, HB0.out.2⟩
    case round =>
      obtain ⟨i, hi, rfl, hA, hF, hB1, hB2⟩ := hrel
      clear HF0 HB0 k0 k1 k2 k3 k4 k5
      have HA := hid hA
      have HF := hid hF
      have HB := hid (And.intro hB1 hB2)
      clear hF hB1 hB2 hA
      by_cases hlt : i < r.length
      · have hlt' : (i : Int) < ((r.length : Nat) : Int) := by omega
        obtain ⟨y, y1, y2⟩ := HI.out.get i hlt
        obtain ⟨k0, k1, k2, k3, k4, k5⟩ := (y1.env (Env.of HF.out)).six
        obtain ⟨c0, c1, c2, c3, c4, c5⟩ := ((HB.out.2.alloc (.cells #[.int .i64 y.k, .int .i64 y.n, .float .f64 y.f, .string ⟨y.t.toArray⟩, .slice y.na y.nl y.nc, .slice y.ia y.il y.ic] 26))).six
        have HFb := hid (HF.out.trans (vFr wr y) (fun _ h => h.elim))
        have HBb := hid (And.intro (HB.out.1.alloc (.cells #[.int .i64 y.k, .int .i64 y.n, .float .f64 y.f, .string ⟨y.t.toArray⟩, .slice y.na y.nl y.nc, .slice y.ia y.il y.ic] 26)) (HB.out.2.alloc (.cells #[.int .i64 y.k, .int .i64 y.n, .float .f64 y.f, .string ⟨y.t.toArray⟩, .slice y.na y.nl y.nc, .slice y.ia y.il y.ic] 26)))
        have HC : Hid (Calls Tryz.prog 82 #[Vv.v ⟨k, n, f, t, na, nl, nc, ia, il, ic⟩, y.v] (vBox wr y) fun e w' => (∃ er : Int, e = .returned (.tuple #[.bool (eqV v r[i]).1, .int .i64 er])) ∧ Fr (fun _ => False) (vBox wr y) w') := by
          have hv1 := VIn.env (Env.of HFb.out) _ _ HX.out
          have hv2 := VIn.env (Env.of HFb.out) _ _ y2
          have h1 := HRr.out v (by simp)
          have h2 := HRr.out r[i] (by simp)
          refine (Equal_any (vBox wr y) _ y _ _ _ (right_any hv1) (right_any hv2) (fun _ _ => equal_of hv1 hv2)).mono ?_
          rintro e w' ⟨rfl, f'⟩
          rw [h1, h2]
          exact ⟨⟨_, rfl⟩, f'⟩
        have HN : Hid ((eqV v r[i]).1 = false → T = .inr 27) := fun h => by
          rw [HT.out, if_neg]
          intro ha
          have := List.all_eq_true.1 ha r[i] (List.getElem_mem hlt)
          rw [h] at this; cases this
        have HN2 : Hid ((eqV v r[i]).1 = true → ∀ j (h : j < r.length), j < i + 1 → (eqV v r[j]).1 = true) := fun h j hj hj' => by
          by_cases e : j = i
          · subst e; exact h
          · exact HA.out j hj (by omega)
        generalize (eqV v r[i]).1 = q at *
        clear y1 y2 HA HI
        obtain ⟨k', n', f', t', na', nl', nc', ia', il', ic'⟩ := y
        simp only [Vv.v] at *
        go_wp2_with fail
        refine HC.out.mono ?_
        rintro e w2 ⟨⟨er, rfl⟩, f2⟩
        have HF2 := hid (HFb.out.trans f2 (fun _ h => h.elim))
        have HB2 := hid (And.intro (f2.blk HBb.out.1 (fun h => h)) (f2.blk HBb.out.2 (fun h => h)))
        clear f2 c0 c1 c2 c3 c4 c5 k0 k1 k2 k3 k4 k5 hst
        cases q with
        | true =>
          have HE2 := hid (HN2.out rfl)
          go_wp2_with fail
          exact ⟨⟨i + 1, by omega, by first | rfl | (congr 1), HE2.out, HF2.out, HB2.out.1, HB2.out.2⟩, by simp [intOf]; omega⟩
        | false =>
          have HE2 := hid (HN.out rfl)
          go_wp2_with (refine wpList_storeV vZ (by rfl) _ _ (by rfl) HB2.out.1 (by rfl) (by rfl) ?_; intro w5 b5 f5)
          have HF5 : Hid (Fr (fun _ => False) w w5) := HF2.out.trans f5 (fun j hj => .inr (by omega))
          have HB5 := hid b5
          clear b5 f5
          go_wp2_with fail
          exact bodyPost_ret (resVE rfl rfl HB5.out) rfl ⟨HF5.out, .inl ⟨27, HE2.out, rfl⟩⟩
      · have hlt' : ¬ (i : Int) < ((r.length : Nat) : Int) := by omega
        have HAl : Hid (r.all (fun u => (eqV v u).1) = true) := List.all_eq_true.2 fun u hu => by
          obtain ⟨j, hj, rfl⟩ := List.getElem_of_mem hu
          exact HA.out j hj (by omega)
        have HT2 : Hid (T = .inl v) := by unfold Hid; rw [HT.out, if_pos HAl.out]
        obtain ⟨c0, c1, c2, c3, c4, c5⟩ := HB.out.2.six
        have z4 := HB.out.2.frozen 4
        have z5 := HB.out.2.frozen 5
        have HBz : Hid (Blk ((wr.setCell ⟨w.heap.size + 1, 4, none⟩ (.slice none 0 0)).setCell ⟨w.heap.size + 1, 5, none⟩ (.slice none 0 0)) w.heap.size 26 vZ.cs) := (HB.out.1.setCell_ne (by show w.heap.size ≠ w.heap.size + 1; omega) _).setCell_ne (by show w.heap.size ≠ w.heap.size + 1; omega) _
        have HFz : Hid (Fr (fun _ => False) w ((wr.setCell ⟨w.heap.size + 1, 4, none⟩ (.slice none 0 0)).setCell ⟨w.heap.size + 1, 5, none⟩ (.slice none 0 0))) := (HF.out.setCell (.inr (by show w.heap.size ≤ w.heap.size + 1; omega)) _).setCell (.inr (by show w.heap.size ≤ w.heap.size + 1; omega)) _
        clear hst
        go_wp2_with (refine wpList_storeV ⟨k, n, f, t, none, 0, 0, none, 0, 0⟩ (by rfl) _ _ (by rfl) HBz.out (by rfl) (by rfl) ?_; intro w5 b5 f5)
        have HF5 : Hid (Fr (fun _ => False) w w5) := HFz.out.trans f5 (fun j hj => .inr (by omega))
        have HV5 := hid (VIn.env (Env.of HF5.out) _ _ HXb.out)
        have HB5 := hid b5
        clear b5 f5
        go_wp2_with fail
        exact bodyPost_ret (resVE rfl rfl HB5.out) rfl ⟨HF5.out, .inr ⟨v, _, HT2.out, rfl, HV5.out⟩⟩
end Go.Proofs.YtniailfcmlongaaGreatDoor.Tr
