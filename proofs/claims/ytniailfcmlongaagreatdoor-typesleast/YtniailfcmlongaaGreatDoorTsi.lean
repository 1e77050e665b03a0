/- symMerge where the right side is one element. -/
import Derived.Test.YtniailfcmlongaaGreatDoorTsgM
namespace Go.Proofs.YtniailfcmlongaaGreatDoor.Tr
open Go.RowKit Go.Sort Go.Lib

set_option maxRecDepth 1000000 in
set_option maxHeartbeats 4000000 in
theorem sym_last {P : Program} {k g : Nat} (L : LyD P k) (hF : P.funcs[92]? = some Tryz.f92) (eg : ∀ args w, (callFunc g args).run P w = .ok (.enter g args) w) (hC : CmpD P g) (hk : ∀ x, (encZ x).length = k) (w : World) (blk off cap a m b : Nat) (D : Array Dz) (hH : HoldsK encZ k w blk off D) (hblk : blk < w.heap.size) (ha : a + 1 < m) (hm : b = m + 1) (hb : b ≤ D.size) (hs : D.size ≤ 1000) :
    Calls P 92 #[.slice (some ⟨blk, off, none⟩) D.size cap, .int .i64 a, .int .i64 m, .int .i64 b, .func (.func g) #[] #[]] w fun e w' => e = .returned (.tuple #[]) ∧ Fr (· = blk) w w' ∧ HoldsK encZ k w' blk off (mvD D m (m - bsc (fun h => !(ltZ D[m]! D[h]!)) a m)) := by
  have mixed := L.mixed; have t0 := L.t0; have a0 := L.a0; have z0 := L.z0; have v0 := L.v0; have t3 := L.t3; have a3 := L.a3; have z3 := L.z3; have v3 := L.v3; have t4 := L.t4; have a4 := L.a4; have z4 := L.z4; have v4 := L.v4; have tS := L.tS; have aS := L.aS; have zS := L.zS; have vS := L.vS; have tF := L.tF; have aF := L.aF; have zF := L.zF; have vF := L.vF; have aE := L.aE; have zE := L.zE; have tU := L.tU; have aU := L.aU; have zU := L.zU; have vU := L.vU
  have uS := run_underlying L.tS
  have HC : Aside _ := hC
  have HH := hid hH
  have HK : Hid (∀ x, (encZ x).length = k) := hk
  clear hH hk L hC
  have h1 : ((m : Int) - (a : Int) == 1) = false := by simp; omega
  have h2 : ((b : Int) - (m : Int) == 1) = true := by simp; omega
  have hma : a < m := by omega
  have hmb : m < b := by omega
  clear hm ha
  obtain ⟨I, hI⟩ : ∃ I, I = bsc (fun h => !(ltZ D[m]! D[h]!)) a m := ⟨_, rfl⟩
  have HI := hid hI
  have hIn : a ≤ I ∧ I ≤ m := by rw [hI]; exact bs_in _ (by omega)
  rw [← hI]
  clear hI
  go_enter hF, Tryz.ntmps92
  go_wp2_with fail
  go_loopw [14, 15, 16] (fun iv jv _ wr => ∃ i j : Nat, a ≤ i ∧ i ≤ j ∧ j ≤ m ∧ iv = .int .i64 (i : Int) ∧ jv = .int .i64 (j : Int) ∧ bsc (fun h => !(ltZ D[m]! D[h]!)) i j = I ∧ Fr (fun _ => False) w wr ∧ HoldsK encZ k wr blk off D) (fun iv jv _ _ => (intOf jv).toNat - (intOf iv).toNat)
  case atStart => exact ⟨a, m, Nat.le_refl _, by omega, Nat.le_refl _, rfl, rfl, HI.out.symm, Fr.refl _ _, HH.out⟩
  case round =>
    obtain ⟨i, j, hmi, hij, hjb, rfl, rfl, hbs, hFr, hX⟩ := hrel
    have HBs := hid hbs
    have HF := hid hFr
    have HX := hid hX
    clear hbs hFr hX
    rename World => wr
    by_cases hlt : i < j
    · have hlt' : (i : Int) < (j : Int) := by omega
      obtain ⟨h, hh⟩ : ∃ h, h = (i + j) / 2 := ⟨_, rfl⟩
      have ez : ((i : Int) + (j : Int)) / 2 = (h : Int) := by omega
      have hz : (h : Int) < ((D.size : Nat) : Int) := by omega
      have az : (m : Int) < ((D.size : Nat) : Int) := by omega
      have HN1 : Hid ((!(ltZ D[m]! D[h]!)) = true → bsc (fun h => !(ltZ D[m]! D[h]!)) (h + 1) j = I) := fun hp => by
        rw [← HBs.out, hh]; exact bs_up _ hlt (by rw [← hh]; exact hp)
      have HN2 : Hid ((!(ltZ D[m]! D[h]!)) = false → bsc (fun h => !(ltZ D[m]! D[h]!)) i h = I) := fun hp => by
        rw [← HBs.out, hh]; exact bs_down _ hlt (by rw [← hh]; exact hp)
      have hb1 : i ≤ h ∧ h < j := by omega
      have lh := ld_grown P HK.out HX.out (by have := HF.out.size; omega) h (by omega)
      have la := ld_grown P HK.out HX.out (by have := HF.out.size; omega) m (by omega)
      have hcg := fun q os => HC.out (grow (wr.drewN q) os) D[m]! D[h]!
      have HL : Hid (ltZ D[m]! D[h]! = decide (cfZ D[m]! D[h]! < 0)) := rfl
      generalize D[h]! = xh at *
      generalize D[m]! = xa at *
      by_cases hlv : cfZ xa xh < 0
      · have HB2 := hid (HN2.out (by rw [HL.out, decide_eq_true hlv]; rfl))
        have hld := decide_eq_true hlv
        clear hh hlv
        go_wp2_with fail
        go_quiet_grown (first | (go_at_fn g; refine Calls.grown_of (hcg _ _)))
        have HF2 : Hid (Fr (fun _ => False) w (grow (wr.drewN nq) osq)) := HF.out.trans (frg nq osq) (fun _ h => h.elim)
        have HX2 := hid (holds_grown HX.out (by have := HF.out.size; omega) nq osq)
        go_wp2_with fail
        exact ⟨⟨i, h, by omega, by omega, by omega, rfl, by first | rfl | (congr 1), HB2.out, HF2.out, HX2.out⟩, by simp [intOf]; omega⟩
      · have HB2 := hid (HN1.out (by rw [HL.out, decide_eq_false hlv]; rfl))
        have hld := decide_eq_false hlv
        clear hh hlv
        go_wp2_with fail
        go_quiet_grown (first | (go_at_fn g; refine Calls.grown_of (hcg _ _)))
        have HF2 : Hid (Fr (fun _ => False) w (grow (wr.drewN nq) osq)) := HF.out.trans (frg nq osq) (fun _ h => h.elim)
        have HX2 := hid (holds_grown HX.out (by have := HF.out.size; omega) nq osq)
        go_wp2_with fail
        exact ⟨⟨h + 1, j, by omega, by omega, hjb, by first | rfl | (congr 1), rfl, HB2.out, HF2.out, HX2.out⟩, by simp [intOf]; omega⟩
    · have hlt' : ¬ (i : Int) < (j : Int) := by omega
      obtain rfl : i = I := by rw [← HBs.out]; exact (bs_end _ hlt).symm
      obtain ⟨R, hR0⟩ : ∃ R, mvD D m (m - i) = R := ⟨_, rfl⟩
      have HR := hid hR0
      clear hR0
      have HFe : Hid (Fr (· = blk) w wr) := HF.out.mono (fun _ h => h.elim)
      go_wp2_with fail
      go_loopw [17] (fun qv wq => ∃ (q : Nat) (X : Array Dz), i ≤ q ∧ q ≤ m ∧ X.size = D.size ∧ qv = .int .i64 (q : Int) ∧ mvD X q (q - i) = R ∧ Fr (· = blk) w wq ∧ HoldsK encZ k wq blk off X) (fun qv _ => (intOf qv).toNat)
      case atStart => exact ⟨m, D, by omega, Nat.le_refl _, rfl, rfl, HR.out, HFe.out, HX.out⟩
      case round =>
        obtain ⟨q, X, hqi, hqm, hXs, rfl, hR, hFq, hXq⟩ := hrel
        have HRq := hid hR
        have HFq := hid hFq
        have HXq := hid hXq
        clear hR hFq hXq
        rename World => wq
        by_cases hqlt : i < q
        · obtain ⟨p, rfl⟩ : ∃ p, q = p + 1 := ⟨q - 1, by omega⟩
          have hq' : (i : Int) < (p : Int) + 1 := by omega
          have hwp : IntKind.i64.wrap (p : Int) = (p : Int) := by rw [IntKind.wrap_i64]; omega
          have h1' : (p : Int) < ((D.size : Nat) : Int) := by omega
          have h2' : (p : Int) + 1 < ((D.size : Nat) : Int) := by omega
          have e2 : ((p : Int) + 1).toNat = p + 1 := by omega
          have p0 : (0 : Int) ≤ (p : Int) + 1 := by omega
          have HN : Hid (∀ W, W = (wq.drew.setCells blk (off + (p + 1) * k) (encZ X[p]!)).setCells blk (off + p * k) (encZ X[p + 1]!) → Fr (· = blk) w W ∧ HoldsK encZ k W blk off (swp X (p + 1) p)) := fun W e => by
            have h := swap_one k HK.out wq blk off _ HXq.out (by have := HFq.out.size; omega) (p + 1) p (by omega) (by omega)
            rw [← e] at h
            exact ⟨HFq.out.trans h.1 (fun _ h => .inl h), h.2⟩
          have HR2 : Hid (mvD (swp X (p + 1) p) p (p - i) = R) := by
            unfold Hid
            rw [← HRq.out, show p + 1 - i = (p - i) + 1 by omega, mvD, Nat.add_sub_cancel]
          have hHd : HoldsK encZ k wq.drew blk off X := HXq.out
          have bnd : ∀ x, x < X.size → x * k + k ≤ X.size * k := fun x hx => by
            have := Nat.mul_le_mul_right k (show x + 1 ≤ X.size from hx); rwa [Nat.add_mul, Nat.one_mul] at this
          obtain ⟨xa, hxa⟩ : ∃ x, X[p + 1]! = x := ⟨_, rfl⟩
          obtain ⟨xb, hxb⟩ : ∃ x, X[p]! = x := ⟨_, rfl⟩
          have l1 : Sem.run P (loadCellsFrom ⟨blk, off + (p + 1) * k, none⟩ 0 k #[]) wq.drew = .ok (encZ xa).toArray wq.drew := by rw [← hxa]; exact run_loadCellsFrom_list P _ _ _ k (HK.out _) (HoldsK.cells hHd HK.out (by omega))
          have l2 : Sem.run P (loadCellsFrom ⟨blk, off + p * k, none⟩ 0 k #[]) wq.drew = .ok (encZ xb).toArray wq.drew := by rw [← hxb]; exact run_loadCellsFrom_list P _ _ _ k (HK.out _) (HoldsK.cells hHd HK.out (by omega))
          have s1 : Sem.run P (storeCells ⟨blk, off + (p + 1) * k, none⟩ (encZ xb) 0) wq.drew = .ok () (wq.drew.setCells blk (off + (p + 1) * k) (encZ xb)) := stores_of_holds P hHd ((p + 1) * k) _ (by rw [HK.out, size_flatK]; exact bnd (p + 1) (by omega)) (encZ_one _)
          have s2 : Sem.run P (storeCells ⟨blk, off + p * k, none⟩ (encZ xa) 0) (wq.drew.setCells blk (off + (p + 1) * k) (encZ xb)) = .ok () ((wq.drew.setCells blk (off + (p + 1) * k) (encZ xb)).setCells blk (off + p * k) (encZ xa)) :=
            stores_of_holds P (holds_setCells_c hHd ((p + 1) * k) _ (by rw [HK.out, size_flatK]; exact bnd (p + 1) (by omega))) (p * k) _ (by rw [HK.out, size_setMany, size_flatK]; exact bnd p (by omega)) (encZ_one _)
          have hsA : (encZ xa).length = k := HK.out _
          have hsB : (encZ xb).length = k := HK.out _
          rw [hxa, hxb] at HN
          clear hHd bnd hxa hxb
          generalize encZ xa = cA at *
          generalize encZ xb = cB at *
          go_wp2_with fail
          go_big_region_o
          all_goals go_wp2
          exact ⟨⟨p, swp X (p + 1) p, by omega, by omega, by rw [size_swp]; exact hXs, by first | rfl | (congr 1), HR2.out, (HN.out _ rfl).1, (HN.out _ rfl).2⟩, by simp [intOf]⟩
        · have hq' : ¬ (i : Int) < (q : Int) := by omega
          have HE : Hid (X = R) := by
            unfold Hid
            rw [← HRq.out, show q - i = 0 by omega]; rfl
          have HXe : Hid (HoldsK encZ k wq blk off R) := by unfold Hid; rw [← HE.out]; exact HXq.out
          go_wp2_with fail
          refine bodyPost_ret (results_none rfl _ _ _) rfl ?_
          exact ⟨rfl, HFq.out, HR.out ▸ HXe.out⟩
end Go.Proofs.YtniailfcmlongaaGreatDoor.Tr
