/- symMerge of any definitions. (Written by gen/Tsj.py.) -/
import Derived.Test.YtniailfcmlongaaGreatDoorTsi
import Derived.Deep.DeepCutAuto
namespace Go.Proofs.YtniailfcmlongaaGreatDoor.Tr
open Go.RowKit Go.Sort Go.Lib

/-- The turning, the two further merges. -/
def sy1 (m M ST : Nat) (D : Array Dz) : Array Dz := if ST < m ∧ m < M + m - ST then rot D ST m (M + m - ST) else D
def sy2 (G : Nat → Nat → Nat → Array Dz → Array Dz) (a M ST : Nat) (X : Array Dz) : Array Dz := if a < ST ∧ ST < M then G a ST M X else X
def sy3 (G : Nat → Nat → Nat → Array Dz → Array Dz) (m b M ST : Nat) (X : Array Dz) : Array Dz := if M < M + m - ST ∧ M + m - ST < b then G M (M + m - ST) b X else X
def symG (G : Nat → Nat → Nat → Array Dz → Array Dz) (a m b M ST : Nat) (D : Array Dz) : Array Dz := sy3 G m b M ST (sy2 G a M ST (sy1 m M ST D))
theorem rot_size (D : Array Dz) (a m b : Nat) : (rot D a m b).size = D.size := rotF_size _ _ _ _ _

set_option maxRecDepth 1000000 in
set_option maxHeartbeats 8000000 in
theorem sym_rec1 {P : Program} {k g : Nat} (L : LyD P k) (hF : P.funcs[92]? = some Tryz.f92) (eg : ∀ args w, (callFunc g args).run P w = .ok (.enter g args) w) (eR : ∀ args w, (callFunc 109 args).run P w = .ok (.enter 109 args) w) (eM : ∀ args w, (callFunc 92 args).run P w = .ok (.enter 92 args) w) (hC : CmpD P g) (hk : ∀ x, (encZ x).length = k) (w : World) (blk off cap a m b : Nat) (D : Array Dz) (hH : HoldsK encZ k w blk off D) (hblk : blk < w.heap.size) (ha : a < m) (hm : m < b) (hm1 : b - m ≠ 1) (hb : b ≤ D.size) (hs : D.size ≤ 1000) (M : Nat) (hM : M = (a + b) / 2) (hlo : M < m) (S R : Nat) (hS : S = (M + m - b)) (hR : R = M)
    (G : Nat → Nat → Nat → Array Dz → Array Dz) (hGs : ∀ a' m' b' X, (G a' m' b' X).size = X.size)
    (hRot : ∀ (W : World) (X : Array Dz) (p q r : Nat) (ri : Int), X.size = D.size → HoldsK encZ k W blk off X → Fr (· = blk) w W → p < q → q < r → r ≤ D.size → ri = r → Calls P 109 #[.slice (some ⟨blk, off, none⟩) D.size cap, .int .i64 p, .int .i64 q, .int .i64 ri, .func (.func g) #[] #[]] W fun e w' => e = .returned (.tuple #[]) ∧ Fr (· = blk) w w' ∧ HoldsK encZ k w' blk off (rot X p q r))
    (hSym : ∀ (W : World) (X : Array Dz) (p q r : Nat) (qi : Int), X.size = D.size → HoldsK encZ k W blk off X → Fr (· = blk) w W → p < q → q < r → r ≤ D.size → r - p < b - a → qi = q → Calls P 92 #[.slice (some ⟨blk, off, none⟩) D.size cap, .int .i64 p, .int .i64 qi, .int .i64 r, .func (.func g) #[] #[]] W fun e w' => e = .returned (.tuple #[]) ∧ Fr (· = blk) w w' ∧ HoldsK encZ k w' blk off (G p q r X)) :
    Calls P 92 #[.slice (some ⟨blk, off, none⟩) D.size cap, .int .i64 a, .int .i64 m, .int .i64 b, .func (.func g) #[] #[]] w fun e w' => e = .returned (.tuple #[]) ∧ Fr (· = blk) w w' ∧ HoldsK encZ k w' blk off (symG G a m b M (bsc (fun c => !(ltZ D[M + m - 1 - c]! D[c]!)) S R) D) := by
  have mixed := L.mixed; have t0 := L.t0; have a0 := L.a0; have z0 := L.z0; have v0 := L.v0; have t3 := L.t3; have a3 := L.a3; have z3 := L.z3; have v3 := L.v3; have t4 := L.t4; have a4 := L.a4; have z4 := L.z4; have v4 := L.v4; have tS := L.tS; have aS := L.aS; have zS := L.zS; have vS := L.vS; have tF := L.tF; have aF := L.aF; have zF := L.zF; have vF := L.vF; have aE := L.aE; have zE := L.zE; have tU := L.tU; have aU := L.aU; have zU := L.zU; have vU := L.vU
  have uS := run_underlying L.tS
  have HC : Aside _ := hC
  have HRot : Aside _ := hRot
  have HSym : Aside _ := hSym
  have HGs := hid hGs
  have HH := hid hH
  have HK : Hid (∀ x, (encZ x).length = k) := hk
  clear hH hk L hC hRot hSym hGs
  have h1 : ((m : Int) - (a : Int) == 1) = false := by simp; omega
  have h2 : ((b : Int) - (m : Int) == 1) = false := by simp; omega
  have ez : ((a : Int) + (b : Int)) / 2 = (M : Int) := by omega
  have hMb : M < b ∧ a < M := by omega
  have hlo' : (M : Int) < (m : Int) := by omega
  have eS : ((M + m : Nat) : Int) - (b : Int) = (S : Int) := by omega

  obtain ⟨NN, hNN⟩ : ∃ NN, NN = M + m := ⟨_, rfl⟩
  obtain ⟨PP, hPP⟩ : ∃ PP, PP = M + m - 1 := ⟨_, rfl⟩
  have eN : (M : Int) + (m : Int) = (NN : Int) := by omega
  have eP : (NN : Int) - 1 = (PP : Int) := by omega
  have hNl : NN ≤ 2000 := by omega
  have HPP := hid (And.intro hNN hPP)
  have hSR : a ≤ S ∧ S ≤ R ∧ R ≤ m ∧ R ≤ M := by omega
  have HXc : Hid (∀ c, S ≤ c → c < R → M + m - 1 - c < b ∧ c + 1 ≤ M + m) := fun c h1 h2 => by omega
  have HEb : Hid (∀ c, S ≤ c → c ≤ R → M + m - c ≤ b ∧ c ≤ M + m) := fun c h1 h2 => by omega
  rw [← hNN] at eS
  clear hNN hPP
  have HMS := hid (And.intro hM (And.intro hS hR))
  have HRm : Hid (R ≤ M ∧ R ≤ m) := by unfold Hid; omega
  clear hM hS hlo hm1
  obtain ⟨ST, hST⟩ : ∃ ST, ST = bsc (fun c => !(ltZ D[M + m - 1 - c]! D[c]!)) S R := ⟨_, rfl⟩
  have HI := hid hST
  have hIn : S ≤ ST ∧ ST ≤ R := by rw [hST]; exact bs_in _ (by omega)
  rw [← hST]
  clear hST hR
  go_enter hF, Tryz.ntmps92
  go_wp2_with fail
  go_loopw [20, 21, 23] (fun iv jv _ wr => ∃ i j : Nat, S ≤ i ∧ i ≤ j ∧ j ≤ R ∧ iv = .int .i64 (i : Int) ∧ jv = .int .i64 (j : Int) ∧ bsc (fun c => !(ltZ D[M + m - 1 - c]! D[c]!)) i j = ST ∧ Fr (fun _ => False) w wr ∧ HoldsK encZ k wr blk off D) (fun iv jv _ _ => (intOf jv).toNat - (intOf iv).toNat)
  case atStart => exact ⟨S, R, Nat.le_refl _, by omega, Nat.le_refl _, by first | rfl | (have := HMS.out; congr 1; omega), by first | rfl | (have := HMS.out; congr 1; omega), HI.out.symm, Fr.refl _ _, HH.out⟩
  case round =>
    obtain ⟨i, j, hmi, hij, hjb, rfl, rfl, hbs, hFr, hX⟩ := hrel
    have HBs := hid hbs
    have HF := hid hFr
    have HX := hid hX
    clear hbs hFr hX
    rename World => wr
    by_cases hlt : i < j
    · have hlt' : (i : Int) < (j : Int) := by omega
      obtain ⟨h, hh⟩ : ∃ h, h = (i + j) / 2 := ⟨_, rfl⟩
      have ez2 : ((i : Int) + (j : Int)) / 2 = (h : Int) := by omega
      have hb1 : i ≤ h ∧ h < j := by omega
      obtain ⟨x, hx⟩ : ∃ x, x = M + m - 1 - h := ⟨_, rfl⟩
      have hxc := HXc.out h (by omega) (by omega)
      have hPP := HPP.out
      have ex : (PP : Int) - (h : Int) = (x : Int) := by omega
      have hwx : IntKind.i64.wrap (x : Int) = (x : Int) := by rw [IntKind.wrap_i64]; omega
      clear hPP
      have hz : (h : Int) < ((D.size : Nat) : Int) := by omega
      have az : (x : Int) < ((D.size : Nat) : Int) := by omega
      have HN1 : Hid ((!(ltZ D[x]! D[h]!)) = true → bsc (fun c => !(ltZ D[M + m - 1 - c]! D[c]!)) (h + 1) j = ST) := fun hp => by
        rw [← HBs.out, hh]; exact bs_up _ hlt (by rw [← hh, ← hx]; exact hp)
      have HN2 : Hid ((!(ltZ D[x]! D[h]!)) = false → bsc (fun c => !(ltZ D[M + m - 1 - c]! D[c]!)) i h = ST) := fun hp => by
        rw [← HBs.out, hh]; exact bs_down _ hlt (by rw [← hh, ← hx]; exact hp)
      have lh := ld_grown P HK.out HX.out (by have := HF.out.size; omega) h (by omega)
      have la := ld_grown P HK.out HX.out (by have := HF.out.size; omega) x (by omega)
      have hcg := fun q os => HC.out (grow (wr.drewN q) os) D[x]! D[h]!
      have HL : Hid (ltZ D[x]! D[h]! = decide (cfZ D[x]! D[h]! < 0)) := rfl
      generalize D[h]! = xh at *
      generalize D[x]! = xa at *
      by_cases hlv : cfZ xa xh < 0
      · have HB2 := hid (HN2.out (by rw [HL.out, decide_eq_true hlv]; rfl))
        have hld := decide_eq_true hlv
        clear hh hlv hx hxc
        go_wp2_with fail
        go_quiet_grown (first | (go_at_fn g; refine Calls.grown_of (hcg _ _)))
        have HF2 : Hid (Fr (fun _ => False) w (grow (wr.drewN nq) osq)) := HF.out.trans (frg nq osq) (fun _ h => h.elim)
        have HX2 := hid (holds_grown HX.out (by have := HF.out.size; omega) nq osq)
        go_wp2_with fail
        exact ⟨⟨i, h, by omega, by omega, by omega, rfl, by first | rfl | (congr 1), HB2.out, HF2.out, HX2.out⟩, by simp [intOf]; omega⟩
      · have HB2 := hid (HN1.out (by rw [HL.out, decide_eq_false hlv]; rfl))
        have hld := decide_eq_false hlv
        clear hh hlv hx hxc
        go_wp2_with fail
        go_quiet_grown (first | (go_at_fn g; refine Calls.grown_of (hcg _ _)))
        have HF2 : Hid (Fr (fun _ => False) w (grow (wr.drewN nq) osq)) := HF.out.trans (frg nq osq) (fun _ h => h.elim)
        have HX2 := hid (holds_grown HX.out (by have := HF.out.size; omega) nq osq)
        go_wp2_with fail
        exact ⟨⟨h + 1, j, by omega, by omega, hjb, by first | rfl | (congr 1), rfl, HB2.out, HF2.out, HX2.out⟩, by simp [intOf]; omega⟩
    · have hlt' : ¬ (i : Int) < (j : Int) := by omega
      obtain rfl : i = ST := by rw [← HBs.out]; exact (bs_end _ hlt).symm
      obtain ⟨E, hE⟩ : ∃ E, E = M + m - i := ⟨_, rfl⟩
      have hEb := HEb.out i (by omega) (by omega)
      have eE : (NN : Int) - (i : Int) = (E : Int) := by have := HPP.out; omega
      have HE := hid hE
      have hE2 : E ≤ b := by omega
      have HFe : Hid (Fr (· = blk) w wr) := HF.out.mono (fun _ h => h.elim)
      clear hE hEb
      have HEi : Hid (M + m - i = E) := HE.out.symm
      have hx2 : m < E ↔ i < M := by have := HE.out; have := HPP.out; omega
      have hx1 : M < E ↔ i < m := by have := HE.out; have := HPP.out; omega
      have c1 : i < m := by have := HPP.out; have := HE.out; have := HMS.out; omega
      by_cases c2 : i < M
      · by_cases c3 : a < i
        · by_cases c4 : E < b
          · have g1 : (i : Int) < (m : Int) := by omega
            have g2 : (m : Int) < (E : Int) := by omega
            have g3 : (a : Int) < (i : Int) := by omega
            have g4 : (i : Int) < (M : Int) := by omega
            have g5 : (M : Int) < (E : Int) := by omega
            have g6 : (E : Int) < (b : Int) := by omega
            have HD1 : Hid (sy1 m M i D = (rot D i m E)) := by unfold Hid sy1; rw [HEi.out, if_pos (by omega)]
            have HD2 : Hid (sy2 G a M i (rot D i m E) = (G a i M (rot D i m E))) := by unfold Hid sy2; rw [if_pos (by omega)]
            have HD3 : Hid (sy3 G m b M i (G a i M (rot D i m E)) = (G M E b (G a i M (rot D i m E)))) := by unfold Hid sy3; rw [HEi.out, if_pos (by omega)]
            have HG : Hid (symG G a m b M i D = (G M E b (G a i M (rot D i m E)))) := by unfold Hid symG; rw [HD1.out, HD2.out, HD3.out]
            clear hx1 hx2
            go_wp2_with fail
            refine (HRot.out wr D i m E _ rfl HX.out HFe.out (by omega) (by omega) (by omega) rfl).mono ?_
            rintro e w1 ⟨rfl, f1, k1⟩
            have HF1 := hid f1
            have HH1 := hid k1
            clear f1 k1
            go_wp2_with fail
            refine (HSym.out w1 (rot D i m E) a i M _ (by rw [rot_size]) HH1.out HF1.out (by omega) (by omega) (by omega) (by omega) rfl).mono ?_
            rintro e w2 ⟨rfl, f2, k2⟩
            have HF2 := hid f2
            have HH2 := hid k2
            clear f2 k2
            go_wp2_with fail
            refine (HSym.out w2 (G a i M (rot D i m E)) M E b _ (by rw [HGs.out, rot_size]) HH2.out HF2.out (by omega) (by omega) (by omega) (by omega) rfl).mono ?_
            rintro e w3 ⟨rfl, f3, k3⟩
            have HF3 := hid f3
            have HH3 := hid k3
            clear f3 k3
            go_wp2_with fail
            go_end0
            exact ⟨rfl, HF3.out, by rw [HG.out]; exact HH3.out⟩
          · have g1 : (i : Int) < (m : Int) := by omega
            have g2 : (m : Int) < (E : Int) := by omega
            have g3 : (a : Int) < (i : Int) := by omega
            have g4 : (i : Int) < (M : Int) := by omega
            have g5 : (M : Int) < (E : Int) := by omega
            have g6 : ¬ (E : Int) < (b : Int) := by omega
            have HD1 : Hid (sy1 m M i D = (rot D i m E)) := by unfold Hid sy1; rw [HEi.out, if_pos (by omega)]
            have HD2 : Hid (sy2 G a M i (rot D i m E) = (G a i M (rot D i m E))) := by unfold Hid sy2; rw [if_pos (by omega)]
            have HD3 : Hid (sy3 G m b M i (G a i M (rot D i m E)) = (G a i M (rot D i m E))) := by unfold Hid sy3; rw [HEi.out, if_neg (by omega)]
            have HG : Hid (symG G a m b M i D = (G a i M (rot D i m E))) := by unfold Hid symG; rw [HD1.out, HD2.out, HD3.out]
            clear hx1 hx2
            go_wp2_with fail
            refine (HRot.out wr D i m E _ rfl HX.out HFe.out (by omega) (by omega) (by omega) rfl).mono ?_
            rintro e w1 ⟨rfl, f1, k1⟩
            have HF1 := hid f1
            have HH1 := hid k1
            clear f1 k1
            go_wp2_with fail
            refine (HSym.out w1 (rot D i m E) a i M _ (by rw [rot_size]) HH1.out HF1.out (by omega) (by omega) (by omega) (by omega) rfl).mono ?_
            rintro e w2 ⟨rfl, f2, k2⟩
            have HF2 := hid f2
            have HH2 := hid k2
            clear f2 k2
            go_wp2_with fail
            go_end0
            exact ⟨rfl, HF2.out, by rw [HG.out]; exact HH2.out⟩
        · by_cases c4 : E < b
          · have g1 : (i : Int) < (m : Int) := by omega
            have g2 : (m : Int) < (E : Int) := by omega
            have g3 : ¬ (a : Int) < (i : Int) := by omega
            have g4 : (i : Int) < (M : Int) := by omega
            have g5 : (M : Int) < (E : Int) := by omega
            have g6 : (E : Int) < (b : Int) := by omega
            have HD1 : Hid (sy1 m M i D = (rot D i m E)) := by unfold Hid sy1; rw [HEi.out, if_pos (by omega)]
            have HD2 : Hid (sy2 G a M i (rot D i m E) = (rot D i m E)) := by unfold Hid sy2; rw [if_neg (by omega)]
            have HD3 : Hid (sy3 G m b M i (rot D i m E) = (G M E b (rot D i m E))) := by unfold Hid sy3; rw [HEi.out, if_pos (by omega)]
            have HG : Hid (symG G a m b M i D = (G M E b (rot D i m E))) := by unfold Hid symG; rw [HD1.out, HD2.out, HD3.out]
            clear hx1 hx2
            go_wp2_with fail
            refine (HRot.out wr D i m E _ rfl HX.out HFe.out (by omega) (by omega) (by omega) rfl).mono ?_
            rintro e w1 ⟨rfl, f1, k1⟩
            have HF1 := hid f1
            have HH1 := hid k1
            clear f1 k1
            go_wp2_with fail
            refine (HSym.out w1 (rot D i m E) M E b _ (by rw [rot_size]) HH1.out HF1.out (by omega) (by omega) (by omega) (by omega) rfl).mono ?_
            rintro e w2 ⟨rfl, f2, k2⟩
            have HF2 := hid f2
            have HH2 := hid k2
            clear f2 k2
            go_wp2_with fail
            go_end0
            exact ⟨rfl, HF2.out, by rw [HG.out]; exact HH2.out⟩
          · have g1 : (i : Int) < (m : Int) := by omega
            have g2 : (m : Int) < (E : Int) := by omega
            have g3 : ¬ (a : Int) < (i : Int) := by omega
            have g4 : (i : Int) < (M : Int) := by omega
            have g5 : (M : Int) < (E : Int) := by omega
            have g6 : ¬ (E : Int) < (b : Int) := by omega
            have HD1 : Hid (sy1 m M i D = (rot D i m E)) := by unfold Hid sy1; rw [HEi.out, if_pos (by omega)]
            have HD2 : Hid (sy2 G a M i (rot D i m E) = (rot D i m E)) := by unfold Hid sy2; rw [if_neg (by omega)]
            have HD3 : Hid (sy3 G m b M i (rot D i m E) = (rot D i m E)) := by unfold Hid sy3; rw [HEi.out, if_neg (by omega)]
            have HG : Hid (symG G a m b M i D = (rot D i m E)) := by unfold Hid symG; rw [HD1.out, HD2.out, HD3.out]
            clear hx1 hx2
            go_wp2_with fail
            refine (HRot.out wr D i m E _ rfl HX.out HFe.out (by omega) (by omega) (by omega) rfl).mono ?_
            rintro e w1 ⟨rfl, f1, k1⟩
            have HF1 := hid f1
            have HH1 := hid k1
            clear f1 k1
            go_wp2_with fail
            go_end0
            exact ⟨rfl, HF1.out, by rw [HG.out]; exact HH1.out⟩
      · have c3 : a < i := by have := HPP.out; have := HE.out; have := HMS.out; omega
        have c4 : E < b := by have := HPP.out; have := HE.out; have := HMS.out; omega
        have g1 : (i : Int) < (m : Int) := by omega
        have g2 : ¬ (m : Int) < (E : Int) := by omega
        have g3 : (a : Int) < (i : Int) := by omega
        have g4 : ¬ (i : Int) < (M : Int) := by omega
        have g5 : (M : Int) < (E : Int) := by omega
        have g6 : (E : Int) < (b : Int) := by omega
        have HD1 : Hid (sy1 m M i D = D) := by unfold Hid sy1; rw [HEi.out, if_neg (by omega)]
        have HD2 : Hid (sy2 G a M i D = D) := by unfold Hid sy2; rw [if_neg (by omega)]
        have HD3 : Hid (sy3 G m b M i D = (G M E b D)) := by unfold Hid sy3; rw [HEi.out, if_pos (by omega)]
        have HG : Hid (symG G a m b M i D = (G M E b D)) := by unfold Hid symG; rw [HD1.out, HD2.out, HD3.out]
        clear hx1 hx2
        go_wp2_with fail
        refine (HSym.out wr D M E b _ rfl HX.out HFe.out (by omega) (by omega) (by omega) (by omega) rfl).mono ?_
        rintro e w1 ⟨rfl, f1, k1⟩
        have HF1 := hid f1
        have HH1 := hid k1
        clear f1 k1
        go_wp2_with fail
        go_end0
        exact ⟨rfl, HF1.out, by rw [HG.out]; exact HH1.out⟩

set_option maxRecDepth 1000000 in
set_option maxHeartbeats 8000000 in
theorem sym_rec2 {P : Program} {k g : Nat} (L : LyD P k) (hF : P.funcs[92]? = some Tryz.f92) (eg : ∀ args w, (callFunc g args).run P w = .ok (.enter g args) w) (eR : ∀ args w, (callFunc 109 args).run P w = .ok (.enter 109 args) w) (eM : ∀ args w, (callFunc 92 args).run P w = .ok (.enter 92 args) w) (hC : CmpD P g) (hk : ∀ x, (encZ x).length = k) (w : World) (blk off cap a m b : Nat) (D : Array Dz) (hH : HoldsK encZ k w blk off D) (hblk : blk < w.heap.size) (ha : a < m) (ha1 : m - a ≠ 1) (hm : m < b) (hm1 : b - m ≠ 1) (hb : b ≤ D.size) (hs : D.size ≤ 1000) (M : Nat) (hM : M = (a + b) / 2) (hlo : ¬ M < m) (S R : Nat) (hS : S = a) (hR : R = m)
    (G : Nat → Nat → Nat → Array Dz → Array Dz) (hGs : ∀ a' m' b' X, (G a' m' b' X).size = X.size)
    (hRot : ∀ (W : World) (X : Array Dz) (p q r : Nat) (ri : Int), X.size = D.size → HoldsK encZ k W blk off X → Fr (· = blk) w W → p < q → q < r → r ≤ D.size → ri = r → Calls P 109 #[.slice (some ⟨blk, off, none⟩) D.size cap, .int .i64 p, .int .i64 q, .int .i64 ri, .func (.func g) #[] #[]] W fun e w' => e = .returned (.tuple #[]) ∧ Fr (· = blk) w w' ∧ HoldsK encZ k w' blk off (rot X p q r))
    (hSym : ∀ (W : World) (X : Array Dz) (p q r : Nat) (qi : Int), X.size = D.size → HoldsK encZ k W blk off X → Fr (· = blk) w W → p < q → q < r → r ≤ D.size → r - p < b - a → qi = q → Calls P 92 #[.slice (some ⟨blk, off, none⟩) D.size cap, .int .i64 p, .int .i64 qi, .int .i64 r, .func (.func g) #[] #[]] W fun e w' => e = .returned (.tuple #[]) ∧ Fr (· = blk) w w' ∧ HoldsK encZ k w' blk off (G p q r X)) :
    Calls P 92 #[.slice (some ⟨blk, off, none⟩) D.size cap, .int .i64 a, .int .i64 m, .int .i64 b, .func (.func g) #[] #[]] w fun e w' => e = .returned (.tuple #[]) ∧ Fr (· = blk) w w' ∧ HoldsK encZ k w' blk off (symG G a m b M (bsc (fun c => !(ltZ D[M + m - 1 - c]! D[c]!)) S R) D) := by
  have mixed := L.mixed; have t0 := L.t0; have a0 := L.a0; have z0 := L.z0; have v0 := L.v0; have t3 := L.t3; have a3 := L.a3; have z3 := L.z3; have v3 := L.v3; have t4 := L.t4; have a4 := L.a4; have z4 := L.z4; have v4 := L.v4; have tS := L.tS; have aS := L.aS; have zS := L.zS; have vS := L.vS; have tF := L.tF; have aF := L.aF; have zF := L.zF; have vF := L.vF; have aE := L.aE; have zE := L.zE; have tU := L.tU; have aU := L.aU; have zU := L.zU; have vU := L.vU
  have uS := run_underlying L.tS
  have HC : Aside _ := hC
  have HRot : Aside _ := hRot
  have HSym : Aside _ := hSym
  have HGs := hid hGs
  have HH := hid hH
  have HK : Hid (∀ x, (encZ x).length = k) := hk
  clear hH hk L hC hRot hSym hGs
  have h1 : ((m : Int) - (a : Int) == 1) = false := by simp; omega
  have h2 : ((b : Int) - (m : Int) == 1) = false := by simp; omega
  have ez : ((a : Int) + (b : Int)) / 2 = (M : Int) := by omega
  have hMb : M < b ∧ a < M := by omega
  have hlo' : ¬ (M : Int) < (m : Int) := by omega
  obtain ⟨NN, hNN⟩ : ∃ NN, NN = M + m := ⟨_, rfl⟩
  obtain ⟨PP, hPP⟩ : ∃ PP, PP = M + m - 1 := ⟨_, rfl⟩
  have eN : (M : Int) + (m : Int) = (NN : Int) := by omega
  have eP : (NN : Int) - 1 = (PP : Int) := by omega
  have hNl : NN ≤ 2000 := by omega
  have HPP := hid (And.intro hNN hPP)
  have hSR : a ≤ S ∧ S ≤ R ∧ R ≤ m ∧ R ≤ M := by omega
  have HXc : Hid (∀ c, S ≤ c → c < R → M + m - 1 - c < b ∧ c + 1 ≤ M + m) := fun c h1 h2 => by omega
  have HEb : Hid (∀ c, S ≤ c → c ≤ R → M + m - c ≤ b ∧ c ≤ M + m) := fun c h1 h2 => by omega
  clear hNN hPP
  have HMS := hid (And.intro hM (And.intro hS hR))
  have HRm : Hid (R ≤ M ∧ R ≤ m) := by unfold Hid; omega
  clear hM hS hlo ha1 hm1
  obtain ⟨ST, hST⟩ : ∃ ST, ST = bsc (fun c => !(ltZ D[M + m - 1 - c]! D[c]!)) S R := ⟨_, rfl⟩
  have HI := hid hST
  have hIn : S ≤ ST ∧ ST ≤ R := by rw [hST]; exact bs_in _ (by omega)
  rw [← hST]
  clear hST hR
  go_enter hF, Tryz.ntmps92
  go_wp2_with fail
  go_loopw [20, 21, 23] (fun iv jv _ wr => ∃ i j : Nat, S ≤ i ∧ i ≤ j ∧ j ≤ R ∧ iv = .int .i64 (i : Int) ∧ jv = .int .i64 (j : Int) ∧ bsc (fun c => !(ltZ D[M + m - 1 - c]! D[c]!)) i j = ST ∧ Fr (fun _ => False) w wr ∧ HoldsK encZ k wr blk off D) (fun iv jv _ _ => (intOf jv).toNat - (intOf iv).toNat)
  case atStart => exact ⟨S, R, Nat.le_refl _, by omega, Nat.le_refl _, by first | rfl | (have := HMS.out; congr 1; omega), by first | rfl | (have := HMS.out; congr 1; omega), HI.out.symm, Fr.refl _ _, HH.out⟩
  case round =>
    obtain ⟨i, j, hmi, hij, hjb, rfl, rfl, hbs, hFr, hX⟩ := hrel
    have HBs := hid hbs
    have HF := hid hFr
    have HX := hid hX
    clear hbs hFr hX
    rename World => wr
    by_cases hlt : i < j
    · have hlt' : (i : Int) < (j : Int) := by omega
      obtain ⟨h, hh⟩ : ∃ h, h = (i + j) / 2 := ⟨_, rfl⟩
      have ez2 : ((i : Int) + (j : Int)) / 2 = (h : Int) := by omega
      have hb1 : i ≤ h ∧ h < j := by omega
      obtain ⟨x, hx⟩ : ∃ x, x = M + m - 1 - h := ⟨_, rfl⟩
      have hxc := HXc.out h (by omega) (by omega)
      have hPP := HPP.out
      have ex : (PP : Int) - (h : Int) = (x : Int) := by omega
      have hwx : IntKind.i64.wrap (x : Int) = (x : Int) := by rw [IntKind.wrap_i64]; omega
      clear hPP
      have hz : (h : Int) < ((D.size : Nat) : Int) := by omega
      have az : (x : Int) < ((D.size : Nat) : Int) := by omega
      have HN1 : Hid ((!(ltZ D[x]! D[h]!)) = true → bsc (fun c => !(ltZ D[M + m - 1 - c]! D[c]!)) (h + 1) j = ST) := fun hp => by
        rw [← HBs.out, hh]; exact bs_up _ hlt (by rw [← hh, ← hx]; exact hp)
      have HN2 : Hid ((!(ltZ D[x]! D[h]!)) = false → bsc (fun c => !(ltZ D[M + m - 1 - c]! D[c]!)) i h = ST) := fun hp => by
        rw [← HBs.out, hh]; exact bs_down _ hlt (by rw [← hh, ← hx]; exact hp)
      have lh := ld_grown P HK.out HX.out (by have := HF.out.size; omega) h (by omega)
      have la := ld_grown P HK.out HX.out (by have := HF.out.size; omega) x (by omega)
      have hcg := fun q os => HC.out (grow (wr.drewN q) os) D[x]! D[h]!
      have HL : Hid (ltZ D[x]! D[h]! = decide (cfZ D[x]! D[h]! < 0)) := rfl
      generalize D[h]! = xh at *
      generalize D[x]! = xa at *
      by_cases hlv : cfZ xa xh < 0
      · have HB2 := hid (HN2.out (by rw [HL.out, decide_eq_true hlv]; rfl))
        have hld := decide_eq_true hlv
        clear hh hlv hx hxc
        go_wp2_with fail
        go_quiet_grown (first | (go_at_fn g; refine Calls.grown_of (hcg _ _)))
        have HF2 : Hid (Fr (fun _ => False) w (grow (wr.drewN nq) osq)) := HF.out.trans (frg nq osq) (fun _ h => h.elim)
        have HX2 := hid (holds_grown HX.out (by have := HF.out.size; omega) nq osq)
        go_wp2_with fail
        exact ⟨⟨i, h, by omega, by omega, by omega, rfl, by first | rfl | (congr 1), HB2.out, HF2.out, HX2.out⟩, by simp [intOf]; omega⟩
      · have HB2 := hid (HN1.out (by rw [HL.out, decide_eq_false hlv]; rfl))
        have hld := decide_eq_false hlv
        clear hh hlv hx hxc
        go_wp2_with fail
        go_quiet_grown (first | (go_at_fn g; refine Calls.grown_of (hcg _ _)))
        have HF2 : Hid (Fr (fun _ => False) w (grow (wr.drewN nq) osq)) := HF.out.trans (frg nq osq) (fun _ h => h.elim)
        have HX2 := hid (holds_grown HX.out (by have := HF.out.size; omega) nq osq)
        go_wp2_with fail
        exact ⟨⟨h + 1, j, by omega, by omega, hjb, by first | rfl | (congr 1), rfl, HB2.out, HF2.out, HX2.out⟩, by simp [intOf]; omega⟩
    · have hlt' : ¬ (i : Int) < (j : Int) := by omega
      obtain rfl : i = ST := by rw [← HBs.out]; exact (bs_end _ hlt).symm
      obtain ⟨E, hE⟩ : ∃ E, E = M + m - i := ⟨_, rfl⟩
      have hEb := HEb.out i (by omega) (by omega)
      have eE : (NN : Int) - (i : Int) = (E : Int) := by have := HPP.out; omega
      have HE := hid hE
      have hE2 : E ≤ b := by omega
      have HFe : Hid (Fr (· = blk) w wr) := HF.out.mono (fun _ h => h.elim)
      clear hE hEb
      have HEi : Hid (M + m - i = E) := HE.out.symm
      have hx2 : m < E ↔ i < M := by have := HE.out; have := HPP.out; omega
      have hx1 : M < E ↔ i < m := by have := HE.out; have := HPP.out; omega
      by_cases c1 : i < m
      · have c2 : i < M := by have := HPP.out; have := HE.out; have := HMS.out; omega
        by_cases c3 : a < i
        · by_cases c4 : E < b
          · have g1 : (i : Int) < (m : Int) := by omega
            have g2 : (m : Int) < (E : Int) := by omega
            have g3 : (a : Int) < (i : Int) := by omega
            have g4 : (i : Int) < (M : Int) := by omega
            have g5 : (M : Int) < (E : Int) := by omega
            have g6 : (E : Int) < (b : Int) := by omega
            have HD1 : Hid (sy1 m M i D = (rot D i m E)) := by unfold Hid sy1; rw [HEi.out, if_pos (by omega)]
            have HD2 : Hid (sy2 G a M i (rot D i m E) = (G a i M (rot D i m E))) := by unfold Hid sy2; rw [if_pos (by omega)]
            have HD3 : Hid (sy3 G m b M i (G a i M (rot D i m E)) = (G M E b (G a i M (rot D i m E)))) := by unfold Hid sy3; rw [HEi.out, if_pos (by omega)]
            have HG : Hid (symG G a m b M i D = (G M E b (G a i M (rot D i m E)))) := by unfold Hid symG; rw [HD1.out, HD2.out, HD3.out]
            clear hx1 hx2
            go_wp2_with fail
            refine (HRot.out wr D i m E _ rfl HX.out HFe.out (by omega) (by omega) (by omega) rfl).mono ?_
            rintro e w1 ⟨rfl, f1, k1⟩
            have HF1 := hid f1
            have HH1 := hid k1
            clear f1 k1
            go_wp2_with fail
            refine (HSym.out w1 (rot D i m E) a i M _ (by rw [rot_size]) HH1.out HF1.out (by omega) (by omega) (by omega) (by omega) rfl).mono ?_
            rintro e w2 ⟨rfl, f2, k2⟩
            have HF2 := hid f2
            have HH2 := hid k2
            clear f2 k2
            go_wp2_with fail
            refine (HSym.out w2 (G a i M (rot D i m E)) M E b _ (by rw [HGs.out, rot_size]) HH2.out HF2.out (by omega) (by omega) (by omega) (by omega) rfl).mono ?_
            rintro e w3 ⟨rfl, f3, k3⟩
            have HF3 := hid f3
            have HH3 := hid k3
            clear f3 k3
            go_wp2_with fail
            go_end0
            exact ⟨rfl, HF3.out, by rw [HG.out]; exact HH3.out⟩
          · have g1 : (i : Int) < (m : Int) := by omega
            have g2 : (m : Int) < (E : Int) := by omega
            have g3 : (a : Int) < (i : Int) := by omega
            have g4 : (i : Int) < (M : Int) := by omega
            have g5 : (M : Int) < (E : Int) := by omega
            have g6 : ¬ (E : Int) < (b : Int) := by omega
            have HD1 : Hid (sy1 m M i D = (rot D i m E)) := by unfold Hid sy1; rw [HEi.out, if_pos (by omega)]
            have HD2 : Hid (sy2 G a M i (rot D i m E) = (G a i M (rot D i m E))) := by unfold Hid sy2; rw [if_pos (by omega)]
            have HD3 : Hid (sy3 G m b M i (G a i M (rot D i m E)) = (G a i M (rot D i m E))) := by unfold Hid sy3; rw [HEi.out, if_neg (by omega)]
            have HG : Hid (symG G a m b M i D = (G a i M (rot D i m E))) := by unfold Hid symG; rw [HD1.out, HD2.out, HD3.out]
            clear hx1 hx2
            go_wp2_with fail
            refine (HRot.out wr D i m E _ rfl HX.out HFe.out (by omega) (by omega) (by omega) rfl).mono ?_
            rintro e w1 ⟨rfl, f1, k1⟩
            have HF1 := hid f1
            have HH1 := hid k1
            clear f1 k1
            go_wp2_with fail
            refine (HSym.out w1 (rot D i m E) a i M _ (by rw [rot_size]) HH1.out HF1.out (by omega) (by omega) (by omega) (by omega) rfl).mono ?_
            rintro e w2 ⟨rfl, f2, k2⟩
            have HF2 := hid f2
            have HH2 := hid k2
            clear f2 k2
            go_wp2_with fail
            go_end0
            exact ⟨rfl, HF2.out, by rw [HG.out]; exact HH2.out⟩
        · by_cases c4 : E < b
          · have g1 : (i : Int) < (m : Int) := by omega
            have g2 : (m : Int) < (E : Int) := by omega
            have g3 : ¬ (a : Int) < (i : Int) := by omega
            have g4 : (i : Int) < (M : Int) := by omega
            have g5 : (M : Int) < (E : Int) := by omega
            have g6 : (E : Int) < (b : Int) := by omega
            have HD1 : Hid (sy1 m M i D = (rot D i m E)) := by unfold Hid sy1; rw [HEi.out, if_pos (by omega)]
            have HD2 : Hid (sy2 G a M i (rot D i m E) = (rot D i m E)) := by unfold Hid sy2; rw [if_neg (by omega)]
            have HD3 : Hid (sy3 G m b M i (rot D i m E) = (G M E b (rot D i m E))) := by unfold Hid sy3; rw [HEi.out, if_pos (by omega)]
            have HG : Hid (symG G a m b M i D = (G M E b (rot D i m E))) := by unfold Hid symG; rw [HD1.out, HD2.out, HD3.out]
            clear hx1 hx2
            go_wp2_with fail
            refine (HRot.out wr D i m E _ rfl HX.out HFe.out (by omega) (by omega) (by omega) rfl).mono ?_
            rintro e w1 ⟨rfl, f1, k1⟩
            have HF1 := hid f1
            have HH1 := hid k1
            clear f1 k1
            go_wp2_with fail
            refine (HSym.out w1 (rot D i m E) M E b _ (by rw [rot_size]) HH1.out HF1.out (by omega) (by omega) (by omega) (by omega) rfl).mono ?_
            rintro e w2 ⟨rfl, f2, k2⟩
            have HF2 := hid f2
            have HH2 := hid k2
            clear f2 k2
            go_wp2_with fail
            go_end0
            exact ⟨rfl, HF2.out, by rw [HG.out]; exact HH2.out⟩
          · have g1 : (i : Int) < (m : Int) := by omega
            have g2 : (m : Int) < (E : Int) := by omega
            have g3 : ¬ (a : Int) < (i : Int) := by omega
            have g4 : (i : Int) < (M : Int) := by omega
            have g5 : (M : Int) < (E : Int) := by omega
            have g6 : ¬ (E : Int) < (b : Int) := by omega
            have HD1 : Hid (sy1 m M i D = (rot D i m E)) := by unfold Hid sy1; rw [HEi.out, if_pos (by omega)]
            have HD2 : Hid (sy2 G a M i (rot D i m E) = (rot D i m E)) := by unfold Hid sy2; rw [if_neg (by omega)]
            have HD3 : Hid (sy3 G m b M i (rot D i m E) = (rot D i m E)) := by unfold Hid sy3; rw [HEi.out, if_neg (by omega)]
            have HG : Hid (symG G a m b M i D = (rot D i m E)) := by unfold Hid symG; rw [HD1.out, HD2.out, HD3.out]
            clear hx1 hx2
            go_wp2_with fail
            refine (HRot.out wr D i m E _ rfl HX.out HFe.out (by omega) (by omega) (by omega) rfl).mono ?_
            rintro e w1 ⟨rfl, f1, k1⟩
            have HF1 := hid f1
            have HH1 := hid k1
            clear f1 k1
            go_wp2_with fail
            go_end0
            exact ⟨rfl, HF1.out, by rw [HG.out]; exact HH1.out⟩
      · by_cases c2 : i < M
        · have c3 : a < i := by have := HPP.out; have := HE.out; have := HMS.out; omega
          have c4 : E < b := by have := HPP.out; have := HE.out; have := HMS.out; omega
          have g1 : ¬ (i : Int) < (m : Int) := by omega
          have g2 : (m : Int) < (E : Int) := by omega
          have g3 : (a : Int) < (i : Int) := by omega
          have g4 : (i : Int) < (M : Int) := by omega
          have g5 : ¬ (M : Int) < (E : Int) := by omega
          have g6 : (E : Int) < (b : Int) := by omega
          have HD1 : Hid (sy1 m M i D = D) := by unfold Hid sy1; rw [HEi.out, if_neg (by omega)]
          have HD2 : Hid (sy2 G a M i D = (G a i M D)) := by unfold Hid sy2; rw [if_pos (by omega)]
          have HD3 : Hid (sy3 G m b M i (G a i M D) = (G a i M D)) := by unfold Hid sy3; rw [HEi.out, if_neg (by omega)]
          have HG : Hid (symG G a m b M i D = (G a i M D)) := by unfold Hid symG; rw [HD1.out, HD2.out, HD3.out]
          clear hx1 hx2
          go_wp2_with fail
          refine (HSym.out wr D a i M _ rfl HX.out HFe.out (by omega) (by omega) (by omega) (by omega) rfl).mono ?_
          rintro e w1 ⟨rfl, f1, k1⟩
          have HF1 := hid f1
          have HH1 := hid k1
          clear f1 k1
          go_wp2_with fail
          go_end0
          exact ⟨rfl, HF1.out, by rw [HG.out]; exact HH1.out⟩
        · have c3 : a < i := by have := HPP.out; have := HE.out; have := HMS.out; omega
          have c4 : E < b := by have := HPP.out; have := HE.out; have := HMS.out; omega
          have g1 : ¬ (i : Int) < (m : Int) := by omega
          have g2 : ¬ (m : Int) < (E : Int) := by omega
          have g3 : (a : Int) < (i : Int) := by omega
          have g4 : ¬ (i : Int) < (M : Int) := by omega
          have g5 : ¬ (M : Int) < (E : Int) := by omega
          have g6 : (E : Int) < (b : Int) := by omega
          have HD1 : Hid (sy1 m M i D = D) := by unfold Hid sy1; rw [HEi.out, if_neg (by omega)]
          have HD2 : Hid (sy2 G a M i D = D) := by unfold Hid sy2; rw [if_neg (by omega)]
          have HD3 : Hid (sy3 G m b M i D = D) := by unfold Hid sy3; rw [HEi.out, if_neg (by omega)]
          have HG : Hid (symG G a m b M i D = D) := by unfold Hid symG; rw [HD1.out, HD2.out, HD3.out]
          clear hx1 hx2
          go_wp2_with fail
          go_end0
          exact ⟨rfl, HFe.out, by rw [HG.out]; exact HX.out⟩
end Go.Proofs.YtniailfcmlongaaGreatDoor.Tr
