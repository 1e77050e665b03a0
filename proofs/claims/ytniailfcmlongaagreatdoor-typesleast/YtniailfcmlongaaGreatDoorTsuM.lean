import Derived.Test.YtniailfcmlongaaGreatDoorTsj
/- symMerge at any places, by its height; then at this program. -/
namespace Go.Proofs.YtniailfcmlongaaGreatDoor.Tr
open Go.RowKit Go.Sort Go.Lib

theorem symF_rec (f a m b : Nat) (D : Array Dz) (h1 : m - a ≠ 1) (h2 : b - m ≠ 1) : symF (f + 1) a m b D = symG (symF f) a m b ((a + b) / 2) (bsc (fun c => !(ltZ D[(a + b) / 2 + m - 1 - c]! D[c]!)) (if (a + b) / 2 < m then (a + b) / 2 + m - b else a) (if (a + b) / 2 < m then (a + b) / 2 else m)) D := by
  rw [symF, if_neg h1, if_neg h2]; rfl
theorem symG_size {G : Nat → Nat → Nat → Array Dz → Array Dz} (hG : ∀ a m b X, (G a m b X).size = X.size) (a m b M ST : Nat) (D : Array Dz) : (symG G a m b M ST D).size = D.size := by
  unfold symG sy3 sy2 sy1
  split <;> split <;> split <;> simp only [hG, rot_size]
theorem symF_size : ∀ f a m b D, (symF f a m b D).size = D.size
  | 0, _, _, _, _ => rfl
  | f + 1, a, m, b, D => by
    by_cases h1 : m - a = 1
    · rw [symF, if_pos h1, mvU_size]
    · by_cases h2 : b - m = 1
      · rw [symF, if_neg h1, if_pos h2, mvD_size]
      · rw [symF_rec f a m b D h1 h2, symG_size (fun a m b X => symF_size f a m b X)]

theorem symMerge_gen {P : Program} {k g : Nat} (L : LyD P k) (hF1 : P.funcs[128]? = some Tryz.f128) (hF2 : P.funcs[109]? = some Tryz.f109) (hF : P.funcs[92]? = some Tryz.f92) (eS : ∀ args w, (callFunc 128 args).run P w = .ok (.enter 128 args) w) (eg : ∀ args w, (callFunc g args).run P w = .ok (.enter g args) w) (eR : ∀ args w, (callFunc 109 args).run P w = .ok (.enter 109 args) w) (eM : ∀ args w, (callFunc 92 args).run P w = .ok (.enter 92 args) w) (hC : CmpD P g) (hk : ∀ x, (encZ x).length = k) (blk off cap : Nat) :
    ∀ (f : Nat) (w : World) (a m b : Nat) (D : Array Dz), HoldsK encZ k w blk off D → blk < w.heap.size → a < m → m < b → b ≤ D.size → D.size ≤ 1000 → b - a ≤ f →
    Calls P 92 #[.slice (some ⟨blk, off, none⟩) D.size cap, .int .i64 a, .int .i64 m, .int .i64 b, .func (.func g) #[] #[]] w fun e w' => e = .returned (.tuple #[]) ∧ Fr (· = blk) w w' ∧ HoldsK encZ k w' blk off (symF f a m b D) := by
  intro f
  induction f with
  | zero => intro w a m b D _ _ h1 h2 _ _ h3; omega
  | succ f ih =>
    intro w a m b D hH hblk ha hm hb hs hf
    by_cases h1 : m - a = 1
    · rw [symF, if_pos h1]
      exact sym_one L hF eg hC hk w blk off cap a m b D hH hblk (by omega) hm hb hs
    · by_cases h2 : b - m = 1
      · rw [symF, if_neg h1, if_pos h2]
        exact sym_last L hF eg hC hk w blk off cap a m b D hH hblk (by omega) (by omega) hb hs
      · rw [symF_rec f a m b D h1 h2]
        have hRot : ∀ (W : World) (X : Array Dz) (p q r : Nat) (ri : Int), X.size = D.size → HoldsK encZ k W blk off X → Fr (· = blk) w W → p < q → q < r → r ≤ D.size → ri = r → Calls P 109 #[.slice (some ⟨blk, off, none⟩) D.size cap, .int .i64 p, .int .i64 q, .int .i64 ri, .func (.func g) #[] #[]] W fun e w' => e = .returned (.tuple #[]) ∧ Fr (· = blk) w w' ∧ HoldsK encZ k w' blk off (rot X p q r) := fun W X p q r ri e h fr h1 h2 h3 er => by
          subst er
          have := rotate_gen L hF1 hF2 eS hk W blk off cap p q r (.func (.func g) #[] #[]) X h (by have := fr.size; omega) h1 h2 (by omega) (by omega)
          rw [e] at this
          exact this.mono fun _ _ ⟨g1, g2, g3⟩ => ⟨g1, fr.trans g2 (fun _ h => .inl h), g3⟩
        have hSym : ∀ (W : World) (X : Array Dz) (p q r : Nat) (qi : Int), X.size = D.size → HoldsK encZ k W blk off X → Fr (· = blk) w W → p < q → q < r → r ≤ D.size → r - p < b - a → qi = q → Calls P 92 #[.slice (some ⟨blk, off, none⟩) D.size cap, .int .i64 p, .int .i64 qi, .int .i64 r, .func (.func g) #[] #[]] W fun e w' => e = .returned (.tuple #[]) ∧ Fr (· = blk) w w' ∧ HoldsK encZ k w' blk off (symF f p q r X) := fun W X p q r qi e h fr h1 h2 h3 h4 eq => by
          subst eq
          have := ih W p q r X h (by have := fr.size; omega) h1 h2 (by omega) (by omega) (by omega)
          rw [e] at this
          exact this.mono fun _ _ ⟨g1, g2, g3⟩ => ⟨g1, fr.trans g2 (fun _ h => .inl h), g3⟩
        by_cases hlo : (a + b) / 2 < m
        · rw [if_pos hlo, if_pos hlo]
          exact sym_rec1 L hF eg eR eM hC hk w blk off cap a m b D hH hblk ha hm h2 hb hs _ rfl hlo _ _ rfl rfl (symF f) (fun a' m' b' X => symF_size f a' m' b' X) hRot hSym
        · rw [if_neg hlo, if_neg hlo]
          exact sym_rec2 L hF eg eR eM hC hk w blk off cap a m b D hH hblk ha h1 hm h2 hb hs _ rfl hlo _ _ rfl rfl (symF f) (fun a' m' b' X => symF_size f a' m' b' X) hRot hSym

theorem byOrder_cmp : CmpD Tryz.prog 52 := fun W x y => by
  refine (byOrder_any W x.2 y.2).mono ?_
  rintro e w' ⟨rfl, rfl⟩
  obtain ⟨os', h⟩ := box2 W x.2 y.2
  exact ⟨rfl, 0, os', h⟩
/-- Merged: the two halves of a range. -/
def symZ (a m b : Nat) (D : Array Dz) : Array Dz := symF (b - a) a m b D
theorem symMerge_any (w : World) (blk off cap a m b : Nat) (D : Array Dz) (hH : HoldsK encZ 8 w blk off D) (hblk : blk < w.heap.size) (ha : a < m) (hm : m < b) (hb : b ≤ D.size) (hs : D.size ≤ 1000) :
    Calls Tryz.prog 92 #[.slice (some ⟨blk, off, none⟩) D.size cap, .int .i64 a, .int .i64 m, .int .i64 b, .func (.func 52) #[] #[]] w fun e w' => e = .returned (.tuple #[]) ∧ Fr (· = blk) w w' ∧ HoldsK encZ 8 w' blk off (symZ a m b D) :=
  symMerge_gen lyD Tryz.func128 Tryz.func109 Tryz.func92 (enters_of Tryz.func128 (by kernel_rfl) rfl) (enters_of Tryz.func52 (by kernel_rfl) rfl) (enters_of Tryz.func109 (by kernel_rfl) rfl) (enters_of Tryz.func92 (by kernel_rfl) rfl) byOrder_cmp encZ_len blk off cap (b - a) w a m b D hH hblk ha hm hb hs (Nat.le_refl _)
end Go.Proofs.YtniailfcmlongaaGreatDoor.Tr
/- slices.stableCmpFunc of any definitions. -/
namespace Go.Proofs.YtniailfcmlongaaGreatDoor.Tr
open Go.RowKit Go.Sort Go.Lib

/-- Blocks of twenty, sorted. -/
def insB (n : Nat) : Nat → Nat → Array Dz → Array Dz
  | 0, a, D => Sort.insertionSort (ltOf cfZ) D a n
  | f + 1, a, D => if a + 20 ≤ n then insB n f (a + 20) (Sort.insertionSort (ltOf cfZ) D a (a + 20)) else Sort.insertionSort (ltOf cfZ) D a n
/-- Two and two blocks, merged. -/
def mrgB (n s : Nat) : Nat → Nat → Array Dz → Array Dz
  | 0, a, D => if a + s < n then symZ a (a + s) n D else D
  | f + 1, a, D => if a + 2 * s ≤ n then mrgB n s f (a + 2 * s) (symZ a (a + s) (a + 2 * s) D) else if a + s < n then symZ a (a + s) n D else D
/-- Merged till one block is left. -/
def mrgs (n : Nat) : Nat → Nat → Array Dz → Array Dz
  | 0, _, D => D
  | f + 1, s, D => if s < n then mrgs n f (2 * s) (mrgB n s n 0 D) else D
def staZ (D : Array Dz) : Array Dz := mrgs D.size D.size 20 (insB D.size D.size 0 D)
theorem ins_size (D : Array Dz) (a b : Nat) (hab : a ≤ b) (hb : b ≤ D.size) : (Sort.insertionSort (ltOf cfZ) D a b).size = D.size := (ins_perm D a b hab hb).1
theorem symZ_size (a m b : Nat) (D : Array Dz) : (symZ a m b D).size = D.size := symF_size _ _ _ _ _
theorem insB_more (n : Nat) : ∀ f g a D, n ≤ a + f → n ≤ a + g → insB n f a D = insB n g a D
  | 0, 0, _, _, _, _ => rfl
  | 0, g + 1, a, D, h, _ => by rw [insB, insB, if_neg (by omega)]
  | f + 1, 0, a, D, _, h => by rw [insB, insB, if_neg (by omega)]
  | f + 1, g + 1, a, D, hf, hg => by
    rw [insB, insB]
    split
    · exact insB_more n f g _ _ (by omega) (by omega)
    · rfl
theorem mrgB_more (n s : Nat) (hs : 0 < s) : ∀ f g a D, n ≤ a + f → n ≤ a + g → mrgB n s f a D = mrgB n s g a D
  | 0, 0, _, _, _, _ => rfl
  | 0, g + 1, a, D, h, _ => by rw [mrgB, mrgB, if_neg (by omega : ¬ a + 2 * s ≤ n)]
  | f + 1, 0, a, D, _, h => by rw [mrgB, mrgB, if_neg (by omega : ¬ a + 2 * s ≤ n)]
  | f + 1, g + 1, a, D, hf, hg => by
    rw [mrgB, mrgB]
    split
    · exact mrgB_more n s hs f g _ _ (by omega) (by omega)
    · rfl
theorem mrgs_more (n : Nat) : ∀ f g s D, 0 < s → n ≤ s + f → n ≤ s + g → mrgs n f s D = mrgs n g s D
  | 0, 0, _, _, _, _, _ => rfl
  | 0, g + 1, s, D, _, h, _ => by rw [mrgs, mrgs, if_neg (by omega)]
  | f + 1, 0, s, D, _, _, h => by rw [mrgs, mrgs, if_neg (by omega)]
  | f + 1, g + 1, s, D, hs, hf, hg => by
    rw [mrgs, mrgs]
    split
    · exact mrgs_more n f g _ _ (by omega) (by omega) (by omega)
    · rfl

set_option maxRecDepth 1000000 in
set_option maxHeartbeats 8000000 in
theorem stable_any (w : World) (blk off cap : Nat) (D : Array Dz) (hH : HoldsK encZ 8 w blk off D) (hblk : blk < w.heap.size) (hs : D.size ≤ 1000) :
    Calls Tryz.prog 74 #[.slice (some ⟨blk, off, none⟩) D.size cap, .int .i64 (D.size : Int), .func (.func 52) #[] #[]] w fun e w' => e = .returned (.tuple #[]) ∧ Fr (· = blk) w w' ∧ HoldsK encZ 8 w' blk off (staZ D) := by
  have HIns : Aside (∀ (W : World) (X : Array Dz) (p q : Nat) (pi qi : Int), X.size = D.size → HoldsK encZ 8 W blk off X → Fr (· = blk) w W → p ≤ q → q ≤ D.size → pi = p → qi = q → Calls Tryz.prog 91 #[.slice (some ⟨blk, off, none⟩) D.size cap, .int .i64 pi, .int .i64 qi, .func (.func 52) #[] #[]] W fun e w' => e = .returned (.tuple #[]) ∧ Fr (· = blk) w w' ∧ HoldsK encZ 8 w' blk off (Sort.insertionSort (ltOf cfZ) X p q)) := fun W X p q pi qi e h fr h1 h2 ep eq => by
    subst ep eq
    have := ins_fr W blk off cap p q X h (by have := fr.size; omega) h1 (by omega) (by omega)
    rw [e] at this
    exact this.mono fun _ _ ⟨g1, g2, g3⟩ => ⟨g1, fr.trans g2 (fun _ h => .inl h), g3⟩
  have HSym : Aside (∀ (W : World) (X : Array Dz) (p q r : Nat) (pi qi ri : Int), X.size = D.size → HoldsK encZ 8 W blk off X → Fr (· = blk) w W → p < q → q < r → r ≤ D.size → pi = p → qi = q → ri = r → Calls Tryz.prog 92 #[.slice (some ⟨blk, off, none⟩) D.size cap, .int .i64 pi, .int .i64 qi, .int .i64 ri, .func (.func 52) #[] #[]] W fun e w' => e = .returned (.tuple #[]) ∧ Fr (· = blk) w w' ∧ HoldsK encZ 8 w' blk off (symZ p q r X)) := fun W X p q r pi qi ri e h fr h1 h2 h3 ep eq er => by
    subst ep eq er
    have := symMerge_any W blk off cap p q r X h (by have := fr.size; omega) h1 h2 (by omega) (by omega)
    rw [e] at this
    exact this.mono fun _ _ ⟨g1, g2, g3⟩ => ⟨g1, fr.trans g2 (fun _ h => .inl h), g3⟩
  have HH := hid hH
  have HR : Hid (staZ D = mrgs D.size D.size 20 (insB D.size D.size 0 D)) := rfl
  generalize staZ D = R at *
  clear hH
  go_enter Tryz.func74, Tryz.ntmps74
  go_wp2_with fail
  go_loopw [7, 8] (fun av bv wr => ∃ (a : Nat) (X : Array Dz), a ≤ D.size ∧ X.size = D.size ∧ av = .int .i64 (a : Int) ∧ bv = .int .i64 ((a : Int) + 20) ∧ mrgs D.size D.size 20 (insB D.size D.size a X) = R ∧ Fr (· = blk) w wr ∧ HoldsK encZ 8 wr blk off X) (fun av _ _ => D.size - (intOf av).toNat)
  case atStart => exact ⟨0, D, Nat.zero_le _, rfl, rfl, rfl, HR.out.symm, Fr.refl _ _, HH.out⟩
  case round =>
    obtain ⟨a, X, had, hXs, rfl, rfl, hm, hFr, hX⟩ := hrel
    have HM := hid hm
    have HF := hid hFr
    have HX := hid hX
    clear hm hFr hX
    rename World => wr
    by_cases hle : a + 20 ≤ D.size
    · have hle' : (a : Int) + 20 ≤ ((D.size : Nat) : Int) := by omega
      have HM2 : Hid (mrgs D.size D.size 20 (insB D.size D.size (a + 20) (Sort.insertionSort (ltOf cfZ) X a (a + 20))) = R) := by
        unfold Hid
        rw [← HM.out]
        congr 1
        obtain ⟨f, hf⟩ : ∃ f, D.size = f + 1 := ⟨D.size - 1, by omega⟩
        rw [insB_more D.size D.size f (a + 20) _ (by omega) (by omega), insB_more D.size D.size (f + 1) a X (by omega) (by omega), insB, if_pos hle]
      have hsz := ins_size X a (a + 20) (by omega) (by omega)
      go_wp2_with fail
      refine (HIns.out wr X a (a + 20) _ _ hXs HX.out HF.out (by omega) (by omega) rfl (by omega)).mono ?_
      rintro e w1 ⟨rfl, f1, k1⟩
      have HF1 := hid f1
      have HH1 := hid k1
      clear f1 k1
      go_wp2_with fail
      exact ⟨⟨a + 20, _, by omega, hsz.trans hXs, by first | rfl | (congr 1), by first | rfl | (congr 1; omega) | (congr 1), HM2.out, HF1.out, HH1.out⟩, by simp [intOf]; omega⟩
    · have hle' : ¬ (a : Int) + 20 ≤ ((D.size : Nat) : Int) := by omega
      have HM2 : Hid (mrgs D.size D.size 20 (Sort.insertionSort (ltOf cfZ) X a D.size) = R) := by
        unfold Hid
        rw [← HM.out]
        congr 1
        rw [insB_more D.size D.size (D.size + 1) a X (by omega) (by omega), insB, if_neg hle]
      have hsz := ins_size X a D.size (by omega) (by omega)
      go_wp2_with fail
      refine (HIns.out wr X a D.size _ _ hXs HX.out HF.out (by omega) (by omega) rfl rfl).mono ?_
      rintro e w1 ⟨rfl, f1, k1⟩
      have HF1 := hid f1
      have HH1 := hid k1
      clear f1 k1
      obtain ⟨Y, hY⟩ : ∃ Y, Y = Sort.insertionSort (ltOf cfZ) X a D.size := ⟨_, rfl⟩
      rw [← hY] at HM2 HH1 hsz
      have hYs : Y.size = D.size := hsz.trans hXs
      clear hY hsz HM HX HF
      go_wp2_with fail
      go_loopw [6, 7, 8, 9] (fun sv _ _ _ wr => ∃ (s : Nat) (Z : Array Dz), 0 < s ∧ s ≤ 2000 ∧ Z.size = D.size ∧ sv = .int .i64 (s : Int) ∧ mrgs D.size D.size s Z = R ∧ Fr (· = blk) w wr ∧ HoldsK encZ 8 wr blk off Z) (fun sv _ _ _ _ => D.size - (intOf sv).toNat)
      case atStart => exact ⟨20, Y, by omega, by omega, hYs, rfl, HM2.out, HF1.out, HH1.out⟩
      case round =>
        obtain ⟨s, Z, hs0, hs2, hZs, rfl, hm, hFr, hZ⟩ := hrel
        have HMo := hid hm
        have HFo := hid hFr
        have HZo := hid hZ
        clear hm hFr hZ HM2 HF1 HH1 hYs
        rename World => wo
        by_cases hsn : s < D.size
        · have hsn' : (s : Int) < ((D.size : Nat) : Int) := by omega
          have HMi : Hid (mrgs D.size D.size (2 * s) (mrgB D.size s D.size 0 Z) = R) := by
            unfold Hid
            rw [← HMo.out]
            obtain ⟨f, hf⟩ : ∃ f, D.size = f + 1 := ⟨D.size - 1, by omega⟩
            rw [mrgs_more D.size D.size f (2 * s) _ (by omega) (by omega) (by omega), mrgs_more D.size D.size (f + 1) s Z hs0 (by omega) (by omega), mrgs, if_pos hsn]
          go_wp2_with fail
          go_loopw [7, 8] (fun av bv wi => ∃ (a : Nat) (V : Array Dz), a ≤ D.size ∧ V.size = D.size ∧ av = .int .i64 (a : Int) ∧ bv = .int .i64 ((a : Int) + 2 * (s : Int)) ∧ mrgs D.size D.size (2 * s) (mrgB D.size s D.size a V) = R ∧ Fr (· = blk) w wi ∧ HoldsK encZ 8 wi blk off V) (fun av _ _ => D.size - (intOf av).toNat)
          case atStart => exact ⟨0, Z, Nat.zero_le _, hZs, rfl, by first | rfl | (congr 1; omega), HMi.out, HFo.out, HZo.out⟩
          case round =>
            obtain ⟨c, V, hcd, hVs, rfl, rfl, hm, hFr, hV⟩ := hrel
            have HMc := hid hm
            have HFc := hid hFr
            have HVc := hid hV
            clear hm hFr hV HMi HFo HZo HMo
            rename World => wi
            by_cases hc : c + 2 * s ≤ D.size
            · have hc' : (c : Int) + 2 * (s : Int) ≤ ((D.size : Nat) : Int) := by omega
              have HM3 : Hid (mrgs D.size D.size (2 * s) (mrgB D.size s D.size (c + 2 * s) (symZ c (c + s) (c + 2 * s) V)) = R) := by
                unfold Hid
                rw [← HMc.out]
                congr 1
                obtain ⟨f, hf⟩ : ∃ f, D.size = f + 1 := ⟨D.size - 1, by omega⟩
                rw [mrgB_more D.size s hs0 D.size f (c + 2 * s) _ (by omega) (by omega), mrgB_more D.size s hs0 D.size (f + 1) c V (by omega) (by omega), mrgB, if_pos hc]
              have hsz := symZ_size c (c + s) (c + 2 * s) V
              go_wp2_with fail
              refine (HSym.out wi V c (c + s) (c + 2 * s) _ _ _ hVs HVc.out HFc.out (by omega) (by omega) (by omega) rfl (by omega) (by omega)).mono ?_
              rintro e w2 ⟨rfl, f2, k2⟩
              have HF2 := hid f2
              have HH2 := hid k2
              clear f2 k2
              go_wp2_with fail
              exact ⟨⟨c + 2 * s, _, by omega, hsz.trans hVs, by first | rfl | (congr 1; omega) | (congr 1), by first | rfl | (congr 1; omega) | (congr 1), HM3.out, HF2.out, HH2.out⟩, by simp [intOf]; omega⟩
            · have hc' : ¬ (c : Int) + 2 * (s : Int) ≤ ((D.size : Nat) : Int) := by omega
              by_cases hcs : c + s < D.size
              · have hcs' : (c : Int) + (s : Int) < ((D.size : Nat) : Int) := by omega
                have HM3 : Hid (mrgs D.size D.size (2 * s) (symZ c (c + s) D.size V) = R) := by
                  unfold Hid
                  rw [← HMc.out]
                  congr 1
                  rw [mrgB_more D.size s hs0 D.size (D.size + 1) c V (by omega) (by omega), mrgB, if_neg hc, if_pos hcs]
                have hsz := symZ_size c (c + s) D.size V
                go_wp2_with fail
                refine (HSym.out wi V c (c + s) D.size _ _ _ hVs HVc.out HFc.out (by omega) (by omega) (by omega) rfl (by omega) rfl).mono ?_
                rintro e w2 ⟨rfl, f2, k2⟩
                have HF2 := hid f2
                have HH2 := hid k2
                clear f2 k2
                go_wp2_with fail
                exact ⟨⟨2 * s, _, by omega, by omega, hsz.trans hVs, by congr 1; omega, HM3.out, HF2.out, HH2.out⟩, by simp [intOf]; omega⟩
              · have hcs' : ¬ (c : Int) + (s : Int) < ((D.size : Nat) : Int) := by omega
                have HM3 : Hid (mrgs D.size D.size (2 * s) V = R) := by
                  unfold Hid
                  rw [← HMc.out]
                  congr 1
                  rw [mrgB_more D.size s hs0 D.size (D.size + 1) c V (by omega) (by omega), mrgB, if_neg hc, if_neg hcs]
                go_wp2_with fail
                exact ⟨⟨2 * s, V, by omega, by omega, hVs, by congr 1; omega, HM3.out, HFc.out, HVc.out⟩, by simp [intOf]; omega⟩
        · have hsn' : ¬ (s : Int) < ((D.size : Nat) : Int) := by omega
          have HE : Hid (Z = R) := by
            unfold Hid
            rw [← HMo.out]
            cases hz : D.size with
            | zero => rfl
            | succ f => rw [mrgs, if_neg (by omega)]
          have HZe : Hid (HoldsK encZ 8 wo blk off R) := by unfold Hid; rw [← HE.out]; exact HZo.out
          go_wp2_with fail
          go_end0
          exact ⟨rfl, HFo.out, HZe.out⟩

set_option maxRecDepth 100000 in
set_option maxHeartbeats 4000000 in
theorem sort_any (w : World) (blk off cap : Nat) (D : Array Dz) (hH : HoldsK encZ 8 w blk off D) (hblk : blk < w.heap.size) (hs : D.size ≤ 1000) :
    Calls Tryz.prog 51 #[.slice (some ⟨blk, off, none⟩) D.size cap, .func (.func 52) #[] #[]] w fun e w' => e = .returned (.tuple #[]) ∧ Fr (· = blk) w w' ∧ HoldsK encZ 8 w' blk off (staZ D) := by
  have HC := hid (stable_any w blk off cap D hH hblk hs)
  generalize staZ D = D' at *
  clear hH
  generalize D.size = N at *
  go_enter Tryz.func51, Tryz.ntmps51
  go_wp2_with fail
  refine HC.out.mono ?_
  rintro e w1 ⟨rfl, hF, hH⟩
  have HF := hid hF
  have HH := hid hH
  clear hF hH
  go_wp2_with fail
  go_end0
  exact ⟨rfl, HF.out, HH.out⟩
end Go.Proofs.YtniailfcmlongaaGreatDoor.Tr
/- The stable sort only moves elements. -/
namespace Go.Proofs.YtniailfcmlongaaGreatDoor.Tr
open Go.RowKit Go.Sort Go.Lib

theorem pm_trans {a b : Nat} {D E F : Array Dz} (h1 : PermIn a b D E) (h2 : PermIn a b E F) : PermIn a b D F := permIn_trans D E F a b h1 h2
theorem swr_pm (D : Array Dz) (a b lo hi : Nat) (hb : hi ≤ D.size) : ∀ n, lo ≤ a → lo ≤ b → a + n ≤ hi → b + n ≤ hi → PermIn lo hi D (swr D a b n)
  | 0, _, _, _, _ => permIn_refl D lo hi
  | n + 1, h1, h2, h3, h4 => by
    rw [swr]
    exact pm_trans (swr_pm D a b lo hi hb n h1 h2 (by omega) (by omega)) (swp_permIn _ lo hi _ _ (by omega) (by omega) (by omega) (by omega) (by rw [swr_size]; exact hb))
theorem rotF_pm (m lo hi : Nat) : ∀ f i j D, hi ≤ D.size → i ≤ m → lo ≤ m - i → m + j ≤ hi → PermIn lo hi D (rotF m f i j D)
  | 0, _, _, D, _, _, _, _ => permIn_refl D lo hi
  | f + 1, i, j, D, hb, h1, h2, h3 => by
    rw [rotF]
    split
    · exact swr_pm D _ _ lo hi hb i (by omega) (by omega) (by omega) (by omega)
    · split
      · exact pm_trans (swr_pm D _ _ lo hi hb j (by omega) (by omega) (by omega) (by omega)) (rotF_pm m lo hi f _ _ _ (by rw [swr_size]; exact hb) (by omega) (by omega) (by omega))
      · exact pm_trans (swr_pm D _ _ lo hi hb i (by omega) (by omega) (by omega) (by omega)) (rotF_pm m lo hi f _ _ _ (by rw [swr_size]; exact hb) (by omega) (by omega) (by omega))
theorem rot_pm (D : Array Dz) (a m b lo hi : Nat) (h1 : a ≤ m) (h2 : m ≤ b) (h3 : lo ≤ a) (h4 : b ≤ hi) (hb : hi ≤ D.size) : PermIn lo hi D (rot D a m b) := rotF_pm m lo hi _ _ _ D hb (by omega) (by omega) (by omega)
theorem mvU_pm (lo hi : Nat) : ∀ n (D : Array Dz) k, hi ≤ D.size → lo ≤ k → k + n < hi → PermIn lo hi D (mvU D k n)
  | 0, D, _, _, _, _ => permIn_refl D lo hi
  | n + 1, D, k, hb, h1, h2 => by
    rw [mvU]
    exact pm_trans (swp_permIn D lo hi k (k + 1) h1 (by omega) (by omega) (by omega) hb) (mvU_pm lo hi n _ _ (by rw [size_swp]; exact hb) (by omega) (by omega))
theorem mvD_pm (lo hi : Nat) : ∀ n (D : Array Dz) k, hi ≤ D.size → lo + n ≤ k → k < hi → PermIn lo hi D (mvD D k n)
  | 0, D, _, _, _, _ => permIn_refl D lo hi
  | n + 1, D, k, hb, h1, h2 => by
    rw [mvD]
    exact pm_trans (swp_permIn D lo hi k (k - 1) (by omega) h2 (by omega) (by omega) hb) (mvD_pm lo hi n _ _ (by rw [size_swp]; exact hb) (by omega) (by omega))
theorem symF_pm (lo hi : Nat) : ∀ f a m b D, hi ≤ D.size → lo ≤ a → a < m → m < b → b ≤ hi → PermIn lo hi D (symF f a m b D)
  | 0, _, _, _, D, _, _, _, _, _ => permIn_refl D lo hi
  | f + 1, a, m, b, D, hb, h1, h2, h3, h4 => by
    by_cases g1 : m - a = 1
    · rw [symF, if_pos g1]
      have hi := bs_in (fun h => ltZ D[h]! D[a]!) (show m ≤ b by omega)
      exact mvU_pm lo _ _ D a hb h1 (by omega)
    · by_cases g2 : b - m = 1
      · rw [symF, if_neg g1, if_pos g2]
        have hi := bs_in (fun h => !(ltZ D[m]! D[h]!)) (show a ≤ m by omega)
        exact mvD_pm lo _ _ D m hb (by omega) (by omega)
      · rw [symF_rec f a m b D g1 g2]
        obtain ⟨M, hM⟩ : ∃ M, M = (a + b) / 2 := ⟨_, rfl⟩
        rw [← hM]
        have hin : a ≤ bsc (fun c => !(ltZ D[M + m - 1 - c]! D[c]!)) (if M < m then M + m - b else a) (if M < m then M else m) ∧ bsc (fun c => !(ltZ D[M + m - 1 - c]! D[c]!)) (if M < m then M + m - b else a) (if M < m then M else m) ≤ M ∧ bsc (fun c => !(ltZ D[M + m - 1 - c]! D[c]!)) (if M < m then M + m - b else a) (if M < m then M else m) ≤ m ∧ M + m - bsc (fun c => !(ltZ D[M + m - 1 - c]! D[c]!)) (if M < m then M + m - b else a) (if M < m then M else m) ≤ b := by
          by_cases hlo : M < m
          · rw [if_pos hlo, if_pos hlo]
            have := bs_in (fun c => !(ltZ D[M + m - 1 - c]! D[c]!)) (show M + m - b ≤ M by omega)
            omega
          · rw [if_neg hlo, if_neg hlo]
            have := bs_in (fun c => !(ltZ D[M + m - 1 - c]! D[c]!)) (show a ≤ m by omega)
            omega
        generalize bsc (fun c => !(ltZ D[M + m - 1 - c]! D[c]!)) (if M < m then M + m - b else a) (if M < m then M else m) = ST at *
        unfold symG
        have p1 : PermIn lo hi D (sy1 m M ST D) := by
          unfold sy1
          split
          · exact rot_pm D _ _ _ lo hi (by omega) (by omega) (by omega) (by omega) hb
          · exact permIn_refl D lo hi
        have s1 : (sy1 m M ST D).size = D.size := by unfold sy1; split <;> simp only [rot_size]
        generalize sy1 m M ST D = D1 at *
        have p2 : PermIn lo hi D1 (sy2 (symF f) a M ST D1) := by
          unfold sy2
          split
          · exact symF_pm lo hi f a ST M D1 (by omega) (by omega) (by omega) (by omega) (by omega)
          · exact permIn_refl D1 lo hi
        have s2 : (sy2 (symF f) a M ST D1).size = D1.size := by unfold sy2; split <;> simp only [symF_size]
        generalize sy2 (symF f) a M ST D1 = D2 at *
        refine pm_trans p1 (pm_trans p2 ?_)
        unfold sy3
        split
        · exact symF_pm lo hi f M _ b D2 (by omega) (by omega) (by omega) (by omega) (by omega)
        · exact permIn_refl D2 lo hi
theorem insB_pm (n : Nat) : ∀ f a D, n ≤ D.size → a ≤ n → PermIn 0 n D (insB n f a D)
  | 0, a, D, hn, ha => permIn_mono D _ a n 0 n (Nat.zero_le _) (Nat.le_refl _) hn (ins_perm D a n ha hn)
  | f + 1, a, D, hn, ha => by
    rw [insB]
    split
    · exact pm_trans (permIn_mono D _ a (a + 20) 0 n (Nat.zero_le _) (by omega) hn (ins_perm D a (a + 20) (by omega) (by omega))) (insB_pm n f _ _ (by rw [ins_size D a (a + 20) (by omega) (by omega)]; exact hn) (by omega))
    · exact permIn_mono D _ a n 0 n (Nat.zero_le _) (Nat.le_refl _) hn (ins_perm D a n ha hn)
theorem mrgB_pm (n s : Nat) (hs : 0 < s) : ∀ f a D, n ≤ D.size → PermIn 0 n D (mrgB n s f a D)
  | 0, a, D, hn => by
    rw [mrgB]
    split
    · exact symF_pm 0 n _ a _ n D hn (Nat.zero_le _) (by omega) (by omega) (Nat.le_refl _)
    · exact permIn_refl D 0 n
  | f + 1, a, D, hn => by
    rw [mrgB]
    split
    · exact pm_trans (symF_pm 0 n _ a _ _ D hn (Nat.zero_le _) (by omega) (by omega) (by omega)) (mrgB_pm n s hs f _ _ (by rw [symF_size]; exact hn))
    · split
      · exact symF_pm 0 n _ a _ n D hn (Nat.zero_le _) (by omega) (by omega) (Nat.le_refl _)
      · exact permIn_refl D 0 n
theorem mrgs_pm (n : Nat) : ∀ f s D, 0 < s → n ≤ D.size → PermIn 0 n D (mrgs n f s D)
  | 0, _, D, _, _ => permIn_refl D 0 n
  | f + 1, s, D, hs, hn => by
    rw [mrgs]
    split
    · exact pm_trans (mrgB_pm n s hs n 0 D hn) (mrgs_pm n f _ _ (by omega) (by rw [(mrgB_pm n s hs n 0 D hn).1]; exact hn))
    · exact permIn_refl D 0 n
theorem staZ_pm (D : Array Dz) : PermIn 0 D.size D (staZ D) := pm_trans (insB_pm D.size D.size 0 D (Nat.le_refl _) (Nat.zero_le _)) (mrgs_pm D.size D.size 20 _ (by decide) (by rw [(insB_pm D.size D.size 0 D (Nat.le_refl _) (Nat.zero_le _)).1]; exact Nat.le_refl _))
theorem staZ_size (D : Array Dz) : (staZ D).size = D.size := (staZ_pm D).1
theorem staZ_mem (D : Array Dz) : (staZ D).toList.Perm D.toList := by
  have h := (staZ_pm D).2.2
  have e1 : (staZ D).extract 0 D.size = staZ D := by rw [← staZ_size D]; exact Array.extract_size
  have e2 : D.extract 0 D.size = D := Array.extract_size
  rw [e1, e2] at h
  exact h
end Go.Proofs.YtniailfcmlongaaGreatDoor.Tr
/- What the search finds, and where the turning puts each element. -/
namespace Go.Proofs.YtniailfcmlongaaGreatDoor.Tr
open Go.RowKit Go.Sort Go.Lib

/-- Where what holds first and then no more is searched, the border is found. -/
theorem bsF_border (p : Nat → Bool) : ∀ f i j, j ≤ i + f → i ≤ j → (∀ x y, i ≤ x → x ≤ y → y < j → p y = true → p x = true) → (∀ x, i ≤ x → x < bsF p f i j → p x = true) ∧ ∀ x, bsF p f i j ≤ x → x < j → p x = false
  | 0, i, j, h1, h2, _ => ⟨fun x h h' => absurd h' (by rw [bsF]; omega), fun x h h' => absurd h' (by rw [bsF] at h; omega)⟩
  | f + 1, i, j, h1, h2, hm => by
    rw [bsF]
    by_cases hlt : i < j
    · rw [if_pos hlt]
      by_cases hp : p ((i + j) / 2) = true
      · rw [if_pos hp]
        have ih := bsF_border p f ((i + j) / 2 + 1) j (by omega) (by omega) (fun x y a b c d => hm x y (by omega) b c d)
        refine ⟨fun x a b => ?_, ih.2⟩
        by_cases hx : x ≤ (i + j) / 2
        · exact hm x _ a hx (by omega) hp
        · exact ih.1 x (by omega) b
      · rw [if_neg hp]
        have ih := bsF_border p f i ((i + j) / 2) (by omega) (by omega) (fun x y a b c d => hm x y a b (by omega) d)
        refine ⟨ih.1, fun x a b => ?_⟩
        by_cases hx : x < (i + j) / 2
        · exact ih.2 x a hx
        · cases hq : p x with
          | false => rfl
          | true => exact absurd (hm _ x (by omega) (by omega) b hq) hp
    · rw [if_neg hlt]
      exact ⟨fun x a b => absurd b (by omega), fun x a b => absurd b (by omega)⟩
theorem bsc_border (p : Nat → Bool) {i j : Nat} (h : i ≤ j) (hm : ∀ x y, i ≤ x → x ≤ y → y < j → p y = true → p x = true) : (∀ x, i ≤ x → x < bsc p i j → p x = true) ∧ ∀ x, bsc p i j ≤ x → x < j → p x = false := bsF_border p _ i j (by omega) h hm

/-- Where an element of the exchanged ranges was. -/
def swI (a b n x : Nat) : Nat := if a ≤ x ∧ x < a + n then b + (x - a) else if b ≤ x ∧ x < b + n then a + (x - b) else x
theorem swr_get (D : Array Dz) (a b : Nat) : ∀ n, a + n ≤ b → b + n ≤ D.size → ∀ x, (swr D a b n)[x]! = D[swI a b n x]!
  | 0, _, _, x => by
    rw [swr]
    unfold swI
    rw [if_neg (by omega), if_neg (by omega)]
  | n + 1, h1, h2, x => by
    have ih := swr_get D a b n (by omega) (by omega)
    rw [swr, swp_get _ (by rw [swr_size]; omega) (by rw [swr_size]; omega), ih, ih, ih]
    have e1 : swI a b n (a + n) = a + n := by unfold swI; rw [if_neg (by omega), if_neg (by omega)]
    have e2 : swI a b n (b + n) = b + n := by unfold swI; rw [if_neg (by omega), if_neg (by omega)]
    rw [e1, e2]
    by_cases x1 : x = b + n
    · subst x1
      have e3 : swI a b (n + 1) (b + n) = a + n := by unfold swI; rw [if_neg (by omega), if_pos (by omega)]; omega
      rw [e3]
      simp
    · by_cases x2 : x = a + n
      · subst x2
        have e3 : swI a b (n + 1) (a + n) = b + n := by unfold swI; rw [if_pos (by omega)]; omega
        rw [e3]
        rw [if_neg x1, if_pos rfl]
      · have e3 : swI a b (n + 1) x = swI a b n x := by
          unfold swI
          split <;> split <;> (try split) <;> (try split) <;> omega
        rw [e3]
        simp [x1, x2]
/-- Where an element of the turned range was. -/
def roI (m i j x : Nat) : Nat := if m - i ≤ x ∧ x < m - i + j then x + i else if m - i + j ≤ x ∧ x < m + j then x - j else x
theorem rotF_get (m : Nat) : ∀ f i j (D : Array Dz), 0 < i → 0 < j → i + j ≤ f → i ≤ m → m + j ≤ D.size → ∀ x, (rotF m f i j D)[x]! = D[roI m i j x]!
  | 0, i, j, _, h1, h2, h3, _, _, _ => by omega
  | f + 1, i, j, D, hi, hj, hf, hm, hb, x => by
    rw [rotF]
    by_cases hij : i = j
    · subst hij
      rw [if_pos rfl, swr_get D _ _ _ (by omega) (by omega)]
      congr 1
      unfold swI roI
      (repeat' split) <;> omega
    · rw [if_neg hij]
      by_cases hlt : j < i
      · rw [if_pos hlt, rotF_get m f (i - j) j _ (by omega) hj (by omega) (by omega) (by rw [swr_size]; exact hb), swr_get D _ _ _ (by omega) (by omega)]
        congr 1
        unfold swI roI
        (repeat' split) <;> omega
      · rw [if_neg hlt, rotF_get m f i (j - i) _ hi (by omega) (by omega) hm (by rw [swr_size]; omega), swr_get D _ _ _ (by omega) (by omega)]
        congr 1
        unfold swI roI
        (repeat' split) <;> omega
theorem rot_get (D : Array Dz) (a m b : Nat) (h1 : a < m) (h2 : m < b) (hb : b ≤ D.size) (x : Nat) : (rot D a m b)[x]! = D[roI m (m - a) (b - m) x]! := rotF_get m _ _ _ D (by omega) (by omega) (by omega) (by omega) (by omega) x
end Go.Proofs.YtniailfcmlongaaGreatDoor.Tr
/- symMerge merges: by the order, and by a tag where orders are the same. -/
namespace Go.Proofs.YtniailfcmlongaaGreatDoor.Tr
open Go.RowKit Go.Sort Go.Lib

abbrev oZ (z : Dz) : Int := z.2.o
abbrev tZ (z : Dz) : Int := z.1.p
def le2 (u v : Dz) : Prop := oZ u < oZ v ∨ (oZ u = oZ v ∧ tZ u ≤ tZ v)
theorem le2_trans {u v x : Dz} (h : le2 u v) (g : le2 v x) : le2 u x := by unfold le2 at *; omega
theorem ltZ_is (u v : Dz) : ltZ u v = decide (oZ u < oZ v) := by
  show decide (Lib.compareInt u.2.o v.2.o < 0) = _
  rw [cmpInt_lt]
theorem ltZ_t {u v : Dz} (h : ltZ u v = true) : oZ u < oZ v := by rw [ltZ_is] at h; simpa using h
theorem ltZ_f {u v : Dz} (h : ltZ u v = false) : oZ v ≤ oZ u := by rw [ltZ_is] at h; simpa using h
def Srt (D : Array Dz) (p q : Nat) : Prop := ∀ x y, p ≤ x → x < y → y < q → le2 D[x]! D[y]!
theorem Srt.o {D : Array Dz} {p q : Nat} (h : Srt D p q) (x y : Nat) (h1 : p ≤ x) (h2 : x ≤ y) (h3 : y < q) : oZ D[x]! ≤ oZ D[y]! := by
  by_cases e : x = y
  · subst e; exact Int.le_refl _
  · have := h x y h1 (by omega) h3
    unfold le2 at this; omega
/-- Tags of the left are less than those of the right. -/
def LRt (D : Array Dz) (a m b : Nat) : Prop := ∀ x y, a ≤ x → x < m → m ≤ y → y < b → tZ D[x]! < tZ D[y]!
theorem mvU_get : ∀ n (D : Array Dz) k, k + n < D.size → ∀ x, (mvU D k n)[x]! = D[if k ≤ x ∧ x < k + n then x + 1 else if x = k + n then k else x]!
  | 0, D, k, _, x => by
    rw [mvU, if_neg (by omega)]
    split
    · rename_i e; rw [e]; rfl
    · rfl
  | n + 1, D, k, hk, x => by
    rw [mvU, mvU_get n _ (k + 1) (by rw [size_swp]; omega), swp_get _ (by omega) (by omega)]
    have key : ∀ q, (if q = k + 1 then D[k]! else if q = k then D[k + 1]! else D[q]!) = D[if q = k + 1 then k else if q = k then k + 1 else q]! := fun q => by
      split
      · rfl
      · split <;> rfl
    rw [key]
    congr 1
    (repeat' split) <;> omega
theorem mvD_get : ∀ n (D : Array Dz) k, k < D.size → n ≤ k → ∀ x, (mvD D k n)[x]! = D[if k - n < x ∧ x ≤ k then x - 1 else if x = k - n then k else x]!
  | 0, D, k, _, _, x => by
    rw [mvD, if_neg (by omega)]
    split
    · rename_i e; rw [e]; rfl
    · rfl
  | n + 1, D, k, hk, hn, x => by
    rw [mvD, mvD_get n _ (k - 1) (by rw [size_swp]; omega) (by omega), swp_get _ (by omega) (by omega)]
    have key : ∀ q, (if q = k - 1 then D[k]! else if q = k then D[k - 1]! else D[q]!) = D[if q = k - 1 then k else if q = k then k - 1 else q]! := fun q => by
      split
      · rfl
      · split <;> rfl
    rw [key]
    congr 1
    (repeat' split) <;> omega
theorem srt_one (D : Array Dz) (a m b : Nat) (hm : m = a + 1) (hmb : m < b) (hb : b ≤ D.size) (h2 : Srt D m b) (hT : LRt D a m b) : Srt (mvU D a (bsc (fun h => ltZ D[h]! D[a]!) m b - 1 - a)) a b := by
  have hin := bs_in (fun h => ltZ D[h]! D[a]!) (show m ≤ b by omega)
  have hbd := bsc_border (fun h => ltZ D[h]! D[a]!) (show m ≤ b by omega) (fun x y h1 h3 h4 h5 => by
    have a1 := ltZ_t h5
    have a2 := h2.o x y h1 h3 h4
    show ltZ D[x]! D[a]! = true
    rw [ltZ_is]
    exact decide_eq_true (by omega))
  generalize bsc (fun h => ltZ D[h]! D[a]!) m b = I at *
  have lo : ∀ x, m ≤ x → x < I → oZ D[x]! < oZ D[a]! := fun x h1 h3 => ltZ_t (hbd.1 x h1 h3)
  have hi : ∀ x, I ≤ x → x < b → le2 D[a]! D[x]! := fun x h1 h3 => by
    have := ltZ_f (hbd.2 x h1 h3)
    have t := hT a x (by omega) (by omega) (by omega) h3
    unfold le2; omega
  intro x y h1 h3 h4
  rw [mvU_get _ D a (by omega) x, mvU_get _ D a (by omega) y]
  by_cases c1 : y < I - 1
  · rw [if_pos (by omega), if_pos (by omega)]
    exact h2 _ _ (by omega) (by omega) (by omega)
  · by_cases c2 : y = I - 1
    · rw [if_pos (by omega), if_neg (by omega), if_pos (by omega)]
      have := lo (x + 1) (by omega) (by omega)
      unfold le2; omega
    · rw [if_neg (by omega : ¬ (a ≤ y ∧ y < a + (I - 1 - a))), if_neg (by omega : ¬ y = a + (I - 1 - a))]
      by_cases c3 : x < I - 1
      · rw [if_pos (by omega)]
        exact h2 _ _ (by omega) (by omega) (by omega)
      · rw [if_neg (by omega)]
        by_cases c4 : x = I - 1
        · rw [if_pos (by omega)]
          exact hi y (by omega) h4
        · rw [if_neg (by omega)]
          exact h2 _ _ (by omega) (by omega) (by omega)
theorem srt_last (D : Array Dz) (a m b : Nat) (ha : a < m) (hm : b = m + 1) (hb : b ≤ D.size) (h1 : Srt D a m) (hT : LRt D a m b) : Srt (mvD D m (m - bsc (fun h => !(ltZ D[m]! D[h]!)) a m)) a b := by
  have hin := bs_in (fun h => !(ltZ D[m]! D[h]!)) (show a ≤ m by omega)
  have hbd := bsc_border (fun h => !(ltZ D[m]! D[h]!)) (show a ≤ m by omega) (fun x y g1 g3 g4 g5 => by
    have a1 := ltZ_f (by simpa using g5 : ltZ D[m]! D[y]! = false)
    have a2 := h1.o x y g1 g3 g4
    show (!(ltZ D[m]! D[x]!)) = true
    rw [ltZ_is, decide_eq_false (by omega)]; rfl)
  generalize bsc (fun h => !(ltZ D[m]! D[h]!)) a m = I at *
  have lo : ∀ x, a ≤ x → x < I → le2 D[x]! D[m]! := fun x g1 g3 => by
    have := ltZ_f (by simpa using hbd.1 x g1 g3 : ltZ D[m]! D[x]! = false)
    have t := hT x m g1 (by omega) (Nat.le_refl _) (by omega)
    unfold le2; omega
  have hi : ∀ x, I ≤ x → x < m → oZ D[m]! < oZ D[x]! := fun x g1 g3 => ltZ_t (by simpa using hbd.2 x g1 g3)
  intro x y g1 g3 g4
  rw [mvD_get _ D m (by omega) (by omega) x, mvD_get _ D m (by omega) (by omega) y]
  by_cases c1 : x < I
  · rw [if_neg (by omega : ¬ (m - (m - I) < x ∧ x ≤ m)), if_neg (by omega : ¬ x = m - (m - I))]
    by_cases c2 : y < I
    · rw [if_neg (by omega), if_neg (by omega)]
      exact h1 _ _ (by omega) (by omega) (by omega)
    · by_cases c3 : y = I
      · rw [if_neg (by omega), if_pos (by omega)]
        exact lo x g1 c1
      · rw [if_pos (by omega)]
        exact h1 _ _ (by omega) (by omega) (by omega)
  · rw [if_pos (by omega : m - (m - I) < y ∧ y ≤ m)]
    by_cases c3 : x = I
    · rw [if_neg (by omega), if_pos (by omega)]
      have := hi (y - 1) (by omega) (by omega)
      unfold le2; omega
    · rw [if_pos (by omega)]
      exact h1 _ _ (by omega) (by omega) (by omega)
end Go.Proofs.YtniailfcmlongaaGreatDoor.Tr
