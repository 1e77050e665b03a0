
/- Inode, where all is well. -/
import Derived.Test.YtehoiahgkbnjdaaGreatSps
namespace Go.Proofs.YtehoiahgkbnjdaaGreat.Al
open Go.RowKit Go.Shelf Dk Wl

def wipe (b : Sec) (fr : Nat) : Sec := splice b fr (List.replicate 32 0)
theorem wipe_length (b : Sec) (fr : Nat) (hb : b.length = 128) (hf : fr + 32 ≤ 128) : (wipe b fr).length = 128 := by
  unfold wipe splice
  simp [hb]; omega
theorem zero5 : ∀ w, (zeroValue 5).run Tryz.prog w = .ok (.int .u8 0) w := (zero_of_info (n := 1) (by kernel_rfl)).1

set_option maxRecDepth 100000 in
set_option maxHeartbeats 4000000 in
theorem clearInode_ok {G : Nat → Prop} {w : World} {l p bl bt : Nat} {D : Dsk} {L : Lg} {sp : Nat} {y : Ly} (h : OwnL G w l p bl bt D L) (hs : Spc G w sp l y) (i : Nat) (hi : i ≤ 1024) (htb : y.tb ≤ 1024)
    (hr : L.reach ((y.tb + i / 4 : Nat) : Int) = 0) (hup : D.up = true) (hst : L.st.length < 90000) :
    Calls Tryz.prog 61 #[pv sp, .int .i64 (i : Int)] w fun e w' => e = .returned (.int .i64 (L.stageE ((y.tb + i / 4 : Nat) : Int) 128)) ∧ OwnL G w' l p bl bt D (L.stage ((y.tb + i / 4 : Nat) : Int) (wipe (L.tell D (y.tb + i / 4)) (i % 4 * 32))) ∧ Kp G w w' := by
  have HR := hid hs.range
  have HS := hid hs
  have H0 := hid h
  have HI := hid (inodeAt_any w y i htb hi)
  have Htl := hid (tell_length h (y.tb + i / 4) (reach_lt h _ hr))
  have HRd := hid (fun W (f : Nw w W) => Read_ok (h.nw f) (y.tb + i / 4) hr hup)
  have hfr : i % 4 * 32 + 32 ≤ 128 := by omega
  have Hst := hid hst
  clear h hs hr hup hst hi htb
  unfold Ly.v at HI
  generalize y.tb + i / 4 = at0 at *
  generalize i % 4 * 32 = fr at *
  generalize L.tell D at0 = b at *
  go_enter Tryz.func61, Tryz.ntmps61
  go_wp2_with (first | (refine wpList_load_mid (by rfl) 38 _ (by rfl) sp 1 (by rfl) y.cells _ HR.out Tryz.underlying38 rfl (sz24 y) ?_))
  refine HI.out.mono ?_
  rintro e w1 ⟨rfl, f1⟩
  have s1 : w1.cell? ⟨sp, 0, none⟩ = some (pv l) := (HS.out.kp f1.kp).b.cell 0
  have HRd1 := hid (HRd.out w1 f1)
  have HF1 := hid f1
  clear HI f1 HRd HR
  go_wp2_with fail
  refine HRd1.out.mono ?_
  rintro e w2 ⟨g, tg, rfl, bg, hgg, f2⟩
  have HF2 := hid (Nw.tr HF1.out f2)
  have hsz := HF1.out.size
  have hht := bg.there fr 32 (by rw [bs_length, Htl.out]; omega)
  have hcl := Lib.run_clear_slice (P := Tryz.prog) w2 49 5 0 (.int .u8 0) Tryz.underlying49 zero5 rfl rfl g fr 32 (128 - fr) (by omega) (fun j hj => (hht j hj).1) (fun j hj => (hht j hj).2)
  have hb2 : Blk (w2.setCells g fr (List.replicate 32 (.int .u8 0))) g tg (bs (wipe b fr)) := by
    have := bg.setCells (bs (List.replicate 32 0)) fr (by rw [bs_length, bs_length, Htl.out]; simp; omega)
    rw [bs_splice] at this
    exact this
  have HF3 : Hid (Nw w (w2.setCells g fr (List.replicate 32 (.int .u8 0)))) := HF2.out.setCells (.inr (by omega)) _ _
  have HSg : Hid (Calls Tryz.prog 19 #[pv l, .int .i64 (at0 : Int), .slice (some ⟨g, 0, none⟩) (wipe b fr).length 128] (w2.setCells g fr (List.replicate 32 (.int .u8 0))) fun x w' => x = .returned (.int .i64 (L.stageE (at0 : Int) (wipe b fr).length)) ∧ OwnL G w' l p bl bt D (L.stage (at0 : Int) (wipe b fr)) ∧ Kp G (w2.setCells g fr (List.replicate 32 (.int .u8 0))) w') :=
    stage_any (H0.out.nw HF3.out) (at0 : Int) (wipe b fr) (some ⟨g, 0, none⟩) 128 (fun _ => ⟨g, 0, rfl, hb2.range 0 _ (by simp), hb2.lt⟩) Hst.out
  rw [wipe_length b fr Htl.out hfr] at HSg
  have s3 : (w2.setCells g fr (List.replicate 32 (.int .u8 0))).cell? ⟨sp, 0, none⟩ = some (pv l) := (HS.out.kp HF3.out.kp).b.cell 0
  clear HRd1 f2 bg hgg hht hb2 HS H0 Hst
  generalize w2.setCells g fr (List.replicate 32 (.int .u8 0)) = W3 at *
  have hf0 : (0 : Int) ≤ (fr : Int) := Int.natCast_nonneg _
  have hf1 : (fr : Int) + 32 ≤ 128 := by omega
  have hf2 : (fr : Int) ≤ (fr : Int) + 32 := by omega
  go_wp2_with fail
  refine HSg.out.mono ?_
  rintro x w4 ⟨rfl, o4, k4⟩
  have HO4 := hid o4
  have HK4 : Hid (Kp G w w4) := Kp.trans HF3.out.kp k4
  clear HSg o4 k4
  go_wp2
  go_ret
  exact ⟨rfl, HO4.out, HK4.out⟩

set_option maxRecDepth 100000 in
set_option maxHeartbeats 4000000 in
theorem Inode_ok {G : Nat → Prop} {w : World} {l p bl bt : Nat} {D : Dsk} {L1 : Lg} {sp : Nat} {y : Ly} (hs : Spc G w sp l y) (i : Nat)
    (hg : Calls Tryz.prog 50 #[pv sp, .func (.func 60) #[y.v] #[]] w fun e w' => e = .returned (.tuple #[.int .i64 (i : Int), .int .i64 0]) ∧ OwnL G w' l p bl bt D L1 ∧ Kp G w w') (hi : i ≤ 1024) (htb : y.tb ≤ 1024)
    (hr : L1.reach ((y.tb + i / 4 : Nat) : Int) = 0) (hup : D.up = true) (hst : L1.st.length < 90000) (hE : L1.stageE ((y.tb + i / 4 : Nat) : Int) 128 = 0) :
    Calls Tryz.prog 27 #[pv sp] w fun e w' => e = .returned (.tuple #[.int .i64 (i : Int), .int .i64 0]) ∧ OwnL G w' l p bl bt D (L1.stage ((y.tb + i / 4 : Nat) : Int) (wipe (L1.tell D (y.tb + i / 4)) (i % 4 * 32))) ∧ Kp G w w' := by
  have hmf : ∀ (fn : Fn) (first cap : Array Value) (w : World), (Instr.makeFunc fn first cap).run Tryz.prog w = .ok (.func fn first cap) w := fun _ _ _ _ => rfl
  have HR := hid hs.range
  have HC := hid hg
  have HCl := hid (fun W (o : OwnL G W l p bl bt D L1) (k : Kp G w W) => clearInode_ok o (hs.kp k) i hi htb hr hup hst)
  rw [hE] at HCl
  clear hs hg hr hup hst hi htb hE
  unfold Ly.v at HC
  go_enter Tryz.func27, Tryz.ntmps27
  go_wp2_with (first | (refine wpList_load_mid (by rfl) 38 _ (by rfl) sp 1 (by rfl) y.cells _ HR.out Tryz.underlying38 rfl (sz24 y) ?_))
  refine HC.out.mono ?_
  rintro e w1 ⟨rfl, o1, k1⟩
  have HC1 := hid (HCl.out w1 o1 k1)
  have HK1 := hid k1
  clear HC HCl o1 k1 HR
  go_wp2_with fail
  refine HC1.out.mono ?_
  rintro e w2 ⟨rfl, o2, k2⟩
  have HO2 := hid o2
  have HK2 := hid (Kp.trans HK1.out k2)
  clear HC1 o2 k2
  go_wp2
  go_ret2
  exact ⟨rfl, HO2.out, HK2.out⟩

end Go.Proofs.YtehoiahgkbnjdaaGreat.Al
