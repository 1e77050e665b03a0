/- Block and Inode where something fails; Has, HasInode. -/
import Derived.Test.YtehoiahgkbnjdaaGreatIno
namespace Go.Proofs.YtehoiahgkbnjdaaGreat.Al
open Go.RowKit Go.Shelf Dk Wl

set_option maxRecDepth 100000 in
set_option maxHeartbeats 4000000 in
theorem Block_full {G : Nat → Prop} {w : World} {l p bl bt : Nat} {D : Dsk} {L1 : Lg} {sp : Nat} {y : Ly} (hs : Spc G w sp l y) (k : Nat)
    (hg : Calls Tryz.prog 50 #[pv sp, .func (.func 49) #[y.v] #[]] w fun e w' => e = .returned (.tuple #[.int .i64 (k : Int), .int .i64 0]) ∧ OwnL G w' l p bl bt D L1 ∧ Kp G w w') (hst : L1.st.length < 90000) (E : Int) (hE0 : E ≠ 0) (hE : L1.stageE (k : Int) 128 = E) :
    Calls Tryz.prog 17 #[pv sp] w fun e w' => e = .returned (.tuple #[.int .i64 0, .int .i64 E]) ∧ OwnL G w' l p bl bt D (L1.stage (k : Int) zeros) ∧ Kp G w w' := by
  have hmf : ∀ (fn : Fn) (first cap : Array Value) (w : World), (Instr.makeFunc fn first cap).run Tryz.prog w = .ok (.func fn first cap) w := fun _ _ _ _ => rfl
  have hz := zero68
  have hEb : (E != 0) = true := by simpa using hE0
  clear hE0
  have HR := hid hs.range
  have HS := hid hs
  have HC := hid hg
  clear hs hg
  unfold Ly.v at HC
  go_enter Tryz.func17, Tryz.ntmps17
  go_wp2_with (first | (refine wpList_load_mid (by rfl) 38 _ (by rfl) sp 1 (by rfl) y.cells _ HR.out Tryz.underlying38 rfl (sz24 y) ?_))
  refine HC.out.mono ?_
  rintro e w1 ⟨rfl, o1, k1⟩
  have HS1 := hid (HS.out.kp k1)
  have HSg : Hid (Calls Tryz.prog 19 #[pv l, .int .i64 (k : Int), .slice (some ⟨w1.heap.size, 0, none⟩) zeros.length 128] (w1.alloc (.cells (bs zeros).toArray 92)).drew fun x w' => x = .returned (.int .i64 (L1.stageE (k : Int) zeros.length)) ∧ OwnL G w' l p bl bt D (L1.stage (k : Int) zeros) ∧ Kp G (w1.alloc (.cells (bs zeros).toArray 92)).drew w') :=
    stage_any ((o1.alloc (.cells (bs zeros).toArray 92)).drew) (k : Int) zeros (some ⟨w1.heap.size, 0, none⟩) 128 (fun _ => ⟨w1.heap.size, 0, rfl, (Blk.new w1 92 (bs zeros)).drew.range 0 _ (by simp), by simp [World.drew]⟩) hst
  rw [zeros_length, hE] at HSg
  have HK1 : Hid (Kp G w (w1.alloc (.cells (bs zeros).toArray 92)).drew) := Kp.trans k1 (show Kp G _ _ from ((Fr.refl _ w1).alloc _).drew)
  have s0 : (w1.alloc (.cells (bs zeros).toArray 92)).drew.cell? ⟨sp, 0, none⟩ = some (pv l) := (HS1.out.b.alloc _).drew.cell 0
  have HsF : Hid (∀ w', Kp G (w1.alloc (.cells (bs zeros).toArray 92)).drew w' → w'.cell? ⟨sp, 0, none⟩ = some (pv l)) := fun w' k => (Kp.blk k (HS1.out.b.alloc _).drew HS1.out.g).cell 0
  clear HC o1 k1 HS1 HS HR
  go_wp2_with fail
  go_region_held3 (fun w' => w'.cell? ⟨sp, 0, none⟩ = some (pv l))
    (first
      | exact s0
      | exact HsF.out _ k2)
    ((go_at_call 19; refine HSg.out.mono ?_; rintro x w2 ⟨rfl, o2, k2⟩))
  have HO2 := hid o2
  have HK2 := hid (Kp.trans HK1.out k2)
  clear o2 k2 HSg HsF s0
  go_wp2
  go_ret2
  exact ⟨rfl, HO2.out, HK2.out⟩

set_option maxRecDepth 100000 in
set_option maxHeartbeats 4000000 in
theorem Inode_full {G : Nat → Prop} {w : World} {l p bl bt : Nat} {D : Dsk} {L1 : Lg} {sp : Nat} {y : Ly} (hs : Spc G w sp l y) (i : Nat)
    (hg : Calls Tryz.prog 50 #[pv sp, .func (.func 60) #[y.v] #[]] w fun e w' => e = .returned (.tuple #[.int .i64 (i : Int), .int .i64 0]) ∧ OwnL G w' l p bl bt D L1 ∧ Kp G w w') (hi : i ≤ 1024) (htb : y.tb ≤ 1024)
    (hr : L1.reach ((y.tb + i / 4 : Nat) : Int) = 0) (hup : D.up = true) (hst : L1.st.length < 90000) (E : Int) (hE0 : E ≠ 0) (hE : L1.stageE ((y.tb + i / 4 : Nat) : Int) 128 = E) :
    Calls Tryz.prog 27 #[pv sp] w fun e w' => e = .returned (.tuple #[.int .i64 0, .int .i64 E]) ∧ OwnL G w' l p bl bt D (L1.stage ((y.tb + i / 4 : Nat) : Int) (wipe (L1.tell D (y.tb + i / 4)) (i % 4 * 32))) ∧ Kp G w w' := by
  have hmf : ∀ (fn : Fn) (first cap : Array Value) (w : World), (Instr.makeFunc fn first cap).run Tryz.prog w = .ok (.func fn first cap) w := fun _ _ _ _ => rfl
  have hEb : (E != 0) = true := by simpa using hE0
  clear hE0
  have HR := hid hs.range
  have HC := hid hg
  have HCl := hid (fun W (o : OwnL G W l p bl bt D L1) (k : Kp G w W) => clearInode_ok o (hs.kp k) i hi htb hr hup hst)
  rw [hE] at HCl
  clear hs hg hr hup hst hi htb hE
  unfold Ly.v at HC
  go_enter Tryz.func27, Tryz.ntmps27
  go_wp2_with (first | (refine wpList_load_mid (by rfl) 38 _ (by rfl) sp 1 (by rfl) y.cells _ HR.out Tryz.underlying38 rfl (sz24 y) ?_))
  refine HC.out.mono ?_
  rintro e w1 ⟨rfl, o1, k1⟩
  have HC1 := hid (HCl.out w1 o1 k1)
  have HK1 := hid k1
  clear HC HCl o1 k1 HR
  go_wp2_with fail
  refine HC1.out.mono ?_
  rintro e w2 ⟨rfl, o2, k2⟩
  have HO2 := hid o2
  have HK2 := hid (Kp.trans HK1.out k2)
  clear HC1 o2 k2
  go_wp2
  go_ret2
  exact ⟨rfl, HO2.out, HK2.out⟩

set_option maxRecDepth 100000 in
set_option maxHeartbeats 4000000 in
theorem Block_fail {G : Nat → Prop} {w : World} {sp l : Nat} {y : Ly} {Q : World → Prop} (hs : Spc G w sp l y) (k E : Int) (hE0 : E ≠ 0)
    (hg : Calls Tryz.prog 50 #[pv sp, .func (.func 49) #[y.v] #[]] w fun e w' => e = .returned (.tuple #[.int .i64 k, .int .i64 E]) ∧ Q w') :
    Calls Tryz.prog 17 #[pv sp] w fun e w' => e = .returned (.tuple #[.int .i64 0, .int .i64 E]) ∧ Q w' := by
  have hmf : ∀ (fn : Fn) (first cap : Array Value) (w : World), (Instr.makeFunc fn first cap).run Tryz.prog w = .ok (.func fn first cap) w := fun _ _ _ _ => rfl
  have hEb : (E != 0) = true := by simpa using hE0
  have HR := hid hs.range
  have HC := hid hg
  clear hs hg hE0
  unfold Ly.v at HC
  go_enter Tryz.func17, Tryz.ntmps17
  go_wp2_with (first | (refine wpList_load_mid (by rfl) 38 _ (by rfl) sp 1 (by rfl) y.cells _ HR.out Tryz.underlying38 rfl (sz24 y) ?_))
  refine HC.out.mono ?_
  rintro e w1 ⟨rfl, q1⟩
  have HQ := hid q1
  clear HC q1 HR
  go_wp2
  go_ret2
  exact ⟨rfl, HQ.out⟩

set_option maxRecDepth 100000 in
set_option maxHeartbeats 4000000 in
theorem Inode_fail {G : Nat → Prop} {w : World} {sp l : Nat} {y : Ly} {Q : World → Prop} (hs : Spc G w sp l y) (k E : Int) (hE0 : E ≠ 0)
    (hg : Calls Tryz.prog 50 #[pv sp, .func (.func 60) #[y.v] #[]] w fun e w' => e = .returned (.tuple #[.int .i64 k, .int .i64 E]) ∧ Q w') :
    Calls Tryz.prog 27 #[pv sp] w fun e w' => e = .returned (.tuple #[.int .i64 0, .int .i64 E]) ∧ Q w' := by
  have hmf : ∀ (fn : Fn) (first cap : Array Value) (w : World), (Instr.makeFunc fn first cap).run Tryz.prog w = .ok (.func fn first cap) w := fun _ _ _ _ => rfl
  have hEb : (E != 0) = true := by simpa using hE0
  have HR := hid hs.range
  have HC := hid hg
  clear hs hg hE0
  unfold Ly.v at HC
  go_enter Tryz.func27, Tryz.ntmps27
  go_wp2_with (first | (refine wpList_load_mid (by rfl) 38 _ (by rfl) sp 1 (by rfl) y.cells _ HR.out Tryz.underlying38 rfl (sz24 y) ?_))
  refine HC.out.mono ?_
  rintro e w1 ⟨rfl, q1⟩
  have HQ := hid q1
  clear HC q1 HR
  go_wp2
  go_ret2
  exact ⟨rfl, HQ.out⟩

def stepH (_ : Bool) (_ : Int) (u : Bool) : Bool × Bool := (false, u)
set_option maxRecDepth 100000 in
set_option maxHeartbeats 1000000 in
theorem has1 (c : Nat) : Turns encB 4 stepH 83 c := by
  intro W s k u hb
  have c0 := hb.cell 0
  have z0 := hb.frozen 0
  have HB := hid hb
  simp only [List.getElem?_cons_zero] at c0
  clear hb
  go_enter Tryz.func83, Tryz.ntmps83
  go_wp2
  go_ret
  exact ⟨rfl, HB.out.setCell 0 _, fr_set _⟩
theorem e83 : Enters Tryz.prog 83 := enters_of Tryz.func83 (by kernel_rfl) rfl

set_option maxRecDepth 100000 in
set_option maxHeartbeats 4000000 in
theorem has_any {G : Nat → Prop} {w : World} {l p bl bt : Nat} {D : Dsk} {L : Lg} (h : OwnL G w l p bl bt D L) (sp : Nat) (y : Ly) (hs : Spc G w sp l y) (NO sec zr : Nat) (pf pl : Int → Int) (hk : Kind NO y sec zr pf pl) (k : Int)
    (hle : pf k ≤ pl k) (hz : (zr : Int) ≤ pf k) (hpl : pl k - zr < 1024) (hz2 : zr ≤ 1024) (hr : L.reach (sec : Int) = 0) (hup : D.up = true) (hst : L.st.length < 90000) (b' : Sec) (g : Bool) (hR : brun stepH zr (pl k + 1 - pf k).toNat (pf k) (L.tell D sec) false false = (b', g, false)) :
    Calls Tryz.prog 58 #[pv sp, .func (.func NO) #[y.v] #[], .int .i64 k] w fun e w' => e = .returned (.tuple #[.bool g, .int .i64 0]) ∧ OwnL G w' l p bl bt D L ∧ Kp G w w' := by
  have hmf : ∀ (fn : Fn) (first cap : Array Value) (w : World), (Instr.makeFunc fn first cap).run Tryz.prog w = .ok (.func fn first cap) w := fun _ _ _ _ => rfl
  have hnG : ¬ G w.heap.size := fun hg => by have := h.glt hg; omega
  have HB := hid (bits_any (G := G) sp w.heap.size NO 83 hk.e e83 4 encB stepH false y k k sec zr (pf k) (pl k) (h.more (.cells #[.bool false] 4)) (hs.b.alloc _) hs.g hnG (Blk.new w 4 [.bool false]) (fun W => hk.c W k k) (has1 _) hle hz hpl hz2 hr hup hst)
  have HF : Hid (Kp G w (w.alloc (.cells #[.bool false] 4))) := (Fr.refl _ w).alloc _
  rw [hR] at HB
  clear h hs hk hR
  unfold BitsPost at HB
  simp only [Bool.false_eq_true, if_false] at HB
  unfold Ly.v at *
  go_enter Tryz.func58, Tryz.ntmps58
  go_wp2_with fail
  refine HB.out.mono ?_
  rintro e w1 ⟨rfl, o1, b1, k1⟩
  have c0 : w1.cell? ⟨w.heap.size, 0, none⟩ = some (.bool g) := b1.cell 0
  have HO := hid (o1.less (G' := G) (fun _ hk => .inl hk))
  have HK := hid (Kp.trans HF.out k1)
  clear HB o1 b1 k1
  go_wp2
  go_ret2
  exact ⟨rfl, HO.out, HK.out⟩

set_option maxRecDepth 100000 in
set_option maxHeartbeats 4000000 in
theorem has_none (w : World) (sp : Nat) (y : Ly) (NO sec zr : Nat) (pf pl : Int → Int) (hk : Kind NO y sec zr pf pl) (k : Int) (hlt : pl k < pf k) :
    Calls Tryz.prog 58 #[pv sp, .func (.func NO) #[y.v] #[], .int .i64 k] w fun e w' => e = .returned (.tuple #[.bool false, .int .i64 0]) ∧ Nw w w' := by
  have hmf : ∀ (fn : Fn) (first cap : Array Value) (w : World), (Instr.makeFunc fn first cap).run Tryz.prog w = .ok (.func fn first cap) w := fun _ _ _ _ => rfl
  have HB := hid (bits_none (w := w.alloc (.cells #[.bool false] 4)) sp NO hk.e y k k sec zr (pf k) (pl k) (.func (.func 83) #[] #[pv w.heap.size]) (fun W => hk.c W k k) hlt)
  have HF : Hid (Nw w (w.alloc (.cells #[.bool false] 4))) := (Fr.refl _ w).alloc _
  have HC := hid (Blk.new w 4 [.bool false])
  clear hk
  unfold Ly.v at *
  go_enter Tryz.func58, Tryz.ntmps58
  go_wp2_with fail
  refine HB.out.mono ?_
  rintro e w1 ⟨rfl, f1⟩
  have c0 : w1.cell? ⟨w.heap.size, 0, none⟩ = some (.bool false) := (Fr.blk f1 HC.out id).cell 0
  have HF1 := hid (Nw.tr HF.out f1)
  clear f1 HB
  go_wp2
  go_ret2
  exact ⟨rfl, HF1.out⟩

set_option maxRecDepth 100000 in
set_option maxHeartbeats 1000000 in
theorem Has_of {G : Nat → Prop} {w : World} {sp l : Nat} {y : Ly} (hs : Spc G w sp l y) {Q : World → Prop} (k : Int) (a : Bool) (b : Int) (hc : Calls Tryz.prog 58 #[pv sp, .func (.func 49) #[y.v] #[], .int .i64 k] w fun e w' => e = .returned (.tuple #[.bool a, .int .i64 b]) ∧ Q w') :
    Calls Tryz.prog 21 #[pv sp, .int .i64 k] w fun e w' => e = .returned (.tuple #[.bool a, .int .i64 b]) ∧ Q w' := by
  have hmf : ∀ (fn : Fn) (first cap : Array Value) (w : World), (Instr.makeFunc fn first cap).run Tryz.prog w = .ok (.func fn first cap) w := fun _ _ _ _ => rfl
  have HR := hid hs.range
  have HC := hid hc
  clear hs hc
  unfold Ly.v at HC
  go_enter Tryz.func21, Tryz.ntmps21
  go_wp2_with (first | (refine wpList_load_mid (by rfl) 38 _ (by rfl) sp 1 (by rfl) y.cells _ HR.out Tryz.underlying38 rfl (sz24 y) ?_))
  refine HC.out.mono ?_
  rintro e w1 ⟨rfl, hq⟩
  have HQ := hid hq
  clear HC hq
  go_wp2
  go_ret2
  exact ⟨rfl, HQ.out⟩

set_option maxRecDepth 100000 in
set_option maxHeartbeats 1000000 in
theorem HasInode_of {G : Nat → Prop} {w : World} {sp l : Nat} {y : Ly} (hs : Spc G w sp l y) {Q : World → Prop} (k : Int) (a : Bool) (b : Int) (hc : Calls Tryz.prog 58 #[pv sp, .func (.func 60) #[y.v] #[], .int .i64 k] w fun e w' => e = .returned (.tuple #[.bool a, .int .i64 b]) ∧ Q w') :
    Calls Tryz.prog 38 #[pv sp, .int .i64 k] w fun e w' => e = .returned (.tuple #[.bool a, .int .i64 b]) ∧ Q w' := by
  have hmf : ∀ (fn : Fn) (first cap : Array Value) (w : World), (Instr.makeFunc fn first cap).run Tryz.prog w = .ok (.func fn first cap) w := fun _ _ _ _ => rfl
  have HR := hid hs.range
  have HC := hid hc
  clear hs hc
  unfold Ly.v at HC
  go_enter Tryz.func38, Tryz.ntmps38
  go_wp2_with (first | (refine wpList_load_mid (by rfl) 38 _ (by rfl) sp 1 (by rfl) y.cells _ HR.out Tryz.underlying38 rfl (sz24 y) ?_))
  refine HC.out.mono ?_
  rintro e w1 ⟨rfl, hq⟩
  have HQ := hid hq
  clear HC hq
  go_wp2
  go_ret2
  exact ⟨rfl, HQ.out⟩

end Go.Proofs.YtehoiahgkbnjdaaGreat.Al
