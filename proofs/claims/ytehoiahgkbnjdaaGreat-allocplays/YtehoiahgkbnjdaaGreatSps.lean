
/- The space's own calls, where all is well. -/
import Derived.Test.YtehoiahgkbnjdaaGreatCnt
import Derived.Lib.SliceRun
namespace Go.Proofs.YtehoiahgkbnjdaaGreat.Al
open Go.RowKit Go.Shelf Dk Wl

theorem kindB (y : Ly) (h1 : 1 ≤ y.s) (h2 : y.s ≤ 1024) : Kind 49 y y.mp y.da (fun f => max f y.da) (fun l => min l ((y.s : Int) - 1)) := ⟨e34, fun W f l' => blocks_any W y f l' h1 h2⟩
theorem kindI (y : Ly) (h1 : 1 ≤ y.no) (h2 : y.no ≤ 1024) : Kind 60 y y.nd 0 (fun f => max f 1) (fun l => min l ((y.no : Int) - 1)) := ⟨e35, fun W f l' => inodes_any W y f l' h1 h2⟩
theorem Spc.range {G : Nat → Prop} {w : World} {sp l : Nat} {y : Ly} (h : Spc G w sp l y) : w.rangeAt sp 1 y.cells := h.b.range 1 _ (by simp [spcC, Ly.cells])
theorem Spc.kp {G : Nat → Prop} {w w' : World} {sp l : Nat} {y : Ly} (h : Spc G w sp l y) (k : Kp G w w') : Spc G w' sp l y := ⟨Kp.blk k h.b h.g, h.g⟩
theorem sz24 (y : Ly) : (Tryz.prog.info? 38).map (·.size) = some y.cells.length := by rw [size24]; rfl

set_option maxRecDepth 100000 in
set_option maxHeartbeats 1000000 in
theorem Blocks_of {G : Nat → Prop} {w : World} {sp l : Nat} {y : Ly} (hs : Spc G w sp l y) {Q : Ending → World → Prop} (a b : Int) (hc : Calls Tryz.prog 48 #[pv sp, .func (.func 49) #[y.v] #[]] w fun e w' => e = .returned (.tuple #[.int .i64 a, .int .i64 b]) ∧ Q e w') :
    Calls Tryz.prog 16 #[pv sp] w fun e w' => e = .returned (.tuple #[.int .i64 a, .int .i64 b]) ∧ Q e w' := by
  have hmf : ∀ (fn : Fn) (first cap : Array Value) (w : World), (Instr.makeFunc fn first cap).run Tryz.prog w = .ok (.func fn first cap) w := fun _ _ _ _ => rfl
  have HR := hid hs.range
  have HC := hid hc
  clear hs hc
  unfold Ly.v at HC
  go_enter Tryz.func16, Tryz.ntmps16
  go_wp2_with (first | (refine wpList_load_mid (by rfl) 38 _ (by rfl) sp 1 (by rfl) y.cells _ HR.out Tryz.underlying38 rfl (sz24 y) ?_))
  refine HC.out.mono ?_
  rintro e w1 ⟨rfl, hq⟩
  have HQ := hid hq
  clear HC hq
  go_wp2
  go_ret2
  exact ⟨rfl, HQ.out⟩

set_option maxRecDepth 100000 in
set_option maxHeartbeats 1000000 in
theorem Inodes_of {G : Nat → Prop} {w : World} {sp l : Nat} {y : Ly} (hs : Spc G w sp l y) {Q : Ending → World → Prop} (a b : Int) (hc : Calls Tryz.prog 48 #[pv sp, .func (.func 60) #[y.v] #[]] w fun e w' => e = .returned (.tuple #[.int .i64 a, .int .i64 b]) ∧ Q e w') :
    Calls Tryz.prog 26 #[pv sp] w fun e w' => e = .returned (.tuple #[.int .i64 a, .int .i64 b]) ∧ Q e w' := by
  have hmf : ∀ (fn : Fn) (first cap : Array Value) (w : World), (Instr.makeFunc fn first cap).run Tryz.prog w = .ok (.func fn first cap) w := fun _ _ _ _ => rfl
  have HR := hid hs.range
  have HC := hid hc
  clear hs hc
  unfold Ly.v at HC
  go_enter Tryz.func26, Tryz.ntmps26
  go_wp2_with (first | (refine wpList_load_mid (by rfl) 38 _ (by rfl) sp 1 (by rfl) y.cells _ HR.out Tryz.underlying38 rfl (sz24 y) ?_))
  refine HC.out.mono ?_
  rintro e w1 ⟨rfl, hq⟩
  have HQ := hid hq
  clear HC hq
  go_wp2
  go_ret2
  exact ⟨rfl, HQ.out⟩

set_option maxRecDepth 100000 in
set_option maxHeartbeats 1000000 in
theorem Free_of {G : Nat → Prop} {w : World} {sp l : Nat} {y : Ly} (hs : Spc G w sp l y) {Q : Ending → World → Prop} (k a : Int) (hc : Calls Tryz.prog 59 #[pv sp, .func (.func 49) #[y.v] #[], .int .i64 k, .int .i64 48] w fun e w' => e = .returned (.int .i64 a) ∧ Q e w') :
    Calls Tryz.prog 22 #[pv sp, .int .i64 k] w fun e w' => e = .returned (.int .i64 a) ∧ Q e w' := by
  have hmf : ∀ (fn : Fn) (first cap : Array Value) (w : World), (Instr.makeFunc fn first cap).run Tryz.prog w = .ok (.func fn first cap) w := fun _ _ _ _ => rfl
  have HR := hid hs.range
  have HC := hid hc
  clear hs hc
  unfold Ly.v at HC
  go_enter Tryz.func22, Tryz.ntmps22
  go_wp2_with (first | (refine wpList_load_mid (by rfl) 38 _ (by rfl) sp 1 (by rfl) y.cells _ HR.out Tryz.underlying38 rfl (sz24 y) ?_))
  refine HC.out.mono ?_
  rintro e w1 ⟨rfl, hq⟩
  have HQ := hid hq
  clear HC hq
  go_wp2
  go_ret
  exact ⟨rfl, HQ.out⟩

set_option maxRecDepth 100000 in
set_option maxHeartbeats 1000000 in
theorem FreeInode_of {G : Nat → Prop} {w : World} {sp l : Nat} {y : Ly} (hs : Spc G w sp l y) {Q : Ending → World → Prop} (k a : Int) (hc : Calls Tryz.prog 59 #[pv sp, .func (.func 60) #[y.v] #[], .int .i64 k, .int .i64 49] w fun e w' => e = .returned (.int .i64 a) ∧ Q e w') :
    Calls Tryz.prog 28 #[pv sp, .int .i64 k] w fun e w' => e = .returned (.int .i64 a) ∧ Q e w' := by
  have hmf : ∀ (fn : Fn) (first cap : Array Value) (w : World), (Instr.makeFunc fn first cap).run Tryz.prog w = .ok (.func fn first cap) w := fun _ _ _ _ => rfl
  have HR := hid hs.range
  have HC := hid hc
  clear hs hc
  unfold Ly.v at HC
  go_enter Tryz.func28, Tryz.ntmps28
  go_wp2_with (first | (refine wpList_load_mid (by rfl) 38 _ (by rfl) sp 1 (by rfl) y.cells _ HR.out Tryz.underlying38 rfl (sz24 y) ?_))
  refine HC.out.mono ?_
  rintro e w1 ⟨rfl, hq⟩
  have HQ := hid hq
  clear HC hq
  go_wp2
  go_ret
  exact ⟨rfl, HQ.out⟩

theorem zero68 : ∀ w, (zeroValue 92).run Tryz.prog w = .ok (.agg (bs zeros).toArray) w := (zero_of_info (n := 128) (by kernel_rfl)).1

set_option maxRecDepth 100000 in
set_option maxHeartbeats 4000000 in
theorem Block_ok {G : Nat → Prop} {w : World} {l p bl bt : Nat} {D : Dsk} {L1 : Lg} {sp : Nat} {y : Ly} (hs : Spc G w sp l y) (k : Nat)
    (hg : Calls Tryz.prog 50 #[pv sp, .func (.func 49) #[y.v] #[]] w fun e w' => e = .returned (.tuple #[.int .i64 (k : Int), .int .i64 0]) ∧ OwnL G w' l p bl bt D L1 ∧ Kp G w w') (hst : L1.st.length < 90000) (hE : L1.stageE (k : Int) 128 = 0) :
    Calls Tryz.prog 17 #[pv sp] w fun e w' => e = .returned (.tuple #[.int .i64 (k : Int), .int .i64 0]) ∧ OwnL G w' l p bl bt D (L1.stage (k : Int) zeros) ∧ Kp G w w' := by
  have hmf : ∀ (fn : Fn) (first cap : Array Value) (w : World), (Instr.makeFunc fn first cap).run Tryz.prog w = .ok (.func fn first cap) w := fun _ _ _ _ => rfl
  have hz := zero68
  have HR := hid hs.range
  have HS := hid hs
  have HC := hid hg
  clear hs hg
  unfold Ly.v at HC
  go_enter Tryz.func17, Tryz.ntmps17
  go_wp2_with (first | (refine wpList_load_mid (by rfl) 38 _ (by rfl) sp 1 (by rfl) y.cells _ HR.out Tryz.underlying38 rfl (sz24 y) ?_))
  refine HC.out.mono ?_
  rintro e w1 ⟨rfl, o1, k1⟩
  have HS1 := hid (HS.out.kp k1)
  have HSg : Hid (Calls Tryz.prog 19 #[pv l, .int .i64 (k : Int), .slice (some ⟨w1.heap.size, 0, none⟩) zeros.length 128] (w1.alloc (.cells (bs zeros).toArray 92)).drew fun x w' => x = .returned (.int .i64 (L1.stageE (k : Int) zeros.length)) ∧ OwnL G w' l p bl bt D (L1.stage (k : Int) zeros) ∧ Kp G (w1.alloc (.cells (bs zeros).toArray 92)).drew w') :=
    stage_any ((o1.alloc (.cells (bs zeros).toArray 92)).drew) (k : Int) zeros (some ⟨w1.heap.size, 0, none⟩) 128 (fun _ => ⟨w1.heap.size, 0, rfl, (Blk.new w1 92 (bs zeros)).drew.range 0 _ (by simp), by simp [World.drew]⟩) hst
  rw [zeros_length, hE] at HSg
  have HK1 : Hid (Kp G w (w1.alloc (.cells (bs zeros).toArray 92)).drew) := Kp.trans k1 (show Kp G _ _ from ((Fr.refl _ w1).alloc _).drew)
  have s0 : (w1.alloc (.cells (bs zeros).toArray 92)).drew.cell? ⟨sp, 0, none⟩ = some (pv l) := (HS1.out.b.alloc _).drew.cell 0
  have HsF : Hid (∀ w', Kp G (w1.alloc (.cells (bs zeros).toArray 92)).drew w' → w'.cell? ⟨sp, 0, none⟩ = some (pv l)) := fun w' k => (Kp.blk k (HS1.out.b.alloc _).drew HS1.out.g).cell 0
  clear HC o1 k1 HS1 HS HR
  go_wp2_with fail
  go_region_held3 (fun w' => w'.cell? ⟨sp, 0, none⟩ = some (pv l))
    (first
      | exact s0
      | exact HsF.out _ k2)
    ((go_at_call 19; refine HSg.out.mono ?_; rintro x w2 ⟨rfl, o2, k2⟩))
  have HO2 := hid o2
  have HK2 := hid (Kp.trans HK1.out k2)
  clear o2 k2 HSg HsF s0
  go_wp2
  go_ret2
  exact ⟨rfl, HO2.out, HK2.out⟩

end Go.Proofs.YtehoiahgkbnjdaaGreat.Al
