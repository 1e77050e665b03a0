/- The law's own: act. -/
import Derived.Test.YtehoiahgkbnjdaaGreatGai
namespace Go.Proofs.YtehoiahgkbnjdaaGreat.Al
open Go.RowKit Go.Shelf Dk Wl

set_option maxRecDepth 100000 in
set_option maxHeartbeats 4000000 in
theorem act_any {G : Nat → Prop} {w : World} {l p bl bt sp n m : Nat} {T : Nat → Sec} {D : Dsk} {L : Lg} (h : OwnL G w l p bl bt D L) (hs : Spc G w sp l (lay n)) (a : AI n m T D L) (h1 : 64 ≤ n) (h2 : n ≤ 1024) (K N : Int) :
    Calls Tryz.prog 23 #[pv sp, .agg #[.int .i64 K, .int .i64 N]] w fun e w' => e = .returned (.tuple #[]) ∧ Acts G w l p bl bt n m T D w' := by
  have f0 : Nw w (w.alloc (.cells #[.int .i64 K, .int .i64 N] 36)) := (Fr.refl _ w).alloc _
  have HB := hid (Block_act (h.nw f0) (hs.kp f0.kp) a h1 h2)
  have HI := hid (Inode_act (h.nw f0) (hs.kp f0.kp) a h1 h2)
  have HF := hid (Free_act (h.nw f0) (hs.kp f0.kp) a h1 h2 N)
  have HG := hid (FreeInode_act (h.nw f0) (hs.kp f0.kp) a h1 h2 N)
  have H0 : Hid (∀ w', Acts G (w.alloc (.cells #[.int .i64 K, .int .i64 N] 36)) l p bl bt n m T D w' → Acts G w l p bl bt n m T D w') := by
    rintro w' ⟨L', a1, a2, a3⟩
    exact ⟨L', a1, a2, Kp.trans f0.kp a3⟩
  have H5 : Hid (Acts G w l p bl bt n m T D (w.alloc (.cells #[.int .i64 K, .int .i64 N] 36))) := ⟨L, h.nw f0, a, f0.kp⟩
  clear h hs a h1 h2 f0
  go_enter Tryz.func23, Tryz.ntmps23
  go_wp2_with (first
    | (go_at_call 17; refine HB.out.mono ?_; rintro x w2 ⟨x1, x2, rfl, q2⟩; have HQ := hid (H0.out _ q2); clear q2)
    | (go_at_call 27; refine HI.out.mono ?_; rintro x w2 ⟨x1, x2, rfl, q2⟩; have HQ := hid (H0.out _ q2); clear q2)
    | (go_at_call 22; refine HF.out.mono ?_; rintro x w2 ⟨x1, rfl, q2⟩; have HQ := hid (H0.out _ q2); clear q2)
    | (go_at_call 28; refine HG.out.mono ?_; rintro x w2 ⟨x1, rfl, q2⟩; have HQ := hid (H0.out _ q2); clear q2))
  all_goals
    first
      | exact bodyPost_end (results_none rfl _ _ _) rfl ⟨rfl, HQ.out⟩
      | exact bodyPost_end (results_none rfl _ _ _) rfl ⟨rfl, H5.out⟩

end Go.Proofs.YtehoiahgkbnjdaaGreat.Al
