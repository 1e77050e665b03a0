/- The contract of the document's user, whole. -/
import Derived.Test.YtangnoicnogddaaRuA
import Derived.Test.YtangnoicnogddaaRuB
namespace Go.Proofs.Ytangnoicnogddaa.Tr
open Go.RowKit

section
variable {E : Nat → Prop} {w : World} {rb : Nat} {s : St} {o : Ov} {pa : Option Addr} {pc : Nat} {XF : List Xv} {XR : List Uv}
set_option maxRecDepth 100000 in
set_option maxHeartbeats 8000000 in
theorem ruser_any (h : RI E w rb s o pa pc XF XR) (hs : s.ok) (n : Nm) :
    Calls Try.prog 30 #[.pointer (some ⟨rb, 0, none⟩), .string ⟨n.toArray⟩] w fun e w' => RPost E w rb (userF s n) e w' := by
  cases hn : nameB n with
  | false =>
    have HN := hid (rname_any w n)
    have HBad : Hid (∀ r, r = (s, 70) → ∀ W, Fr (fun _ => False) w W → RPost E w rb r (.returned (.int .i64 70)) W) := fun r hr W f => by subst hr; exact ⟨rfl, f.upO, _, _, _, _, _, h.grow f⟩
    rw [hn] at HN
    have HR : Hid (userF s n = (s, 70)) := by unfold Hid userF userOk; rw [hn]; simp
    generalize userF s n = r at *
    clear h hn
    go_enter Try.func30, Try.ntmps30
    go_wp2_with (go_at_call 35; refine HN.out.mono ?_; rintro e w1 ⟨rfl, f1⟩; have F1 := hid f1; clear f1)
    go_ret
    exact HBad.out _ HR.out _ F1.out
  | true =>
    rcases e : o.ua with _ | ⟨ub, uo, up⟩
    · exact ruser_none h hs n hn e
    · exact ruser_some h hs n hn e
end
end Go.Proofs.Ytangnoicnogddaa.Tr
