/- ParseFloat over what atof64 gives; ParseFloat where no digit is left out. -/
import Derived.Test.YtionmohglmbklaaGreatDoorExa
import Derived.Test.YtionmohglmbklaaGreatDoorPno
import Derived.Test.YtionmohglmbklaaGreatDoorRfx
namespace Go.Proofs.YtionmohglmbklaaGreatDoor.Tr
open Go.RowKit

/-- What atof64 gives of a text. -/
def Ato (w0 : World) (t : List UInt8) (R : Nat × Bool) : Prop := ∀ w, Env w0 w →
  Calls Tryz.prog 121 #[.string ⟨t.toArray⟩] w fun e w' => e = .returned (.tuple #[.float .f64 R.1, .int .i64 (t.length : Int), errV R.2]) ∧ Fr (fun _ => False) w w'

set_option maxRecDepth 100000 in
set_option maxHeartbeats 1000000 in
theorem pfp_any {w0 w : World} {t : List UInt8} {f : Nat} {b : Bool} (hA : Ato w0 t (f, b)) (hE : Env w0 w) : Calls Tryz.prog 95 #[.string ⟨t.toArray⟩, .int .i64 64] w fun e w' => e = .returned (.tuple #[.float .f64 f, .int .i64 (t.length : Int), errV b]) ∧ Fr (fun _ => False) w w' := by
  have HR := hid (hA w hE)
  clear hA hE
  generalize errV b = v at *
  go_enter Tryz.func95, Tryz.ntmps95
  go_wp2_with fail
  refine HR.out.mono ?_
  rintro e w' ⟨rfl, hw⟩
  have HF := hid hw
  clear HR hw
  go_wp2
  go_ret3
  exact ⟨rfl, HF.out⟩

set_option maxRecDepth 100000 in
set_option maxHeartbeats 1000000 in
theorem ipf_any {w0 w : World} {t : List UInt8} {f : Nat} {b : Bool} (hA : Ato w0 t (f, b)) (hE : Env w0 w) : Calls Tryz.prog 69 #[.string ⟨t.toArray⟩, .int .i64 64] w fun e w' => e = .returned (.tuple #[.float .f64 f, errV b]) ∧ Fr (fun _ => False) w w' := by
  have HR := hid (pfp_any hA hE)
  clear hA hE
  generalize errV b = v at *
  have hl : ((t.length : Int) != (t.length : Int)) = false := by simp
  go_enter Tryz.func69, Tryz.ntmps69
  go_wp2_with fail
  refine HR.out.mono ?_
  rintro e w' ⟨rfl, hw⟩
  have HF := hid hw
  clear HR hw
  go_wp2
  go_ret2
  exact ⟨rfl, HF.out⟩

set_option maxRecDepth 100000 in
set_option maxHeartbeats 1000000 in
theorem pf_ok {w0 : World} {t : List UInt8} {f : Nat} (hA : Ato w0 t (f, false)) : PFok w0 t f := by
  intro w hE
  have HR := hid (ipf_any hA hE)
  clear hA hE
  have hv : errV false = .nilIface := rfl
  rw [hv] at HR
  clear hv
  go_enter Tryz.func47, Tryz.ntmps47
  go_wp2_with fail
  refine HR.out.mono ?_
  rintro e w' ⟨rfl, hw⟩
  have HF := hid hw
  clear HR hw
  go_wp2
  go_ret2
  exact ⟨rfl, HF.out⟩

set_option maxRecDepth 100000 in
set_option maxHeartbeats 1000000 in
theorem pf_no {w0 : World} (hR : Rng w0) {t : List UInt8} {f : Nat} (hl : t.length ≤ 4096) (hA : Ato w0 t (f, true)) : PFno w0 t := by
  intro w hE
  have HC := hid (ipf_any hA hE)
  have HEnv := hid hE
  have HR := hid hR
  clear hA hE hR
  have hv : errV true = .iface 145 (.int .i64 1) := rfl
  rw [hv] at HC
  clear hv
  go_enter Tryz.func47, Tryz.ntmps47
  go_wp2_with fail
  refine HC.out.mono ?_
  rintro e w2 ⟨rfl, f2⟩
  have HF := hid f2
  obtain ⟨ev, hc, hev⟩ := HR.out.env (HEnv.out.fr f2 (fun _ h => h.elim))
  have HT := hid (Tryz.strconv_toError_range ⟨#[80, 97, 114, 115, 101, 70, 108, 111, 97, 116]⟩ ⟨t.toArray⟩ 0 64 ev w2 (by show t.length ≤ _; omega) hc hev)
  clear f2 HC hc hev
  go_wp2_with fail
  refine HT.out.mono ?_
  rintro e w3 ⟨N, rfl, _, _, hb⟩
  have f3 : Fr (fun _ => False) w2 w3 := ⟨hb.os, hb.tape, hb.output, hb.size, fun k hk _ => hb.block k hk⟩
  have HF3 : Hid (Fr (fun _ => False) w w3) := HF.out.same f3
  clear hb HT f3
  go_wp2_with fail
  go_ret2
  exact ⟨_, _, _, rfl, HF3.out⟩

end Go.Proofs.YtionmohglmbklaaGreatDoor.Tr
