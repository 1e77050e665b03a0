/- ParseInt over digits that say too much. -/
import Derived.Test.YtionmohglmbklaaGreatDoorPin
import Derived.Test.YtionmohglmbklaaGreatDoorFlo
import Derived.Test.YtionmohglmbklaaGreatDoorShf
import Derived.Lib.IfaceNeq
namespace Go.Proofs.YtionmohglmbklaaGreatDoor.Tr
open Go.RowKit

/-- The library's error of range lies where the library keeps it. -/
def Rng (w : World) : Prop := ∃ ev, w.cell? ⟨3, 0, none⟩ = some ev ∧ (ev = .nilIface ∨ ∃ te pe, ev = .iface te pe)
theorem Rng.env {w0 W : World} (h : Rng w0) (e : Env w0 W) : Rng W := by
  obtain ⟨ev, h1, h2⟩ := h
  exact ⟨ev, e.cell h1, h2⟩

set_option maxRecDepth 100000 in
set_option maxHeartbeats 4000000 in
theorem ipint_no (w : World) {s : List UInt8} (hd : s.all isDig = true) (hl : s.length ≤ 4096) (hne : 0 < s.length) (hv : 9223372036854775808 ≤ val s) : Calls Tryz.prog 125 #[.string ⟨s.toArray⟩, .int .i64 10, .int .i64 64] w fun e w' => ∃ z, e = .returned (.tuple #[.int .i64 z, .iface 145 (.int .i64 1)]) ∧ Fr (fun _ => False) w w' := by
  have hnil : ¬ s = [] := fun e => by subst e; simp at hne
  have hnil2 : (s == []) = false := by simpa using hnil
  have hd0 : isDig s[0] = true := List.all_eq_true.1 hd _ (List.getElem_mem _)
  rw [dig_iff] at hd0
  have e43 : ((((ByteArray.mk s.toArray)[0]'(by simpa [ByteArray.size] using hne)).toNat : Int) == 43) = false := by rw [str_at s 0 hne]; simp; omega
  have e45 : ((((ByteArray.mk s.toArray)[0]'(by simpa [ByteArray.size] using hne)).toNat : Int) == 45) = false := by rw [str_at s 0 hne]; simp; omega
  have h01 : (0 : Int) < (s.length : Int) := by omega
  have hq1 : ∀ W, (binOp .neq 28 (.iface 145 (.int .i64 1)) (.iface 145 (.int .i64 1))).run Tryz.prog W = .ok (.bool false) W := fun W => Lib.run_neq_iface_int W 1 1 Tryz.underlying28 (by kernel_rfl) Tryz.underlying145
  by_cases hbig : val s < 18446744073709551616
  · have HC := hid (puint_ok w hd hl hne hbig)
    generalize val s = v at *
    clear hd hd0
    go_enter Tryz.func125, Tryz.ntmps125
    go_wp2_with fail
    refine HC.out.mono ?_
    rintro e w2 ⟨rfl, f2⟩
    have HF := hid f2
    clear f2 HC
    have hge' : decide ((v : Int) ≥ 9223372036854775808) = true := decide_eq_true (by omega)
    have hge : (9223372036854775808 : Int) ≤ (v : Int) := by omega
    go_wp2_with fail
    go_ret2
    exact ⟨_, rfl, HF.out⟩
  · have HC := hid (puint_no w hd hl hne (by omega))
    clear hd hd0
    go_enter Tryz.func125, Tryz.ntmps125
    go_wp2_with fail
    refine HC.out.mono ?_
    rintro e w2 ⟨rfl, f2⟩
    have HF := hid f2
    clear f2 HC
    go_wp2_with fail
    go_ret2
    exact ⟨_, rfl, HF.out⟩

set_option maxRecDepth 100000 in
set_option maxHeartbeats 4000000 in
theorem pint_no {w0 : World} (hR : Rng w0) {s : List UInt8} (hd : s.all isDig = true) (hl : s.length ≤ 4096) (hne : 0 < s.length) (hv : 9223372036854775808 ≤ val s) : PIno w0 s := by
  intro w hE
  have HC := hid (ipint_no w hd hl hne hv)
  have HEnv := hid hE
  have HR := hid hR
  clear hd hv hE hR
  go_enter Tryz.func101, Tryz.ntmps101
  go_wp2_with fail
  refine HC.out.mono ?_
  rintro e w2 ⟨z, rfl, f2⟩
  have HF := hid f2
  obtain ⟨ev, hc, hev⟩ := HR.out.env (HEnv.out.fr f2 (fun _ h => h.elim))
  have HT := hid (Tryz.strconv_toError_range ⟨#[80, 97, 114, 115, 101, 73, 110, 116]⟩ ⟨s.toArray⟩ 10 64 ev w2 (by show s.length ≤ _; omega) hc hev)
  clear f2 HC hc hev
  go_wp2_with fail
  refine HT.out.mono ?_
  rintro e w3 ⟨N, rfl, _, _, hb⟩
  have f3 : Fr (fun _ => False) w2 w3 := ⟨hb.os, hb.tape, hb.output, hb.size, fun k hk _ => hb.block k hk⟩
  have HF3 : Hid (Fr (fun _ => False) w w3) := HF.out.same f3
  clear hb HT f3
  go_wp2_with fail
  go_ret2
  exact ⟨_, _, _, rfl, HF3.out⟩

end Go.Proofs.YtionmohglmbklaaGreatDoor.Tr
