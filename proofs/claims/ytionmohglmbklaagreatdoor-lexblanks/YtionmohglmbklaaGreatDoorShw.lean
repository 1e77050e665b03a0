/- The contract of shown. -/
import Derived.Test.YtionmohglmbklaaGreatDoorTeq
import Derived.Test.YtionmohglmbklaaGreatDoorPf1
namespace Go.Proofs.YtionmohglmbklaaGreatDoor.Tr
open Go.RowKit

def t17 : List UInt8 := [97, 45, 98, 32, 49, 46, 53, 101, 51, 46, 120, 32, 34, 97, 92, 110, 34]
def L17 : List Tok := [⟨1, [97, 45, 98], 0, 0, 0⟩, ⟨3, t15, 0, 4654311885213007872, 4⟩, ⟨5, [46], 0, 0, 9⟩, ⟨1, [120], 0, 0, 10⟩, ⟨4, [97, 10], 0, 0, 12⟩, ⟨0, [], 0, 0, 17⟩]
theorem run17 {w0 : World} (h : Tabs w0) : Run w0 t17 0 L17 none := by
  have r6 : Run w0 t17 17 [⟨0, [], 0, 0, 17⟩] none := Run.fin (k1 := 17) (k2 := 17) (Skp.done (by decide)) (Here.fin (t := t17)) rfl
  have s2 : StrO t17 16 [97, 10] (.fin [97, 10] 17) := StrO.fin (t := t17) (k := 16) (b := [97, 10]) (by decide) (by decide) (by decide)
  have s1 : StrO t17 13 [] (.fin [97, 10] 17) := StrO.esc (t := t17) (k := 13) (b := []) (c := 10) (by decide) (by decide) (by decide) (by decide) s2
  have r5 : Run w0 t17 11 [⟨4, [97, 10], 0, 0, 12⟩, ⟨0, [], 0, 0, 17⟩] none := Run.tok (k1 := 12) (k2 := 17) (Skp.done (by decide)) (Here.str (t := t17) (k := 12) (o := .fin [97, 10] 17) (by decide) (by decide) s1) (by decide) r6
  have r4 : Run w0 t17 10 [⟨1, [120], 0, 0, 10⟩, ⟨4, [97, 10], 0, 0, 12⟩, ⟨0, [], 0, 0, 17⟩] none := Run.tok (k1 := 10) (k2 := 11) (Skp.done (by decide)) (Here.name (t := t17) (k := 10) (by decide) (by decide)) (by decide) r5
  have r3 : Run w0 t17 9 [⟨5, [46], 0, 0, 9⟩, ⟨1, [120], 0, 0, 10⟩, ⟨4, [97, 10], 0, 0, 12⟩, ⟨0, [], 0, 0, 17⟩] none := Run.tok (k1 := 9) (k2 := 10) (Skp.done (by decide)) (Here.sign (t := t17) (k := 9) (by decide) (by decide) (by decide) (by decide) (by decide)) (by decide) r4
  have r2 : Run w0 t17 3 [⟨3, t15, 0, 4654311885213007872, 4⟩, ⟨5, [46], 0, 0, 9⟩, ⟨1, [120], 0, 0, 10⟩, ⟨4, [97, 10], 0, 0, 12⟩, ⟨0, [], 0, 0, 17⟩] none := Run.tok (k1 := 4) (k2 := 9) (Skp.done (by decide)) (Here.flt (t := t17) (k := 4) (by decide) (by decide) (by decide) (by decide) (by decide) (by decide) (pf15 h)) (by decide) r3
  exact Run.tok (k1 := 0) (k2 := 3) (Skp.done (by decide)) (Here.name (t := t17) (k := 0) (by decide) (by decide)) (by decide) r2

theorem eq1500 (w : World) : (binOp BinOp.eql 35 (.float .f64 4654311885213007872) (.float .f64 4654311885213007872)).run Tryz.prog w = .ok (.bool true) w := by kernel_rfl

set_option maxRecDepth 100000 in
set_option maxHeartbeats 1000000 in
theorem shown_any {w0 w : World} (h : Tabs w0) (hE : Env w0 w) : Calls Tryz.prog 17 #[] w fun e w' => e = .returned (.bool true) ∧ Fr (fun _ => False) w w' := by
  have HA := hid (all_any hE (by decide) (run17 h) (by decide))
  clear h hE
  unfold AllPost at HA
  go_enter Tryz.func17, Tryz.ntmps17
  go_wp2_with fail
  refine HA.out.mono ?_
  rintro e w2 ⟨v, rfl, ho, f2⟩
  obtain ⟨g, cap, rfl, _, hT⟩ := toks_own ho rfl (by decide)
  have HF := hid f2
  have c1 : w2.cell? ⟨g, 8, none⟩ = some (.float .f64 4654311885213007872) := hT.flt 1 (by decide)
  have c2 : w2.cell? ⟨g, 21, none⟩ = some (.string ⟨#[97, 10]⟩) := hT.text 4 (by decide)
  have c3 : w2.cell? ⟨g, 25, none⟩ = some (.int .i64 0) := hT.kind 5 (by decide)
  have hl : L17.length = 6 := rfl
  rw [hl]
  clear hT ho f2 HA hl
  have heq := eq1500 w2
  have ho : (FloatKind.f64.format.order 4654311885213007872 4654311885213007872 == some Ordering.eq) = true := by decide +kernel
  go_wp2
  go_ret
  exact ⟨rfl, HF.out⟩

end Go.Proofs.YtionmohglmbklaaGreatDoor.Tr
