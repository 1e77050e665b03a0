
/- The closures that bits is handed; count, give, take. -/
import Derived.Test.YtehoiahgkbnjdaaGreatBit
namespace Go.Proofs.YtehoiahgkbnjdaaGreat.Al
open Go.RowKit Go.Shelf Dk Wl

abbrev encI (s : Int) : Value := .int .i64 s
abbrev encB (s : Bool) : Value := .bool s
def stepC (s : Int) (_ : Int) (u : Bool) : Bool × Int := (false, if u then s else wrap64 (s + 1))
def stepG (s : Int) (k : Int) (u : Bool) : Bool × Int := if u then (false, s) else if s ≠ 0 then (false, s) else (true, k)
def stepT (_ : Bool) (_ : Int) (u : Bool) : Bool × Bool := (u, u)

theorem fr_set {W : World} {c : Nat} (v : Value) : Fr (fun k => k = c) W (W.setCell ⟨c, 0, none⟩ v) := (Fr.refl (fun k => k = c) W).setCell (p := ⟨c, 0, none⟩) (.inl rfl) v

set_option maxRecDepth 100000 in
set_option maxHeartbeats 1000000 in
theorem count1 (c : Nat) : Turns encI 3 stepC 73 c := by
  intro W s k u hb
  have c0 := hb.cell 0
  have z0 := hb.frozen 0
  have HB := hid hb
  simp only [List.getElem?_cons_zero] at c0
  clear hb
  cases u
  · go_enter Tryz.func73, Tryz.ntmps73
    go_wp2
    go_ret
    exact ⟨rfl, HB.out.setCell 0 _, fr_set _⟩
  · go_enter Tryz.func73, Tryz.ntmps73
    go_wp2
    go_ret
    exact ⟨rfl, HB.out, Fr.refl _ _⟩

set_option maxRecDepth 100000 in
set_option maxHeartbeats 1000000 in
theorem give1 (c : Nat) : Turns encI 3 stepG 74 c := by
  intro W s k u hb
  have c0 := hb.cell 0
  have z0 := hb.frozen 0
  have HB := hid hb
  simp only [List.getElem?_cons_zero] at c0
  clear hb
  cases u
  · by_cases hs : s = 0
    · subst hs
      have HE : Hid (stepG 0 k false = (true, k)) := by simp [Hid, stepG]
      go_enter Tryz.func74, Tryz.ntmps74
      go_wp2
      go_ret
      rw [HE.out]
      exact ⟨rfl, HB.out.setCell 0 _, fr_set _⟩
    · have hb0 : (s != 0) = true := by simpa using hs
      have HE : Hid (stepG s k false = (false, s)) := by simp [Hid, stepG, hs]
      go_enter Tryz.func74, Tryz.ntmps74
      go_wp2
      go_ret
      rw [HE.out]
      exact ⟨rfl, HB.out, Fr.refl _ _⟩
  · have HE : Hid (stepG s k true = (false, s)) := by simp [Hid, stepG]
    go_enter Tryz.func74, Tryz.ntmps74
    go_wp2
    go_ret
    rw [HE.out]
    exact ⟨rfl, HB.out, Fr.refl _ _⟩

set_option maxRecDepth 100000 in
set_option maxHeartbeats 1000000 in
theorem take1 (c : Nat) : Turns encB 4 stepT 84 c := by
  intro W s k u hb
  have c0 := hb.cell 0
  have z0 := hb.frozen 0
  have HB := hid hb
  simp only [List.getElem?_cons_zero] at c0
  clear hb
  go_enter Tryz.func84, Tryz.ntmps84
  go_wp2
  go_ret
  exact ⟨rfl, HB.out.setCell 0 _, fr_set _⟩

theorem e53 : Enters Tryz.prog 73 := enters_of Tryz.func73 (by kernel_rfl) rfl
theorem e54 : Enters Tryz.prog 74 := enters_of Tryz.func74 (by kernel_rfl) rfl
theorem e55 : Enters Tryz.prog 84 := enters_of Tryz.func84 (by kernel_rfl) rfl
theorem e34 : Enters Tryz.prog 49 := enters_of Tryz.func49 (by kernel_rfl) rfl
theorem e35 : Enters Tryz.prog 60 := enters_of Tryz.func60 (by kernel_rfl) rfl

/-- What is asked of: one of the two maps, by its method value. -/
structure Kind (NO : Nat) (y : Ly) (sec zr : Nat) (pf pl : Int → Int) : Prop where
  e : Enters Tryz.prog NO
  c : ∀ W f l', Calls Tryz.prog NO #[y.v, .int .i64 f, .int .i64 l'] W fun e w' => e = .returned (.agg (spC sec zr (pf f) (pl l')).toArray) ∧ Nw W w'

/-- A space in hand: its block is one of G. -/
structure Spc (G : Nat → Prop) (w : World) (sp l : Nat) (y : Ly) : Prop where
  b : Blk w sp 76 (spcC l y)
  g : G sp

set_option maxRecDepth 100000 in
set_option maxHeartbeats 4000000 in
theorem count_any {G : Nat → Prop} {w : World} {l p bl bt : Nat} {D : Dsk} {L : Lg} (h : OwnL G w l p bl bt D L) (sp : Nat) (y : Ly) (hs : Spc G w sp l y) (NO sec zr : Nat) (pf pl : Int → Int) (hk : Kind NO y sec zr pf pl)
    (hle : pf 0 ≤ pl y.s) (hz : (zr : Int) ≤ pf 0) (hpl : pl y.s - zr < 1024) (hz2 : zr ≤ 1024) (hr : L.reach (sec : Int) = 0) (hup : D.up = true) (hst : L.st.length < 90000) (hno : (brun stepC zr (pl y.s + 1 - pf 0).toNat (pf 0) (L.tell D sec) 0 false).2.2 = false) :
    Calls Tryz.prog 48 #[pv sp, .func (.func NO) #[y.v] #[]] w fun e w' => e = .returned (.tuple #[.int .i64 (brun stepC zr (pl y.s + 1 - pf 0).toNat (pf 0) (L.tell D sec) 0 false).2.1, .int .i64 0]) ∧ OwnL G w' l p bl bt D L ∧ Kp G w w' := by
  have hmf : ∀ (fn : Fn) (first cap : Array Value) (w : World), (Instr.makeFunc fn first cap).run Tryz.prog w = .ok (.func fn first cap) w := fun _ _ _ _ => rfl
  have hglt := h.glt hs.g
  have hnG : ¬ G w.heap.size := fun hg => by have := h.glt hg; omega
  have HB := hid (bits_any (G := G) sp w.heap.size NO 73 hk.e e53 3 encI stepC 0 y 0 (y.s : Int) sec zr (pf 0) (pl y.s) (h.more (.cells #[.int .i64 0] 3)) (hs.b.alloc _) hs.g hnG (Blk.new w 3 [.int .i64 0]) (fun W => hk.c W 0 (y.s : Int)) (count1 _) hle hz hpl hz2 hr hup hst)
  have s1 : (w.alloc (.cells #[.int .i64 0] 3)).cell? ⟨sp, 1, none⟩ = some (.int .i64 (y.s : Int)) := (hs.b.alloc _).cell 1
  have HF : Hid (Kp G w (w.alloc (.cells #[.int .i64 0] 3))) := (Fr.refl _ w).alloc _
  have Hno := hid hno
  clear h hs hk hno
  unfold BitsPost at HB
  rw [Hno.out] at HB
  simp only [Bool.false_eq_true, if_false] at HB
  generalize (brun stepC zr (pl y.s + 1 - pf 0).toNat (pf 0) (L.tell D sec) 0 false).2.1 = cnt at *
  unfold Ly.v at *
  go_enter Tryz.func48, Tryz.ntmps48
  go_wp2_with fail
  refine HB.out.mono ?_
  rintro e w1 ⟨rfl, o1, b1, k1⟩
  have c0 : w1.cell? ⟨w.heap.size, 0, none⟩ = some (.int .i64 cnt) := b1.cell 0
  have HO := hid (o1.less (G' := G) (fun _ hk => .inl hk))
  have HK := hid (Kp.trans HF.out k1)
  clear HB o1 b1 k1
  go_wp2
  go_ret2
  exact ⟨rfl, HO.out, HK.out⟩

/-- What bits leaves of a log. -/
def bitE (L : Lg) (sec : Nat) (t : Bool) : Int := if t then L.stageE (sec : Int) 128 else 0
def bitL (L : Lg) (sec : Nat) (t : Bool) (b : Sec) : Lg := if t then L.stage (sec : Int) b else L

set_option maxRecDepth 100000 in
set_option maxHeartbeats 4000000 in
theorem give_any {G : Nat → Prop} {w : World} {l p bl bt : Nat} {D : Dsk} {L : Lg} (h : OwnL G w l p bl bt D L) (sp : Nat) (y : Ly) (hs : Spc G w sp l y) (NO sec zr : Nat) (pf pl : Int → Int) (hk : Kind NO y sec zr pf pl)
    (hle : pf 0 ≤ pl y.s) (hz : (zr : Int) ≤ pf 0) (hpl : pl y.s - zr < 1024) (hz2 : zr ≤ 1024) (hr : L.reach (sec : Int) = 0) (hup : D.up = true) (hst : L.st.length < 90000) (b' : Sec) (g : Int) (t : Bool) (hR : brun stepG zr (pl y.s + 1 - pf 0).toNat (pf 0) (L.tell D sec) 0 false = (b', g, t)) :
    Calls Tryz.prog 50 #[pv sp, .func (.func NO) #[y.v] #[]] w fun e w' => e = .returned (.tuple #[.int .i64 (if bitE L sec t ≠ 0 then 0 else g), .int .i64 (if bitE L sec t ≠ 0 then bitE L sec t else if g = 0 then 47 else 0)]) ∧ OwnL G w' l p bl bt D (bitL L sec t b') ∧ Kp G w w' := by
  have hmf : ∀ (fn : Fn) (first cap : Array Value) (w : World), (Instr.makeFunc fn first cap).run Tryz.prog w = .ok (.func fn first cap) w := fun _ _ _ _ => rfl
  have hnG : ¬ G w.heap.size := fun hg => by have := h.glt hg; omega
  have HB := hid (bits_any (G := G) sp w.heap.size NO 74 hk.e e54 3 encI stepG 0 y 0 (y.s : Int) sec zr (pf 0) (pl y.s) (h.more (.cells #[.int .i64 0] 3)) (hs.b.alloc _) hs.g hnG (Blk.new w 3 [.int .i64 0]) (fun W => hk.c W 0 (y.s : Int)) (give1 _) hle hz hpl hz2 hr hup hst)
  have s1 : (w.alloc (.cells #[.int .i64 0] 3)).cell? ⟨sp, 1, none⟩ = some (.int .i64 (y.s : Int)) := (hs.b.alloc _).cell 1
  have HF : Hid (Kp G w (w.alloc (.cells #[.int .i64 0] 3))) := (Fr.refl _ w).alloc _
  rw [hR] at HB
  clear h hs hk hR
  unfold BitsPost at HB
  have HB2 : Hid (Calls Tryz.prog 72 #[pv sp, .func (.func NO) #[y.v] #[], .int .i64 0, .int .i64 (y.s : Int), .func (.func 74) #[] #[pv w.heap.size]] (w.alloc (.cells #[.int .i64 0] 3)) fun e w' => e = .returned (.int .i64 (bitE L sec t)) ∧ OwnL (fun k => G k ∨ k = w.heap.size) w' l p bl bt D (bitL L sec t b') ∧ Blk w' w.heap.size 3 [.int .i64 g] ∧ Kp G (w.alloc (.cells #[.int .i64 0] 3)) w') := HB.out
  clear HB
  generalize hEq : bitE L sec t = E at *
  clear hEq
  generalize bitL L sec t b' = L' at *
  unfold Ly.v at *
  go_enter Tryz.func50, Tryz.ntmps50
  go_wp2_with fail
  refine HB2.out.mono ?_
  rintro e w1 ⟨rfl, o1, b1, k1⟩
  have c0 : w1.cell? ⟨w.heap.size, 0, none⟩ = some (.int .i64 g) := b1.cell 0
  have HO := hid (o1.less (G' := G) (fun _ hk => .inl hk))
  have HK := hid (Kp.trans HF.out k1)
  clear HB2 o1 b1 k1
  by_cases hE : E = 0
  · subst hE
    by_cases hg : g = 0
    · subst hg
      go_wp2
      go_ret2
      exact ⟨rfl, HO.out, HK.out⟩
    · have hgb : (g == 0) = false := by simpa using hg
      go_wp2
      go_ret2
      exact ⟨rfl, HO.out, HK.out⟩
  · have hEb : (E != 0) = true := by simpa using hE
    go_wp2
    go_ret2
    exact ⟨rfl, HO.out, HK.out⟩

set_option maxRecDepth 100000 in
set_option maxHeartbeats 4000000 in
theorem take_any {G : Nat → Prop} {w : World} {l p bl bt : Nat} {D : Dsk} {L : Lg} (h : OwnL G w l p bl bt D L) (sp : Nat) (y : Ly) (hs : Spc G w sp l y) (NO sec zr : Nat) (pf pl : Int → Int) (hk : Kind NO y sec zr pf pl) (k no : Int)
    (hle : pf k ≤ pl k) (hz : (zr : Int) ≤ pf k) (hpl : pl k - zr < 1024) (hz2 : zr ≤ 1024) (hr : L.reach (sec : Int) = 0) (hup : D.up = true) (hst : L.st.length < 90000) (b' : Sec) (g : Bool) (t : Bool) (hR : brun stepT zr (pl k + 1 - pf k).toNat (pf k) (L.tell D sec) false false = (b', g, t)) :
    Calls Tryz.prog 59 #[pv sp, .func (.func NO) #[y.v] #[], .int .i64 k, .int .i64 no] w fun e w' => e = .returned (.int .i64 (if bitE L sec t = 0 ∧ g = false then no else bitE L sec t)) ∧ OwnL G w' l p bl bt D (bitL L sec t b') ∧ Kp G w w' := by
  have hmf : ∀ (fn : Fn) (first cap : Array Value) (w : World), (Instr.makeFunc fn first cap).run Tryz.prog w = .ok (.func fn first cap) w := fun _ _ _ _ => rfl
  have hnG : ¬ G w.heap.size := fun hg => by have := h.glt hg; omega
  have HB := hid (bits_any (G := G) sp w.heap.size NO 84 hk.e e55 4 encB stepT false y k k sec zr (pf k) (pl k) (h.more (.cells #[.bool false] 4)) (hs.b.alloc _) hs.g hnG (Blk.new w 4 [.bool false]) (fun W => hk.c W k k) (take1 _) hle hz hpl hz2 hr hup hst)
  have HF : Hid (Kp G w (w.alloc (.cells #[.bool false] 4))) := (Fr.refl _ w).alloc _
  rw [hR] at HB
  clear h hs hk hR
  unfold BitsPost at HB
  have HB2 : Hid (Calls Tryz.prog 72 #[pv sp, .func (.func NO) #[y.v] #[], .int .i64 k, .int .i64 k, .func (.func 84) #[] #[pv w.heap.size]] (w.alloc (.cells #[.bool false] 4)) fun e w' => e = .returned (.int .i64 (bitE L sec t)) ∧ OwnL (fun k => G k ∨ k = w.heap.size) w' l p bl bt D (bitL L sec t b') ∧ Blk w' w.heap.size 4 [.bool g] ∧ Kp G (w.alloc (.cells #[.bool false] 4)) w') := HB.out
  clear HB
  generalize hEq : bitE L sec t = E at *
  clear hEq
  generalize bitL L sec t b' = L' at *
  unfold Ly.v at *
  go_enter Tryz.func59, Tryz.ntmps59
  go_wp2_with fail
  refine HB2.out.mono ?_
  rintro e w1 ⟨rfl, o1, b1, k1⟩
  have c0 : w1.cell? ⟨w.heap.size, 0, none⟩ = some (.bool g) := b1.cell 0
  have HO := hid (o1.less (G' := G) (fun _ hk => .inl hk))
  have HK := hid (Kp.trans HF.out k1)
  clear HB2 o1 b1 k1
  by_cases hE : E = 0
  · subst hE
    cases g
    · go_wp2
      go_ret
      exact ⟨rfl, HO.out, HK.out⟩
    · go_wp2
      go_ret
      exact ⟨rfl, HO.out, HK.out⟩
  · have hEb : (E == 0) = false := by simpa using hE
    go_wp2
    go_ret
    exact ⟨rfl, HO.out, HK.out⟩

set_option maxRecDepth 100000 in
set_option maxHeartbeats 4000000 in
theorem take_none (w : World) (sp : Nat) (y : Ly) (NO sec zr : Nat) (pf pl : Int → Int) (hk : Kind NO y sec zr pf pl) (k no : Int) (hlt : pl k < pf k) :
    Calls Tryz.prog 59 #[pv sp, .func (.func NO) #[y.v] #[], .int .i64 k, .int .i64 no] w fun e w' => e = .returned (.int .i64 no) ∧ Nw w w' := by
  have hmf : ∀ (fn : Fn) (first cap : Array Value) (w : World), (Instr.makeFunc fn first cap).run Tryz.prog w = .ok (.func fn first cap) w := fun _ _ _ _ => rfl
  have HB := hid (bits_none (w := w.alloc (.cells #[.bool false] 4)) sp NO hk.e y k k sec zr (pf k) (pl k) (.func (.func 84) #[] #[pv w.heap.size]) (fun W => hk.c W k k) hlt)
  have HF : Hid (Nw w (w.alloc (.cells #[.bool false] 4))) := (Fr.refl _ w).alloc _
  have HC := hid (Blk.new w 4 [.bool false])
  clear hk
  unfold Ly.v at *
  go_enter Tryz.func59, Tryz.ntmps59
  go_wp2_with fail
  refine HB.out.mono ?_
  rintro e w1 ⟨rfl, f1⟩
  have c0 : w1.cell? ⟨w.heap.size, 0, none⟩ = some (.bool false) := (Fr.blk f1 HC.out id).cell 0
  have HF1 := hid (Nw.tr HF.out f1)
  clear f1 HB
  go_wp2
  go_ret
  exact ⟨rfl, HF1.out⟩

end Go.Proofs.YtehoiahgkbnjdaaGreat.Al
