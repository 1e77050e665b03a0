
/- bits: each thing of a map is told, and turned if it is said so. -/
import Derived.Test.YtehoiahgkbnjdaaGreatSp
import Derived.Test.YtehoiahgkbnjdaaGreatRd
import Derived.Shelf.Abstract
namespace Go.Proofs.YtehoiahgkbnjdaaGreat.Al
open Go.RowKit Go.Shelf Dk Wl

def spcC (l : Nat) (y : Ly) : List Value := pv l :: y.cells
def bitOf (b : Sec) (j : Nat) : Bool := (b.getD (j / 8) 0).toNat.testBit (j % 8)
def flipB (b : Sec) (j : Nat) : Sec := b.set (j / 8) (b.getD (j / 8) 0 ^^^ UInt8.ofNat (2 ^ (j % 8)))
/-- Of things from k on, n of them: what is told of each, and what becomes of the map. -/
def brun {σ : Type} (step : σ → Int → Bool → Bool × σ) (zr : Nat) : Nat → Int → Sec → σ → Bool → Sec × σ × Bool
  | 0, _, b, s, t => (b, s, t)
  | n + 1, k, b, s, t => brun step zr n (k + 1) (if (step s k (bitOf b (k - zr).toNat)).1 then flipB b (k - zr).toNat else b) (step s k (bitOf b (k - zr).toNat)).2 (t || (step s k (bitOf b (k - zr).toNat)).1)

/-- What a closure with one captured variable does. -/
def Turns {σ : Type} (enc : σ → Value) (T : TypeId) (step : σ → Int → Bool → Bool × σ) (NT c : Nat) : Prop :=
  ∀ W s (k : Int) u, Blk W c T [enc s] → Calls Tryz.prog NT #[.int .i64 k, .bool u, pv c] W fun e w' => e = .returned (.bool (step s k u).1) ∧ Blk w' c T [enc (step s k u).2] ∧ Fr (fun k => k = c) W w'

def fv (n : Nat) (first cap : Array Value) : Value := .func (.func n) first cap

set_option maxRecDepth 100000 in
set_option maxHeartbeats 4000000 in
theorem bits_none {w : World} (sp NO : Nat) (eO : Enters Tryz.prog NO) (y : Ly) (f l' : Int) (sec zr : Nat) (pf pl : Int) (tv : Value)
    (hO : ∀ W, Calls Tryz.prog NO #[y.v, .int .i64 f, .int .i64 l'] W fun e w' => e = .returned (.agg (spC sec zr pf pl).toArray) ∧ Nw W w') (hlt : pl < pf) :
    Calls Tryz.prog 72 #[pv sp, .func (.func NO) #[y.v] #[], .int .i64 f, .int .i64 l', tv] w fun e w' => e = .returned (.int .i64 0) ∧ Nw w w' := by
  have HO := hid hO
  clear hO
  unfold Enters at eO
  have hgt : pf > pl := hlt
  unfold Ly.v at *
  go_enter Tryz.func72, Tryz.ntmps72
  go_wp2_with fail
  refine (HO.out _).mono ?_
  rintro e w1 ⟨rfl, f1⟩
  have HF : Hid (Nw w (w1.alloc (.cells (spC sec zr pf pl).toArray 116))) := f1.alloc _
  unfold spC at *
  go_wp2
  go_ret
  exact ⟨rfl, HF.out⟩

theorem tell_length {G : Nat → Prop} {w : World} {l p bl bt : Nat} {D : Dsk} {L : Lg} (h : OwnL G w l p bl bt D L) (k : Nat) (hk : k < D.n) : (L.tell D k).length = 128 := by
  unfold Lg.tell
  cases h1 : get L.st k with
  | some s => exact h.r.mt.sec h1
  | none =>
    simp only
    cases h2 : get L.lg k with
    | some s => exact h.r.ml.sec h2
    | none => exact sec_length _ _ _ h.d.ok.lN hk
theorem reach_lt {G : Nat → Prop} {w : World} {l p bl bt : Nat} {D : Dsk} {L : Lg} (h : OwnL G w l p bl bt D L) (k : Nat) (hr : L.reach (k : Int) = 0) : k < D.n := by
  obtain ⟨k', e, hk⟩ := reach_home hr
  obtain rfl : k = k' := by omega
  rw [h.n]; exact hk.1
/-- A block of G is turned: the log stands. -/
theorem ownL_frG {G : Nat → Prop} {w w' : World} {l p bl bt c : Nat} {D : Dsk} {L : Lg} (h : OwnL G w l p bl bt D L) (hc : G c) (f : Fr (fun k => k = c) w w') : OwnL G w' l p bl bt D L := by
  have hg := h.g c hc
  refine ⟨h.r.fr f (Ne.symm hg.1) (Ne.symm hg.2.1) (Ne.symm hg.2.2), ?_, h.g, h.n⟩
  exact own_same h.d f.size (fun k hk hk2 => f.block k hk2 (fun e => hk (.inl (by rw [e]; exact hc))))

/-- In mid-way of bits. -/
structure BMid {σ : Type} (G : Nat → Prop) (w wr : World) (l p bl bt : Nat) (D : Dsk) (L : Lg) (sp c g qb : Nat) (T tg : TypeId) (enc : σ → Value) (y : Ly) (sec zr : Nat) (pf pl : Int) (b : Sec) (s : σ) : Prop where
  o : OwnL (fun k => (G k ∨ k = c) ∨ k = g ∨ k = qb) wr l p bl bt D L
  kp : Kp G w wr
  bg : Blk wr g tg (bs b)
  bc : Blk wr c T [enc s]
  bq : Blk wr qb 116 (spC sec zr pf pl)
  bp : Blk wr sp 76 (spcC l y)
  lb : b.length = 128
  gc : g ≠ c
  qc : qb ≠ c
  gq : g ≠ qb
  sg : sp ≠ g
  sc : sp ≠ c
  gw : w.heap.size ≤ g

theorem shl8 (d : Nat) : Op.shift BinOp.shl IntKind.u8 1 IntKind.i64 ((d : Int).tmod 8) = pure (.int .u8 ((2 ^ (d % 8) : Nat) : Int)) := by
  rw [show (d : Int).tmod 8 = ((d % 8 : Nat) : Int) from rfl]
  have h : d % 8 < 8 := Nat.mod_lt _ (by omega)
  generalize d % 8 = r at *
  match r, h with
  | 0, _ => rfl
  | 1, _ => rfl
  | 2, _ => rfl
  | 3, _ => rfl
  | 4, _ => rfl
  | 5, _ => rfl
  | 6, _ => rfl
  | 7, _ => rfl
theorem pow8_lt (r : Nat) (h : r < 8) : 2 ^ r < 256 := by
  have : 2 ^ r ≤ 2 ^ 7 := Nat.pow_le_pow_right (by omega) (by omega)
  omega
theorem and_pow : ∀ n, n < 256 → ∀ r, r < 8 → ((n &&& 2 ^ r) != 0) = n.testBit r := by decide +kernel
theorem and8 (x : UInt8) (r : Nat) (h : r < 8) : (bits .and .u8 (x.toNat : Int) ((2 ^ r : Nat) : Int) != 0) = x.toNat.testBit r := by
  rw [u8_and_nat _ _ (UInt8.toNat_lt x) (pow8_lt r h), ← and_pow _ (UInt8.toNat_lt x) r h]
  generalize x.toNat &&& 2 ^ r = z
  cases z <;> rfl
theorem xor8 (x : UInt8) (r : Nat) (h : r < 8) : bits .xor .u8 (x.toNat : Int) ((2 ^ r : Nat) : Int) = ((x ^^^ UInt8.ofNat (2 ^ r)).toNat : Int) := by
  rw [u8_xor_nat _ _ (UInt8.toNat_lt x) (pow8_lt r h), UInt8.toNat_xor, UInt8.toNat_ofNat', Nat.mod_eq_of_lt (pow8_lt r h)]
theorem BMid.turn {σ : Type} {G : Nat → Prop} {w wr w' : World} {l p bl bt : Nat} {D : Dsk} {L : Lg} {sp c g qb : Nat} {T tg : TypeId} {enc : σ → Value} {y : Ly} {sec zr : Nat} {pf pl : Int} {b : Sec} {s s' : σ}
    (h : BMid G w wr l p bl bt D L sp c g qb T tg enc y sec zr pf pl b s) (hGc : ¬ G c) (hc : Blk w' c T [enc s']) (f : Fr (fun k => k = c) wr w') : BMid G w w' l p bl bt D L sp c g qb T tg enc y sec zr pf pl b s' :=
  { h with
    o := ownL_frG h.o (.inl (.inr rfl)) f
    kp := Kp.trans h.kp (f.mono (fun _ hk hG => hGc (hk ▸ hG)))
    bg := Fr.blk f h.bg h.gc
    bc := hc
    bq := Fr.blk f h.bq h.qc
    bp := Fr.blk f h.bp h.sc }
theorem BMid.flip {σ : Type} {G : Nat → Prop} {w wr : World} {l p bl bt : Nat} {D : Dsk} {L : Lg} {sp c g qb : Nat} {T tg : TypeId} {enc : σ → Value} {y : Ly} {sec zr : Nat} {pf pl : Int} {b : Sec} {s : σ}
    (h : BMid G w wr l p bl bt D L sp c g qb T tg enc y sec zr pf pl b s) (d : Nat) : BMid G w (wr.setCell ⟨g, d / 8, none⟩ (.int .u8 ((b.getD (d / 8) 0 ^^^ UInt8.ofNat (2 ^ (d % 8))).toNat : Int))) l p bl bt D L sp c g qb T tg enc y sec zr pf pl (flipB b d) s := by
  refine { h with o := h.o.pokeG (b := g) (.inr (.inl rfl)) _ _, kp := Fr.setCell h.kp (.inr h.gw) _, bg := ?_, bc := h.bc.setCell_ne (a := ⟨g, d / 8, none⟩) (Ne.symm h.gc) _, bq := h.bq.setCell_ne (a := ⟨g, d / 8, none⟩) (Ne.symm h.gq) _, bp := h.bp.setCell_ne (a := ⟨g, d / 8, none⟩) h.sg _, lb := by unfold flipB; rw [List.length_set]; exact h.lb }
  have := h.bg.setCell (d / 8) (.int .u8 ((b.getD (d / 8) 0 ^^^ UInt8.ofNat (2 ^ (d % 8))).toNat : Int))
  have e : (bs b).set (d / 8) (.int .u8 ((b.getD (d / 8) 0 ^^^ UInt8.ofNat (2 ^ (d % 8))).toNat : Int)) = bs (flipB b d) := by
    unfold flipB
    simp only [bs, List.map_set]
    rfl
  rwa [e] at this

def BitsPost {σ : Type} (G : Nat → Prop) (w : World) (l p bl bt : Nat) (D : Dsk) (L : Lg) (c : Nat) (T : TypeId) (enc : σ → Value) (sec : Nat) (R : Sec × σ × Bool) (e : Ending) (w' : World) : Prop :=
  e = .returned (.int .i64 (if R.2.2 then L.stageE (sec : Int) 128 else 0)) ∧ OwnL (fun k => G k ∨ k = c) w' l p bl bt D (if R.2.2 then L.stage (sec : Int) R.1 else L) ∧ Blk w' c T [enc R.2.1] ∧ Kp G w w'

set_option maxRecDepth 100000 in
set_option maxHeartbeats 8000000 in
theorem bits_any {σ : Type} {G : Nat → Prop} {w : World} {l p bl bt : Nat} {D : Dsk} {L : Lg} (sp c NO NT : Nat) (eO : Enters Tryz.prog NO) (eT : Enters Tryz.prog NT) (T : TypeId) (enc : σ → Value) (step : σ → Int → Bool → Bool × σ) (s0 : σ) (y : Ly) (f l' : Int) (sec zr : Nat) (pf pl : Int)
    (h : OwnL (fun k => G k ∨ k = c) w l p bl bt D L) (hsp : Blk w sp 76 (spcC l y)) (hG : G sp) (hGc : ¬ G c) (hc : Blk w c T [enc s0])
    (hO : ∀ W, Calls Tryz.prog NO #[y.v, .int .i64 f, .int .i64 l'] W fun e w' => e = .returned (.agg (spC sec zr pf pl).toArray) ∧ Nw W w')
    (hT : Turns enc T step NT c) (hle : pf ≤ pl) (hz : (zr : Int) ≤ pf) (hpl : pl - zr < 1024) (hz2 : zr ≤ 1024) (hr : L.reach (sec : Int) = 0) (hup : D.up = true) (hst : L.st.length < 90000) :
    Calls Tryz.prog 72 #[pv sp, .func (.func NO) #[y.v] #[], .int .i64 f, .int .i64 l', .func (.func NT) #[] #[pv c]] w (BitsPost G w l p bl bt D L c T enc sec (brun step zr (pl + 1 - pf).toNat pf (L.tell D sec) s0 false)) := by
  unfold Enters at eO eT
  have HO := hid hO
  have HT := hid hT
  have H0 := hid h
  have HSp := hid hsp
  have HG := hid hG
  have HGc := hid hGc
  have HC := hid hc
  have HR := hid hr
  have HUp := hid hup
  have Hst := hid hst
  have hgt : ¬ pf > pl := by omega
  clear hO hT h hsp hG hGc hc hr hup hst
  unfold Ly.v at *
  go_enter Tryz.func72, Tryz.ntmps72
  go_wp2_with fail
  refine (HO.out _).mono ?_
  rintro e w1 ⟨rfl, f1⟩
  have BQ := Blk.new w1 116 (spC sec zr pf pl)
  have HF1 : Hid (Nw w (w1.alloc (.cells (spC sec zr pf pl).toArray 116)).drew) := (f1.alloc _).drew
  have HBQ := hid BQ.drew
  have H1 := hid (H0.out.nw HF1.out)
  have HSp1 := hid (Fr.blk HF1.out HSp.out id)
  have HC1 := hid (Fr.blk HF1.out HC.out id)
  have q2 : (w1.alloc (.cells (spC sec zr pf pl).toArray 116)).cell? ⟨w1.heap.size, 2, none⟩ = some (.int .i64 pf) := BQ.cell 2
  have q3 : (w1.alloc (.cells (spC sec zr pf pl).toArray 116)).cell? ⟨w1.heap.size, 3, none⟩ = some (.int .i64 pl) := BQ.cell 3
  have s0' : (w1.alloc (.cells (spC sec zr pf pl).toArray 116)).drew.cell? ⟨sp, 0, none⟩ = some (pv l) := HSp1.out.cell 0
  have q0' : (w1.alloc (.cells (spC sec zr pf pl).toArray 116)).drew.cell? ⟨w1.heap.size, 0, none⟩ = some (.int .i64 (sec : Int)) := HBQ.out.cell 0
  have HRd := hid (Read_ok H1.out sec HR.out HUp.out)
  have HSz : Hid (w.heap.size ≤ w1.heap.size) := f1.size
  have hwc : Hid (w1.heap.size < (w1.alloc (.cells (spC sec zr pf pl).toArray 116)).drew.heap.size) := HBQ.out.lt
  clear BQ HO f1
  generalize hW1 : w1.alloc (.cells (spC sec zr pf pl).toArray 116) = W1 at *
  have hW1' : w1.alloc (.cells #[.int .i64 (sec : Int), .int .i64 (zr : Int), .int .i64 pf, .int .i64 pl] 116) = W1 := hW1
  unfold spC
  go_wp2_with fail
  have HcF : Hid (∀ w', Nw W1.drew w' → w'.cell? ⟨sp, 0, none⟩ = some (pv l) ∧ w'.cell? ⟨w1.heap.size, 0, none⟩ = some (.int .i64 (sec : Int))) := fun w' f => ⟨(Fr.blk f HSp1.out id).cell 0, (Fr.blk f HBQ.out id).cell 0⟩
  go_region_held3 (fun w' => w'.cell? ⟨sp, 0, none⟩ = some (pv l) ∧ w'.cell? ⟨w1.heap.size, 0, none⟩ = some (.int .i64 (sec : Int)))
    (first
      | exact ⟨s0', q0'⟩
      | exact HcF.out _ f2)
    ((go_at_call 18; refine HRd.out.mono ?_; rintro x w2 ⟨g, tg, rfl, bg, hgg, f2⟩))
  have HM : Hid (BMid G w w2 l p bl bt D L sp c g w1.heap.size T tg enc y sec zr pf pl (L.tell D sec) s0) := by
    have hcw := HC.out.lt
    have hsw := HSp.out.lt
    have hszz := HF1.out.size
    have hwcc := hwc.out
    have hszw := HSz.out
    refine ⟨?_, (Nw.tr HF1.out f2).kp, bg, Fr.blk f2 HC1.out id, Fr.blk f2 HBQ.out id, Fr.blk f2 HSp1.out id, ?_, by omega, by omega, by omega, by omega, fun e => HGc.out (e ▸ HG.out), by omega⟩
    · refine H0.out.new (X := fun k => k = g ∨ k = w1.heap.size) (Nw.tr HF1.out f2) (fun k hk => ?_)
      rcases hk with rfl | rfl
      · exact ⟨Nat.le_trans HF1.out.size hgg, bg.lt⟩
      · exact ⟨HSz.out, (Fr.blk f2 HBQ.out id).lt⟩
    · exact tell_length H0.out sec (reach_lt H0.out sec HR.out)
  have HLt := hid (reach_lt H0.out sec HR.out)
  clear HRd HcF H1 HSp1 HC1 HF1 HBQ hwc s0' q0' f2 bg hgg HSp HC hW1 hW1' q2 q3
  obtain ⟨N, hN⟩ : ∃ N, (pl + 1 - pf).toNat = N := ⟨_, rfl⟩
  have hNa : pl + 1 - pf ≤ (N : Int) := by omega
  have hNb : (N : Int) ≤ pl + 1 - pf := by omega
  have HN := hid hN
  clear hN
  have q2b : w2.cell? ⟨w1.heap.size, 2, none⟩ = some (.int .i64 pf) := HM.out.bq.cell 2
  generalize w1.heap.size = qb at *
  obtain ⟨R0, hR0⟩ : ∃ R0, brun step zr N pf (L.tell D sec) s0 false = R0 := ⟨_, rfl⟩
  have HRun := hid hR0
  clear hR0
  go_wp2_with fail
  clear q2b
  go_loopw [14, 15] (fun tv kv wr => ∃ (m : Nat) (b : Sec) (s : σ) (t : Bool), m ≤ N ∧ tv = .bool t ∧ kv = .int .i64 (pf + m) ∧ brun step zr (N - m) (pf + m) b s t = R0 ∧ BMid G w wr l p bl bt D L sp c g qb T tg enc y sec zr pf pl b s) (fun _ kv _ => (pl + 1 - intOf kv).toNat)
  case atStart => exact ⟨0, _, s0, false, Nat.zero_le _, rfl, by simp, by simpa using HRun.out, HM.out⟩
  case round =>
    obtain ⟨m, b, s, t, hm, rfl, rfl, hrun, hM⟩ := hrel
    have HMk := hid hM
    have HRk := hid hrun
    clear hM hrun HM
    have c1 : wr.cell? ⟨qb, 1, none⟩ = some (.int .i64 (zr : Int)) := HMk.out.bq.cell 1
    have c3 : wr.cell? ⟨qb, 3, none⟩ = some (.int .i64 pl) := HMk.out.bq.cell 3
    by_cases hlt : m < N
    · have hk1 : pf + (m : Int) ≤ pl := by omega
      obtain ⟨d, hd⟩ : ∃ d, (pf + (m : Int) - zr).toNat = d := ⟨_, rfl⟩
      have hdn : d < 1024 := by omega
      have hsub : IntKind.i64.wrap (pf + (m : Int) - (zr : Int)) = (d : Int) := by simp [IntKind.wrap, IntKind.bits, IntKind.signed]; omega
      have hq8 : d / 8 < 128 := by omega
      have hquo : IntKind.i64.wrap ((d : Int) / 8) = ((d / 8 : Nat) : Int) := by simp [IntKind.wrap, IntKind.bits, IntKind.signed]; omega
      have hsh := shl8 d
      have hr8 : d % 8 < 8 := Nat.mod_lt _ (by omega)
      have hql : d / 8 < b.length := by have := HMk.out.lb; omega
      have hcb : wr.cell? ⟨g, d / 8, none⟩ = some (.int .u8 ((b.getD (d / 8) 0).toNat : Int)) := by
        rw [HMk.out.bg.cell]; simp [bs, bv, hql, List.getD]
      have hcb2 : wr.drew.cell? ⟨g, d / 8, none⟩ = some (.int .u8 ((b.getD (d / 8) 0).toNat : Int)) := hcb
      have hand : (bits .and .u8 ((b.getD (d / 8) 0).toNat : Int) ((2 ^ (d % 8) : Nat) : Int) != 0) = bitOf b d := and8 _ _ hr8
      have hxor := xor8 (b.getD (d / 8) 0) (d % 8) hr8
      have hq0 : (0 : Int) ≤ ((d / 8 : Nat) : Int) := Int.natCast_nonneg _
      have hq1 : ((d / 8 : Nat) : Int) < 128 := by omega
      have HTn : Hid (Calls Tryz.prog NT #[.int .i64 (pf + (m : Int)), .bool (bitOf b d), pv c] wr.drew fun e w' => e = .returned (.bool (step s (pf + (m : Int)) (bitOf b d)).1) ∧ Blk w' c T [enc (step s (pf + (m : Int)) (bitOf b d)).2] ∧ Fr (fun k => k = c) wr.drew w') := HT.out wr.drew s _ _ HMk.out.bc.drew
      have HMd : Hid (BMid G w wr.drew l p bl bt D L sp c g qb T tg enc y sec zr pf pl b s) := { HMk.out with o := HMk.out.o.drew, kp := HMk.out.kp.drew, bg := HMk.out.bg.drew, bc := HMk.out.bc.drew, bq := HMk.out.bq.drew, bp := HMk.out.bp.drew }
      have HRn : Hid (brun step zr (N - (m + 1)) (pf + ((m + 1 : Nat) : Int)) (if (step s (pf + (m : Int)) (bitOf b d)).1 then flipB b d else b) (step s (pf + (m : Int)) (bitOf b d)).2 (t || (step s (pf + (m : Int)) (bitOf b d)).1) = R0) := by
        have := HRk.out
        rw [show N - m = (N - (m + 1)) + 1 by omega, brun, hd] at this
        rw [show pf + ((m + 1 : Nat) : Int) = pf + (m : Int) + 1 by omega]
        exact this
      have HFlip := hid (fun w' (h : BMid G w w' l p bl bt D L sp c g qb T tg enc y sec zr pf pl b (step s (pf + (m : Int)) (bitOf b d)).2) => h.flip d)
      have HcellG : Hid (∀ w' s', BMid G w w' l p bl bt D L sp c g qb T tg enc y sec zr pf pl b s' → w'.cell? ⟨g, d / 8, none⟩ = some (.int .u8 ((b.getD (d / 8) 0).toNat : Int)) ∧ w'.frozen? ⟨g, d / 8, none⟩ = false) := fun w' s' h => ⟨by rw [h.bg.cell]; simp [bs, bv, hql, List.getD], h.bg.frozen _⟩
      clear HMk HRk hcb hr8
      generalize (2 ^ (d % 8) : Nat) = bt8 at *
      generalize (b.getD (d / 8) 0 ^^^ UInt8.ofNat bt8) = x1 at *
      generalize (b.getD (d / 8) 0) = x0 at *
      generalize hst : step s (pf + (m : Int)) (bitOf b d) = r at *
      obtain ⟨tb, s1⟩ := r
      simp only at HTn HRn HFlip
      generalize bitOf b d = u at *
      generalize d / 8 = q at *
      clear hst
      have hm1 : pf + (m : Int) + 1 = pf + ((m + 1 : Nat) : Int) := by omega
      have Hm1 := hid hm1
      clear hm1
      go_wp2_with fail
      go_region_held3 (fun w' => w'.cell? ⟨qb, 1, none⟩ = some (.int .i64 (zr : Int)))
        (exact c1) (fail)
      go_wp2_with fail
      refine HTn.out.mono ?_
      rintro x w3 ⟨rfl, bc3, f3⟩
      have hM3 := HMd.out.turn HGc.out bc3 f3
      have HM3 := hid hM3
      obtain ⟨cg3, fz3⟩ := HcellG.out _ _ hM3
      clear HTn bc3 f3 hM3 HMd HcellG c1 c3
      cases tb
      · simp only [Bool.false_eq_true, if_false, Bool.or_false] at HRn
        go_wp2
        exact ⟨⟨m + 1, _, _, t, by omega, rfl, by rw [Hm1.out], HRn.out, HM3.out⟩, by simp [intOf]; omega⟩
      · simp only [if_true, Bool.or_true] at HRn
        have HM4 := hid (HFlip.out _ HM3.out)
        go_wp2
        exact ⟨⟨m + 1, _, _, true, by omega, rfl, by rw [Hm1.out], HRn.out, HM4.out⟩, by simp [intOf]; omega⟩
    · obtain rfl : m = N := by omega
      have hk1 : ¬ pf + (m : Int) ≤ pl := by omega
      have HE : Hid ((b, s, t) = R0) := by
        have := HRk.out
        rw [Nat.sub_self, brun] at this
        exact this
      clear HRk
      have hpost : Hid (∀ e w', BitsPost G w l p bl bt D L c T enc sec (b, s, t) e w' → BitsPost G w l p bl bt D L c T enc sec (brun step zr (pl + 1 - pf).toNat pf (L.tell D sec) s0 false) e w') := by
        intro e w' hh
        rw [HN.out, HRun.out, ← HE.out]
        exact hh
      clear HE HRun
      cases t
      · go_wp2
        go_ret
        exact hpost.out _ _ ⟨rfl, HMk.out.o.less (fun _ hk => .inl hk), HMk.out.bc, HMk.out.kp⟩
      · have s1' : wr.drew.cell? ⟨sp, 0, none⟩ = some (pv l) := HMk.out.bp.cell 0
        have q1' : wr.drew.cell? ⟨qb, 0, none⟩ = some (.int .i64 (sec : Int)) := HMk.out.bq.cell 0
        have HSg : Hid (Calls Tryz.prog 19 #[pv l, .int .i64 (sec : Int), .slice (some ⟨g, 0, none⟩) b.length 128] wr.drew fun x w' => x = .returned (.int .i64 (L.stageE (sec : Int) b.length)) ∧ OwnL (fun k => (G k ∨ k = c) ∨ k = qb) w' l p bl bt D (L.stage (sec : Int) b) ∧ Kp (fun k => (G k ∨ k = c) ∨ k = qb) wr.drew w') := stage_any (HMk.out.o.less (fun _ hk => hk.imp id .inr)).drew (sec : Int) b (some ⟨g, 0, none⟩) 128 (fun _ => ⟨g, 0, rfl, HMk.out.bg.drew.range 0 _ (by simp), HMk.out.bg.lt⟩) Hst.out
        rw [HMk.out.lb] at HSg
        have HbS : Hid (∀ w', Kp (fun k => (G k ∨ k = c) ∨ k = qb) wr.drew w' → Blk w' c T [enc s] ∧ Kp G w w' ∧ w'.cell? ⟨sp, 0, none⟩ = some (pv l) ∧ w'.cell? ⟨qb, 0, none⟩ = some (.int .i64 (sec : Int))) := fun w' k => ⟨Kp.blk k HMk.out.bc.drew (.inl (.inr rfl)), Kp.trans HMk.out.kp (Kp.trans (show Kp G _ _ from (Fr.refl _ wr).drew) (Kp.less k (fun _ hk => .inl (.inl hk)))), (Kp.blk k HMk.out.bp.drew (.inl (.inl HG.out))).cell 0, (Kp.blk k HMk.out.bq.drew (.inr rfl)).cell 0⟩
        clear HMk
        go_wp2_with fail
        go_region_held3 (fun w' => w'.cell? ⟨sp, 0, none⟩ = some (pv l) ∧ w'.cell? ⟨qb, 0, none⟩ = some (.int .i64 (sec : Int)))
          (first
            | exact ⟨s1', q1'⟩
            | exact (HbS.out _ k5).2.2)
          ((go_at_call 19; refine HSg.out.mono ?_; rintro x w5 ⟨rfl, o5, k5⟩))
        have HFin := hid (hpost.out _ _ ⟨rfl, o5.less (fun _ hk => .inl hk), (HbS.out _ k5).1, (HbS.out _ k5).2.1⟩)
        clear o5 k5 HSg HbS
        go_wp2
        go_ret
        exact HFin.out

end Go.Proofs.YtehoiahgkbnjdaaGreat.Al
