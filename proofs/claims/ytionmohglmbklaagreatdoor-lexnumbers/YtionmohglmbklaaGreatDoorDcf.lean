/- The contract of floatBits. -/
import Derived.Test.YtionmohglmbklaaGreatDoorDcs
import Derived.Test.YtionmohglmbklaaGreatDoorDcu
import Derived.WalkMore
import Derived.Scope
namespace Go.Proofs.YtionmohglmbklaaGreatDoor.Tr
open Go.RowKit

/-! ### A scope in which the run jumps forward, to one of two labels -/
def jmp2 (J0 J1 : Act → World → Prop) (Q : Exit → Act → World → Prop) : Exit → Act → World → Prop
  | .goto l, a, w => (l = 0 ∧ J0 a w) ∨ (l = 1 ∧ J1 a w)
  | e, a, w => Q e a w
theorem scope_fwd {P : Program} {a : Act} {w : World} {Q : Exit → Act → World → Prop} {c r0 r1 : Code} (h0 : findLabel c 0 = some r0) (h1 : findLabel c 1 = some r1)
    (first : c.wp P (jmp2 (fun a w => r0.wp P (Exit.noGoto Q) a w) (fun a w => r1.wp P (Exit.noGoto Q) a w) Q) a w) : (Code.scope c).wp P Q a w := by
  intro b k cs
  have key : ∀ (l : Nat) (r : Code), findLabel c l = some r → ∀ a w, r.wp P (Exit.noGoto Q) a w → ∃ e a' w', Q e a' w' ∧ Arrives P (lone (b.at a (.code r :: .inScope c :: k)) cs w) b k cs e a' w' := by
    intro l r _ a w h
    obtain ⟨e, a₁, w₁, hq, harr⟩ := h b (.inScope c :: k) cs
    cases e with
    | normal => exact ⟨.normal, a₁, w₁, hq, Steps.trans harr (.one step_inScope)⟩
    | exit id => exact ⟨.exit id, a₁, w₁, hq, fun k' hk => harr k' (by simp [exitTo, hk])⟩
    | goto l' => exact hq.elim
    | ret => exact ⟨_, a₁, w₁, hq, harr⟩
    | panic ch => exact ⟨_, a₁, w₁, hq, harr⟩
    | outgrown => exact ⟨_, a₁, w₁, hq, harr⟩
  have hg : ∀ (l : Nat) (r : Code), findLabel c l = some r → gotoIn l (.inScope c :: k) = some (.code r :: .inScope c :: k) := fun l r h => by simp [gotoIn, h]
  obtain ⟨e, a₁, w₁, hq, harr⟩ := first b (.inScope c :: k) cs
  cases e with
  | normal => exact ⟨.normal, a₁, w₁, hq, .head step_scope (Steps.trans harr (.one step_inScope))⟩
  | exit id => exact ⟨.exit id, a₁, w₁, hq, fun k' hk => .head step_scope (harr k' (by simp [exitTo, hk]))⟩
  | goto l' =>
    rcases hq with ⟨rfl, hJ⟩ | ⟨rfl, hJ⟩
    · obtain ⟨e₂, a₂, w₂, hq₂, harr₂⟩ := key 0 r0 h0 a₁ w₁ hJ
      exact ⟨e₂, a₂, w₂, hq₂, .of_steps (.head step_scope (harr _ (hg 0 r0 h0))) harr₂⟩
    · obtain ⟨e₂, a₂, w₂, hq₂, harr₂⟩ := key 1 r1 h1 a₁ w₁ hJ
      exact ⟨e₂, a₂, w₂, hq₂, .of_steps (.head step_scope (harr _ (hg 1 r1 h1))) harr₂⟩
  | ret => exact ⟨_, a₁, w₁, hq, .of_steps (.one step_scope) harr⟩
  | panic ch => exact ⟨_, a₁, w₁, hq, .of_steps (.one step_scope) harr⟩
  | outgrown => exact ⟨_, a₁, w₁, hq, .of_steps (.one step_scope) harr⟩

/-- The tables that floatBits asks. -/
structure FbT (w : World) (T : Nat → Nat × List UInt8) : Prop where
  ch : Lch w T
  pow : ∃ pb po cap, w.cell? ⟨8, 0, none⟩ = some (.slice (some ⟨pb, po, none⟩) 9 cap) ∧ ∀ i, i < 9 → w.cell? ⟨pb, po + i, none⟩ = some (.int .i64 (powN i : Int))
  mb : w.cell? ⟨6, 0, none⟩ = some (.int .u64 52)
  eb : w.cell? ⟨6, 1, none⟩ = some (.int .u64 11)
  bi : w.cell? ⟨6, 2, none⟩ = some (.int .i64 (-1023))
theorem FbT.env {w0 W : World} {T : Nat → Nat × List UInt8} (h : FbT w0 T) (e : Env w0 W) : FbT W T := by
  obtain ⟨h1, ⟨pb, po, cap, h2, h3⟩, h4, h5, h6⟩ := h
  exact ⟨h1.env e, ⟨pb, po, cap, e.cell h2, fun i hi => e.cell (h3 i hi)⟩, e.cell h4, e.cell h5, e.cell h6⟩

/-- A float's bits, of its mantissa and exponent. -/
def fbOut (m e : Int) : Int := bits BinOp.or .u64 (bits BinOp.and .u64 m 4503599627370495) (IntKind.u64.wrap (IntKind.u64.wrap (bits BinOp.and .i64 (e + 1023) 2047) * 4503599627370496))
def fbOver : Int × Bool := (fbOut 0 1024, true)
/-- Behind the rounding. -/
def fbM (m e : Int) : Int × Bool :=
  if m = 9007199254740992 then (if 2047 ≤ e + 1 + 1023 then fbOver else (fbOut 4503599627370496 (e + 1), false))
  else (fbOut m (if (bits BinOp.and .u64 m 4503599627370496 == 0) = true then -1023 else e), false)
/-- Behind the scaling. -/
def fbE (T : Nat → Nat × List UInt8) (s : DC) (e : Int) : Int × Bool :=
  if 2047 ≤ e + 1023 then fbOver else fbM (rInt (lshT T 53 s)) e
def fbD (T : Nat → Nat × List UInt8) (s : DC) (e : Int) : Int × Bool :=
  if e - 1 < -1022 then fbE T (shR (-1022 - (e - 1)).toNat s) (-1022) else fbE T s (e - 1)
/-- What floatBits gives. -/
def fbF (T : Nat → Nat × List UInt8) (s : DC) : Int × Bool :=
  if 310 < s.dp then fbOver
  else if s.dp < -330 then (fbOut 0 (-1023), false)
  else fbD T (sc2 T (sc1 s 0).1 (sc1 s 0).2).1 (sc2 T (sc1 s 0).1 (sc1 s 0).2).2

def FB1 (w : World) (b : Nat) (E : DC × Int) (g : Nat) (ev : Value) (wr : World) : Prop := ∃ (s : DC) (e : Int), ev = .int .i64 e ∧ g = m1 s ∧ Dc wr b s ∧ DOk s.L ∧ Fr (· = b) w wr ∧ sc1 s e = E ∧ 0 ≤ e ∧ e + 27 * (m1 s : Int) ≤ 1000000 ∧ -820 ≤ s.dp ∧ s.dp ≤ 310
def FB2 (w : World) (b : Nat) (T : Nat → Nat × List UInt8) (E : DC × Int) (g : Nat) (ev : Value) (wr : World) : Prop := ∃ (s : DC) (e : Int), ev = .int .i64 e ∧ g = m2 s ∧ Dc wr b s ∧ DOk s.L ∧ Fr (· = b) w wr ∧ sc2 T s e = E ∧ e ≤ 1000000 ∧ -3000000 ≤ e - 27 * (m2 s : Int) ∧ -820 ≤ s.dp ∧ s.dp ≤ 30
def FBX (w : World) (b : Nat) (E : DC × Int) (ev : Value) (wr : World) : Prop := ∃ (s : DC) (e : Int), ev = .int .i64 e ∧ Dc wr b s ∧ DOk s.L ∧ Fr (· = b) w wr ∧ E = (s, e) ∧ -3000000 ≤ e ∧ e ≤ 1000000 ∧ -820 ≤ s.dp ∧ s.dp ≤ 30
def FBY (w : World) (b : Nat) (T : Nat → Nat × List UInt8) (R : Int × Bool) (ev : Value) (wr : World) : Prop := ∃ (s : DC) (e : Int), ev = .int .i64 e ∧ Dc wr b s ∧ DOk s.L ∧ Fr (· = b) w wr ∧ R = fbE T s e ∧ -1022 ≤ e ∧ e ≤ 1000000 ∧ -10000000000 ≤ s.dp ∧ s.dp ≤ 30
theorem hd0_dv {w : World} {b : Nat} {s : DC} (h : Dc w b s) (hs : DOk s.L) : w.cell? ⟨b, 0, none⟩ = some (.int .u8 (hd0 s.L : Int)) := by
  obtain ⟨c, r, e, hc⟩ := hs.hd
  have h1 := (h.at hs 0 (by rw [e]; simp)).1
  have h2 : (dv (s.L.getD 0 0) : Int) + 48 = (hd0 s.L : Int) := by rw [e]; simp [dv, hd0]; omega
  rw [h2] at h1; exact h1

theorem Dc.drewN {w : World} {b : Nat} {s : DC} (h : Dc w b s) (n : Nat) : Dc (w.drewN n) b s := by
  obtain ⟨A, hD, hA⟩ := h; exact ⟨A, hD.drewN n, hA⟩
theorem powN_great {i : Nat} (h : 9 ≤ i) : powN i = 27 := by
  unfold powN
  rw [List.getD_eq_getElem?_getD, List.getElem?_eq_none (by simpa using h)]; rfl

set_option maxRecDepth 100000 in
set_option maxHeartbeats 8000000 in
theorem fb_any {w0 w : World} {b : Nat} {s : DC} {T : Nat → Nat × List UInt8} (h : Dc w b s) (hs : DOk s.L) (hE : Env w0 w) (hb : w0.heap.size ≤ b) (hT : FbT w0 T) (hdp0 : -1000000 ≤ s.dp) (hdp1 : s.dp ≤ 1000000) :
    Calls Tryz.prog 148 #[pd b, .pointer (some ⟨6, 0, none⟩)] w fun e w' => e = .returned (.tuple #[.int .u64 (fbF T s).1, .bool (fbF T s).2]) ∧ Fr (· = b) w w' := by
  have c0 := h.c0
  have c1 := h.c1
  have c2 := h.c2
  have hTw := hT.env hE
  have f0 := hTw.mb
  have f1 := hTw.eb
  have f2 := hTw.bi
  obtain ⟨n, hn0, hn1⟩ : ∃ n : Int, (s.L.length : Int) = n ∧ (n == 0) = false := ⟨_, rfl, by
    obtain ⟨c, r, e, _⟩ := hs.hd
    rw [e]; simp; omega⟩
  rw [hn0] at c0
  obtain ⟨R, hR⟩ : ∃ R, R = fbF T s := ⟨_, rfl⟩
  rw [← hR]
  unfold fbF at hR
  by_cases h310 : 310 < s.dp
  · rw [if_pos h310] at hR
    have q1 : decide (s.dp > 310) = true := decide_eq_true h310
    generalize s.dp = dp at *
    have HR := hid hR
    clear h hs hE hb hT hTw hn0 hdp0 hdp1 h310 hR
    go_enter Tryz.func148, Tryz.ntmps148
    go_wp2_with fail
    refine scope_fwd (by rfl) (by rfl) ?_
    go_wp2_with fail
    go_step3
    refine .inr ⟨rfl, ?_⟩
    show Code.wp _ _ _ _ _
    go_wp2_with fail
    go_quiet (fail)
    go_wp2_with fail
    go_step3
    go_wp2_with fail
    go_quiet (fail)
    go_wp2_with fail
    try rw [Exit.noGoto_ret]
    go_ret2
    refine ⟨?_, (Fr.refl _ _).drewN _⟩
    rw [HR.out]
    rfl
  rw [if_neg h310] at hR
  have q1 : decide (s.dp > 310) = false := decide_eq_false h310
  by_cases h330 : s.dp < -330
  · rw [if_pos h330] at hR
    have q2 : decide (s.dp < -330) = true := decide_eq_true h330
    generalize s.dp = dp at *
    have HR := hid hR
    clear h hs hE hb hT hTw hn0 hdp0 hdp1 h310 hR h330
    go_enter Tryz.func148, Tryz.ntmps148
    go_wp2_with fail
    refine scope_fwd (by rfl) (by rfl) ?_
    go_wp2_with fail
    go_step3
    refine .inl ⟨rfl, ?_⟩
    show Code.wp _ _ _ _ _
    go_wp2_with fail
    go_quiet (fail)
    go_wp2_with fail
    try rw [Exit.noGoto_ret]
    go_ret2
    refine ⟨?_, (Fr.refl _ _).drewN _⟩
    rw [HR.out]
    rfl
  rw [if_neg h330] at hR
  have q2 : decide (s.dp < -330) = false := decide_eq_false h330
  obtain ⟨E1, hE1⟩ : ∃ E1, E1 = sc1 s 0 := ⟨_, rfl⟩
  obtain ⟨E2, hE2⟩ : ∃ E2, E2 = sc2 T E1.1 E1.2 := ⟨_, rfl⟩
  rw [← hE1, ← hE2] at hR
  have HR := hid hR
  have HE2 := hid hE2
  have HT := hid hT
  have HEnv := hid hE
  have Hb := hid hb
  have HSt : Hid (FB1 w b E1 (m1 s) (.int .i64 0) w) := by
    refine ⟨s, 0, rfl, rfl, h, hs, Fr.refl _ _, hE1.symm, Int.le_refl _, ?_, by omega, by omega⟩
    have := hd0_ok hs
    unfold m1; omega
  generalize m1 s = g0 at *
  generalize s.dp = dp at *
  clear h hs hE hb hT hTw hn0 hdp0 hdp1 h310 hR h330 hE1 hE2
  go_enter Tryz.func148, Tryz.ntmps148
  go_wp2_with fail
  refine scope_fwd (by rfl) (by rfl) ?_
  go_wp2_with fail
  clear c0 c1 c2 f0 f1 f2 q1 q2 hn1
  go_loopg [6] g0 (fun g ev wr => FB1 w b E1 g ev wr)
  case atStart => exact HSt.out
  case round =>
    obtain ⟨s1, e1, rfl, hgk, hD, hs1, hF, hsc, he0, he1, hd0, hd1⟩ := hrel
    have hEr := HEnv.out.fr hF (fun j hj => by rw [hj]; exact Hb.out)
    have hTr := HT.out.env hEr
    have c1 := hD.c1
    by_cases hpos : 0 < s1.dp
    · obtain ⟨pb, po, cap, hp1, hp2⟩ := hTr.pow
      obtain ⟨z, hz⟩ : ∃ z, z = s1.dp := ⟨_, rfl⟩
      have hpn := powN_le s1.dp.toNat
      have HC := hid (fun m => shr_any (hD.drewN m) hs1 (powN s1.dp.toNat) hpn.1 (by omega) (by omega) (by omega))
      have hsR : shR (powN s1.dp.toNat) s1 = rsh (powN s1.dp.toNat) s1 := shR_small (by omega) s1
      rw [hsR] at HC
      have hst := sc1_step (e := e1) hs1 hpos
      have hml := m1_lt hpn.1 (by omega) hs1 hpos
      have hro := rsh_ok hpn.1 (by omega : powN s1.dp.toNat ≤ 60) hs1
      have HNx : Hid (∀ m W, Fr (· = b) (wr.drewN m) W → Dc W b (rsh (powN s1.dp.toNat) s1) → FB1 w b E1 (m1 (rsh (powN s1.dp.toNat) s1)) (.int .i64 (e1 + (powN s1.dp.toNat : Int))) W ∧ m1 (rsh (powN s1.dp.toNat) s1) < gk) := by
        intro m W f1 d1
        refine ⟨⟨rsh (powN s1.dp.toNat) s1, _, rfl, rfl, d1, hro.1, (hF.drewN m).same' f1, by rw [← hst]; exact hsc, by omega, by omega, by omega, by omega⟩, by omega⟩
      have q1 : decide (z > 0) = true := decide_eq_true (by omega)
      have hz0 : 0 < z := by omega
      have he2 : e1 ≤ 1000000 := by omega
      have hz3 : z ≤ 310 := by omega
      obtain ⟨N, hN⟩ : ∃ N : Int, N = (powN s1.dp.toNat : Int) := ⟨_, rfl⟩
      generalize rsh (powN s1.dp.toNat) s1 = s2 at *
      have hN27 : 9 ≤ z → N = 27 := fun h => by rw [hN, powN_great (by omega)]; rfl
      have hcl : z < 9 → wr.cell? ⟨pb, po + z.toNat, none⟩ = some (.int .i64 N) := fun h => by
        rw [hN, hz]; exact hp2 _ (by omega)
      have hNb : 0 ≤ N ∧ N ≤ 27 := by omega
      rw [← hN] at HC HNx
      rw [← hz] at c1
      clear hst hml hro hD hs1 hF hsc he1 hd0 hTr hEr hpos hgk HSt HR HE2 hp2 hpn hN hz hd1 hsR
      by_cases h9 : 9 ≤ z
      · have q3 : decide (z ≥ 9) = true := decide_eq_true h9
        have e27 := hN27 h9
        subst e27
        clear hN27 hcl hNb
        go_wp2_with fail
        go_quiet (fail)
        go_wp2_with fail
        refine (HC.out _).mono ?_
        rintro e w2 ⟨rfl, f2, d2⟩
        have HE := hid (HNx.out _ w2 f2 d2)
        clear f2 d2 HC HNx
        go_wp2_with fail
        go_roundg (m1 s2)
        case measure => exact HE.out.2
        case rel => exact HE.out.1
      · have q3 : decide (z ≥ 9) = false := decide_eq_false h9
        have hz9 : z < 9 := by omega
        have hz00 : 0 ≤ z := by omega
        have ck := hcl hz9
        have hN0 := hNb.1
        have hN1 := hNb.2
        clear hN27 hcl hNb h9
        go_wp2_with fail
        go_quiet (fail)
        go_wp2_with fail
        go_quiet (fail)
        go_wp2_with fail
        refine (HC.out _).mono ?_
        rintro e w2 ⟨rfl, f2, d2⟩
        have HE := hid (HNx.out _ w2 f2 d2)
        clear f2 d2 HC HNx
        go_wp2_with fail
        go_roundg (m1 s2)
        case measure => exact HE.out.2
        case rel => exact HE.out.1
    · have hE1 : E1 = (s1, e1) := by rw [← hsc]; exact sc1_stop hpos
      have q1 : decide (s1.dp > 0) = false := decide_eq_false hpos
      have HSt2 : Hid (FB2 w b T E2 (m2 s1) (.int .i64 e1) wr) := by
        refine ⟨s1, e1, rfl, rfl, hD, hs1, hF, by rw [HE2.out, hE1], by omega, ?_, hd0, by omega⟩
        have := hd0_ok hs1
        unfold m2; omega
      generalize m2 s1 = g2 at *
      generalize s1.dp = d1 at *
      clear hE1 hD hs1 hF hsc he0 he1 hd0 hd1 hTr hEr hpos hgk HSt HE2
      obtain ⟨wo, hwo⟩ : ∃ wo, wo = wr := ⟨_, rfl⟩
      rw [← hwo] at HSt2 c1 ⊢
      clear hwo
      go_upto_block 2 with fail
      go_cut [6] (fun ev wx => FBX w b E2 ev wx)
      case rest =>
        obtain ⟨s1, e1, rfl, hD, hs1, hF, hE2, he0, he1, hdl, hdh⟩ := hcut
        have hEr := HEnv.out.fr hF (fun j hj => by rw [hj]; exact Hb.out)
        have hTr := HT.out.env hEr
        have f0 := hTr.mb
        have f1 := hTr.eb
        have f2 := hTr.bi
        have hR := HR.out
        rw [hE2] at hR
        unfold fbD at hR
        simp only at hR
        clear HR HSt2 hE2 hEr hTr
        go_upto_if 111 with fail
        go_cut [6] (fun ev wx => FBY w b T R ev wx)
        case rest =>
          obtain ⟨s3, e4, rfl, hD, hs3, hF, hR, he0, he1, hdl, hdh⟩ := hcut
          have hEr := HEnv.out.fr hF (fun j hj => by rw [hj]; exact Hb.out)
          have hTr := HT.out.env hEr
          have c2 := hD.c2
          have f0 := hTr.mb
          have f1 := hTr.eb
          have f2 := hTr.bi
          unfold fbE at hR
          by_cases hov : 2047 ≤ e4 + 1023
          · rw [if_pos hov] at hR
            have HR := hid hR
            have HFr : Hid (∀ n, Fr (· = b) w (World.drewN _ n)) := fun n => hF.drewN n
            have q1 : decide (e4 + 1023 ≥ 2047) = true := decide_eq_true hov
            clear hD hs3 hF hR hdl hdh hEr hTr
            go_wp2_with fail
            go_quiet (fail)
            go_wp2_with fail
            go_step3
            refine .inr ⟨rfl, ?_⟩
            show Code.wp _ _ _ _ _
            go_wp2_with fail
            go_quiet (fail)
            go_wp2_with fail
            go_step3

            go_wp2_with fail
            go_quiet (fail)
            go_wp2_with fail
            try rw [Exit.noGoto_ret]
            go_ret2
            exact ⟨by rw [HR.out]; rfl, HFr.out _⟩
          · rw [if_neg hov] at hR
            have q1 : decide (e4 + 1023 ≥ 2047) = false := decide_eq_false hov
            have hov2 : e4 + 1023 < 2047 := by omega
            have hlo := lsh_ok (HT.out.ch.ok 53 (by decide) (by decide)) hs3
            have HC := hid (fun m => shl_any (hD.drewN m) hs3 (hTr.ch.env (W := World.drewN _ m) ⟨Nat.le_refl _, fun _ _ => rfl⟩) 53 (by decide) (by decide) (by omega) (by omega))
            have e53 : ((53 : Nat) : Int) = 53 := rfl
            rw [e53] at HC
            have HOk : Hid (DOk (lshT T 53 s3).L ∧ -1000000000000 ≤ (lshT T 53 s3).dp) := ⟨hlo.1, by have := hlo.2.1; unfold lshT; omega⟩
            generalize lshT T 53 s3 = s4 at *
            have HF := hid hF
            clear hD hs3 hF hdl hdh hEr hTr hlo e53 hov c2
            go_wp2_with fail
            go_quiet (fail)
            go_wp2_with fail
            refine (HC.out _).mono ?_
            rintro e w2 ⟨rfl, g2, d2⟩
            have hF2 := (HF.out.drewN _).same' g2
            have hEr := HEnv.out.fr hF2 (fun j hj => by rw [hj]; exact Hb.out)
            have hTr := HT.out.env hEr
            have c2 := d2.c2
            have f0' := hTr.mb
            have f1' := hTr.eb
            have f2' := hTr.bi
            have HM := hid (rint_any d2 HOk.out.1 HOk.out.2)
            have HFr : Hid (∀ n, Fr (· = b) w (w2.drewN n)) := fun n => hF2.drewN n
            generalize rInt s4 = m at *
            clear g2 d2 HC hF2 hEr hTr HOk HF f0 f1 f2
            go_wp2_with fail
            refine HM.out.mono ?_
            rintro e w3 ⟨rfl, hw3⟩
            rw [← hw3]
            clear hw3 HM
            unfold fbM at hR
            by_cases hm : m = 9007199254740992
            · rw [if_pos hm] at hR
              subst hm
              by_cases hov3 : 2047 ≤ e4 + 1 + 1023
              · rw [if_pos hov3] at hR
                have HR := hid hR
                have q3 : decide (e4 + 1 + 1023 ≥ 2047) = true := decide_eq_true hov3
                clear hR
                go_wp2_with fail
                go_quiet (fail)
                go_wp2_with fail
                go_step3
                refine .inr ⟨rfl, ?_⟩
                show Code.wp _ _ _ _ _
                go_wp2_with fail
                go_quiet (fail)
                go_wp2_with fail
                go_step3

                go_wp2_with fail
                go_quiet (fail)
                go_wp2_with fail
                try rw [Exit.noGoto_ret]
                go_ret2
                exact ⟨by rw [HR.out]; rfl, HFr.out _⟩
              · rw [if_neg hov3] at hR
                have HR := hid hR
                have q3 : decide (e4 + 1 + 1023 ≥ 2047) = false := decide_eq_false hov3
                have q4 : (bits BinOp.and .u64 4503599627370496 4503599627370496 == 0) = false := by decide +kernel
                have hov4 : e4 + 1 + 1023 < 2047 := by omega
                clear hR
                go_wp2_with fail
                go_quiet (fail)
                go_wp2_with fail
                go_step3
                refine .inl ⟨rfl, ?_⟩
                show Code.wp _ _ _ _ _

                go_wp2_with fail
                go_quiet (fail)
                go_wp2_with fail
                try rw [Exit.noGoto_ret]
                go_ret2
                exact ⟨by rw [HR.out]; rfl, HFr.out _⟩
            · rw [if_neg hm] at hR
              have hm2 : (m == 9007199254740992) = false := by rw [beq_eq_false_iff_ne]; exact hm
              cases hbit : (bits BinOp.and .u64 m 4503599627370496 == 0)
              · rw [hbit, if_neg (by decide)] at hR
                have HR := hid hR
                clear hR
                go_wp2_with fail
                go_step3
                refine .inl ⟨rfl, ?_⟩
                show Code.wp _ _ _ _ _

                go_wp2_with fail
                go_quiet (fail)
                go_wp2_with fail
                try rw [Exit.noGoto_ret]
                go_ret2
                exact ⟨by rw [HR.out]; rfl, HFr.out _⟩
              · rw [hbit, if_pos rfl] at hR
                have HR := hid hR
                clear hR
                go_wp2_with fail
                go_step3
                refine .inl ⟨rfl, ?_⟩
                show Code.wp _ _ _ _ _

                go_wp2_with fail
                go_quiet (fail)
                go_wp2_with fail
                try rw [Exit.noGoto_ret]
                go_ret2
                exact ⟨by rw [HR.out]; rfl, HFr.out _⟩
        obtain ⟨x, hx⟩ : ∃ x, x = e1 - 1 := ⟨_, rfl⟩
        rw [← hx] at hR ⊢
        have hx0 : -4000000 ≤ x := by omega
        have hx1 : x ≤ 1000000 := by omega
        clear hx he0 he1
        by_cases hden : x < -1022
        · rw [if_pos hden] at hR
          obtain ⟨k, hk⟩ : ∃ k : Nat, (k : Int) = -1022 - x := ⟨(-1022 - x).toNat, by omega⟩
          have hk2 : (-1022 - x).toNat = k := by omega
          rw [hk2] at hR
          have HC := hid (shr_any hD hs1 k (by omega) (by omega) (by omega) (by omega))
          have hro := shR_ok k s1 (by omega) hs1
          have HNx : Hid (∀ W, Fr (· = b) wc W → Dc W b (shR k s1) → FBY w b T R (.int .i64 (x + (-1022 - x))) W) := by
            intro W f1 d1
            exact ⟨shR k s1, _, by congr 1; omega, d1, hro.1, hF.same' f1, hR, by omega, by omega, by omega, by omega⟩
          have q1 : decide (x < -1022) = true := decide_eq_true hden
          generalize shR k s1 = s3 at *
          rw [hk] at HC
          clear hD hs1 hF hdl hdh hR hro hk hk2
          go_wp2_with fail
          refine HC.out.mono ?_
          rintro e w2 ⟨rfl, f2, d2⟩
          have HE := hid (HNx.out w2 f2 d2)
          clear f2 d2 HC HNx
          go_wp2_with fail
          go_meet
          exact HE.out
        · rw [if_neg hden] at hR
          have HX : Hid (FBY w b T R (.int .i64 x) wc) := ⟨s1, _, rfl, hD, hs1, hF, hR, by omega, by omega, by omega, by omega⟩
          have q1 : decide (x < -1022) = false := decide_eq_false hden
          have hden2 : -1022 ≤ x := by omega
          clear hD hs1 hF hdl hdh hR
          go_wp2_with fail
          go_meet
          exact HX.out
      go_wp2_with fail
      clear q1 c1
      go_loopg [6] g2 (fun g ev wr => FB2 w b T E2 g ev wr)
      case atStart => exact HSt2.out
      case round =>
        obtain ⟨s1, e1, rfl, hgk, hD, hs1, hF, hsc, he1, he0, hdl, hdh⟩ := hrel
        have hEr := HEnv.out.fr hF (fun j hj => by rw [hj]; exact Hb.out)
        have hTr := HT.out.env hEr
        have c1 := hD.c1
        have ch := hd0_dv hD hs1
        have hh0 := hd0_ok hs1
        cases hlow : low s1 with
        | true =>
          have hle := low_le hlow
          obtain ⟨pb, po, cap, hp1, hp2⟩ := hTr.pow
          obtain ⟨z, hz⟩ : ∃ z, z = s1.dp := ⟨_, rfl⟩
          have hpn := powN_le (-s1.dp).toNat
          have HC := hid (fun m => shl_any (hD.drewN m) hs1 (hTr.ch.env (W := wr.drewN m) ⟨Nat.le_refl _, fun _ _ => rfl⟩) (powN (-s1.dp).toNat) hpn.1 (by omega) (by omega) (by omega))
          have hst := sc2_step HT.out.ch.ok (e := e1) hs1 hlow
          have hml := m2_lt HT.out.ch.ok hpn.1 (by omega) hs1 hle
          have hro : DOk (lshT T (powN (-s1.dp).toNat) s1).L ∧ s1.dp ≤ (lshT T (powN (-s1.dp).toNat) s1).dp ∧ (lshT T (powN (-s1.dp).toNat) s1).dp ≤ s1.dp + 19 := by
            have := lsh_ok (HT.out.ch.ok _ hpn.1 (by omega)) hs1
            exact ⟨this.1, this.2.1, this.2.2.1⟩
          have HNx : Hid (∀ m W, Fr (· = b) (wr.drewN m) W → Dc W b (lshT T (powN (-s1.dp).toNat) s1) → FB2 w b T E2 (m2 (lshT T (powN (-s1.dp).toNat) s1)) (.int .i64 (e1 - (powN (-s1.dp).toNat : Int))) W ∧ m2 (lshT T (powN (-s1.dp).toNat) s1) < gk) := by
            intro m W f1 d1
            refine ⟨⟨lshT T (powN (-s1.dp).toNat) s1, _, rfl, rfl, d1, hro.1, (hF.drewN m).same' f1, by rw [← hst]; exact hsc, by omega, by omega, by omega, by omega⟩, by omega⟩
          have he2 : -3000000 ≤ e1 := by omega
          have hz3 : -820 ≤ z := by omega
          have hqq : decide (z < 0) = true ∨ (decide (z < 0) = false ∧ (z == 0) = true ∧ decide ((hd0 s1.L : Int) < 53) = true) := by
            unfold low at hlow
            rw [← hz] at hlow
            rw [Bool.or_eq_true, Bool.and_eq_true] at hlow
            rcases hlow with h | h
            · exact .inl h
            · have h1 := of_decide_eq_true h.1
              have h2 := of_decide_eq_true h.2
              exact .inr ⟨decide_eq_false (by omega), by rw [h1]; rfl, decide_eq_true (by omega)⟩
          obtain ⟨N, hN⟩ : ∃ N : Int, N = (powN (-s1.dp).toNat : Int) := ⟨_, rfl⟩
          generalize lshT T (powN (-s1.dp).toNat) s1 = s2 at *
          have hN27 : 9 ≤ -z → N = 27 := fun h => by rw [hN, powN_great (by omega)]; rfl
          have hcl : -z < 9 → wr.cell? ⟨pb, po + (-z).toNat, none⟩ = some (.int .i64 N) := fun h => by
            rw [hN, hz]; exact hp2 _ (by omega)
          have hNb : 0 ≤ N ∧ N ≤ 27 := by omega
          rw [← hN] at HC HNx
          rw [← hz] at c1
          have hzle : z ≤ 0 := by omega
          generalize hd0 s1.L = hh at *
          clear hst hml hro hD hs1 hF hsc he0 hdl hTr hEr hgk HSt2 HR hp2 hpn hN hz hdh hlow hle hh0
          rcases hqq with q1 | ⟨q1, q4, q5⟩
          all_goals
            by_cases h9 : 9 ≤ -z
            · have q3 : decide (-z ≥ 9) = true := decide_eq_true h9
              have e27 := hN27 h9
              subst e27
              clear hN27 hcl hNb
              go_wp2_with fail
              go_quiet (fail)
              go_wp2_with fail
              refine (HC.out _).mono ?_
              rintro e w2 ⟨rfl, f2, d2⟩
              have HE := hid (HNx.out _ w2 f2 d2)
              clear f2 d2 HC HNx
              go_wp2_with fail
              go_roundg (m2 s2)
              case measure => exact HE.out.2
              case rel => exact HE.out.1
            · have q3 : decide (-z ≥ 9) = false := decide_eq_false h9
              have hz9 : -z < 9 := by omega
              have hz00 : 0 ≤ -z := by omega
              have ck := hcl hz9
              have hN0 := hNb.1
              have hN1 := hNb.2
              clear hN27 hcl hNb h9
              go_wp2_with fail
              go_quiet (fail)
              go_wp2_with fail
              go_quiet (fail)
              go_wp2_with fail
              refine (HC.out _).mono ?_
              rintro e w2 ⟨rfl, f2, d2⟩
              have HE := hid (HNx.out _ w2 f2 d2)
              clear f2 d2 HC HNx
              go_wp2_with fail
              go_roundg (m2 s2)
              case measure => exact HE.out.2
              case rel => exact HE.out.1
        | false =>
          have HX : Hid (FBX w b E2 (.int .i64 e1) wr) := by
            refine ⟨s1, e1, rfl, hD, hs1, hF, by rw [← hsc]; exact sc2_stop hlow, by omega, he1, hdl, hdh⟩
          have hqq : (decide (s1.dp < 0) = false ∧ (s1.dp == 0) = true ∧ decide ((hd0 s1.L : Int) < 53) = false) ∨ (decide (s1.dp < 0) = false ∧ (s1.dp == 0) = false) := by
            unfold low at hlow
            rw [Bool.or_eq_false_iff, Bool.and_eq_false_iff] at hlow
            have h1 := of_decide_eq_false hlow.1
            rcases hlow.2 with h | h
            · have h2 := of_decide_eq_false h
              exact .inr ⟨hlow.1, by rw [beq_eq_false_iff_ne]; exact h2⟩
            · have h2 := of_decide_eq_false h
              by_cases h3 : s1.dp = 0
              · exact .inl ⟨hlow.1, by rw [h3]; rfl, decide_eq_false (by omega)⟩
              · exact .inr ⟨hlow.1, by rw [beq_eq_false_iff_ne]; exact h3⟩
          generalize s1.dp = z at *
          generalize hd0 s1.L = hh at *
          clear hD hs1 hF hsc he0 hdl hTr hEr hgk HSt2 HR hdh hlow hh0
          rcases hqq with ⟨q1, q2, q3⟩ | ⟨q1, q2⟩
          all_goals
            go_wp2_with fail
            go_meet
            exact HX.out

end Go.Proofs.YtionmohglmbklaaGreatDoor.Tr
