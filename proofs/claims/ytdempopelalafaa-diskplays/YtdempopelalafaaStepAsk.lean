/- 'step': how it stands is asked. -/
import Derived.Test.YtdempopelalafaaPair
import Derived.BigQuiet
namespace Go.Proofs.Ytdempopelalafaa.Dk
open Go.RowKit

def StepPost (G : Nat → Prop) (w : World) (p q k : Nat) (e : Ending) (w' : World) : Prop := ∃ D' R', e = .returned (.bool true) ∧ Duo G w' p D' q R' k ∧ Kp G w w'

theorem qof {f : Nat} {args : Array Value} {w : World} {v : Value} (h : Calls Try.prog f args w fun e w' => e = .returned v ∧ w' = w) : Calls Try.prog f args w fun e w' => e = .returned v ∧ ∃ n, w' = w.drewN n :=
  h.mono fun _ _ ⟨he, hw⟩ => ⟨he, 0, hw⟩

/-- What the asking needs. -/
structure Asks (w : World) (p : Nat) (D : Dsk) (q : Nat) (R : RDk) : Prop where
  size : ∀ n, Calls Try.prog 27 #[pv p] (w.drewN n) fun e w' => e = .returned (.int .i64 (D.n : Int)) ∧ ∃ m, w' = (w.drewN n).drewN m
  up : ∀ n, Calls Try.prog 28 #[pv p] (w.drewN n) fun e w' => e = .returned (.bool D.up) ∧ ∃ m, w' = (w.drewN n).drewN m
  dirty : ∀ n, Calls Try.prog 21 #[pv p] (w.drewN n) fun e w' => e = .returned (.int .i64 (D.Q.length : Int)) ∧ ∃ m, w' = (w.drewN n).drewN m
  deeds : ∀ n, Calls Try.prog 23 #[pv p] (w.drewN n) fun e w' => e = .returned (.int .i64 (D.deeds : Int)) ∧ ∃ m, w' = (w.drewN n).drewN m
  rdirty : ∀ n, Calls Try.prog 22 #[pv q] (w.drewN n) fun e w' => e = .returned (.int .i64 (D.Q.length : Int)) ∧ ∃ m, w' = (w.drewN n).drewN m
  c0 : w.cell? ⟨q, 0, none⟩ = some (.int .i64 (D.n : Int))
  c2 : w.cell? ⟨q, 2, none⟩ = some (.bool (!D.up))
  c3 : w.cell? ⟨q, 3, none⟩ = some (.int .i64 (D.deeds : Int))
theorem Duo.asks {G : Nat → Prop} {w : World} {p q k : Nat} {D : Dsk} {R : RDk} (h : Duo G w p D q R k) (hk : k < 1000) : Asks w p D q R := by
  have hw := h.sW hk
  obtain ⟨⟨wv, r, g, o⟩, s, l⟩ := h
  exact ⟨fun n => qof (own_size (o.drewN n)), fun n => qof (own_up (o.drewN n)), fun n => qof (own_dirty (o.drewN n)), fun n => qof (own_deeds (o.drewN n)),
    fun n => by
      have := qof (rdirty_any (w := w.drewN n) (r.of_same (fun _ _ => rfl)) hw)
      rwa [s.dirty] at this,
    by rw [s.n]; exact r.c0, by rw [s.up, Bool.not_not]; exact r.c2, by rw [s.done]; exact r.c3⟩

set_option maxRecDepth 100000 in
set_option maxHeartbeats 1000000 in
theorem step_ask {G : Nat → Prop} {w : World} {p q k : Nat} {D : Dsk} {R : RDk} (h : Duo G w p D q R k) (hk : k < 1000) (x : OpR) (h0 : x.kind ≠ 0) (h1 : x.kind ≠ 1) (h2 : x.kind ≠ 2) (h3 : x.kind ≠ 3) (h4 : x.kind ≠ 4) (h5 : x.kind ≠ 5) :
    Calls Try.prog 16 #[pv p, pv q, x.val] w fun e w' => StepPost G w p q k e w' := by
  have HD := hid (h.fr0 ((Fr.refl _ w).alloc (.cells #[.int .i64 x.kind, .int .i64 x.a, .slice x.ad x.bytes.length x.cap, .int .u8 x.c, .bool x.fit, .int .u64 (x.keep : Int)] 31)))
  have HA := hid (HD.out.asks hk)
  have c0 := HA.out.c0
  have c2 := HA.out.c2
  have c3 := HA.out.c3
  have b0 : (x.kind == 0) = false := beq_eq_false_iff_ne.2 h0
  have b1 : (x.kind == 1) = false := beq_eq_false_iff_ne.2 h1
  have b2 : (x.kind == 2) = false := beq_eq_false_iff_ne.2 h2
  have b3 : (x.kind == 3) = false := beq_eq_false_iff_ne.2 h3
  have b4 : (x.kind == 4) = false := beq_eq_false_iff_ne.2 h4
  have b5 : (x.kind == 5) = false := beq_eq_false_iff_ne.2 h5
  unfold OpR.val
  clear h h0 h1 h2 h3 h4 h5
  go_enter Try.func16, Try.ntmps16
  go_wp2_with fail
  go_quiet (first
    | (go_at_call 27; exact Calls.quiet_of (HA.out.size _))
    | (go_at_call 28; exact Calls.quiet_of (HA.out.up _))
    | (go_at_call 21; exact Calls.quiet_of (HA.out.dirty _))
    | (go_at_call 22; exact Calls.quiet_of (HA.out.rdirty _))
    | (go_at_call 23; exact Calls.quiet_of (HA.out.deeds _)))
  go_wp2
  go_ret
  exact ⟨D, R, rfl, HD.out.fr0 ((Fr.refl _ _).drewN nq), Kp.fr0 (((Fr.refl _ w).alloc _).drewN nq)⟩

set_option maxRecDepth 100000 in
set_option maxHeartbeats 1000000 in
theorem step_flush {G : Nat → Prop} {w : World} {p q k : Nat} {D : Dsk} {R : RDk} (h : Duo G w p D q R k) (hk : k < 1000) (x : OpR) :
    Calls Try.prog 16 #[pv p, pv q, .agg #[.int .i64 1, .int .i64 x.a, .slice x.ad x.bytes.length x.cap, .int .u8 x.c, .bool x.fit, .int .u64 (x.keep : Int)]] w fun e w' => StepPost G w p q (k + 1) e w' := by
  have hd := h.fr0 ((Fr.refl _ w).alloc (.cells #[.int .i64 1, .int .i64 x.a, .slice x.ad x.bytes.length x.cap, .int .u8 x.c, .bool x.fit, .int .u64 (x.keep : Int)] 31))
  obtain ⟨F, o, back⟩ := hd.pr.disk
  have HC := hid (own_flush o (hd.sQ hk) (hd.sD hk))
  rw [hd.sim.flushE] at HC
  have HB := hid back
  have HS := hid (hd.sim.flush hd.pr.ok)
  have HL := hid hd.len
  have HW := hid (hd.sW hk)
  have HR := hid (hd.sR hk)
  clear h hd o back
  go_enter Try.func16, Try.ntmps16
  go_wp2_with fail
  refine HC.out.mono ?_
  rintro e w1 ⟨rfl, o1, k1⟩
  obtain ⟨pr1, kp1⟩ := HB.out _ _ o1 k1
  obtain ⟨wv, r1, _, back1⟩ := pr1.ref
  have HC2 := hid (rflush_any r1 HW.out HR.out)
  have HB2 := hid back1
  have K1 := hid kp1
  clear o1 k1 pr1 kp1 r1 back1 HB HC
  go_wp2_with fail
  refine HC2.out.mono ?_
  rintro e w2 ⟨rfl, d2⟩
  obtain ⟨pr2, kp2⟩ := HB2.out _ _ d2
  have P2 := hid pr2
  have K2 := hid (Kp.trans (Kp.trans (Kp.fr0 ((Fr.refl _ w).alloc _)) K1.out) kp2)
  clear d2 pr2 kp2 HB2 HC2
  go_wp2
  go_ret
  exact ⟨_, _, by simp, ⟨P2.out, HS.out, HL.out.flush⟩, K2.out⟩

set_option maxRecDepth 100000 in
set_option maxHeartbeats 1000000 in
theorem step_start {G : Nat → Prop} {w : World} {p q k : Nat} {D : Dsk} {R : RDk} (h : Duo G w p D q R k) (x : OpR) :
    Calls Try.prog 16 #[pv p, pv q, .agg #[.int .i64 5, .int .i64 x.a, .slice x.ad x.bytes.length x.cap, .int .u8 x.c, .bool x.fit, .int .u64 (x.keep : Int)]] w fun e w' => StepPost G w p q k e w' := by
  have hd := h.fr0 ((Fr.refl _ w).alloc (.cells #[.int .i64 5, .int .i64 x.a, .slice x.ad x.bytes.length x.cap, .int .u8 x.c, .bool x.fit, .int .u64 (x.keep : Int)] 31))
  obtain ⟨F, o, back⟩ := hd.pr.disk
  have HC := hid (own_start o)
  rw [hd.sim.startE] at HC
  generalize hev : (if R.off = true then (0 : Int) else 42) = ev at HC
  have HE := hid hev
  have HB := hid back
  have HS := hid hd.sim.start
  have HL := hid hd.len
  clear h hd o back hev
  go_enter Try.func16, Try.ntmps16
  go_wp2_with fail
  refine HC.out.mono ?_
  rintro e w1 ⟨rfl, o1, k1⟩
  obtain ⟨pr1, kp1⟩ := HB.out _ _ o1 k1
  obtain ⟨wv, r1, _, back1⟩ := pr1.ref
  have HC2 := hid (rstart_any r1)
  rw [HE.out] at HC2
  have HB2 := hid back1
  have K1 := hid kp1
  clear o1 k1 pr1 kp1 r1 back1 HB HC
  go_wp2_with (go_at_call 18; refine HC2.out.mono ?_; rintro e w2 ⟨rfl, r2, f2⟩)
  obtain ⟨pr2, kp2⟩ := HB2.out _ _ (RDid.of r2 f2)
  have P2 := hid pr2
  have K2 := hid (Kp.trans (Kp.trans (Kp.fr0 ((Fr.refl _ w).alloc _)) K1.out) kp2)
  clear r2 f2 pr2 kp2 HB2 HC2
  go_wp2
  go_ret
  exact ⟨_, _, by simp, ⟨P2.out, HS.out, HL.out.start⟩, K2.out⟩

theorem Duo.box {G : Nat → Prop} {w : World} {p q k : Nat} {D : Dsk} {R : RDk} (h : Duo G w p D q R k) (o : Obj) : Duo (fun j => G j ∨ j = w.heap.size) (w.alloc o) p D q R k :=
  ⟨h.pr.fr1 ((Fr.refl _ w).alloc o) w.heap.size (Nat.le_refl _) (by simp), h.sim, h.len⟩

set_option maxRecDepth 100000 in
set_option maxHeartbeats 1000000 in
theorem step_arm {G : Nat → Prop} {w : World} {p q k : Nat} {D : Dsk} {R : RDk} (h : Duo G w p D q R k) (hk : k < 1000) (x : OpR) (ha : x.a ≤ 9223372036854775807) (hx : x.keep < 18446744073709551616) :
    Calls Try.prog 16 #[pv p, pv q, .agg #[.int .i64 3, .int .i64 x.a, .slice x.ad x.bytes.length x.cap, .int .u8 x.c, .bool x.fit, .int .u64 (x.keep : Int)]] w fun e w' => StepPost G w p q k e w' := by
  have hd := h.box (.cells #[.int .i64 3, .int .i64 x.a, .slice x.ad x.bytes.length x.cap, .int .u8 x.c, .bool x.fit, .int .u64 (x.keep : Int)] 31)
  obtain ⟨F, o, back⟩ := hd.pr.disk
  have HC := hid (own_arm o x.a x.keep ha hx)
  have HB := hid back
  have HS := hid (hd.sim.armed x.a x.keep)
  have HL := hid hd.len
  have HW := hid (hd.sW hk)
  have CB : Hid (Blk (w.alloc (.cells #[.int .i64 3, .int .i64 x.a, .slice x.ad x.bytes.length x.cap, .int .u8 x.c, .bool x.fit, .int .u64 (x.keep : Int)] 31)) w.heap.size 31 [.int .i64 3, .int .i64 x.a, .slice x.ad x.bytes.length x.cap, .int .u8 x.c, .bool x.fit, .int .u64 (x.keep : Int)]) := Blk.new w 31 [.int .i64 3, .int .i64 x.a, .slice x.ad x.bytes.length x.cap, .int .u8 x.c, .bool x.fit, .int .u64 (x.keep : Int)]
  clear h hd o back
  go_enter Try.func16, Try.ntmps16
  go_wp2_with fail
  refine HC.out.mono ?_
  rintro e w1 ⟨rfl, o1, k1⟩
  have cb1 := Kp.blk k1 CB.out (.inl (.inr rfl))
  have e1 := cb1.cell 1
  have e5 := cb1.cell 5
  simp only [List.getElem?_cons_succ, List.getElem?_cons_zero] at e1 e5
  obtain ⟨pr1, kp1⟩ := HB.out _ _ o1 k1
  obtain ⟨wv, r1, _, back1⟩ := pr1.ref
  have HC2 := hid (rarm_any r1 x.a x.keep ha hx)
  have HB2 := hid back1
  have K1 := hid kp1
  clear o1 k1 pr1 kp1 r1 back1 HB HC cb1 CB
  go_wp2_with (go_at_call 38; refine HC2.out.mono ?_; rintro e w2 ⟨rfl, r2, f2⟩)
  obtain ⟨pr2, kp2⟩ := HB2.out _ _ (RDid.of r2 f2)
  have K2 := hid (Kp.trans (Kp.trans (Kp.fr0 ((Fr.refl _ w).alloc _)) (Kp.less K1.out (fun _ hj => .inl hj))) (Kp.less kp2 (fun _ hj => .inl hj)))
  have HD : Hid (Duo G w2 p _ q _ k) := ⟨pr2.less (fun _ hj => .inl hj), HS.out, HL.out.arm _ _⟩
  have HA := hid (HD.out.asks hk)
  have c0 := HA.out.c0
  have c2 := HA.out.c2
  have c3 := HA.out.c3
  clear r2 f2 pr2 kp2 HB2 HC2
  generalize D.arm x.a x.keep = D2 at *
  generalize R.arm x.a x.keep = R2 at *
  go_wp2_with fail
  go_quiet (first
    | (go_at_call 27; exact Calls.quiet_of (HA.out.size _))
    | (go_at_call 28; exact Calls.quiet_of (HA.out.up _))
    | (go_at_call 21; exact Calls.quiet_of (HA.out.dirty _))
    | (go_at_call 22; exact Calls.quiet_of (HA.out.rdirty _))
    | (go_at_call 23; exact Calls.quiet_of (HA.out.deeds _)))
  go_wp2
  go_ret
  exact ⟨D2, R2, rfl, HD.out.fr0 ((Fr.refl _ _).drewN nq), Kp.trans K2.out (Kp.fr0 ((Fr.refl _ _).drewN nq))⟩

set_option maxRecDepth 100000 in
set_option maxHeartbeats 1000000 in
theorem step_crash {G : Nat → Prop} {w : World} {p q k : Nat} {D : Dsk} {R : RDk} (h : Duo G w p D q R k) (hk : k < 1000) (x : OpR) (hx : x.keep < 18446744073709551616) :
    Calls Try.prog 16 #[pv p, pv q, .agg #[.int .i64 4, .int .i64 x.a, .slice x.ad x.bytes.length x.cap, .int .u8 x.c, .bool x.fit, .int .u64 (x.keep : Int)]] w fun e w' => StepPost G w p q k e w' := by
  have hd := h.box (.cells #[.int .i64 4, .int .i64 x.a, .slice x.ad x.bytes.length x.cap, .int .u8 x.c, .bool x.fit, .int .u64 (x.keep : Int)] 31)
  obtain ⟨F, o, back⟩ := hd.pr.disk
  have HC := hid (own_crash o (hd.sQ hk) x.keep hx)
  have HB := hid back
  have HS := hid (hd.sim.crashed hd.pr.ok x.keep)
  have HL := hid hd.len
  have HW := hid (hd.sW hk)
  have CB : Hid (Blk (w.alloc (.cells #[.int .i64 4, .int .i64 x.a, .slice x.ad x.bytes.length x.cap, .int .u8 x.c, .bool x.fit, .int .u64 (x.keep : Int)] 31)) w.heap.size 31 [.int .i64 4, .int .i64 x.a, .slice x.ad x.bytes.length x.cap, .int .u8 x.c, .bool x.fit, .int .u64 (x.keep : Int)]) := Blk.new w 31 [.int .i64 4, .int .i64 x.a, .slice x.ad x.bytes.length x.cap, .int .u8 x.c, .bool x.fit, .int .u64 (x.keep : Int)]
  clear h hd o back
  go_enter Try.func16, Try.ntmps16
  go_wp2_with fail
  refine HC.out.mono ?_
  rintro e w1 ⟨rfl, o1, k1⟩
  have cb1 := Kp.blk k1 CB.out (.inl (.inr rfl))
  have e1 := cb1.cell 1
  have e5 := cb1.cell 5
  simp only [List.getElem?_cons_succ, List.getElem?_cons_zero] at e1 e5
  obtain ⟨pr1, kp1⟩ := HB.out _ _ o1 k1
  obtain ⟨wv, r1, _, back1⟩ := pr1.ref
  have HC2 := hid (rcrash_any r1 x.keep hx HW.out)
  have HB2 := hid back1
  have K1 := hid kp1
  clear o1 k1 pr1 kp1 r1 back1 HB HC cb1 CB
  go_wp2_with (go_at_call 39; refine HC2.out.mono ?_; rintro e w2 ⟨rfl, d2⟩)
  obtain ⟨pr2, kp2⟩ := HB2.out _ _ (d2)
  have K2 := hid (Kp.trans (Kp.trans (Kp.fr0 ((Fr.refl _ w).alloc _)) (Kp.less K1.out (fun _ hj => .inl hj))) (Kp.less kp2 (fun _ hj => .inl hj)))
  have HD : Hid (Duo G w2 p _ q _ k) := ⟨pr2.less (fun _ hj => .inl hj), HS.out, HL.out.crash _⟩
  have HA := hid (HD.out.asks hk)
  have c0 := HA.out.c0
  have c2 := HA.out.c2
  have c3 := HA.out.c3
  clear d2 pr2 kp2 HB2 HC2
  generalize D.crash x.keep = D2 at *
  generalize R.crash x.keep = R2 at *
  go_wp2_with fail
  go_quiet (first
    | (go_at_call 27; exact Calls.quiet_of (HA.out.size _))
    | (go_at_call 28; exact Calls.quiet_of (HA.out.up _))
    | (go_at_call 21; exact Calls.quiet_of (HA.out.dirty _))
    | (go_at_call 22; exact Calls.quiet_of (HA.out.rdirty _))
    | (go_at_call 23; exact Calls.quiet_of (HA.out.deeds _)))
  go_wp2
  go_ret
  exact ⟨D2, R2, rfl, HD.out.fr0 ((Fr.refl _ _).drewN nq), Kp.trans K2.out (Kp.fr0 ((Fr.refl _ _).drewN nq))⟩

end Go.Proofs.Ytdempopelalafaa.Dk
