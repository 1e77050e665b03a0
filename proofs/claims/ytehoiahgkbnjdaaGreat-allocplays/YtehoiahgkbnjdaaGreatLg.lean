
/- The log in hand: its block and its two maps; the functions that only look at it. -/
import Derived.Test.YtehoiahgkbnjdaaGreatReg
namespace Go.Proofs.YtehoiahgkbnjdaaGreat.Wl
open Go.RowKit Dk

structure Lg where
  f : Nat
  n : Nat
  z : Nat
  e : Nat
  u : Nat
  p : Nat
  lg : SMap
  st : SMap
  dead : Bool

def Lg.cells (L : Lg) (p bl bt : Nat) : List Value :=
  [pv p, .int .i64 (L.f : Int), .int .i64 (L.n : Int), .int .i64 (L.z : Int), .int .u64 (L.e : Int), .int .i64 (L.u : Int), .int .u64 (L.p : Int), .map (some bl), .map (some bt), .bool L.dead]

def Lg.home (L : Lg) (i : Nat) : Prop := i < L.z ∧ (i < L.f ∨ L.f + L.n ≤ i)

structure Lg.Ok (L : Lg) : Prop where
  n1 : 4 ≤ L.n
  n2 : L.n ≤ 255
  fz : L.f + L.n ≤ L.z
  z : L.z ≤ 1024
  e : L.e < 18446744073709551616
  u : L.u ≤ L.n - 1
  p : L.p < 18446744073709551616
  lh : ∀ q ∈ L.lg, L.home q.1
  th : ∀ q ∈ L.st, L.home q.1

theorem int_keyed3 : Maps.Keyed Tryz.prog 3 := Maps.int_keyed Tryz.underlying3
abbrev MpT (w : World) (b : Nat) (m : SMap) : Prop := Mp Tryz.prog 3 w b m

structure LRep (w : World) (l p bl bt : Nat) (L : Lg) : Prop where
  hl : Blk w l 91 (L.cells p bl bt)
  ml : MpT w bl L.lg
  mt : MpT w bt L.st
  lb : l ≠ bl
  lt : l ≠ bt
  bb : bl ≠ bt
  ok : L.Ok

/-- A log at l, over a disk at p; none of their blocks is one of G. -/
structure OwnL (G : Nat → Prop) (w : World) (l p bl bt : Nat) (D : Dsk) (L : Lg) : Prop where
  r : LRep w l p bl bt L
  d : Own (fun k => G k ∨ k = l ∨ k = bl ∨ k = bt) w p D
  g : ∀ k, G k → k ≠ l ∧ k ≠ bl ∧ k ≠ bt
  n : D.n = L.z

theorem own_same {G : Nat → Prop} {w w' : World} {p : Nat} {D : Dsk} (h : Own G w p D) (hs : w.heap.size ≤ w'.heap.size) (he : ∀ k, ¬ G k → k < w.heap.size → w'.heap[k]? = w.heap[k]?) : Own G w' p D := by
  obtain ⟨bl, bn, lv, r, f⟩ := h
  exact ⟨bl, bn, lv, r.of_same (fun k hk => he k (fun hg => (f k hg).2 hk) (r.foot_lt k hk)), fun k hk => ⟨Nat.lt_of_lt_of_le (f k hk).1 hs, (f k hk).2⟩⟩
theorem own_nw {G : Nat → Prop} {w w' : World} {p : Nat} {D : Dsk} (h : Own G w p D) (f : Nw w w') : Own G w' p D := own_same h f.size (fun k _ hk => f.block k hk (fun h => h))
theorem LRep.of_same {w w' : World} {l p bl bt : Nat} {L : Lg} (h : LRep w l p bl bt L) (h1 : w'.heap[l]? = w.heap[l]?) (h2 : w'.heap[bl]? = w.heap[bl]?) (h3 : w'.heap[bt]? = w.heap[bt]?) : LRep w' l p bl bt L :=
  { h with hl := h.hl.of_eq h1, ml := h.ml.of_eq h2, mt := h.mt.of_eq h3 }
theorem LRep.fr {w w' : World} {l p bl bt : Nat} {L : Lg} (h : LRep w l p bl bt L) {F : Nat → Prop} (f : Fr F w w') (h1 : ¬ F l) (h2 : ¬ F bl) (h3 : ¬ F bt) : LRep w' l p bl bt L :=
  h.of_same (f.block l h.hl.lt h1) (f.block bl h.ml.lt h2) (f.block bt h.mt.lt h3)
theorem OwnL.nw {G : Nat → Prop} {w w' : World} {l p bl bt : Nat} {D : Dsk} {L : Lg} (h : OwnL G w l p bl bt D L) (f : Nw w w') : OwnL G w' l p bl bt D L :=
  ⟨h.r.fr f (fun h => h) (fun h => h) (fun h => h), own_nw h.d f, h.g, h.n⟩
theorem OwnL.drew {G : Nat → Prop} {w : World} {l p bl bt : Nat} {D : Dsk} {L : Lg} (h : OwnL G w l p bl bt D L) : OwnL G w.drew l p bl bt D L := h.nw ((Fr.refl _ w).drew)
theorem OwnL.alloc {G : Nat → Prop} {w : World} {l p bl bt : Nat} {D : Dsk} {L : Lg} (h : OwnL G w l p bl bt D L) (o : Obj) : OwnL G (w.alloc o) l p bl bt D L := h.nw ((Fr.refl _ w).alloc o)
/-- The disk has done something. -/
theorem OwnL.disk {G : Nat → Prop} {w w' : World} {l p bl bt : Nat} {D D' : Dsk} {L : Lg} (h : OwnL G w l p bl bt D L) (o : Own (fun k => G k ∨ k = l ∨ k = bl ∨ k = bt) w' p D') (k : Kp (fun k => G k ∨ k = l ∨ k = bl ∨ k = bt) w w') (hn : D'.n = D.n) : OwnL G w' l p bl bt D' L :=
  ⟨h.r.fr k (fun hn => hn (.inr (.inl rfl))) (fun hn => hn (.inr (.inr (.inl rfl)))) (fun hn => hn (.inr (.inr (.inr rfl)))), o, h.g, hn.trans h.n⟩
theorem OwnL.glt {G : Nat → Prop} {w : World} {l p bl bt : Nat} {D : Dsk} {L : Lg} (h : OwnL G w l p bl bt D L) {k : Nat} (hk : G k) : k < w.heap.size := by
  obtain ⟨_, _, _, _, f⟩ := h.d
  exact (f k (.inl hk)).1
theorem Nw.kp {G : Nat → Prop} {w w' : World} (h : Nw w w') : Kp G w w' := Fr.mono h (fun _ h => h.elim)
theorem Nw.refl (w : World) : Nw w w := Fr.refl _ w
theorem Nw.tr {a b c : World} (h : Nw a b) (k : Nw b c) : Nw a c := Fr.trans h k (fun _ h => h.elim)

def Lg.reach (L : Lg) (i : Int) : Int := if L.dead then 40 else if isHome L.f L.n L.z i then 0 else 43

set_option maxRecDepth 100000 in
set_option maxHeartbeats 400000 in
theorem lreach_any {w : World} {l p bl bt : Nat} {L : Lg} (h : LRep w l p bl bt L) (i : Int) :
    Calls Tryz.prog 51 #[pv l, .int .i64 i] w fun e w' => e = .returned (.int .i64 (L.reach i)) ∧ Nw w w' := by
  have c1 := h.hl.cell 1
  have c2 := h.hl.cell 2
  have c3 := h.hl.cell 3
  have c9 := h.hl.cell 9
  have HC := hid (isHome_any w L.f L.n L.z i (by have := h.ok.fz; have := h.ok.z; omega) h.ok.n2)
  have HR : Hid (L.reach i = if L.dead then 40 else if isHome L.f L.n L.z i then 0 else 43) := rfl
  unfold Lg.cells at c1 c2 c3 c9
  generalize isHome L.f L.n L.z i = q at *
  generalize L.reach i = r at *
  generalize L.dead = d at *
  clear h
  unfold rgV at HC
  go_enter Tryz.func51, Tryz.ntmps51
  cases d
  · go_wp2_with fail
    refine HC.out.mono ?_
    rintro e w1 ⟨rfl, f1⟩
    have HF1 := hid f1
    clear f1
    cases q
    · go_wp2
      go_ret
      exact ⟨by rw [HR.out]; rfl, HF1.out⟩
    · go_wp2
      go_ret
      exact ⟨by rw [HR.out]; rfl, HF1.out⟩
  · go_wp2
    go_ret
    exact ⟨by rw [HR.out]; rfl, Nw.refl _⟩

set_option maxRecDepth 100000 in
set_option maxHeartbeats 400000 in
theorem len_any {w : World} {l p bl bt : Nat} {L : Lg} (h : LRep w l p bl bt L) :
    Calls Tryz.prog 56 #[pv l] w fun e w' => e = .returned (.int .i64 ((L.n - 1 : Nat) : Int)) ∧ Nw w w' := by
  have c1 := h.hl.cell 1
  have c2 := h.hl.cell 2
  have c3 := h.hl.cell 3
  have HC := hid (room_any w L.f L.n L.z (by have := h.ok.n1; omega) h.ok.n2)
  unfold Lg.cells at c1 c2 c3
  clear h
  unfold rgV at HC
  go_enter Tryz.func56, Tryz.ntmps56
  go_wp2_with fail
  refine HC.out.mono ?_
  rintro e w1 ⟨rfl, f1⟩
  have HF1 := hid f1
  clear f1
  go_wp2
  go_ret
  exact ⟨rfl, HF1.out⟩

theorem len57 {w : World} {b : Nat} {m : SMap} (h : MpT w b m) : (Builtin.len_ #[89] 3 #[.map (some b)]).run Tryz.prog w = .ok (.int .i64 (m.length : Int)) w := by
  have := h.1.len (t := 89) (e := 81) Tryz.underlying89 3
  rwa [size_encM] at this

def Lg.noted (L : Lg) (e : Int) : Lg := if e = 41 ∨ e = 40 then { L with dead := true } else L
theorem Lg.Ok.noted {L : Lg} (h : L.Ok) (e : Int) : (L.noted e).Ok := by
  unfold Lg.noted
  split
  · exact ⟨h.n1, h.n2, h.fz, h.z, h.e, h.u, h.p, h.lh, h.th⟩
  · exact h

set_option maxRecDepth 100000 in
set_option maxHeartbeats 400000 in
theorem noted_any {G : Nat → Prop} {w : World} {l p bl bt : Nat} {D : Dsk} {L : Lg} (h : OwnL G w l p bl bt D L) (e : Int) :
    Calls Tryz.prog 53 #[pv l, .int .i64 e] w fun x w' => x = .returned (.int .i64 e) ∧ OwnL G w' l p bl bt D (L.noted e) ∧ Kp G w w' := by
  have c9 := h.r.hl.cell 9
  have z9 := h.r.hl.frozen 9
  unfold Lg.cells at c9
  have H0 := hid h
  have HS : Hid (OwnL G (w.setCell ⟨l, 9, none⟩ (.bool true)) l p bl bt D { L with dead := true } ∧ Kp G w (w.setCell ⟨l, 9, none⟩ (.bool true))) := by
    refine ⟨⟨⟨h.r.hl.setCell 9 _, h.r.ml.of_eq (Below.heap_setCell w _ _ bl (Ne.symm h.r.lb)), h.r.mt.of_eq (Below.heap_setCell w _ _ bt (Ne.symm h.r.lt)), h.r.lb, h.r.lt, h.r.bb, ⟨h.r.ok.n1, h.r.ok.n2, h.r.ok.fz, h.r.ok.z, h.r.ok.e, h.r.ok.u, h.r.ok.p, h.r.ok.lh, h.r.ok.th⟩⟩, ?_, h.g, h.n⟩, ?_⟩
    · exact own_same h.d (by simp [World.setCell]) (fun k hk _ => Below.heap_setCell w _ _ k (fun e => hk (.inr (.inl e))))
    · exact (Fr.refl _ w).setCell (.inl (fun hg => (h.g _ hg).1 rfl)) _
  clear h
  go_enter Tryz.func53, Tryz.ntmps53
  by_cases h1 : e = 41
  · subst h1
    go_wp2
    go_ret
    exact ⟨rfl, by simpa [Lg.noted] using HS.out⟩
  · by_cases h2 : e = 40
    · subst h2
      go_wp2
      go_ret
      exact ⟨rfl, by simpa [Lg.noted] using HS.out⟩
    · have hb1 : (e == 41) = false := by simpa using h1
      have hb2 : (e == 40) = false := by simpa using h2
      have HN : Hid (L.noted e = L) := by simp [Hid, Lg.noted, h1, h2]
      go_wp2
      go_ret
      exact ⟨rfl, by rw [HN.out]; exact H0.out, Fr.refl _ w⟩

/-- A field of the log's block is stored anew. -/
theorem OwnL.set {G : Nat → Prop} {w : World} {l p bl bt : Nat} {D : Dsk} {L L' : Lg} (h : OwnL G w l p bl bt D L) (j : Nat) (v : Value) (hc : (L.cells p bl bt).set j v = L'.cells p bl bt) (h1 : L'.lg = L.lg) (h2 : L'.st = L.st) (h3 : L'.z = L.z) (ok : L'.Ok) :
    OwnL G (w.setCell ⟨l, j, none⟩ v) l p bl bt D L' ∧ Kp G w (w.setCell ⟨l, j, none⟩ v) := by
  refine ⟨⟨⟨hc ▸ h.r.hl.setCell j v, ?_, ?_, h.r.lb, h.r.lt, h.r.bb, ok⟩, ?_, h.g, h.n.trans h3.symm⟩, ?_⟩
  · rw [h1]; exact h.r.ml.of_eq (Below.heap_setCell w _ _ bl (Ne.symm h.r.lb))
  · rw [h2]; exact h.r.mt.of_eq (Below.heap_setCell w _ _ bt (Ne.symm h.r.lt))
  · exact own_same h.d (by simp [World.setCell]) (fun k hk _ => Below.heap_setCell w _ _ k (fun e => hk (.inr (.inl e))))
  · exact (Fr.refl _ w).setCell (.inl (fun hg => (h.g _ hg).1 rfl)) _

end Go.Proofs.YtehoiahgkbnjdaaGreat.Wl
