
/- What the log asks of the disk: put, settle. -/
import Derived.Test.YtehoiahgkbnjdaaGreatStg
import Derived.Deep.RegionWith
namespace Go.Proofs.YtehoiahgkbnjdaaGreat.Wl
open Go.RowKit Dk

/-- There is room for m more deeds to be counted. -/
def Sm (D : Dsk) (m : Nat) : Prop := D.Q.length + m < 1073741824 ∧ D.deeds + m < 1073741824
theorem Sm.le {D : Dsk} {m k : Nat} (h : Sm D m) (hk : k ≤ m) : Sm D k := ⟨by have := h.1; omega, by have := h.2; omega⟩
theorem fail_facts (D : Dsk) (k : Nat) : (D.fail k).Q = [] ∧ (D.fail k).deeds = D.deeds ∧ (D.fail k).n = D.n := by
  unfold Dsk.fail
  exact ⟨rfl, rfl, rfl⟩
theorem deed_facts (D : Dsk) : (D.deed).Q.length ≤ D.Q.length ∧ (D.deed).deeds ≤ D.deeds + 1 ∧ (D.deed).n = D.n := by
  unfold Dsk.deed
  split
  · obtain ⟨h1, h2, h3⟩ := fail_facts D D.keep
    rw [h1, h2, h3]
    exact ⟨by simp, by omega, rfl⟩
  · exact ⟨Nat.le_refl _, Nat.le_refl _, rfl⟩
theorem Sm.write {D : Dsk} {m : Nat} (h : Sm D (m + 1)) (i : Int) (b : Sec) : Sm (D.write i b) m := by
  obtain ⟨h1, h2, _⟩ := deed_facts D
  obtain ⟨a, c⟩ := h
  unfold Dsk.write
  split
  · exact ⟨by omega, by omega⟩
  · split
    · exact ⟨by omega, by omega⟩
    · split
      · refine ⟨?_, ?_⟩
        · simp only [Dsk.written, List.length_append, List.length_singleton]; omega
        · simp only [Dsk.written]; omega
      · exact ⟨by omega, by omega⟩
theorem Sm.flush {D : Dsk} {m : Nat} (h : Sm D (m + 1)) : Sm D.flush m := by
  obtain ⟨h1, h2, _⟩ := deed_facts D
  obtain ⟨a, c⟩ := h
  unfold Dsk.flush
  split
  · exact ⟨by omega, by omega⟩
  · split
    · refine ⟨?_, ?_⟩
      · simp only [Dsk.flushed, List.length_nil]; omega
      · simp only [Dsk.flushed]; omega
    · exact ⟨by omega, by omega⟩
theorem write_n (D : Dsk) (i : Int) (b : Sec) : (D.write i b).n = D.n := by
  obtain ⟨_, _, h3⟩ := deed_facts D
  unfold Dsk.write
  repeat' split
  all_goals first | rfl | exact h3
theorem flush_n (D : Dsk) : D.flush.n = D.n := by
  obtain ⟨_, _, h3⟩ := deed_facts D
  unfold Dsk.flush
  repeat' split
  all_goals first | rfl | exact h3

def cC (e u p : Nat) : List Value := [.int .u64 (e : Int), .int .i64 (u : Int), .int .u64 (p : Int)]

theorem OwnL.less {G G' : Nat → Prop} {w : World} {l p bl bt : Nat} {D : Dsk} {L : Lg} (h : OwnL G w l p bl bt D L) (hG : ∀ k, G' k → G k) : OwnL G' w l p bl bt D L :=
  ⟨h.r, h.d.less (fun k hk => hk.imp (hG k) id), fun k hk => h.g k (hG k hk), h.n⟩
/-- The block that was made just now is kept from here on. -/
theorem OwnL.more {G : Nat → Prop} {w : World} {l p bl bt : Nat} {D : Dsk} {L : Lg} (h : OwnL G w l p bl bt D L) (o : Obj) : OwnL (fun k => G k ∨ k = w.heap.size) (w.alloc o) l p bl bt D L := by
  have h1 := h.alloc o
  refine ⟨h1.r, ?_, fun k hk => ?_, h.n⟩
  · exact (h.d.more o).less (fun k hk => by
      rcases hk with (hk | hk) | hk
      · exact .inl (.inl hk)
      · exact .inr hk
      · exact .inl (.inr hk))
  · rcases hk with hk | rfl
    · exact h.g k hk
    · have := h.r.hl.lt; have := h.r.ml.lt; have := h.r.mt.lt
      omega
/-- A write of bytes that lie in a block of G. -/
theorem OwnL.write {G : Nat → Prop} {w : World} {l p bl bt : Nat} {D : Dsk} {L : Lg} (h : OwnL G w l p bl bt D L) (hD : Sm D 1) (i : Int) (s : Sec) (hs : s.length = 128) (ab : Nat) (t : TypeId) (cap : Nat) (hb : Blk w ab t (bs s)) (hG : G ab) :
    Calls Tryz.prog 64 #[pv p, .int .i64 i, .slice (some ⟨ab, 0, none⟩) 128 cap] w fun e w' => e = .returned (.int .i64 (D.writeE i 128)) ∧ OwnL G w' l p bl bt (D.write i s) L ∧ Kp G w w' := by
  have c := own_write h.d (by have := hD.1; omega) (by have := hD.2; omega) i s (some ⟨ab, 0, none⟩) cap (fun _ => ⟨ab, 0, rfl, hb.range 0 _ (by simp), .inl hG⟩)
  rw [hs] at c
  refine c.mono ?_
  rintro e w' ⟨he, o, k⟩
  exact ⟨he, h.disk o k (write_n D i s), Kp.less k (fun _ hk => .inl hk)⟩
theorem OwnL.flush {G : Nat → Prop} {w : World} {l p bl bt : Nat} {D : Dsk} {L : Lg} (h : OwnL G w l p bl bt D L) (hD : Sm D 1) :
    Calls Tryz.prog 65 #[pv p] w fun e w' => e = .returned (.int .i64 D.flushE) ∧ OwnL G w' l p bl bt D.flush L ∧ Kp G w w' := by
  refine (own_flush h.d (by have := hD.1; omega) (by have := hD.2; omega)).mono ?_
  rintro e w' ⟨he, o, k⟩
  exact ⟨he, h.disk o k (flush_n D), Kp.less k (fun _ hk => .inl hk)⟩

def PutPost (G : Nat → Prop) (w : World) (l p bl bt cb : Nat) (D : Dsk) (L : Lg) (e u pl : Nat) (s : Sec) (x : Ending) (w' : World) : Prop :=
  x = .returned (.int .i64 (D.writeE ((L.f + 1 + u : Nat) : Int) 128)) ∧ OwnL (fun k => G k ∨ k = cb) w' l p bl bt (D.write ((L.f + 1 + u : Nat) : Int) s) L ∧ Kp G w w' ∧
    Blk w' cb 86 (if D.writeE ((L.f + 1 + u : Nat) : Int) 128 = 0 then cC e (u + 1) (upd pl s) else cC e u pl)

/-- A field of a block of G is stored anew. -/
theorem OwnL.poke {G : Nat → Prop} {w : World} {l p bl bt cb : Nat} {D : Dsk} {L : Lg} (h : OwnL (fun k => G k ∨ k = cb) w l p bl bt D L) (j : Nat) (v : Value) : OwnL (fun k => G k ∨ k = cb) (w.setCell ⟨cb, j, none⟩ v) l p bl bt D L := by
  have hg := h.g cb (.inr rfl)
  refine ⟨h.r.of_same (Below.heap_setCell w _ _ l (Ne.symm hg.1)) (Below.heap_setCell w _ _ bl (Ne.symm hg.2.1)) (Below.heap_setCell w _ _ bt (Ne.symm hg.2.2)), ?_, h.g, h.n⟩
  exact own_same h.d (by simp [World.setCell]) (fun k hk _ => Below.heap_setCell w _ _ k (fun e => hk (.inl (.inr e))))

set_option maxRecDepth 100000 in
set_option maxHeartbeats 4000000 in
theorem lput_any {G : Nat → Prop} {w : World} {l p bl bt cb : Nat} {D : Dsk} {L : Lg} (h : OwnL (fun k => G k ∨ k = cb) w l p bl bt D L) (hcb : ¬ G cb) (hD : Sm D 1) (e u pl : Nat) (hu : u ≤ 1000000) (hp : pl < 18446744073709551616) (hc : Blk w cb 86 (cC e u pl)) (s : Sec) (hs : s.length = 128) :
    Calls Tryz.prog 93 #[pv l, pv cb, arrV s] w (PutPost G w l p bl bt cb D L e u pl s) := by
  have HCB : Hid (cb ≠ w.heap.size) := by have := hc.lt; unfold Hid; omega
  have HS := hid hs
  have H1 := hid (h.more (.cells (bs s).toArray 81)).drew
  have B5 : Blk (w.alloc (.cells (bs s).toArray 81)).drew w.heap.size 81 (bs s) := (Blk.new w 81 (bs s)).drew
  have BC : Blk (w.alloc (.cells (bs s).toArray 81)).drew cb 86 (cC e u pl) := (hc.alloc _).drew
  have hf : L.f ≤ 1024 := by have := h.r.ok.fz; have := h.r.ok.z; omega
  have HP := hid (place_any (w.alloc (.cells (bs s).toArray 81)).drew L.f L.n u L.z hf (by omega))
  have F1 : Kp (fun k => G k ∨ k = cb) w (w.alloc (.cells (bs s).toArray 81)).drew := (show Nw w _ from ((Fr.refl _ w).alloc _).drew).kp
  have c0 := H1.out.r.hl.cell 0
  have c1 := H1.out.r.hl.cell 1
  have c2 := H1.out.r.hl.cell 2
  have c3 := H1.out.r.hl.cell 3
  have d1 := BC.cell 1
  unfold Lg.cells at c0 c1 c2 c3
  unfold cC at d1
  simp only [List.getElem?_cons_zero, List.getElem?_cons_succ] at c0 c1 c2 c3 d1
  have HW : Hid (∀ w2, Nw (w.alloc (.cells (bs s).toArray 81)).drew w2 → Calls Tryz.prog 64 #[pv p, .int .i64 ((L.f + 1 + u : Nat) : Int), .slice (some ⟨w.heap.size, 0, none⟩) 128 128] w2 fun x w' => x = .returned (.int .i64 (D.writeE ((L.f + 1 + u : Nat) : Int) 128)) ∧
      OwnL (fun k => (G k ∨ k = cb) ∨ k = w.heap.size) w' l p bl bt (D.write ((L.f + 1 + u : Nat) : Int) s) L ∧ Kp (fun k => (G k ∨ k = cb) ∨ k = w.heap.size) w2 w') := fun w2 f2 =>
    (H1.out.nw f2).write hD _ s HS.out w.heap.size 81 128 (Fr.blk f2 B5 id) (.inr rfl)
  have HH2 : Hid (∀ w2, Nw (w.alloc (.cells (bs s).toArray 81)).drew w2 → w2.cell? ⟨l, 0, none⟩ = some (pv p) ∧ w2.cell? ⟨l, 1, none⟩ = some (.int .i64 (L.f : Int)) ∧ w2.cell? ⟨l, 2, none⟩ = some (.int .i64 (L.n : Int)) ∧ w2.cell? ⟨l, 3, none⟩ = some (.int .i64 (L.z : Int)) ∧ w2.cell? ⟨cb, 1, none⟩ = some (.int .i64 (u : Int))) := fun w2 f2 => by
    have hl := H1.out.r.hl.lt
    rw [cell_fr f2 hl, cell_fr f2 hl, cell_fr f2 hl, cell_fr f2 hl, cell_fr f2 BC.lt]
    exact ⟨c0, c1, c2, c3, d1⟩
  have HH3 : Hid (∀ w2 w3, Nw (w.alloc (.cells (bs s).toArray 81)).drew w2 → OwnL (fun k => (G k ∨ k = cb) ∨ k = w.heap.size) w3 l p bl bt (D.write ((L.f + 1 + u : Nat) : Int) s) L → Kp (fun k => (G k ∨ k = cb) ∨ k = w.heap.size) w2 w3 → w3.cell? ⟨l, 0, none⟩ = some (pv p) ∧ w3.cell? ⟨l, 1, none⟩ = some (.int .i64 (L.f : Int)) ∧ w3.cell? ⟨l, 2, none⟩ = some (.int .i64 (L.n : Int)) ∧ w3.cell? ⟨l, 3, none⟩ = some (.int .i64 (L.z : Int)) ∧ w3.cell? ⟨cb, 1, none⟩ = some (.int .i64 (u : Int))) := fun w2 w3 f2 o3 k3 => by
    have b3 := Kp.blk k3 (Fr.blk f2 BC id) (.inl (.inr rfl))
    refine ⟨?_, ?_, ?_, ?_, ?_⟩
    · simpa [Lg.cells] using o3.r.hl.cell 0
    · simpa [Lg.cells] using o3.r.hl.cell 1
    · simpa [Lg.cells] using o3.r.hl.cell 2
    · simpa [Lg.cells] using o3.r.hl.cell 3
    · simpa [cC] using b3.cell 1
  have HB5 := hid B5
  have HBC := hid BC
  have HF1 := hid F1
  have HPost : Hid (∀ x w', x = .returned (.int .i64 (D.writeE ((L.f + 1 + u : Nat) : Int) 128)) → OwnL (fun k => G k ∨ k = cb) w' l p bl bt (D.write ((L.f + 1 + u : Nat) : Int) s) L → Kp G w w' → Blk w' cb 86 (if D.writeE ((L.f + 1 + u : Nat) : Int) 128 = 0 then cC e (u + 1) (upd pl s) else cC e u pl) → PutPost G w l p bl bt cb D L e u pl s x w') := fun _ _ a b c d => ⟨a, b, c, d⟩
  clear h hc B5 BC F1
  unfold rgV at HP
  generalize D.writeE ((L.f + 1 + u : Nat) : Int) 128 = r at *
  generalize D.write ((L.f + 1 + u : Nat) : Int) s = D' at *
  generalize (L.f + 1 + u : Nat) = N at *
  unfold arrV
  go_enter Tryz.func93, Tryz.ntmps93
  go_wp2_with fail
  go_region_held3 (fun w' => w'.cell? ⟨l, 0, none⟩ = some (pv p) ∧ w'.cell? ⟨l, 1, none⟩ = some (.int .i64 (L.f : Int)) ∧ w'.cell? ⟨l, 2, none⟩ = some (.int .i64 (L.n : Int)) ∧ w'.cell? ⟨l, 3, none⟩ = some (.int .i64 (L.z : Int)) ∧ w'.cell? ⟨cb, 1, none⟩ = some (.int .i64 (u : Int)))
    (first
      | exact ⟨c0, c1, c2, c3, d1⟩
      | exact HH2.out _ f2
      | exact HH3.out _ _ f2 o3 k3)
    (first
      | (go_at_call 69; refine HP.out.mono ?_; rintro x w2 ⟨rfl, f2⟩)
      | (go_at_call 64; refine (HW.out w2 f2).mono ?_; rintro x w3 ⟨rfl, o3, k3⟩))
  have BC3 := Kp.blk k3 (Fr.blk f2 HBC.out id) (.inl (.inr rfl))
  have HB53 := hid (Kp.blk k3 (Fr.blk f2 HB5.out id) (.inr rfl))
  have HK3 : Hid (Kp (fun k => G k ∨ k = cb) w w3) := Kp.trans (Kp.trans HF1.out f2.kp) (Kp.less k3 (fun _ hk => .inl hk))
  have HO3 := hid (o3.less (G' := fun k => G k ∨ k = cb) (fun _ hk => .inl hk))
  clear HP HW HH2 HH3 f2 k3 o3 H1 c0 c1 c2 c3 d1
  by_cases hr : r = 0
  · subst hr
    have q1 := BC3.cell 1
    have q2 := BC3.cell 2
    have z1 := BC3.frozen 1
    have z2 := BC3.frozen 2
    have hlt := BC3.lt
    have HBC3 := hid BC3
    unfold cC at q1 q2
    clear BC3
    have hw1 : IntKind.i64.wrap ((u : Int) + 1) = ((u + 1 : Nat) : Int) := by simp [IntKind.wrap, IntKind.bits, IntKind.signed]; omega
    go_wp2_with fail
    have e4 : (u : Int) + 1 = ((u + 1 : Nat) : Int) := by simp
    have HO4 := hid (HO3.out.poke 1 (.int .i64 ((u : Int) + 1)))
    have HK4 : Hid (Kp G w (w3.setCell ⟨cb, 1, none⟩ (.int .i64 ((u : Int) + 1)))) := Kp.trans (Kp.less HK3.out (fun _ hk => .inl hk)) ((Fr.refl _ w3).setCell (.inl hcb) _)
    have BC4 := HBC3.out.setCell 1 (.int .i64 ((u : Int) + 1))
    have HB54 := hid (HB53.out.setCell_ne (a := ⟨cb, 1, none⟩) (Ne.symm HCB.out) (.int .i64 ((u : Int) + 1)))
    generalize w3.setCell ⟨cb, 1, none⟩ (.int .i64 ((u : Int) + 1)) = W4 at *
    have HU := hid (update_any W4.drew pl hp (some ⟨w.heap.size, 0, none⟩) s 128 (by rw [HS.out]; omega) (Src.of (HB54.out.drew.range 0 _ (by simp))))
    rw [HS.out] at HU
    have r2 : W4.drew.cell? ⟨cb, 2, none⟩ = some (.int .u64 (pl : Int)) := BC4.drew.cell 2
    have y2 : W4.drew.frozen? ⟨cb, 2, none⟩ = false := BC4.drew.frozen 2
    have HBC4 : Hid (Blk W4.drew cb 86 (cC e (u + 1) pl)) := by
      have := BC4.drew
      rw [e4] at this
      exact this
    clear q1 q2 z1 z2 BC4 HBC3 HB53 HO3 HK3 hw1 e4
    generalize upd pl s = U at *
    go_region_with ((go_at_call 70; refine HU.out.mono ?_; rintro x w5 ⟨rfl, rfl⟩))
    all_goals
      go_wp2
      go_ret
      refine HPost.out _ _ rfl (HO4.out.drew.poke 2 _) (Kp.trans HK4.out (((Fr.refl _ W4).drew).setCell (.inl hcb) _)) ?_
      exact HBC4.out.setCell 2 _
  · have hb : (r != 0) = true := by simpa using hr
    have HBC3 := hid BC3
    clear BC3
    go_wp2
    go_ret
    exact HPost.out _ _ rfl HO3.out (Kp.less HK3.out (fun _ hk => .inl hk)) (by rw [if_neg hr]; exact HBC3.out)

/-- What 'settle' answers, and what it leaves. -/
def setE (D : Dsk) (f : Nat) (s : Sec) : Int := if D.flushE ≠ 0 then D.flushE else if D.flush.writeE (f : Int) 128 ≠ 0 then D.flush.writeE (f : Int) 128 else (D.flush.write (f : Int) s).flushE
def setD (D : Dsk) (f : Nat) (s : Sec) : Dsk := if D.flushE ≠ 0 then D.flush else if D.flush.writeE (f : Int) 128 ≠ 0 then D.flush.write (f : Int) s else (D.flush.write (f : Int) s).flush
def Lg.ctl (L : Lg) (e u p : Nat) : Lg := { L with e := e, u := u, p := p }
theorem OwnL.set3 {G : Nat → Prop} {w : World} {l p bl bt : Nat} {D : Dsk} {L : Lg} (h : OwnL G w l p bl bt D L) (e u pl : Nat) (ok : (L.ctl e u pl).Ok) :
    OwnL G (((w.setCell ⟨l, 4, none⟩ (.int .u64 (e : Int))).setCell ⟨l, 5, none⟩ (.int .i64 (u : Int))).setCell ⟨l, 6, none⟩ (.int .u64 (pl : Int))) l p bl bt D (L.ctl e u pl) ∧ Kp G w (((w.setCell ⟨l, 4, none⟩ (.int .u64 (e : Int))).setCell ⟨l, 5, none⟩ (.int .i64 (u : Int))).setCell ⟨l, 6, none⟩ (.int .u64 (pl : Int))) := by
  have hb : ∀ k, k ≠ l → (((w.setCell ⟨l, 4, none⟩ (.int .u64 (e : Int))).setCell ⟨l, 5, none⟩ (.int .i64 (u : Int))).setCell ⟨l, 6, none⟩ (.int .u64 (pl : Int))).heap[k]? = w.heap[k]? := fun k hk =>
    (Below.heap_setCell _ _ _ k hk).trans ((Below.heap_setCell _ _ _ k hk).trans (Below.heap_setCell _ _ _ k hk))
  refine ⟨⟨⟨((h.r.hl.setCell 4 _).setCell 5 _).setCell 6 _, h.r.ml.of_eq (hb bl (Ne.symm h.r.lb)), h.r.mt.of_eq (hb bt (Ne.symm h.r.lt)), h.r.lb, h.r.lt, h.r.bb, ok⟩, ?_, h.g, h.n⟩, ?_⟩
  · exact own_same h.d (by simp [World.setCell]) (fun k hk _ => hb k (fun e => hk (.inr (.inl e))))
  · have hn : ¬ G l := fun hg => (h.g _ hg).1 rfl
    exact (((Fr.refl _ w).setCell (.inl hn) _).setCell (.inl hn) _).setCell (.inl hn) _
def SetPost (G : Nat → Prop) (w : World) (l p bl bt : Nat) (D : Dsk) (L : Lg) (e u pl : Nat) (x : Ending) (w' : World) : Prop :=
  x = .returned (.int .i64 (setE D L.f (ctl e u pl))) ∧ OwnL G w' l p bl bt (setD D L.f (ctl e u pl)) (if setE D L.f (ctl e u pl) = 0 then L.ctl e u pl else L) ∧ Kp G w w'

set_option maxRecDepth 100000 in
set_option maxHeartbeats 4000000 in
theorem settle_any {G : Nat → Prop} {w : World} {l p bl bt : Nat} {D : Dsk} {L : Lg} (h : OwnL G w l p bl bt D L) (hD : Sm D 4) (e u pl : Nat) (hu : u ≤ L.n - 1) (he : e < 18446744073709551616) (hp : pl < 18446744073709551616) :
    Calls Tryz.prog 81 #[pv l, cV e u pl] w (SetPost G w l p bl bt D L e u pl) := by
  have hn := h.r.ok.n2
  have HN : Hid (u < 65536) := by unfold Hid; omega
  have hz := zero66
  have h1 := h.more (.cells #[.int .u64 (e : Int), .int .i64 (u : Int), .int .u64 (pl : Int)] 86)
  have B3 : Blk (w.alloc (.cells #[.int .u64 (e : Int), .int .i64 (u : Int), .int .u64 (pl : Int)] 86)) w.heap.size 86 (cC e u pl) := Blk.new w 86 (cC e u pl)
  have F1 : Kp G w (w.alloc (.cells #[.int .u64 (e : Int), .int .i64 (u : Int), .int .u64 (pl : Int)] 86)) := (show Nw w _ from (Fr.refl _ w).alloc _).kp
  have c0 := h1.r.hl.cell 0
  unfold Lg.cells at c0
  have HC1 := hid (h1.flush (hD.le (by omega)))
  have HB3 := hid B3
  have HF1 := hid F1
  have HL : Hid (ctl e u pl = ctl e u pl) := rfl
  have Hlen := hid (ctl_length e u pl)
  have HSec := fun W => hid (sector_any W e u pl HN.out)
  have HPost : Hid (∀ x w', x = .returned (.int .i64 (setE D L.f (ctl e u pl))) → OwnL G w' l p bl bt (setD D L.f (ctl e u pl)) (if setE D L.f (ctl e u pl) = 0 then L.ctl e u pl else L) → Kp G w w' → SetPost G w l p bl bt D L e u pl x w') := fun _ _ a b c => ⟨a, b, c⟩
  have HOk : Hid ((L.ctl e u pl).Ok) := ⟨h.r.ok.n1, h.r.ok.n2, h.r.ok.fz, h.r.ok.z, he, hu, hp, h.r.ok.lh, h.r.ok.th⟩
  clear B3 F1
  unfold cV at HSec ⊢
  generalize ctl e u pl = s at *
  have HE1 : Hid (D.flushE ≠ 0 → setE D L.f s = D.flushE ∧ setD D L.f s = D.flush) := fun hh => by simp [setE, setD, hh]
  have HE2 : Hid (D.flushE = 0 → D.flush.writeE (L.f : Int) 128 ≠ 0 → setE D L.f s = D.flush.writeE (L.f : Int) 128 ∧ setD D L.f s = D.flush.write (L.f : Int) s) := fun hh hh2 => by simp [setE, setD, hh, hh2]
  have HE3 : Hid (D.flushE = 0 → D.flush.writeE (L.f : Int) 128 = 0 → setE D L.f s = (D.flush.write (L.f : Int) s).flushE ∧ setD D L.f s = (D.flush.write (L.f : Int) s).flush) := fun hh hh2 => by simp [setE, setD, hh, hh2]
  generalize setE D L.f s = E at *
  generalize setD D L.f s = DD at *
  have hS2 : Hid (Sm D.flush 3) := hD.flush
  have hS3 : Hid (Sm (D.flush.write (L.f : Int) s) 2) := hS2.out.write _ _
  generalize hfe : D.flushE = fe at *
  generalize hfd : D.flush = D1 at *
  generalize hwe : D1.writeE (L.f : Int) 128 = we at *
  generalize hwd : D1.write (L.f : Int) s = D2 at *
  clear h h1 hfe hfd
  have Hwe := hid hwe
  have Hwd := hid hwd
  clear hwe hwd
  go_enter Tryz.func81, Tryz.ntmps81
  go_wp2_with fail
  refine HC1.out.mono ?_
  rintro x w1 ⟨rfl, o1, k1⟩
  have B31 := Kp.blk k1 HB3.out (.inr rfl)
  have HK1 : Hid (Kp G w w1) := Kp.trans HF1.out (Kp.less k1 (fun _ hk => .inl hk))
  have HO1 := hid o1
  clear HC1 HB3 HF1 k1 o1 c0
  by_cases h1 : fe = 0
  · subst h1
    have q0 := B31.cell 0
    have q1 := B31.cell 1
    have q2 := B31.cell 2
    unfold cC at q0 q1 q2
    have HB31 := hid B31
    clear B31
    go_wp2_with fail
    refine (HSec w1).out.mono ?_
    rintro x w2 ⟨rfl, f2⟩
    have HO2 := hid ((HO1.out.nw f2).more (.cells (bs s).toArray 81))
    have HB32 := hid (((Fr.blk f2 HB31.out id)).alloc (.cells (bs s).toArray 81))
    have B6 := Blk.new w2 81 (bs s)
    have HK2 : Hid (Kp G w (w2.alloc (.cells (bs s).toArray 81))) := Kp.trans (Kp.trans HK1.out f2.kp) (show Kp G _ _ from (Fr.refl _ _).alloc _)
    clear HO1 HB31 HK1 f2 q0 q1 q2
    unfold arrV
    go_wp2_with (first | (refine store66n (by rfl) _ _ (by rfl) s Hlen.out zs66 (by rfl) (by rfl) ?_))
    have c0 : (w2.alloc (.cells (bs s).toArray 81)).drew.cell? ⟨l, 0, none⟩ = some (pv p) := by simpa [Lg.cells] using HO2.out.drew.r.hl.cell 0
    have c1 : (w2.alloc (.cells (bs s).toArray 81)).drew.cell? ⟨l, 1, none⟩ = some (.int .i64 (L.f : Int)) := by simpa [Lg.cells] using HO2.out.drew.r.hl.cell 1
    have HW := hid (HO2.out.drew.write (hS2.out.le (by omega)) (L.f : Int) s Hlen.out w2.heap.size 81 128 B6.drew (.inr rfl))
    rw [Hwe.out, Hwd.out] at HW
    clear B6
    go_region_held3 (fun w' => w'.cell? ⟨l, 0, none⟩ = some (pv p) ∧ w'.cell? ⟨l, 1, none⟩ = some (.int .i64 (L.f : Int)))
      (first
        | exact ⟨c0, c1⟩
        | exact ⟨by simpa [Lg.cells] using o3.r.hl.cell 0, by simpa [Lg.cells] using o3.r.hl.cell 1⟩)
      ((go_at_call 64; refine HW.out.mono ?_; rintro x w3 ⟨rfl, o3, k3⟩))
    have HK3 : Hid (Kp G w w3) := Kp.trans (Kp.trans HK2.out (show Kp G _ _ from (Fr.refl _ _).drew)) (Kp.less k3 (fun _ hk => .inl (.inl hk)))
    have HB33 := hid (Kp.blk k3 HB32.out.drew (.inl (.inr rfl)))
    have HO3 := hid (o3.less (G' := fun k => G k ∨ k = w.heap.size) (fun _ hk => .inl hk))
    clear HW c0 c1 k3 o3 HO2 HB32 HK2
    by_cases h2 : we = 0
    · subst h2
      have HC3 := hid (HO3.out.flush (hS3.out.le (by omega)))
      have HE := hid (HE3.out (by trivial) (by trivial))
      have c0 : w3.cell? ⟨l, 0, none⟩ = some (pv p) := by simpa [Lg.cells] using HO3.out.r.hl.cell 0
      clear HE1 HE2 HE3
      generalize D2.flushE = fe2 at *
      go_wp2_with fail
      refine HC3.out.mono ?_
      rintro x w4 ⟨rfl, o4, k4⟩
      have HB34 := hid (Kp.blk k4 HB33.out (.inr rfl))
      have HK4 : Hid (Kp G w w4) := Kp.trans HK3.out (Kp.less k4 (fun _ hk => .inl hk))
      have HO4 := hid (o4.less (G' := G) (fun _ hk => .inl hk))
      clear HC3 HO3 HB33 HK3 k4 o4 c0
      by_cases h3 : fe2 = 0
      · subst h3
        have q0 := HB34.out.cell 0
        have q1 := HB34.out.cell 1
        have q2 := HB34.out.cell 2
        unfold cC at q0 q1 q2
        have c4 := HO4.out.r.hl.cell 4
        have c5 := HO4.out.r.hl.cell 5
        have c6 := HO4.out.r.hl.cell 6
        unfold Lg.cells at c4 c5 c6
        have z4 := HO4.out.r.hl.frozen 4
        have z5 := HO4.out.r.hl.frozen 5
        have z6 := HO4.out.r.hl.frozen 6
        go_wp2
        go_ret
        refine HPost.out _ _ (by rw [HE.out.1]; rfl) ?_ ?_
        · rw [HE.out.1, if_pos rfl, HE.out.2]
          exact (HO4.out.set3 e u pl HOk.out).1
        · exact Kp.trans HK4.out (HO4.out.set3 e u pl HOk.out).2
      · have hb : (fe2 != 0) = true := by simpa using h3
        go_wp2
        go_ret
        refine HPost.out _ _ (by rw [HE.out.1]; rfl) ?_ HK4.out
        rw [HE.out.1, if_neg h3, HE.out.2]
        exact HO4.out
    · have hb : (we != 0) = true := by simpa using h2
      have HE := hid (HE2.out (by trivial) h2)
      clear HE1 HE2 HE3
      go_wp2
      go_ret
      refine HPost.out _ _ (by rw [HE.out.1]; rfl) ?_ HK3.out
      rw [HE.out.1, if_neg h2, HE.out.2]
      exact HO3.out.less (fun _ hk => .inl hk)
  · have hb : (fe != 0) = true := by simpa using h1
    have HE := hid (HE1.out h1)
    clear HE1 HE2 HE3 B31
    go_wp2
    go_ret
    refine HPost.out _ _ (by rw [HE.out.1]; rfl) ?_ HK1.out
    rw [HE.out.1, if_neg h1, HE.out.2]
    exact HO1.out.less (fun _ hk => .inl hk)

end Go.Proofs.YtehoiahgkbnjdaaGreat.Wl
