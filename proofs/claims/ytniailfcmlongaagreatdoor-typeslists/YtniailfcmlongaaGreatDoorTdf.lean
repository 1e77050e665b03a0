/- Definitions in memory; allRight, byPriority, byOrder. -/
import Derived.Test.YtniailfcmlongaaGreatDoorTun
namespace Go.Proofs.YtniailfcmlongaaGreatDoor.Tr
open Go.RowKit

/-- A definition: its value, its priority, its order. -/
structure Dt where
  v : Vt
  p : Int
  o : Int
/-- Its cells. -/
structure Dv where
  x : Vv
  p : Int
  o : Int
instance : Inhabited Dv := ⟨⟨vZ, 0, 0⟩⟩
abbrev Dv.cs (y : Dv) : List Value := [.int .i64 y.x.k, .int .i64 y.x.n, .float .f64 y.x.f, .string ⟨y.x.t.toArray⟩, .slice y.x.na y.x.nl y.x.nc, .slice y.x.ia y.x.il y.x.ic, .int .i64 y.p, .int .i64 y.o]
abbrev Dv.v (y : Dv) : Value := .agg #[.int .i64 y.x.k, .int .i64 y.x.n, .float .f64 y.x.f, .string ⟨y.x.t.toArray⟩, .slice y.x.na y.x.nl y.x.nc, .slice y.x.ia y.x.il y.x.ic, .int .i64 y.p, .int .i64 y.o]
abbrev dBox (w : World) (y : Dv) : World := w.alloc (.cells #[.int .i64 y.x.k, .int .i64 y.x.n, .float .f64 y.x.f, .string ⟨y.x.t.toArray⟩, .slice y.x.na y.x.nl y.x.nc, .slice y.x.ia y.x.il y.x.ic, .int .i64 y.p, .int .i64 y.o] 30)
theorem dBlk (w : World) (y : Dv) : Blk (dBox w y) w.heap.size 30 y.cs := Blk.new w 30 y.cs
theorem dFr (w : World) (y : Dv) : Fr (fun _ => False) w (dBox w y) := (Fr.refl _ w).alloc _
abbrev eight (W : World) (b o : Nat) (y : Dv) : Prop := W.cell? ⟨b, o, none⟩ = some (.int .i64 y.x.k) ∧ W.cell? ⟨b, o + 1, none⟩ = some (.int .i64 y.x.n) ∧ W.cell? ⟨b, o + 2, none⟩ = some (.float .f64 y.x.f) ∧ W.cell? ⟨b, o + 3, none⟩ = some (.string ⟨y.x.t.toArray⟩) ∧ W.cell? ⟨b, o + 4, none⟩ = some (.slice y.x.na y.x.nl y.x.nc) ∧ W.cell? ⟨b, o + 5, none⟩ = some (.slice y.x.ia y.x.il y.x.ic) ∧ W.cell? ⟨b, o + 6, none⟩ = some (.int .i64 y.p) ∧ W.cell? ⟨b, o + 7, none⟩ = some (.int .i64 y.o)
theorem eight_env {w W : World} {b o : Nat} {y : Dv} (h : eight w b o y) (e : Env w W) : eight W b o y :=
  ⟨e.cell h.1, e.cell h.2.1, e.cell h.2.2.1, e.cell h.2.2.2.1, e.cell h.2.2.2.2.1, e.cell h.2.2.2.2.2.1, e.cell h.2.2.2.2.2.2.1, e.cell h.2.2.2.2.2.2.2⟩
abbrev eightB (W : World) (b : Nat) (y : Dv) : Prop := W.cell? ⟨b, 0, none⟩ = some (.int .i64 y.x.k) ∧ W.cell? ⟨b, 1, none⟩ = some (.int .i64 y.x.n) ∧ W.cell? ⟨b, 2, none⟩ = some (.float .f64 y.x.f) ∧ W.cell? ⟨b, 3, none⟩ = some (.string ⟨y.x.t.toArray⟩) ∧ W.cell? ⟨b, 4, none⟩ = some (.slice y.x.na y.x.nl y.x.nc) ∧ W.cell? ⟨b, 5, none⟩ = some (.slice y.x.ia y.x.il y.x.ic) ∧ W.cell? ⟨b, 6, none⟩ = some (.int .i64 y.p) ∧ W.cell? ⟨b, 7, none⟩ = some (.int .i64 y.o)
theorem Blk.eight {W : World} {b : Nat} {t : TypeId} {y : Dv} (h : Blk W b t y.cs) : eightB W b y := ⟨h.cell 0, h.cell 1, h.cell 2, h.cell 3, h.cell 4, h.cell 5, h.cell 6, h.cell 7⟩
/-- The cells y are the definition d. -/
def DIn (w : World) (d : Dt) (y : Dv) : Prop := VIn w d.v y.x ∧ y.p = d.p ∧ y.o = d.o ∧ I64 d.p ∧ I64 d.o
theorem DIn.env {w W : World} {d : Dt} {y : Dv} (h : DIn w d y) (e : Env w W) : DIn W d y := ⟨VIn.env e _ _ h.1, h.2⟩
/-- Definitions that lie in a row. -/
def DsIn (w : World) (L : List Dt) (ad : Option Addr) : Prop := L ≠ [] → ∃ b o, ad = some ⟨b, o, none⟩ ∧ ∀ i (h : i < L.length), ∃ y, eight w b (o + i * 8) y ∧ DIn w L[i] y
theorem DsIn.env {w W : World} {L : List Dt} {ad : Option Addr} (h : DsIn w L ad) (e : Env w W) : DsIn W L ad := fun hne => by
  obtain ⟨b, o, h1, h2⟩ := h hne
  refine ⟨b, o, h1, fun i hi => ?_⟩
  obtain ⟨y, y1, y2⟩ := h2 i hi
  exact ⟨y, eight_env y1 e, y2.env e⟩
theorem DsIn.at {w : World} {L : List Dt} {ad : Option Addr} (h : DsIn w L ad) (i : Nat) (hi : i < L.length) : ∃ b o y, ad = some ⟨b, o, none⟩ ∧ eight w b (o + i * 8) y ∧ DIn w L[i] y := by
  obtain ⟨b, o, h1, h2⟩ := h (fun e => by rw [e] at hi; simp at hi)
  obtain ⟨y, y1, y2⟩ := h2 i hi
  exact ⟨b, o, y, h1, y1, y2⟩

set_option maxRecDepth 100000 in
set_option maxHeartbeats 4000000 in
theorem allRight_any (w : World) (L : List Dt) (ad : Option Addr) (cap : Nat) (hI : DsIn w L ad) (hlim : L.length ≤ 140737488351232) :
    Calls Tryz.prog 31 #[.slice ad L.length cap] w fun e w' => e = .returned (.bool (L.all fun d => rtB d.v 32)) ∧ Fr (fun _ => False) w w' := by
  have hst := fun (W : World) (a : Addr) (m : Mode) (f : Nat) => run_store Tryz.prog W a (.float .f64 f) m rfl
  have HI := hid hI
  clear hI
  go_enter Tryz.func31, Tryz.ntmps31
  go_wp2_with fail
  go_loopw [4, 7] (fun _ iv wr => ∃ i : Nat, i ≤ L.length ∧ iv = .int .i64 (i : Int) ∧ (∀ j (h : j < L.length), j < i → rtB L[j].v 32 = true) ∧ Fr (fun _ => False) w wr) (fun _ iv _ => L.length - (intOf iv).toNat)
  case atStart => exact ⟨0, Nat.zero_le _, rfl, fun j _ hj => absurd hj (by omega), Fr.refl _ _⟩
  case round =>
    obtain ⟨i, hi, rfl, hA, hF⟩ := hrel
    have HA := hid hA
    have HF := hid hF
    clear hA hF
    by_cases hlt : i < L.length
    · have hlt' : (i : Int) < ((L.length : Nat) : Int) := by omega
      obtain ⟨bb, bo, y, rfl, y1, y2⟩ := HI.out.at i hlt
      obtain ⟨k0, k1, k2, k3, k4, k5, k6, k7⟩ := eight_env y1 (Env.of HF.out)
      have HFb := hid (HF.out.trans (dFr wr y) (fun _ h => h.elim))
      have HC : Hid (Calls Tryz.prog 26 #[y.x.v] (dBox wr y) fun e w' => e = .returned (.bool (rtB L[i].v 32)) ∧ Fr (fun _ => False) (dBox wr y) w') := right_any y2.1 _ (Env.of HFb.out)
      have HN : Hid (rtB L[i].v 32 = false → (L.all fun d => rtB d.v 32) = false) := fun h => by
        rw [List.all_eq_false]
        exact ⟨L[i], List.getElem_mem hlt, by rw [h]; simp⟩
      have HN2 : Hid (rtB L[i].v 32 = true → ∀ j (h : j < L.length), j < i + 1 → rtB L[j].v 32 = true) := fun h j hj hj' => by
        by_cases e : j = i
        · subst e; exact h
        · exact HA.out j hj (by omega)
      generalize hq : rtB L[i].v 32 = q at HC HN HN2
      clear y1 y2 HA hq
      obtain ⟨⟨k, n, f, t, na, nl, nc, ia, il, ic⟩, p, o⟩ := y
      simp only [Vv.v] at *
      go_wp2_with fail
      refine HC.out.mono ?_
      rintro e w2 ⟨rfl, f2⟩
      have HF2 := hid (HFb.out.trans f2 (fun _ h => h.elim))
      clear f2
      cases q with
      | false =>
        have HE2 := hid (HN.out rfl)
        go_wp2_with fail
        go_ret
        exact ⟨by rw [HE2.out]; rfl, HF2.out⟩
      | true =>
        have HE2 := hid (HN2.out rfl)
        go_wp2_with fail
        exact ⟨⟨i + 1, by omega, by first | rfl | (congr 1), HE2.out, HF2.out⟩, by simp [intOf]; omega⟩
    · have hlt' : ¬ (i : Int) < ((L.length : Nat) : Int) := by omega
      have HR : Hid ((L.all fun d => rtB d.v 32) = true) := List.all_eq_true.2 fun u hu => by
        obtain ⟨j, hj, rfl⟩ := List.getElem_of_mem hu
        exact HA.out j hj (by omega)
      go_wp2_with fail
      go_ret
      exact ⟨by rw [HR.out]; rfl, HF.out⟩

set_option maxRecDepth 100000 in
set_option maxHeartbeats 2000000 in
theorem byPriority_any (w : World) (y z : Dv) : Calls Tryz.prog 50 #[y.v, z.v] w fun e w' => e = .returned (.int .i64 (Lib.compareInt y.p z.p)) ∧ w' = dBox (dBox w y) z := by
  have HC := hid (fun W => Tryz.cmp_Compare_int y.p z.p W)
  obtain ⟨⟨k, n, f, t, na, nl, nc, ia, il, ic⟩, p, o⟩ := y
  obtain ⟨⟨k', n', f', t', na', nl', nc', ia', il', ic'⟩, p', o'⟩ := z
  simp only [Dv.v] at *
  go_enter Tryz.func50, Tryz.ntmps50
  go_wp2_with fail
  refine (HC.out _).mono ?_
  rintro e w' ⟨rfl, rfl⟩
  go_wp2_with fail
  go_ret
  exact ⟨rfl, rfl⟩
set_option maxRecDepth 100000 in
set_option maxHeartbeats 2000000 in
theorem byOrder_any (w : World) (y z : Dv) : Calls Tryz.prog 52 #[y.v, z.v] w fun e w' => e = .returned (.int .i64 (Lib.compareInt y.o z.o)) ∧ w' = dBox (dBox w y) z := by
  have HC := hid (fun W => Tryz.cmp_Compare_int y.o z.o W)
  obtain ⟨⟨k, n, f, t, na, nl, nc, ia, il, ic⟩, p, o⟩ := y
  obtain ⟨⟨k', n', f', t', na', nl', nc', ia', il', ic'⟩, p', o'⟩ := z
  simp only [Dv.v] at *
  go_enter Tryz.func52, Tryz.ntmps52
  go_wp2_with fail
  refine (HC.out _).mono ?_
  rintro e w' ⟨rfl, rfl⟩
  go_wp2_with fail
  go_ret
  exact ⟨rfl, rfl⟩
end Go.Proofs.YtniailfcmlongaaGreatDoor.Tr
