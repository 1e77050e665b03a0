/- The contract of readInt. -/
import Derived.Test.YtniailfcmlongaaGreatDoorTrd
namespace Go.Proofs.YtniailfcmlongaaGreatDoor.Tr
open Go.RowKit

/-- Words that lie in a row. -/
structure Wds (w : World) (ad : Option Addr) (ws : List (List UInt8)) : Prop where
  at_ : Strs w ad ws
  few : ws.length ≤ 100
  short : ∀ s ∈ ws, s.length ≤ 64
theorem Wds.env {w W : World} {ad : Option Addr} {ws : List (List UInt8)} (h : Wds w ad ws) (e : Env w W) : Wds W ad ws := ⟨h.at_.env e, h.few, h.short⟩

set_option maxRecDepth 100000 in
set_option maxHeartbeats 4000000 in
theorem readInt_none (w : World) (ad : Option Addr) (cap : Nat) : Calls Tryz.prog 61 #[.slice ad 0 cap] w fun e w' => KPost w (intTy []) e w' := by
  have HF : Hid (Fr (fun _ => False) w (kBox w sInt (-9223372036854775808) 9223372036854775807 none 0 0 none)) := (Fr.refl _ w).alloc _
  have HK := hid (kBlk w sInt (-9223372036854775808) 9223372036854775807 none 0 0 none)
  go_enter Tryz.func61, Tryz.ntmps61
  go_wp2_with fail
  go_ret
  exact ⟨HF.out, .inr ⟨.int _ _, w.heap.size, rfl, rfl, HK.out.cell 0, HK.out.cell 1, HK.out.cell 2⟩⟩

set_option maxRecDepth 100000 in
set_option maxHeartbeats 4000000 in
theorem readInt_odd (w : World) (ad : Option Addr) (n cap : Nat) (h0 : n ≠ 0) (h2 : n ≠ 2) : Calls Tryz.prog 61 #[.slice ad n cap] w fun e w' => KPost w none e w' := by
  have HF : Hid (Fr (fun _ => False) w (kBox w sInt (-9223372036854775808) 9223372036854775807 none 0 0 none)) := (Fr.refl _ w).alloc _
  have h0' : (((n : Nat) : Int) == 0) = false := by simp; exact h0
  have h2' : (((n : Nat) : Int) != 2) = true := by simp; omega
  have h2b : (((n : Nat) : Int) == 2) = false := by simp; omega
  clear h0 h2
  go_enter Tryz.func61, Tryz.ntmps61
  go_wp2_with fail
  go_ret
  exact ⟨HF.out, .inl ⟨rfl, rfl⟩⟩

set_option maxRecDepth 100000 in
set_option maxHeartbeats 4000000 in
theorem readInt_two (w : World) (rb ro cap : Nat) (a b : List UInt8) (ha : a.length ≤ 64) (hb : b.length ≤ 64) (c0 : w.cell? ⟨rb, ro, none⟩ = some (.string ⟨a.toArray⟩)) (c1 : w.cell? ⟨rb, ro + 1, none⟩ = some (.string ⟨b.toArray⟩)) :
    Calls Tryz.prog 61 #[.slice (some ⟨rb, ro, none⟩) 2 cap] w fun e w' => KPost w (intTy [a, b]) e w' := by
  have HF : Hid (Fr (fun _ => False) w (kBox w sInt (-9223372036854775808) 9223372036854775807 none 0 0 none)) := (Fr.refl _ w).alloc _
  have HB := hid (kBlk w sInt (-9223372036854775808) 9223372036854775807 none 0 0 none)
  have HC := hid (show ∀ W, Env w W → W.cell? ⟨rb, ro, none⟩ = some (.string ⟨a.toArray⟩) ∧ W.cell? ⟨rb, ro + 1, none⟩ = some (.string ⟨b.toArray⟩) from fun W e => ⟨e.cell c0, e.cell c1⟩)
  have HNa := hid (fun W => tNumber_any W a (by omega))
  have HNb := hid (fun W => tNumber_any W b (by omega))
  have HVa := hid (fun W => numberOf_any W a)
  have HVb := hid (fun W => numberOf_any W b)
  have HLa := hid (fun h => digN_lt (s := a) h)
  have HLb := hid (fun h => digN_lt (s := b) h)
  have HT : Hid (intTy [a, b] = if isNumB a && isNumB b then (if digN a ≤ digN b then some (.int (digN a) (digN b)) else none) else none) := rfl
  generalize intTy [a, b] = T at *
  have hrb : rb < w.heap.size := by
    rcases Nat.lt_or_ge rb w.heap.size with h | h
    · exact h
    · exfalso
      unfold World.cell? at c0
      rw [Array.getElem?_eq_none h] at c0
      simp at c0
  clear c0 c1
  obtain ⟨c0, c1⟩ := HC.out _ (Env.of HF.out)
  generalize isNumB a = na at *
  generalize isNumB b = nb at *
  generalize digN a = da at *
  generalize digN b = db at *
  cases na with
  | false =>
    go_enter Tryz.func61, Tryz.ntmps61
    go_wp2_with fail
    refine (HNa.out _).mono ?_
    rintro e w1 ⟨rfl, f1⟩
    have HF1 := hid (HF.out.trans f1 (fun _ h => h.elim))
    clear f1 c0 c1
    go_wp2_with fail
    go_ret
    exact ⟨HF1.out, .inl ⟨by rw [HT.out]; rfl, rfl⟩⟩
  | true =>
  have HWa := hid (fun W => HVa.out W rfl)
  clear HVa
  go_enter Tryz.func61, Tryz.ntmps61
  go_wp2_with fail
  refine (HNa.out _).mono ?_
  rintro e w1 ⟨rfl, f1⟩
  have HF1 := hid (HF.out.trans f1 (fun _ h => h.elim))
  have HB1 := hid (f1.blk HB.out (fun h => h))
  clear f1 c0 c1
  obtain ⟨c0, c1⟩ := HC.out _ (Env.of HF1.out)
  go_wp2_with fail
  refine (HNb.out _).mono ?_
  rintro e w2 ⟨rfl, f2⟩
  have HF2 := hid (HF1.out.trans f2 (fun _ h => h.elim))
  have HB2 := hid (f2.blk HB1.out (fun h => h))
  clear f2 c0 c1
  cases nb with
  | false =>
    go_wp2_with fail
    go_ret
    exact ⟨HF2.out, .inl ⟨by rw [HT.out]; rfl, rfl⟩⟩
  | true =>
  have HWb := hid (fun W => HVb.out W rfl)
  clear HVb
  have HS : Hid (∀ W : World, Fr (fun _ => False) w2 W → W.cell? ⟨rb, ro, none⟩ = some (.string ⟨a.toArray⟩) ∧ W.cell? ⟨rb, ro + 1, none⟩ = some (.string ⟨b.toArray⟩)) := fun W f => HC.out W (Env.of (HF2.out.trans f (fun _ h => h.elim)))
  have HSs : Hid (∀ (W W' : World), Fr (fun _ => False) w2 W → (∀ k, k < w.heap.size → W'.heap[k]? = W.heap[k]?) → W'.cell? ⟨rb, ro, none⟩ = some (.string ⟨a.toArray⟩) ∧ W'.cell? ⟨rb, ro + 1, none⟩ = some (.string ⟨b.toArray⟩)) := fun W W' f e => by
    obtain ⟨h1, h2⟩ := HS.out W f
    have := e rb hrb
    unfold World.cell? at h1 h2 ⊢
    rw [this]
    exact ⟨h1, h2⟩
  go_wp2_with fail
  go_region_held3 (fun W => W.cell? ⟨rb, ro, none⟩ = some (.string ⟨a.toArray⟩) ∧ W.cell? ⟨rb, ro + 1, none⟩ = some (.string ⟨b.toArray⟩))
    (first | exact HS.out _ (Fr.refl _ _).drew | exact HS.out _ F1.out | exact HS.out _ F2.out | exact HSs.out _ _ F2.out (fun k hk => by first | exact Below.heap_setCell _ _ _ k (by show k ≠ w.heap.size; omega) | exact (Below.heap_setCell _ _ _ k (by show k ≠ w.heap.size; omega)).trans (Below.heap_setCell _ _ _ k (by show k ≠ w.heap.size; omega))))
    ((first
      | (go_at_call 87; have G1 := F1; clear G1; refine (HWb.out _).mono ?_; rintro e w4 ⟨rfl, f4⟩; have F2 : Hid (Fr (fun _ => False) w2 w4) := F1.out.trans f4 (fun _ h => h.elim); have B4 := F2.out.blk HB2.out (fun h => h); have d1 := B4.cell 1; have d2 := B4.cell 2; have z1 := B4.frozen 1; have z2 := B4.frozen 2; have HB4 := hid B4; clear B4)
      | (go_at_call 87; refine (HWa.out _).mono ?_; rintro e w3 ⟨rfl, f3⟩; have F1 : Hid (Fr (fun _ => False) w2 w3) := (Fr.refl _ w2).drew.trans f3 (fun _ h => h.elim))))
  obtain ⟨w5, hw5⟩ : ∃ w5, w5 = (w4.setCell ⟨w.heap.size, 1, none⟩ (.int .i64 (da : Int))).setCell ⟨w.heap.size, 2, none⟩ (.int .i64 (db : Int)) := ⟨_, rfl⟩
  rw [← hw5]
  have B5 : Blk w5 w.heap.size 70 [.string ⟨sInt.toArray⟩, .int .i64 (da : Int), .int .i64 (db : Int), .slice none 0 0, .pointer none] := by
    rw [hw5]; exact (HB4.out.setCell 1 _).setCell 2 _
  have HF5 : Hid (Fr (fun _ => False) w w5) := by
    rw [hw5]
    exact ((HF2.out.trans F2.out (fun _ h => h.elim)).setCell (.inr (Nat.le_refl _)) _).setCell (.inr (Nat.le_refl _)) _
  have HB5 := hid B5
  have e1 := B5.cell 1
  have e2 := B5.cell 2
  clear hw5 B5 d1 d2 z1 z2 HB4
  by_cases hle : da ≤ db
  · have hle' : decide ((da : Int) > (db : Int)) = false := by simpa using (show (da : Int) ≤ (db : Int) by omega)
    have hle2 : decide (db < da) = false := by simpa using hle
    have HT2 : Hid (T = some (.int (da : Int) (db : Int))) := by unfold Hid; rw [HT.out]; simp [hle]
    clear hle
    go_wp2_with fail
    go_quiet (fail)
    have HF6 := hid (HF5.out.drewN nq)
    have HB6 : Hid (Blk (w5.drewN nq) w.heap.size 70 [.string ⟨sInt.toArray⟩, .int .i64 (da : Int), .int .i64 (db : Int), .slice none 0 0, .pointer none]) := HB5.out
    go_wp2_with fail
    go_ret
    exact ⟨HF6.out, .inr ⟨_, w.heap.size, HT2.out, rfl, HB6.out.cell 0, HB6.out.cell 1, HB6.out.cell 2⟩⟩
  · have hle' : decide ((da : Int) > (db : Int)) = true := by simpa using (show (db : Int) < (da : Int) by omega)
    have hle2 : decide (db < da) = true := by simpa using hle
    have HT2 : Hid (T = none) := by unfold Hid; rw [HT.out]; simp [hle]
    clear hle
    go_wp2_with fail
    go_quiet (fail)
    have HF6 := hid (HF5.out.drewN nq)
    go_wp2_with fail
    go_ret
    exact ⟨HF6.out, .inl ⟨HT2.out, rfl⟩⟩

/-- readInt of any words. -/
theorem readInt_any (w : World) (ad : Option Addr) (cap : Nat) (ws : List (List UInt8)) (h : Wds w ad ws) : Calls Tryz.prog 61 #[.slice ad ws.length cap] w fun e w' => KPost w (intTy ws) e w' := by
  match ws, h with
  | [], h => exact readInt_none w ad cap
  | [a], h => exact readInt_odd w ad 1 cap (by decide) (by decide)
  | [a, b], h =>
    obtain ⟨rb, ro, rfl, hc⟩ := h.at_ (by simp)
    exact readInt_two w rb ro cap a b (h.short a (by simp)) (h.short b (by simp)) (by simpa using hc 0 (by simp)) (by simpa using hc 1 (by simp))
  | a :: b :: c :: r, h => exact readInt_odd w ad _ cap (by simp) (by simp)
end Go.Proofs.YtniailfcmlongaaGreatDoor.Tr
