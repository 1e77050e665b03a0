/- A type that was read, in memory; bytes' classes; readBare. -/
import Derived.Test.YtniailfcmlongaaGreatDoorTnmM
import Derived.Test.YtniailfcmlongaaGreatDoorVtrM
import Derived.Test.YtniailfcmlongaaGreatDoorCmp
namespace Go.Proofs.YtniailfcmlongaaGreatDoor.Tr
open Go.RowKit

/-- At block b lies the type. -/
def KIn (w : World) : Ty → Nat → Prop
  | .bare s, b => w.cell? ⟨b, 0, none⟩ = some (.string ⟨s.toArray⟩)
  | .int lo hi, b => w.cell? ⟨b, 0, none⟩ = some (.string ⟨sInt.toArray⟩) ∧ w.cell? ⟨b, 1, none⟩ = some (.int .i64 lo) ∧ w.cell? ⟨b, 2, none⟩ = some (.int .i64 hi)
  | .enum ws, b => w.cell? ⟨b, 0, none⟩ = some (.string ⟨sEnum.toArray⟩) ∧ ∃ ad cap, w.cell? ⟨b, 3, none⟩ = some (.slice ad ws.length cap) ∧ ws.length ≤ 100 ∧ Strs w ad ws
  | .list t, b => w.cell? ⟨b, 0, none⟩ = some (.string ⟨sList.toArray⟩) ∧ ∃ c, w.cell? ⟨b, 4, none⟩ = some (pv c) ∧ KIn w t c
  | .attrs t, b => w.cell? ⟨b, 0, none⟩ = some (.string ⟨sAttrs.toArray⟩) ∧ ∃ c, w.cell? ⟨b, 4, none⟩ = some (pv c) ∧ KIn w t c
theorem KIn.env {w W : World} (e : Env w W) : ∀ (t : Ty) (b : Nat), KIn w t b → KIn W t b
  | .bare s, b, h => e.cell h
  | .int lo hi, b, h => ⟨e.cell h.1, e.cell h.2.1, e.cell h.2.2⟩
  | .enum ws, b, h => by
    obtain ⟨h0, ad, cap, h1, h2, h3⟩ := h
    exact ⟨e.cell h0, ad, cap, e.cell h1, h2, h3.env e⟩
  | .list t, b, h => by
    obtain ⟨h0, c, h1, h2⟩ := h
    exact ⟨e.cell h0, c, e.cell h1, KIn.env e t c h2⟩
  | .attrs t, b, h => by
    obtain ⟨h0, c, h1, h2⟩ := h
    exact ⟨e.cell h0, c, e.cell h1, KIn.env e t c h2⟩
/-- What reading a type leaves. -/
def KPost (w : World) (o : Option Ty) (e : Ending) (w' : World) : Prop :=
  Fr (fun _ => False) w w' ∧ ((o = none ∧ e = .returned (.pointer none)) ∨ ∃ t b, o = some t ∧ e = .returned (pv b) ∧ KIn w' t b)

abbrev kBox (w : World) (s : List UInt8) (lo hi : Int) (ad : Option Addr) (n cap : Nat) (p : Option Addr) : World := w.alloc (.cells #[.string ⟨s.toArray⟩, .int .i64 lo, .int .i64 hi, .slice ad n cap, .pointer p] 70)
theorem kBlk (w : World) (s : List UInt8) (lo hi : Int) (ad : Option Addr) (n cap : Nat) (p : Option Addr) : Blk (kBox w s lo hi ad n cap p) w.heap.size 70 [.string ⟨s.toArray⟩, .int .i64 lo, .int .i64 hi, .slice ad n cap, .pointer p] := Blk.new w _ _

theorem u8_lt (c : UInt8) : c.toNat < 256 := c.toNat_lt

set_option maxRecDepth 100000 in
set_option maxHeartbeats 1000000 in
theorem isNoDigit_any (w : World) (c : UInt8) : Calls Tryz.prog 106 #[bv c] w fun e w' => e = .returned (.bool (noDig c)) ∧ w = w' := by
  unfold noDig bv
  generalize c.toNat = n
  by_cases h1 : n < 48
  · have h1' : decide ((n : Int) < 48) = true := by simpa using (show (n : Int) < 48 by omega)
    rw [decide_eq_true h1]
    clear h1
    go_enter Tryz.func106, Tryz.ntmps106
    go_wp2
    go_ret
    exact ⟨rfl, rfl⟩
  · have h1' : decide ((n : Int) < 48) = false := by simpa using (show (48 : Int) ≤ n by omega)
    rw [decide_eq_false h1]
    clear h1
    by_cases h2 : 57 < n
    · have h2' : decide ((n : Int) > 57) = true := by simpa using (show (57 : Int) < n by omega)
      rw [decide_eq_true h2]
      clear h2
      go_enter Tryz.func106, Tryz.ntmps106
      go_wp2
      go_ret
      exact ⟨rfl, rfl⟩
    · have h2' : decide ((n : Int) > 57) = false := by simpa using (show (n : Int) ≤ 57 by omega)
      rw [decide_eq_false h2]
      clear h2
      go_enter Tryz.func106, Tryz.ntmps106
      go_wp2
      go_ret
      exact ⟨rfl, rfl⟩

set_option maxRecDepth 100000 in
set_option maxHeartbeats 1000000 in
theorem isForeign_any (w : World) (c : UInt8) : Calls Tryz.prog 108 #[bv c] w fun e w' => e = .returned (.bool (foreignB c)) ∧ w = w' := by
  have HN := hid (fun W => isNoDigit_any W c)
  have h45 : decide (c ≠ 45) = !(((c.toNat : Nat) : Int) == 45) := by
    by_cases h : c = 45
    · subst h; rfl
    · have : c.toNat ≠ 45 := fun e => h (UInt8.toNat_inj.1 e)
      rw [decide_eq_true h]
      simp; omega
  unfold foreignB
  rw [h45]
  clear h45
  generalize noDig c = nd at *
  unfold bv at *
  generalize c.toNat = n at *
  by_cases h1 : n < 97
  · have h1' : decide ((n : Int) < 97) = true := by simpa using (show (n : Int) < 97 by omega)
    rw [decide_eq_true h1]
    clear h1
    cases nd with
    | false =>
      go_enter Tryz.func108, Tryz.ntmps108
      go_wp2_with (go_at_call 106; refine (HN.out _).mono ?_; rintro e w' ⟨rfl, rfl⟩)
      go_ret
      exact ⟨rfl, rfl⟩
    | true =>
      go_enter Tryz.func108, Tryz.ntmps108
      go_wp2_with (go_at_call 106; refine (HN.out _).mono ?_; rintro e w' ⟨rfl, rfl⟩)
      go_ret
      exact ⟨rfl, rfl⟩
  · have h1' : decide ((n : Int) < 97) = false := by simpa using (show (97 : Int) ≤ n by omega)
    rw [decide_eq_false h1]
    clear h1
    by_cases h2 : 122 < n
    · have h2' : decide ((n : Int) > 122) = true := by simpa using (show (122 : Int) < n by omega)
      rw [decide_eq_true h2]
      clear h2
      cases nd with
      | false =>
        go_enter Tryz.func108, Tryz.ntmps108
        go_wp2_with (go_at_call 106; refine (HN.out _).mono ?_; rintro e w' ⟨rfl, rfl⟩)
        go_ret
        exact ⟨rfl, rfl⟩
      | true =>
        go_enter Tryz.func108, Tryz.ntmps108
        go_wp2_with (go_at_call 106; refine (HN.out _).mono ?_; rintro e w' ⟨rfl, rfl⟩)
        go_ret
        exact ⟨rfl, rfl⟩
    · have h2' : decide ((n : Int) > 122) = false := by simpa using (show (n : Int) ≤ 122 by omega)
      rw [decide_eq_false h2]
      clear h2
      go_enter Tryz.func108, Tryz.ntmps108
      go_wp2_with (go_at_call 106; refine (HN.out _).mono ?_; rintro e w' ⟨rfl, rfl⟩)
      go_ret
      exact ⟨rfl, rfl⟩

set_option maxRecDepth 100000 in
set_option maxHeartbeats 1000000 in
theorem readBare_any (w : World) (s : List UInt8) (ad : Option Addr) (n cap : Nat) : Calls Tryz.prog 60 #[.string ⟨s.toArray⟩, .slice ad n cap] w fun e w' => KPost w (if n = 0 then some (.bare s) else none) e w' := by
  have HF : Hid (Fr (fun _ => False) w (kBox w s 0 0 none 0 0 none)) := (Fr.refl _ w).alloc _
  have HK := hid ((kBlk w s 0 0 none 0 0 none).cell 0)
  by_cases h : n = 0
  · subst h
    go_enter Tryz.func60, Tryz.ntmps60
    go_wp2
    go_ret
    exact ⟨HF.out, .inr ⟨.bare s, w.heap.size, rfl, rfl, HK.out⟩⟩
  · have h' : decide (0 < n) = true := by simpa using (show 0 < n by omega)
    rw [if_neg h]
    go_enter Tryz.func60, Tryz.ntmps60
    go_wp2
    go_ret
    exact ⟨Fr.refl _ _, .inl ⟨rfl, rfl⟩⟩
end Go.Proofs.YtniailfcmlongaaGreatDoor.Tr
