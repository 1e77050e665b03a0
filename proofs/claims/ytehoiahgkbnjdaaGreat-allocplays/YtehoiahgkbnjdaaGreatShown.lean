
/- One disk in hand: the contracts once more, as the laws use them; and 'shown', the document's examples. -/
import Derived.Test.YtehoiahgkbnjdaaGreatWrite
import Derived.Laws.IdiomStrings
namespace Go.Proofs.YtehoiahgkbnjdaaGreat.Dk
open Go.RowKit

/-- The blocks of G are as they were. -/
abbrev Kp (G : Nat → Prop) (w w' : World) : Prop := Fr (fun k => ¬ G k) w w'
theorem Kp.trans {G : Nat → Prop} {a b c : World} (h : Kp G a b) (k : Kp G b c) : Kp G a c := Fr.trans h k (fun _ hk => .inl hk)
theorem Kp.blk {G : Nat → Prop} {w w' : World} (h : Kp G w w') {b : Nat} {t : TypeId} {xs : List Value} (hb : Blk w b t xs) (hg : G b) : Blk w' b t xs := Fr.blk h hb (fun hn => hn hg)

/-- There is a disk at p, and none of its blocks is one of G. -/
def Own (G : Nat → Prop) (w : World) (p : Nat) (D : Dsk) : Prop := ∃ bl bn lv, Rep 0 w p bl bn lv D ∧ ∀ k, G k → k < w.heap.size ∧ ¬ foot p bl bn lv k

theorem Own.ok {G : Nat → Prop} {w : World} {p : Nat} {D : Dsk} (h : Own G w p D) : D.Ok := by
  obtain ⟨_, _, _, r, _⟩ := h
  exact r.ok
theorem Own.drew {G : Nat → Prop} {w : World} {p : Nat} {D : Dsk} (h : Own G w p D) : Own G w.drew p D := by
  obtain ⟨bl, bn, lv, r, f⟩ := h
  exact ⟨bl, bn, lv, r.drew, f⟩
theorem Own.drewN {G : Nat → Prop} {w : World} {p : Nat} {D : Dsk} (h : Own G w p D) (n : Nat) : Own G (w.drewN n) p D := by
  obtain ⟨bl, bn, lv, r, f⟩ := h
  exact ⟨bl, bn, lv, r.drewN n, f⟩
theorem Own.alloc {G : Nat → Prop} {w : World} {p : Nat} {D : Dsk} (h : Own G w p D) (o : Obj) : Own G (w.alloc o) p D := by
  obtain ⟨bl, bn, lv, r, f⟩ := h
  exact ⟨bl, bn, lv, r.alloc o, fun k hk => ⟨by have := (f k hk).1; simp; omega, (f k hk).2⟩⟩
/-- The block that was made just now is kept from here on. -/
theorem Own.more {G : Nat → Prop} {w : World} {p : Nat} {D : Dsk} (h : Own G w p D) (o : Obj) : Own (fun k => G k ∨ k = w.heap.size) (w.alloc o) p D := by
  obtain ⟨bl, bn, lv, r, f⟩ := h
  refine ⟨bl, bn, lv, r.alloc o, fun k hk => ?_⟩
  rcases hk with hk | rfl
  · exact ⟨by have := (f k hk).1; simp; omega, (f k hk).2⟩
  · exact ⟨by simp, fun hf => by have := r.foot_lt _ hf; omega⟩
theorem Own.less {G G' : Nat → Prop} {w : World} {p : Nat} {D : Dsk} (h : Own G w p D) (hG : ∀ k, G' k → G k) : Own G' w p D := by
  obtain ⟨bl, bn, lv, r, f⟩ := h
  exact ⟨bl, bn, lv, r, fun k hk => f k (hG k hk)⟩
theorem Kp.less {G G' : Nat → Prop} {w w' : World} (h : Kp G w w') (hG : ∀ k, G' k → G k) : Kp G' w w' := Fr.mono h (fun k hn hk => hn (hG k hk))
theorem Own.step {G : Nat → Prop} {w w' : World} {p bl bn : Nat} {lv lv' : Value} {D' : Dsk} (g : ∀ k, G k → k < w.heap.size ∧ ¬ foot p bl bn lv k) (r' : Rep 0 w' p bl bn lv' D')
    (hs : ∀ k, lv'.ownBlock = some k → lv.ownBlock = some k ∨ w.heap.size ≤ k) (f' : Fr (foot p bl bn lv) w w') : Own G w' p D' ∧ Kp G w w' := by
  refine ⟨⟨bl, bn, lv', r', fun k hk => ⟨Nat.lt_of_lt_of_le (g k hk).1 f'.size, fun hf => ?_⟩⟩, f'.mono (fun k hf hk => (g k hk).2 hf)⟩
  rcases hf with hf | hf | hf | hf
  · exact (g k hk).2 (.inl hf)
  · exact (g k hk).2 (.inr (.inl hf))
  · exact (g k hk).2 (.inr (.inr (.inl hf)))
  · rcases hs k hf with h | h
    · exact (g k hk).2 (.inr (.inr (.inr h)))
    · have := (g k hk).1; omega
theorem Own.did {G : Nat → Prop} {w w' : World} {p bl bn : Nat} {lv : Value} {D' : Dsk} (g : ∀ k, G k → k < w.heap.size ∧ ¬ foot p bl bn lv k) (d : Did 0 p bl bn lv w D' w') : Own G w' p D' ∧ Kp G w w' := by
  obtain ⟨lv', r', hs, f'⟩ := d
  exact Own.step g r' hs f'

theorem own_new (G : Nat → Prop) (w : World) (hG : ∀ k, G k → k < w.heap.size) (n : Nat) (h1 : 1 ≤ n) (h2 : n ≤ 1024) : Calls Tryz.prog 29 #[.int .i64 (n : Int)] w fun e w' => ∃ p, e = .returned (pv p) ∧ Own G w' p (Dsk.new n) ∧ Kp G w w' :=
  (new_ok w n h1 h2).mono fun _ _ ⟨p, bl, bn, he, r, f⟩ => ⟨p, he, ⟨bl, bn, _, r.mono (Nat.zero_le _), fun k hk => ⟨Nat.lt_of_lt_of_le (hG k hk) f.size, fun hf => by
    have := r.foot_ge k hf; have := hG k hk; omega⟩⟩, f.mono (fun _ h => h.elim)⟩
theorem own_up {G : Nat → Prop} {w : World} {p : Nat} {D : Dsk} (h : Own G w p D) : Calls Tryz.prog 52 #[pv p] w fun e w' => e = .returned (.bool D.up) ∧ w' = w := by
  obtain ⟨bl, bn, lv, r, f⟩ := h
  exact up_any r
theorem own_size {G : Nat → Prop} {w : World} {p : Nat} {D : Dsk} (h : Own G w p D) : Calls Tryz.prog 40 #[pv p] w fun e w' => e = .returned (.int .i64 (D.n : Int)) ∧ w' = w := by
  obtain ⟨bl, bn, lv, r, f⟩ := h
  exact len_any r
theorem own_flush {G : Nat → Prop} {w : World} {p : Nat} {D : Dsk} (h : Own G w p D) (hQ : D.Q.length < 1073741824) (hd : D.deeds < 1073741824) : Calls Tryz.prog 65 #[pv p] w fun e w' => e = .returned (.int .i64 D.flushE) ∧ Own G w' p D.flush ∧ Kp G w w' := by
  obtain ⟨bl, bn, lv, r, f⟩ := h
  exact (flush_any r (by omega) (by omega)).mono fun _ _ ⟨he, d⟩ => ⟨he, Own.did f d⟩
def Dsk.crash (D : Dsk) (keep : Nat) : Dsk := if D.up then D.fail keep else D
def Dsk.start (D : Dsk) : Dsk := { D with up := true }
theorem own_read {G : Nat → Prop} {w : World} {p : Nat} {D : Dsk} (h : Own G w p D) (i : Nat) (hu : D.up = true) (hi : i < D.n) : Calls Tryz.prog 54 #[pv p, .int .i64 (i : Int)] w fun e w' => e = .returned (.tuple #[.slice (some ⟨w.heap.size, 0, none⟩) 128 128, .int .i64 0]) ∧ w' = w.alloc (.cells (bs (sec D.N i)).toArray 117) := by
  obtain ⟨bl, bn, lv, r, f⟩ := h
  exact read_ok r i hu hi
theorem own_read_no {G : Nat → Prop} {w : World} {p : Nat} {D : Dsk} (h : Own G w p D) (i : Int) (hr : D.reach i ≠ 0) : Calls Tryz.prog 54 #[pv p, .int .i64 i] w fun e w' => e = .returned (.tuple #[.slice none 0 0, .int .i64 (D.reach i)]) ∧ w' = w := by
  obtain ⟨bl, bn, lv, r, f⟩ := h
  exact read_no r i hr
theorem fullB_length (x : Int) : (fullB x).length = 128 := by simp [fullB]
/-- A write of bytes that lie in a block of G. -/
theorem own_write {G : Nat → Prop} {w : World} {p : Nat} {D : Dsk} (h : Own G w p D) (hQ : D.Q.length < 1073741824) (hd : D.deeds < 1073741824) (i : Int) (b : List UInt8) (ad : Option Addr) (cap : Nat)
    (hs : b.length = 128 → ∃ ab ao, ad = some ⟨ab, ao, none⟩ ∧ w.rangeAt ab ao (bs b) ∧ G ab) :
    Calls Tryz.prog 64 #[pv p, .int .i64 i, .slice ad b.length cap] w fun e w' => e = .returned (.int .i64 (D.writeE i b.length)) ∧ Own G w' p (D.write i b) ∧ Kp G w w' := by
  obtain ⟨bl, bn, lv, r, f⟩ := h
  exact (write_any r hQ hd i b ad cap (fun hl => by
    obtain ⟨ab, ao, e1, e2, e3⟩ := hs hl
    exact ⟨ab, ao, e1, e2, f ab e3⟩)).mono fun _ _ ⟨he, d⟩ => ⟨he, Own.did f d⟩
/-- A write of bytes that lie in a block which was made just now. -/
theorem own_write_new {G : Nat → Prop} {w : World} {p : Nat} {D : Dsk} (h : Own G w p D) (hQ : D.Q.length < 1073741824) (hd : D.deeds < 1073741824) (i : Int) (b : List UInt8) (t : TypeId) (cap n : Nat) (hb : b.length = n) :
    Calls Tryz.prog 64 #[pv p, .int .i64 i, .slice (some ⟨w.heap.size, 0, none⟩) n cap] (w.alloc (.cells (bs b).toArray t)) fun e w' => e = .returned (.int .i64 (D.writeE i n)) ∧ Own G w' p (D.write i b) ∧ Kp G w w' := by
  subst hb
  refine (own_write (h.more (.cells (bs b).toArray t)) hQ hd i b (some ⟨w.heap.size, 0, none⟩) cap (fun _ => ⟨w.heap.size, 0, rfl, (Blk.new w t (bs b)).range 0 _ (by simp), .inr rfl⟩)).mono ?_
  rintro e w' ⟨he, h1, h2⟩
  exact ⟨he, h1.less (fun _ hk => .inl hk), Kp.trans ((Fr.refl _ w).alloc _) (Kp.less h2 (fun _ hk => .inl hk))⟩

end Go.Proofs.YtehoiahgkbnjdaaGreat.Dk
