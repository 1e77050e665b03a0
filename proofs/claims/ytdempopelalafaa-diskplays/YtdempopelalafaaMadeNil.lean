/- The contract of 'made' with no writes. -/
import Derived.Test.YtdempopelalafaaShown
namespace Go.Proofs.Ytdempopelalafaa.Dk
open Go.RowKit

theorem hid' {p : Prop} (h : p) : Hid p := h

/-- The cells of an argument's list of ops that this law reads. -/
def ArgL (w : World) (ad : Option Addr) (len : Nat) : Prop := ∀ k, k < len → ∃ lb lo kd c, ad = some ⟨lb, lo, none⟩ ∧ lb < w.heap.size ∧ w.cell? ⟨lb, lo + k * 6, none⟩ = some (.int .i64 kd) ∧ w.cell? ⟨lb, lo + k * 6 + 3, none⟩ = some (.int .u8 c) ∧ 0 ≤ c ∧ c ≤ 255

abbrev GW (w : World) (k : Nat) : Prop := k < w.heap.size

theorem Kp.cell {G : Nat → Prop} {w w' : World} (h : Kp G w w') {b o : Nat} {v : Value} (hc : w.cell? ⟨b, o, none⟩ = some v) (hg : G b) (hb : b < w.heap.size) : w'.cell? ⟨b, o, none⟩ = some v := by
  rw [World.cell?_of_block (w := w) (h.block b hb (fun hn => hn hg))]; exact hc

theorem new_small (m : Nat) : (Dsk.new m).Q.length < 1073741824 ∧ (Dsk.new m).deeds < 1073741824 := by simp [Dsk.new]

theorem neg_mod (n : Int) (hn : n < 0) (d : Int) : -((n + 1).tmod d) = (-(n + 1)) % d := by
  have e : (n + 1) = -(-(n + 1)) := by omega
  rw [show (n + 1).tmod d = (-(-(n + 1))).tmod d by rw [← e], Int.neg_tmod, Int.neg_neg, Int.tmod_eq_emod_of_nonneg (by omega)]

/-- A raw size becomes one of 1 to 20. -/
theorem size_neg (n : Int) (hn : n < 0) : ∃ m : Nat, wrap64 (1 + -((n + 1).tmod 20)) = (m : Int) ∧ 1 ≤ m ∧ m ≤ 20 := by
  rw [neg_mod n hn 20]
  have h1 := Int.emod_nonneg (-(n + 1)) (show (20 : Int) ≠ 0 by omega)
  have h2 := Int.emod_lt_of_pos (-(n + 1)) (show (0 : Int) < 20 by omega)
  generalize -(n + 1) % 20 = z at *
  refine ⟨(1 + z).toNat, ?_, by omega, by omega⟩
  unfold wrap64; omega
theorem size_pos (n : Int) : ∃ m : Nat, 1 + n % 20 = (m : Int) ∧ 1 ≤ m ∧ m ≤ 20 := by
  have h1 := Int.emod_nonneg n (show (20 : Int) ≠ 0 by omega)
  have h2 := Int.emod_lt_of_pos n (show (0 : Int) < 20 by omega)
  exact ⟨(1 + n % 20).toNat, by omega, by omega, by omega⟩

set_option maxHeartbeats 400000 in
theorem made_nil (G : Nat → Prop) (w : World) (hG : ∀ k, G k → k < w.heap.size) (n : Int) (h0 : -9223372036854775808 ≤ n) (h1 : n ≤ 9223372036854775807) :
    Calls Try.prog 24 #[.int .i64 n, .slice none 0 0] w fun e w' => ∃ p m, 1 ≤ m ∧ m ≤ 20 ∧ e = .returned (pv p) ∧ Own G w' p (Dsk.new m).flush ∧ Kp G w w' := by
  by_cases hn : n < 0
  · obtain ⟨m, hm, m1, m2⟩ := size_neg n hn
    have HM := hid' hm
    clear hm
    go_enter Try.func24, Try.ntmps24
    go_wp2_with fail
    rw [HM.out]
    refine (own_new G w hG m m1 (by omega)).mono ?_
    rintro e w1 ⟨p, rfl, d1, f1⟩
    have F1 := hid' f1
    have D1 := hid' d1
    clear f1 d1
    go_wp2_with fail
    go_loopw [6] (fun i wr => i = .int .i64 0 ∧ wr = w1) (fun _ _ => 0)
    case atStart => exact ⟨rfl, rfl⟩
    case round =>
      obtain ⟨rfl, rfl⟩ := hrel
      go_wp2_with fail
      refine (own_flush D1.out (new_small m).1 (new_small m).2).mono ?_
      rintro e w2 ⟨rfl, d2, f2⟩
      have F2 := hid' (F1.out.trans f2)
      have D2 := hid' d2
      clear f2 d2
      go_wp2
      go_ret
      exact ⟨p, m, m1, m2, rfl, D2.out, F2.out⟩
  · obtain ⟨m, hm, m1, m2⟩ := size_pos n
    have HM := hid' hm
    have k2 : 0 ≤ n % 20 := by omega
    have k3 : n % 20 ≤ 19 := by omega
    clear hm
    have hn' : 0 ≤ n := by omega
    clear hn
    go_enter Try.func24, Try.ntmps24
    go_wp2_with fail
    rw [HM.out]
    refine (own_new G w hG m m1 (by omega)).mono ?_
    rintro e w1 ⟨p, rfl, d1, f1⟩
    have F1 := hid' f1
    have D1 := hid' d1
    clear f1 d1
    go_wp2_with fail
    go_loopw [6] (fun i wr => i = .int .i64 0 ∧ wr = w1) (fun _ _ => 0)
    case atStart => exact ⟨rfl, rfl⟩
    case round =>
      obtain ⟨rfl, rfl⟩ := hrel
      go_wp2_with fail
      refine (own_flush D1.out (new_small m).1 (new_small m).2).mono ?_
      rintro e w2 ⟨rfl, d2, f2⟩
      have F2 := hid' (F1.out.trans f2)
      have D2 := hid' d2
      clear f2 d2
      go_wp2
      go_ret
      exact ⟨p, m, m1, m2, rfl, D2.out, F2.out⟩

end Go.Proofs.Ytdempopelalafaa.Dk
