/- The walk of ValueDigits. -/
import Derived.Test.YtlepjghfcpgbcaaGreatDoorShn
import Derived.Test.YtlepjghfcpgbcaaGreatDoorHnd
import Derived.Lib.ParseIntBCases
namespace Go.Proofs.YtlepjghfcpgbcaaGreatDoor.Tr
open Go.RowKit

theorem parse_snoc (M : Nat) (c : UInt8) : ∀ (l : List UInt8) (acc v : Nat), Lib.parseUintM M acc l = .ok v → Lib.parseUintM M acc (l ++ [c]) = Lib.parseUintM M v [c]
  | [], acc, v, h => by
    simp only [Lib.parseUintM, Lib.NumEnd.ok.injEq] at h
    subst h; rfl
  | d :: r, acc, v, h => by
    rw [Lib.parseUintM] at h
    rw [List.cons_append, Lib.parseUintM]
    split at h
    · rename_i h1
      rw [if_pos h1]
      split at h
      · cases h
      · rename_i h2
        rw [if_neg h2]
        split at h
        · cases h
        · rename_i h3
          rw [if_neg h3]
          exact parse_snoc M c r _ v h
    · cases h
theorem parse_one (M acc : Nat) (c : UInt8) (h1 : 48 ≤ c.toNat) (h2 : c.toNat ≤ 57) (h3 : acc < 1844674407370955162) (h4 : acc * 10 + (c.toNat - 48) ≤ M) : Lib.parseUintM M acc [c] = .ok (acc * 10 + (c.toNat - 48)) := by
  rw [Lib.parseUintM, if_pos ⟨h1, h2⟩, if_neg (by omega), if_neg (by omega)]
  rfl
theorem dig_nat (d : Nat) (h : d < 10) : (UInt8.ofNat (48 + d)).toNat = 48 + d := by
  rw [UInt8.toNat_ofNat']; omega
theorem decDigits_snoc (u : Nat) (h : ¬ u < 10) : Lib.decDigits u = Lib.decDigits (u / 10) ++ [UInt8.ofNat (48 + u % 10)] := by
  rw [Lib.decDigits, dif_neg h]
theorem decDigits_dig (u : Nat) (h : u < 10) : Lib.decDigits u = [UInt8.ofNat (48 + u)] := by
  rw [Lib.decDigits, dif_pos h]
theorem parse_dec (M : Nat) (hM : M < 18446744073709551616) : ∀ (u : Nat), u ≤ M → Lib.parseUintM M 0 (Lib.decDigits u) = .ok u := by
  intro u
  induction u using Nat.strongRecOn with
  | _ u ih =>
    intro hu
    by_cases h : u < 10
    · rw [decDigits_dig u h, parse_one M 0 _ (by rw [dig_nat u h]; omega) (by rw [dig_nat u h]; omega) (by decide) (by rw [dig_nat u h]; omega), dig_nat u h]
      congr 1; omega
    · have hd : u % 10 < 10 := Nat.mod_lt _ (by decide)
      rw [decDigits_snoc u h, parse_snoc M _ _ 0 (u / 10) (ih (u / 10) (by omega) (by omega)), parse_one M (u / 10) _ (by rw [dig_nat _ hd]; omega) (by rw [dig_nat _ hd]; omega) (by omega) (by rw [dig_nat _ hd]; omega), dig_nat _ hd]
      congr 1; omega
theorem dec_head (u : Nat) : ∃ c r, Lib.decDigits u = c :: r ∧ 48 ≤ c.toNat ∧ c.toNat ≤ 57 := by
  induction u using Nat.strongRecOn with
  | _ u ih =>
    by_cases h : u < 10
    · exact ⟨_, [], decDigits_dig u h, by rw [dig_nat u h]; omega, by rw [dig_nat u h]; omega⟩
    · obtain ⟨c, r, h1, h2, h3⟩ := ih (u / 10) (by omega)
      exact ⟨c, r ++ [UInt8.ofNat (48 + u % 10)], by rw [decDigits_snoc u h, h1]; rfl, h2, h3⟩
theorem parse_uint (u : Nat) (h : u < 18446744073709551616) : Lib.parseUintB 64 (Lib.decDigits u) = .ok u := by
  obtain ⟨c, r, h1, _⟩ := dec_head u
  unfold Lib.parseUintB
  rw [if_neg (by rw [h1]; simp)]
  exact parse_dec _ (by decide) u (by omega)
theorem parse_itoa (n : Int) (h : I64 n) : Lib.parseIntB 64 (Lib.itoa n) = .ok n := by
  unfold I64 at h
  unfold Lib.itoa
  split
  · rw [Lib.parseIntB_minus, parse_uint _ (by omega)]
    show (if 2 ^ (64 - 1) < n.natAbs then Lib.NumEnd.range else .ok (-(n.natAbs : Int))) = _
    rw [if_neg (by omega)]
    congr 1; omega
  · obtain ⟨c, r, h1, h2, h3⟩ := dec_head n.toNat
    rw [h1, Lib.parseIntB_plain 64 c r (by omega) (by omega), ← h1, parse_uint _ (by omega)]
    show (if 2 ^ (64 - 1) ≤ n.toNat then Lib.NumEnd.range else .ok (n.toNat : Int)) = _
    rw [if_neg (by omega)]
    congr 1; omega
/-- An int's text: how it begins. -/
theorem itoa_head (n : Int) : ∃ c r, Lib.itoa n = c :: r ∧ decide (0 ≤ n) = !(((c.toNat : Nat) : Int) == 45) := by
  unfold Lib.itoa
  split
  · rename_i h
    exact ⟨45, _, rfl, by rw [decide_eq_false (by omega)]; rfl⟩
  · rename_i h
    obtain ⟨c, r, h1, h2, h3⟩ := dec_head n.toNat
    refine ⟨c, r, h1, ?_⟩
    rw [decide_eq_true (by omega)]
    have : (((c.toNat : Nat) : Int) == 45) = false := by simp; omega
    rw [this]; rfl
theorem fr_bytes (w : World) (e : TypeId) (s : ByteArray) : Fr (fun _ => False) w (Lib.bytesWorld w e s) := by
  have h : Below w.heap.size w (Lib.bytesWorld w e s) := by
    first | exact Lib.below_bytesWorld _ _ _ | exact Lib.bytesWorld_below _ _ _
  exact ⟨h.os, h.tape, h.output, h.size, fun k hk _ => h.block k hk⟩

theorem pint_itoa (n : Int) (h : I64 n) (W : World) : Calls Tryz.prog 40 #[.string ⟨(Lib.itoa n).toArray⟩, .int .i64 10, .int .i64 64] W fun e w' => e = .returned (.tuple #[.int .i64 n, .nilIface]) ∧ Fr (fun _ => False) W w' := by
  have hl := itoa_len h
  refine (Tryz.strconv_ParseInt_10_at64_ok ⟨(Lib.itoa n).toArray⟩ (by show (Lib.itoa n).length ≤ _; omega) n (parse_itoa n h) W).mono fun e w' hh => ⟨hh.1, ?_⟩
  rcases hh.2 with rfl | ⟨t, rfl⟩
  · exact Fr.refl _ _
  · exact fr_bytes _ _ _

set_option maxRecDepth 100000 in
set_option maxHeartbeats 2000000 in
theorem digits_walk (w : World) (n : Int) (h : I64 n) (hT : Tw w) : Calls Tryz.prog 10 #[.int .i64 n] w fun e w' => e = .returned (.bool true) ∧ Fr (fun _ => False) w w' := by
  have HS := hid (shown_any w hT)
  have HTx : Hid (∀ W, Env w W → Calls Tryz.prog 17 #[(vI n).v] W fun e w' => e = .returned (.tuple #[.string ⟨(Lib.itoa n).toArray⟩, .int .i64 0]) ∧ Fr (fun _ => False) W w') := fun W e => text_int W n h (hT.tab.env e)
  have HSh : Hid (∀ W, Env w W → Calls Tryz.prog 19 #[(vI n).v] W fun e w' => e = .returned (.string ⟨(Lib.itoa n).toArray⟩) ∧ Fr (fun _ => False) W w') := fun W e => Show_int W n h (hT.tab.env e)
  have HP := hid (pint_itoa n h)
  have hst := fun (W : World) (a : Addr) (m : Mode) (f : Nat) => run_store Tryz.prog W a (.float .f64 f) m rfl
  obtain ⟨hl0, he⟩ : ∃ h0 : 0 < (Lib.itoa n).length, ((((ByteArray.mk (Lib.itoa n).toArray)[0]'(by simpa [ByteArray.size] using h0)).toNat : Int) == 45) = !decide (0 ≤ n) := by
    obtain ⟨c, r, hcr, hd⟩ := itoa_head n
    have h0 : 0 < (Lib.itoa n).length := by rw [hcr]; simp
    refine ⟨h0, ?_⟩
    rw [str_at (Lib.itoa n) 0 h0]
    have e : (Lib.itoa n)[0] = c := by simp [hcr]
    rw [e, hd]; simp
  clear h hT
  generalize Lib.itoa n = L at *
  have h0l : (0 : Int) < ((L.length : Nat) : Int) := by omega
  have hne : (L == []) = false := by
    cases L with
    | nil => simp at hl0
    | cons c r => rfl
  go_enter Tryz.func10, Tryz.ntmps10
  go_wp2_with fail
  refine HS.out.mono ?_
  rintro e w0 ⟨rfl, f0⟩
  have F0 := hid f0
  clear f0 HS
  have B1 := hid (vBlk w0 (vI n))
  have F1 := hid (F0.out.trans (vFr w0 (vI n)) (fun _ h => h.elim))
  go_wp2_with fail
  refine (HTx.out _ (Env.of F1.out)).mono ?_
  rintro e w2 ⟨rfl, f2⟩
  have B2 := hid (f2.blk B1.out (fun h => h))
  have F2 := hid (F1.out.trans f2 (fun _ h => h.elim))
  clear f2 B1 F1 HTx F0
  go_wp2_with fail
  refine (HP.out _).mono ?_
  rintro e w3 ⟨rfl, f3⟩
  have B3 := hid (f3.blk B2.out (fun h => h))
  have F3 := hid (F2.out.trans f3 (fun _ h => h.elim))
  clear f3 B2 F2 HP
  obtain ⟨c0, c1, c2, c3, c4, c5⟩ := B3.out.six
  go_wp2_with fail
  refine (HSh.out _ (Env.of F3.out)).mono ?_
  rintro e w4 ⟨rfl, f4⟩
  have F4 := hid (F3.out.trans f4 (fun _ h => h.elim))
  clear f4 F3 B3 HSh c0 c1 c2 c3 c4 c5
  by_cases hn : 0 ≤ n
  · rw [decide_eq_true hn, Bool.not_true] at he
    have he2 : ((((ByteArray.mk L.toArray)[0]'(by simpa [ByteArray.size] using hl0)).toNat : Int) != 45) = true := by rw [bne, he]; rfl
    have hn2 : decide (n ≥ 0) = true := decide_eq_true hn
    go_wp2_with fail
    all_goals
      go_ret
      refine ⟨?_, F4.out⟩
      first | rfl | (trace_state; skip)
  · rw [decide_eq_false hn, Bool.not_false] at he
    have he2 : ((((ByteArray.mk L.toArray)[0]'(by simpa [ByteArray.size] using hl0)).toNat : Int) != 45) = false := by rw [bne, he]; rfl
    have hn2 : decide (n ≥ 0) = false := decide_eq_false hn
    go_wp2_with fail
    all_goals
      go_ret
      refine ⟨?_, F4.out⟩
      first | rfl | (trace_state; skip)
end Go.Proofs.YtlepjghfcpgbcaaGreatDoor.Tr
