
/- Numbers in bytes, the lowest first: putNumber, number. -/
import Derived.Test.YtehoiahgkbnjdaaGreatMp
import Derived.Test.YtehoiahgkbnjdaaGreatShown
import Derived.Laws.BitsAllLaws
import Derived.Laws.ShiftsVarLaws
namespace Go.Proofs.YtehoiahgkbnjdaaGreat.Wl
open Go.RowKit Dk

theorem hid {p : Prop} (h : p) : Hid p := h
def lb (n i : Nat) : UInt8 := UInt8.ofNat (n / 2 ^ (8 * i))
/-- n in k bytes. -/
def le (k n : Nat) : Sec := (List.range k).map (lb n)
theorem le_length (k n : Nat) : (le k n).length = k := by simp [le]
theorem le_succ (k n : Nat) : le (k + 1) n = le k n ++ [lb n k] := by simp [le, List.range_succ]
theorem setCells_snoc (b : Nat) (v : Value) : ∀ (l : List Value) (o : Nat) (w : World), w.setCells b o (l ++ [v]) = (w.setCells b o l).setCell ⟨b, o + l.length, none⟩ v
  | [], o, w => rfl
  | x :: r, o, w => by
    simp only [List.cons_append, World.setCells, setCells_snoc b v r (o + 1), List.length_cons]
    congr 2
    omega

theorem bs_snoc (l : Sec) (x : UInt8) : bs (l ++ [x]) = bs l ++ [bv x] := by simp [bs]

theorem lb_val (n k : Nat) : Value.int .u8 ((n : Int) / 2 ^ (8 * k) % 256) = bv (lb n k) := by
  have e : (n : Int) / 2 ^ (8 * k) % 256 = ((n / 2 ^ (8 * k) % 256 : Nat) : Int) := by
    rw [Int.natCast_emod, Int.natCast_ediv, Int.natCast_pow]
    rfl
  rw [e]
  simp [bv, lb]

set_option maxRecDepth 100000 in
set_option maxHeartbeats 400000 in
theorem put_any (w : World) (bb o len cap n : Nat) (hl : len ≤ 8) (ht : w.there bb o len) :
    Calls Tryz.prog 86 #[.slice (some ⟨bb, o, none⟩) len cap, .int .u64 (n : Int)] w fun e w' => e = .returned (.tuple #[]) ∧ w' = w.setCells bb o (bs (le len n)) := by
  have HT := hid ht
  clear ht
  go_enter Tryz.func86, Tryz.ntmps86
  go_wp2_with fail
  go_loopw [4, 7] (fun _ i wr => ∃ k : Nat, k ≤ len ∧ i = .int .i64 (k : Int) ∧ wr = w.setCells bb o (bs (le k n))) (fun _ i _ => len - (intOf i).toNat)
  case atStart => exact ⟨0, Nat.zero_le _, rfl, rfl⟩
  case round =>
    obtain ⟨k, hk, rfl, rfl⟩ := hrel
    by_cases hlt : k < len
    · have hk1 : (k : Int) < (len : Int) := by omega
      have hk0 : (0 : Int) ≤ (k : Int) := Int.natCast_nonneg _
      have hc := (World.there_setCells HT.out bb o (bs (le k n))) k hlt
      obtain ⟨u, hc1⟩ := Option.isSome_iff_exists.1 hc.1
      have hc2 := hc.2
      have HV : Hid (Value.int .u8 ((n : Int) / 2 ^ (8 * k) % 256) = bv (lb n k)) := lb_val n k
      have HW : Hid ((w.setCells bb o (bs (le k n))).setCell ⟨bb, o + k, none⟩ (bv (lb n k)) = w.setCells bb o (bs (le (k + 1) n))) := by
        unfold Hid
        rw [le_succ, bs_snoc, setCells_snoc, bs_length, le_length]
      clear hc
      generalize w.setCells bb o (bs (le k n)) = W at *
      go_wp2_with fail
      rw [HV.out, HW.out]
      exact ⟨⟨k + 1, by omega, by simp, rfl⟩, by simp [intOf]; omega⟩
    · have hk1 : ¬ (k : Int) < (len : Int) := by omega
      obtain rfl : k = len := by omega
      go_wp2
      exact bodyPost_end (results_none rfl _ _ _) rfl ⟨rfl, rfl⟩

/-- What bytes say, the lowest first. -/
def num : Sec → Nat
  | [] => 0
  | c :: r => c.toNat + 256 * num r
theorem num_snoc : ∀ (l : Sec) (c : UInt8), num (l ++ [c]) = num l + c.toNat * 2 ^ (8 * l.length)
  | [], c => by simp [num]
  | x :: r, c => by
    simp only [List.cons_append, num, num_snoc r c, List.length_cons, Nat.mul_add, Nat.pow_add, Nat.mul_one]
    have e : (2 : Nat) ^ 8 = 256 := by decide
    rw [e]
    have e2 : 256 * (c.toNat * 2 ^ (8 * r.length)) = c.toNat * (2 ^ (8 * r.length) * 256) := by
      rw [Nat.mul_comm 256, Nat.mul_assoc]
    omega
theorem num_lt : ∀ l : Sec, num l < 2 ^ (8 * l.length)
  | [] => by simp [num]
  | x :: r => by
    have := num_lt r
    have hx := UInt8.toNat_lt x
    simp only [num, List.length_cons, Nat.mul_add, Nat.pow_add, Nat.mul_one]
    have e : (2 : Nat) ^ 8 = 256 := by decide
    rw [e]
    omega
theorem num_le (k n : Nat) (h : n < 2 ^ (8 * k)) : num (le k n) = n := by
  have key : ∀ j, num (le j n) = n % 2 ^ (8 * j) := by
    intro j
    induction j with
    | zero => simp [le, num, Nat.mod_one]
    | succ j ih =>
      rw [le_succ, num_snoc, ih, le_length]
      simp only [lb, UInt8.toNat_ofNat']
      rw [Nat.mul_add, Nat.pow_add, Nat.mod_mul, Nat.mul_comm (n / 2 ^ (8 * j) % 2 ^ 8)]
  rw [key, Nat.mod_eq_of_lt h]
theorem lb_num : ∀ (l : Sec) (k : Nat) (h : k < l.length), lb (num l) k = l[k]
  | c :: r, 0, _ => by
    have hc := UInt8.toNat_lt c
    apply UInt8.toNat_inj.1
    simp only [lb, num, Nat.mul_zero, Nat.pow_zero, Nat.div_one, UInt8.toNat_ofNat', List.getElem_cons_zero]
    omega
  | c :: r, k + 1, h => by
    have hc := UInt8.toNat_lt c
    have e : num (c :: r) / 2 ^ (8 * (k + 1)) = num r / 2 ^ (8 * k) := by
      rw [Nat.mul_add, Nat.add_comm (8 * k), Nat.pow_add, ← Nat.div_div_eq_div_mul]
      congr 1
      simp only [num]
      omega
    have ih := lb_num r k (by simpa using h)
    unfold lb at ih ⊢
    rw [e, ih]
    rfl
theorem le_num (l : Sec) : le l.length (num l) = l := by
  apply List.ext_getElem
  · simp [le]
  · intro k h1 h2
    simp only [le, List.getElem_map, List.getElem_range]
    exact lb_num l k h2

theorem or_step (a c k : Nat) (ha : a < 2 ^ (8 * k)) : a ||| (c <<< (8 * k)) = a + c * 2 ^ (8 * k) := by
  rw [Nat.shiftLeft_eq, Nat.or_comm, Nat.mul_comm c, ← Nat.two_pow_add_eq_or_of_lt ha, Nat.add_comm]

theorem num_step (b : Sec) (k : Nat) (h : k < b.length) : num (b.take (k + 1)) = num (b.take k) + (b[k]).toNat * 2 ^ (8 * k) := by
  rw [List.take_succ_eq_append_getElem h, num_snoc, List.length_take, Nat.min_eq_left (Nat.le_of_lt h)]
theorem or_step' (a c k : Nat) (hk : k < 8) (hc : c < 256) (ha : a < 2 ^ (8 * k)) : bits .or .u64 (a : Int) (IntKind.u64.wrap (IntKind.u64.wrap (c : Int) * 2 ^ (8 * k))) = ((a + c * 2 ^ (8 * k) : Nat) : Int) := by
  have h1 : (2 : Nat) ^ (8 * k) ≤ 2 ^ 56 := Nat.pow_le_pow_right (by omega) (by omega)
  have h2 : c * 2 ^ (8 * k) ≤ 255 * 2 ^ 56 := Nat.mul_le_mul (by omega) h1
  have e1 : IntKind.u64.wrap (c : Int) = (c : Int) := by simp [IntKind.wrap, IntKind.bits, IntKind.signed]; omega
  have e2 : (c : Int) * 2 ^ (8 * k) = ((c * 2 ^ (8 * k) : Nat) : Int) := by rw [Int.natCast_mul, Int.natCast_pow]; rfl
  have e3 : IntKind.u64.wrap ((c * 2 ^ (8 * k) : Nat) : Int) = ((c * 2 ^ (8 * k) : Nat) : Int) := by
    have : c * 2 ^ (8 * k) < 18446744073709551616 := by omega
    generalize c * 2 ^ (8 * k) = y at *
    simp [IntKind.wrap, IntKind.bits, IntKind.signed]; omega
  rw [e1, e2, e3, u64_or_nat a _ (by omega) (by omega), ← Nat.shiftLeft_eq, or_step a c k ha, Nat.shiftLeft_eq]

set_option maxRecDepth 100000 in
set_option maxHeartbeats 400000 in
theorem number_any (w : World) (bb o cap : Nat) (b : Sec) (hl : b.length ≤ 8) (hr : w.rangeAt bb o (bs b)) :
    Calls Tryz.prog 67 #[.slice (some ⟨bb, o, none⟩) b.length cap] w fun e w' => e = .returned (.int .u64 (num b : Nat)) ∧ w' = w := by
  have HR := hid hr
  clear hr
  go_enter Tryz.func67, Tryz.ntmps67
  go_wp2_with fail
  go_loopw [3, 4, 5, 8] (fun v _ _ i wr => ∃ k : Nat, k ≤ b.length ∧ i = .int .i64 (k : Int) ∧ v = .int .u64 (num (b.take k) : Nat) ∧ wr = w) (fun _ _ _ i _ => b.length - (intOf i).toNat)
  case atStart => exact ⟨0, Nat.zero_le _, rfl, rfl, rfl⟩
  case round =>
    obtain ⟨k, hk, rfl, rfl, rfl⟩ := hrel
    by_cases hlt : k < b.length
    · have hk1 : (k : Int) < (b.length : Int) := by omega
      have hk0 : (0 : Int) ≤ (k : Int) := Int.natCast_nonneg _
      have hc : wr.cell? ⟨bb, o + k, none⟩ = some (.int .u8 ((b[k]).toNat : Int)) := HR.out k _ (by simp [bs, bv, hlt])
      have HN := hid (num_step b k hlt)
      have hN : num (b.take k) < 18446744073709551616 := Nat.lt_of_lt_of_le (num_lt _) (by
        rw [show (18446744073709551616 : Nat) = 2 ^ 64 from rfl]
        exact Nat.pow_le_pow_right (by omega) (by rw [List.length_take]; omega))
      have HO := hid (or_step' (num (b.take k)) (b[k]).toNat k (by omega) (UInt8.toNat_lt _) (by have := num_lt (b.take k); rwa [List.length_take, Nat.min_eq_left hk] at this))
      clear hN
      generalize num (b.take k) = N at *
      generalize b[k] = x at *
      go_wp2_with fail
      rw [HO.out]
      exact ⟨⟨k + 1, by omega, by simp, by rw [HN.out], trivial⟩, by simp [intOf]; omega⟩
    · have hk1 : ¬ (k : Int) < (b.length : Int) := by omega
      obtain rfl : k = b.length := by omega
      rw [List.take_length]
      go_wp2
      go_ret
      exact ⟨rfl, rfl⟩

end Go.Proofs.YtehoiahgkbnjdaaGreat.Wl
