/- Digits as numbers. Nothing here speaks of the Go text. -/
import Derived.Test.YtniailfcmlongaaGreatDoorTpl
import Derived.Lib.ParseIntBCases
namespace Go.Proofs.YtniailfcmlongaaGreatDoor.Tr

theorem noDig_false {c : UInt8} : noDig c = false ↔ 48 ≤ c.toNat ∧ c.toNat ≤ 57 := by
  unfold noDig
  simp
theorem parse_run : ∀ (l : List UInt8) (acc : Nat), (∀ c ∈ l, noDig c = false) → (acc + 1) * 10 ^ l.length ≤ 10 ^ 18 → Lib.parseUintM (2 ^ 64 - 1) acc l = .ok (l.foldl (fun n c => 10 * n + (c.toNat - 48)) acc) ∧ l.foldl (fun n c => 10 * n + (c.toNat - 48)) acc < (acc + 1) * 10 ^ l.length
  | [], acc, _, _ => ⟨rfl, by simp⟩
  | c :: r, acc, h, hb => by
    have hc := noDig_false.1 (h c (by simp))
    have e : (acc + 1) * 10 ^ (c :: r).length = (10 * (acc + 1)) * 10 ^ r.length := by
      rw [List.length_cons, Nat.pow_succ, Nat.mul_comm 10 (acc + 1), Nat.mul_assoc, Nat.mul_comm 10]
    have hle : (10 * acc + (c.toNat - 48) + 1) * 10 ^ r.length ≤ (acc + 1) * 10 ^ (c :: r).length := by
      rw [e]; exact Nat.mul_le_mul_right _ (by omega)
    have hpos : 1 ≤ 10 ^ r.length := Nat.pow_pos (by decide)
    have hsm : 10 * acc + (c.toNat - 48) + 1 ≤ 10 ^ 18 := by
      have : 10 * acc + (c.toNat - 48) + 1 ≤ (10 * acc + (c.toNat - 48) + 1) * 10 ^ r.length := Nat.le_mul_of_pos_right _ hpos
      omega
    obtain ⟨i1, i2⟩ := parse_run r (10 * acc + (c.toNat - 48)) (fun d hd => h d (by simp [hd])) (Nat.le_trans hle hb)
    refine ⟨?_, ?_⟩
    · rw [Lib.parseUintM, if_pos hc, if_neg (by omega), if_neg (by omega), List.foldl_cons, ← i1, Nat.mul_comm acc 10]
    · rw [List.foldl_cons]
      exact Nat.lt_of_lt_of_le i2 hle
theorem num_all {s : List UInt8} (h : isNumB s = true) : s ≠ [] ∧ s.length ≤ 9 ∧ (∀ c ∈ s, noDig c = false) ∧ ¬ (1 < s.length ∧ s.head? = some 48) := by
  unfold isNumB at h
  simp only [Bool.and_eq_true, decide_eq_true_eq, Bool.not_eq_true'] at h
  obtain ⟨⟨⟨h1, h2⟩, h3⟩, h4⟩ := h
  refine ⟨h1, h2, fun c hc => ?_, fun ⟨g1, g2⟩ => ?_⟩
  · rw [List.any_eq_false] at h4
    simpa using h4 c hc
  · rw [decide_eq_true g1, g2] at h3; simp at h3
theorem digN_lt {s : List UInt8} (h : isNumB s = true) : digN s < 1000000000 := by
  obtain ⟨h1, h2, h3, _⟩ := num_all h
  have hp : (0 + 1) * 10 ^ s.length ≤ 1000000000 := by
    rw [Nat.zero_add, Nat.one_mul]
    exact Nat.pow_le_pow_right (by decide) h2
  exact Nat.lt_of_lt_of_le (parse_run s 0 h3 (Nat.le_trans hp (by decide))).2 hp
theorem parse_num {s : List UInt8} (h : isNumB s = true) : Lib.parseIntB 64 s = .ok (digN s : Int) := by
  obtain ⟨h1, h2, h3, _⟩ := num_all h
  have hlt := digN_lt h
  cases s with
  | nil => exact absurd rfl h1
  | cons c r =>
    have hc := noDig_false.1 (h3 c (by simp))
    rw [Lib.parseIntB_plain 64 c r (by omega) (by omega)]
    have hp : (0 + 1) * 10 ^ (c :: r).length ≤ 10 ^ 18 := by
      rw [Nat.zero_add, Nat.one_mul]
      exact Nat.pow_le_pow_right (by decide) (Nat.le_trans h2 (by decide))
    have hu : Lib.parseUintB 64 (c :: r) = .ok (digN (c :: r)) := by
      unfold Lib.parseUintB
      rw [if_neg (by simp)]
      exact (parse_run (c :: r) 0 h3 hp).1
    rw [hu]
    show (if 2 ^ (64 - 1) ≤ digN (c :: r) then Lib.NumEnd.range else .ok (digN (c :: r) : Int)) = _
    rw [if_neg (by omega)]

/-- The digits of a number. -/
theorem dig_nat (d : Nat) (h : d < 10) : (UInt8.ofNat (48 + d)).toNat = 48 + d := by
  rw [UInt8.toNat_ofNat']; omega
def decD (u : Nat) : List UInt8 := if u < 10 then [UInt8.ofNat (48 + u)] else decD (u / 10) ++ [UInt8.ofNat (48 + u % 10)]
theorem decD_dig (u : Nat) (h : u < 10) : decD u = [UInt8.ofNat (48 + u)] := by rw [decD, if_pos h]
theorem decD_snoc (u : Nat) (h : ¬ u < 10) : decD u = decD (u / 10) ++ [UInt8.ofNat (48 + u % 10)] := by rw [decD, if_neg h]
theorem decD_all : ∀ (u : Nat), (∀ c ∈ decD u, noDig c = false) ∧ digN (decD u) = u ∧ decD u ≠ [] ∧ ((decD u).head? = some 48 → u = 0) := by
  intro u
  induction u using Nat.strongRecOn with
  | _ u ih =>
    by_cases h : u < 10
    · rw [decD_dig u h]
      refine ⟨fun c hc => ?_, ?_, by simp, fun e => ?_⟩
      · simp only [List.mem_singleton] at hc
        subst hc
        rw [noDig_false, dig_nat u h]; omega
      · unfold digN
        simp only [List.foldl_cons, List.foldl_nil]
        rw [dig_nat u h]; omega
      · simp only [List.head?_cons, Option.some.injEq] at e
        have := congrArg UInt8.toNat e
        rw [dig_nat u h] at this
        have e48 : (48 : UInt8).toNat = 48 := rfl
        omega
    · obtain ⟨i1, i2, i3, i4⟩ := ih (u / 10) (by omega)
      rw [decD_snoc u h]
      have hd : u % 10 < 10 := Nat.mod_lt _ (by decide)
      refine ⟨fun c hc => ?_, ?_, by simp, fun e => ?_⟩
      · rw [List.mem_append] at hc
        rcases hc with hc | hc
        · exact i1 c hc
        · simp only [List.mem_singleton] at hc
          subst hc
          rw [noDig_false, dig_nat _ hd]; omega
      · have e : digN (decD (u / 10) ++ [UInt8.ofNat (48 + u % 10)]) = 10 * digN (decD (u / 10)) + ((UInt8.ofNat (48 + u % 10)).toNat - 48) := by
          unfold digN; rw [List.foldl_append]; rfl
        rw [e, i2, dig_nat _ hd]; omega
      · have hh : (decD (u / 10) ++ [UInt8.ofNat (48 + u % 10)]).head? = (decD (u / 10)).head? := by
          cases e' : decD (u / 10) with
          | nil => exact absurd e' i3
          | cons a t => rfl
        rw [hh] at e
        have := i4 e
        omega
theorem decD_len : ∀ (k u : Nat), u < 10 ^ (k + 1) → (decD u).length ≤ k + 1
  | 0, u, h => by rw [decD_dig u (by simpa using h)]; simp
  | k + 1, u, h => by
    by_cases hu : u < 10
    · rw [decD_dig u hu]; simp
    · rw [decD_snoc u hu]
      have := decD_len k (u / 10) (by rw [Nat.pow_succ] at h; omega)
      simp; omega
theorem decD_num (u : Nat) (h : u < 1000000) : isNumB (decD u) = true := by
  obtain ⟨h1, h2, h3, h4⟩ := decD_all u
  have hl := decD_len 5 u (by simpa using h)
  unfold isNumB
  simp only [Bool.and_eq_true, decide_eq_true_eq, Bool.not_eq_true']
  refine ⟨⟨⟨h3, by omega⟩, ?_⟩, ?_⟩
  · by_cases e : (decD u).head? = some 48
    · have := h4 e
      subst this
      rw [decD_dig 0 (by decide)]
      decide
    · simp [e]
  · rw [List.any_eq_false]
    intro c hc
    simp [h1 c hc]
theorem decD_blank (u : Nat) : 32 ∉ decD u := fun hm => by
  have := noDig_false.1 ((decD_all u).1 32 hm)
  have e : (32 : UInt8).toNat = 32 := rfl
  omega
end Go.Proofs.YtniailfcmlongaaGreatDoor.Tr
