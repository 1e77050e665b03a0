/- The contract of the document's word. -/
import Derived.Test.YtipppagkajcheaaGreatDoorSpt
import Derived.Test.YtipppagkajcheaaGreatDoorParse
namespace Go.Proofs.YtipppagkajcheaaGreatDoor.Tr
open Go.RowKit

theorem tw_hit {l : List UInt8} {c : UInt8} {k : Nat} (h : k < l.length) (hn : ∀ j (hj : j < k), l[j] ≠ c) (e : l[k] = c) : (l.takeWhile (· != c)).length = k := by
  induction l generalizing k with
  | nil => simp at h
  | cons x r ih =>
    cases k with
    | zero =>
      have hx : x = c := by simpa using e
      simp [List.takeWhile, hx]
    | succ k =>
      have h0 : x ≠ c := by simpa using hn 0 (by omega)
      have := ih (k := k) (by simpa using h) (fun j hj => by simpa using hn (j + 1) (by omega)) (by simpa using e)
      have hx : (x != c) = true := by simpa using h0
      simp [List.takeWhile, hx, this]
theorem tw_miss {l : List UInt8} {c : UInt8} (hn : ∀ j (hj : j < l.length), l[j] ≠ c) : (l.takeWhile (· != c)).length = l.length := by
  induction l with
  | nil => rfl
  | cons x r ih =>
    have h0 : x ≠ c := hn 0 (by simp)
    have hx : (x != c) = true := by simpa using h0
    have := ih (fun j hj => hn (j + 1) (by simpa using hj))
    simp [List.takeWhile, hx, this]
theorem wEnd_hit (b : List UInt8) (a i : Nat) (c : UInt8) (h1 : a ≤ i) (h2 : i < b.length) (hn : ∀ j (_ : a ≤ j) (hj : j < i), b[j] ≠ c) (e : b[i] = c) : wEnd b a c = i := by
  unfold wEnd
  rw [tw_hit (k := i - a) (by rw [List.length_drop]; omega) (fun j hj => by
    rw [List.getElem_drop]; exact hn (a + j) (by omega) (by omega)) (by
    rw [List.getElem_drop]
    have : a + (i - a) = i := by omega
    simp only [this]; exact e)]
  omega
theorem wEnd_miss (b : List UInt8) (a : Nat) (c : UInt8) (h1 : a ≤ b.length) (hn : ∀ j (_ : a ≤ j) (hj : j < b.length), b[j] ≠ c) : wEnd b a c = b.length := by
  unfold wEnd
  rw [tw_miss (fun j hj => by
    rw [List.length_drop] at hj
    rw [List.getElem_drop]; exact hn (a + j) (by omega) (by omega)), List.length_drop]
  omega

theorem Src.sub {w : World} {bb bo : Nat} {b : List UInt8} (h : Src w (some ⟨bb, bo, none⟩) b) (a i : Nat) : Src w (some ⟨bb, bo + a, none⟩) (sub b a i) := by
  have := (h.take' i).drop' a
  exact this

set_option maxRecDepth 100000 in
set_option maxHeartbeats 1000000 in
theorem word_any (w : World) (ad : Option Addr) (b : List UInt8) (cap a : Nat) (c : UInt8) (hs : Src w ad b) (hz : ad = none → cap = 0) (hc : b.length ≤ cap) (hl : b.length ≤ 140737488355328) (ha : a ≤ b.length) :
    Calls Tryz.prog 13 #[.slice ad b.length cap, .int .i64 (a : Int), .int .u8 (c.toNat : Int)] w fun e w' => e = .returned (.tuple #[.string ⟨(sub b a (wEnd b a c)).toArray⟩, .int .i64 ((wEnd b a c + 1 : Nat) : Int)]) ∧ w' = w := by
  have HS := hid hs
  have HZ := hid hz
  clear hs hz
  go_enter Tryz.func13, Tryz.ntmps13
  go_wp2_with fail
  go_loopw [8] (fun iv wr => ∃ i : Nat, a ≤ i ∧ i ≤ b.length ∧ iv = .int .i64 (i : Int) ∧ (∀ j (_ : a ≤ j) (hj : j < i) (hb : j < b.length), b[j] ≠ c) ∧ wr = w) (fun iv _ => b.length - (intOf iv).toNat)
  case atStart => exact ⟨a, Nat.le_refl _, ha, rfl, fun j h1 h2 => by omega, rfl⟩
  case round =>
    obtain ⟨i, hai, hi, rfl, hn, rfl⟩ := hrel
    have HN := hid hn
    clear hn
    have hi0 : (0 : Int) ≤ (i : Int) := Int.natCast_nonneg _
    have ha0 : (0 : Int) ≤ (a : Int) := Int.natCast_nonneg _
    by_cases hgo : ∃ h : i < b.length, b[i] ≠ c
    · obtain ⟨hlt, hne⟩ := hgo
      have hi1 : (i : Int) < ((b.length : Nat) : Int) := by omega
      obtain ⟨bb, bo, rfl, hcl⟩ := HS.out.at i hlt
      have HN' : Hid (∀ j (_ : a ≤ j) (hj : j < i + 1) (hb : j < b.length), b[j] ≠ c) := fun j h1 h2 h3 => by
        by_cases e : j = i
        · subst e; exact hne
        · exact HN.out j h1 (by omega) h3
      have hq : ((b[i].toNat : Int) == (c.toNat : Int)) = false := beq_eq_false_iff_ne.2 (fun h => hne (UInt8.toNat_inj.1 (by omega)))
      have hq2 : ((b[i].toNat : Int) != (c.toNat : Int)) = true := by rw [bne, hq]; rfl
      clear hne
      generalize b[i] = x at *
      go_wp2
      exact ⟨⟨i + 1, by omega, by omega, by go_num, HN'.out, trivial⟩, by simp [intOf]; omega⟩
    · have HW : Hid (wEnd b a c = i) := by
        unfold Hid
        by_cases hlt : i < b.length
        · have e : b[i] = c := Classical.byContradiction (fun h => hgo ⟨hlt, h⟩)
          exact wEnd_hit b a i c hai hlt (fun j h1 h2 => HN.out j h1 h2 (by omega)) e
        · obtain rfl : i = b.length := by omega
          exact wEnd_miss b a c ha (fun j h1 h2 => HN.out j h1 h2 h2)
      have HR : Hid ((Ending.returned (.tuple #[.string ⟨(sub b a (wEnd b a c)).toArray⟩, .int .i64 ((wEnd b a c + 1 : Nat) : Int)])) = .returned (.tuple #[.string ⟨(sub b a i).toArray⟩, .int .i64 ((i : Int) + 1)])) := by unfold Hid; rw [HW.out]; rfl
      have hai' : (a : Int) ≤ (i : Int) := by omega
      have hic : (i : Int) ≤ ((cap : Nat) : Int) := by omega
      have hsub : (sub b a i).length = i - a := sub_length b a i hi
      rcases (show (i < b.length ∧ ∃ h : i < b.length, b[i] = c) ∨ i = b.length by
        by_cases hlt : i < b.length
        · exact .inl ⟨hlt, hlt, Classical.byContradiction (fun h => hgo ⟨hlt, h⟩)⟩
        · exact .inr (by omega)) with ⟨hlt, hlt', he⟩ | rfl
      · obtain ⟨bb, bo, rfl, hcl⟩ := HS.out.at i hlt
        rw [he] at hcl
        have hi1 : (i : Int) < ((b.length : Nat) : Int) := by omega
        have hnc : ¬ cap = a := by omega
        have hcv := conv_bytes (HS.out.sub a i) (cap - a)
        rw [hsub] at hcv
        clear hgo he
        generalize sub b a i = s at *
        go_wp2
        go_ret2
        exact ⟨HR.out.symm, rfl⟩
      · have hi1 : ¬ ((b.length : Nat) : Int) < ((b.length : Nat) : Int) := by omega
        clear hgo
        have hcv0 : ∀ (p : Option Addr) (k : Nat), (convert 22 9 (.slice p 0 k)).run Tryz.prog wr = .ok (.string ⟨#[]⟩) wr := fun p k => conv_bytes (show Src wr p [] from fun h => absurd rfl h) k
        by_cases hca : cap = a
        · obtain rfl : a = b.length := by omega
          subst hca
          have e : sub b b.length b.length = [] := sub_self b _
          rw [e] at HR
          clear HN HW hsub hai hai' ha ha0 hi hi0
          have hn0 : (0 : Int) ≤ ((b.length : Nat) : Int) := Int.natCast_nonneg _
          go_wp2
          all_goals go_ret2
          all_goals exact ⟨HR.out.symm, rfl⟩
        · cases ad with
          | none => exact absurd (HZ.out rfl) (fun h => hca (by omega))
          | some ax =>
          by_cases hb : b = []
          · have ha0' : a = 0 := by rw [hb] at ha; simpa using ha
            subst ha0'
            have hbl : b.length = 0 := by rw [hb]; rfl
            have e : sub b 0 b.length = [] := by rw [hb]; rfl
            rw [e] at HR
            rw [hbl] at HR
            clear HN HW hsub hai hai' ha ha0 hi hi0 hb
            go_wp2
            all_goals go_ret2
            all_goals exact ⟨HR.out.symm, rfl⟩
          · obtain ⟨bb, bo, e, _⟩ := HS.out hb
            cases e
            have hcv := conv_bytes (HS.out.sub a b.length) (cap - a)
            rw [hsub] at hcv
            clear hcv0
            generalize sub b a b.length = s at *
            go_wp2
            go_ret2
            exact ⟨HR.out.symm, rfl⟩

end Go.Proofs.YtipppagkajcheaaGreatDoor.Tr
