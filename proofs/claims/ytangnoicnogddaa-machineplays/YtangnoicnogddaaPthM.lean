import Derived.Test.YtangnoicnogddaaBase
import Derived.Laws.BitsAllLaws
import Derived.Laws.IdiomStrings
import Derived.Laws.Concat
import Derived.Laws.Strings2
import Derived.Laws.DeepStrings4
import Derived.BigQuiet
import Derived.Test.YtangnoicnogddaaPlain
import Derived.Lib.Bytealg
import Derived.Laws.Externs
import Derived.RangeFuncNested
import Derived.RangeFuncBound
import Derived.RangeFuncCalls
import Derived.RangeFuncLeaves
import Derived.Shelf.Abstract
import Derived.Shelf.RegionOpen
import Derived.OwnWalkIn
import Derived.TacticsInMore
import Derived.LoopNIn
import Derived.LoopIn
import Derived.Maps.AppendAt
/- The contracts of Name, the program's and the document's. -/
namespace Go.Proofs.Ytangnoicnogddaa.Tr
open Go.RowKit

theorem str_at (l : List UInt8) (k : Nat) (h : k < l.length) : (ByteArray.mk l.toArray)[k]'(by simpa [ByteArray.size] using h) = l[k] := rfl

theorem byte_eq (a b : UInt8) : ((a.toNat : Int) == (b.toNat : Int)) = (a == b) := by
  rw [Bool.eq_iff_iff]
  simp only [beq_iff_eq]
  exact ⟨fun h => UInt8.toNat_inj.1 (by omega), fun h => by rw [h]⟩

set_option maxRecDepth 100000 in
set_option maxHeartbeats 1000000 in
theorem rname_any (w : World) (l : List UInt8) : Calls Try.prog 35 #[.string ⟨l.toArray⟩] w fun e w' => e = .returned (.bool (nameB l)) ∧ Fr (fun _ => False) w w' := by
  by_cases h1 : l.length < 1
  · have hn : Hid (nameB l = false) := by unfold Hid nameB; simp; omega
    have h1' : (l.length : Int) < 1 := by omega
    go_enter Try.func35, Try.ntmps35
    go_wp2
    go_ret
    exact ⟨by rw [hn.out]; rfl, Fr.refl _ _⟩
  by_cases h2 : 36 < l.length
  · have hn : Hid (nameB l = false) := by unfold Hid nameB; simp; omega
    have h1' : ¬ (l.length : Int) < 1 := by omega
    have h2' : (36 : Int) < (l.length : Int) := by omega
    go_enter Try.func35, Try.ntmps35
    go_wp2
    go_ret
    exact ⟨by rw [hn.out]; rfl, Fr.refl _ _⟩
  have h1' : ¬ (l.length : Int) < 1 := by omega
  have h2' : ¬ (36 : Int) < (l.length : Int) := by omega
  by_cases h3 : l = [46]
  · subst h3
    have hn : Hid (nameB [46] = false) := by unfold Hid; decide
    go_enter Try.func35, Try.ntmps35
    go_wp2
    go_ret
    exact ⟨by rw [hn.out]; rfl, Fr.refl _ _⟩
  by_cases h4 : l = [46, 46]
  · subst h4
    have hn : Hid (nameB [46, 46] = false) := by unfold Hid; decide
    go_enter Try.func35, Try.ntmps35
    go_wp2
    go_ret
    exact ⟨by rw [hn.out]; rfl, Fr.refl _ _⟩
  have h3' : (l == [46]) = false := by simpa using h3
  have h4' : (l == [46, 46]) = false := by simpa using h4
  have HN : Hid (nameB l = l.all mayB) := by
    unfold Hid nameB
    simp [h3, h4]
    intro _
    omega
  clear h3 h4
  go_enter Try.func35, Try.ntmps35
  go_wp2_with fail
  go_loopw [3] (fun i wr => ∃ k : Nat, k ≤ l.length ∧ i = .int .i64 (k : Int) ∧ (l.take k).all mayB = true ∧ Fr (fun _ => False) w wr) (fun i _ => l.length - (intOf i).toNat)
  case atStart => exact ⟨0, Nat.zero_le _, rfl, rfl, Fr.refl _ _⟩
  case round =>
    obtain ⟨k, hk, rfl, ha, hF⟩ := hrel
    have HA := hid ha
    have HF := hid hF
    clear ha hF
    by_cases hlt : k < l.length
    · have hkl' : (k : Int) < ((l.length : Nat) : Int) := by omega
      have hk0 : (0 : Int) ≤ (k : Int) := Int.natCast_nonneg _
      have HAt := hid (str_at l k hlt)
      have HSt := hid (all_take_succ mayB l k hlt)
      have HBad := hid (all_false_of mayB l k hlt)
      obtain ⟨wo, hwo⟩ : ∃ wo, wo = wr := ⟨_, rfl⟩
      subst hwo
      go_wp2_with fail
      go_loopw [4, 5] (fun ov jv wi => ∃ j : Nat, j ≤ 66 ∧ jv = .int .i64 (j : Int) ∧ ov = .bool ((lets.take j).any (· == l[k])) ∧ Fr (fun _ => False) wo wi) (fun _ jv _ => 66 - (intOf jv).toNat)
      case atStart => exact ⟨0, by omega, rfl, rfl, Fr.refl _ _⟩
      case round =>
        obtain ⟨j, hj, rfl, rfl, hF2⟩ := hrel
        have HF2 := hid hF2
        clear hF2
        by_cases hj66 : j < 66
        · have hj1 : (j : Int) < 66 := by omega
          have hj0 : (0 : Int) ≤ (j : Int) := Int.natCast_nonneg _
          have HS2 := hid (any_take_succ (· == l[k]) lets j hj66)
          cases hb : (lets.take j).any (· == l[k]) with
          | true =>
            rw [hb] at HS2
            go_wp2_with fail
            go_quiet (fail)
            go_wp2
            exact ⟨⟨j + 1, by omega, by go_num, by rw [HS2.out]; rfl, HF2.out.drewN _⟩, by simp [intOf]; omega⟩
          | false =>
            rw [hb] at HS2
            go_wp2_with fail
            go_quiet (fail)
            go_wp2
            exact ⟨⟨j + 1, by omega, by go_num, by rw [HS2.out]; exact congrArg Value.bool (byte_eq lets[j] l[k]), HF2.out.drewN _⟩, by simp [intOf]; omega⟩
        · obtain rfl : j = 66 := by omega
          have HFw : Hid (Fr (fun _ => False) w wr) := HF.out.trans HF2.out (fun _ h => h.elim)
          have e : ((lets.take 66).any (· == l[k])) = mayB l[k] := rfl
          rw [e]
          cases hb : mayB l[k] with
          | true =>
            rw [hb] at HSt
            go_wp2
            exact ⟨⟨k + 1, by omega, by go_num, by rw [HSt.out, HA.out]; rfl, HFw.out⟩, by simp [intOf]; omega⟩
          | false =>
            have HB := hid (HBad.out hb)
            go_wp2
            go_ret
            exact ⟨by rw [HN.out, HB.out]; rfl, HFw.out⟩
    · obtain rfl : k = l.length := by omega
      have hkn : ¬ ((l.length : Nat) : Int) < ((l.length : Nat) : Int) := by omega
      rw [List.take_length] at HA
      go_wp2
      go_ret
      exact ⟨by rw [HN.out, HA.out]; rfl, HF.out⟩

end Go.Proofs.Ytangnoicnogddaa.Tr
/- The contracts of mayName and of the program's Name. -/
namespace Go.Proofs.Ytangnoicnogddaa.Tr
open Go.RowKit

theorem may_all : ∀ n : Fin 256, mayB (UInt8.ofNat n.val) = (decide (97 ≤ n.val ∧ n.val ≤ 122) || decide (65 ≤ n.val ∧ n.val ≤ 90) || decide (48 ≤ n.val ∧ n.val ≤ 57) || decide (n.val = 46) || decide (n.val = 95) || decide (n.val = 45) || decide (n.val = 43)) := by decide +kernel
theorem may_iff (c : UInt8) : mayB c = true ↔ (97 ≤ c.toNat ∧ c.toNat ≤ 122) ∨ (65 ≤ c.toNat ∧ c.toNat ≤ 90) ∨ (48 ≤ c.toNat ∧ c.toNat ≤ 57) ∨ c.toNat = 46 ∨ c.toNat = 95 ∨ c.toNat = 45 ∨ c.toNat = 43 := by
  have h := may_all ⟨c.toNat, UInt8.toNat_lt c⟩
  simp only [UInt8.ofNat_toNat] at h
  rw [h]
  simp only [Bool.or_eq_true, decide_eq_true_eq, or_assoc]

set_option maxRecDepth 100000 in
set_option maxHeartbeats 1000000 in
theorem may_any (w : World) (c : UInt8) : Calls Try.prog 68 #[.int .u8 (c.toNat : Int)] w fun e w' => e = .returned (.bool (mayB c)) ∧ w' = w := by
  have HM := hid (may_iff c)
  have hc := UInt8.toNat_lt c
  generalize c.toNat = n at *
  generalize mayB c = b at *
  go_enter Try.func68, Try.ntmps68
  go_wp2
  all_goals
    go_ret
    refine ⟨congrArg (fun x => Ending.returned (.bool x)) ((Bool.eq_iff_iff).2 (Iff.trans ?_ HM.out.symm)), rfl⟩
    clear HM
    first | omega | (simp; omega) | simp

set_option maxRecDepth 100000 in
set_option maxHeartbeats 1000000 in
theorem name_any (w : World) (l : List UInt8) : Calls Try.prog 46 #[.string ⟨l.toArray⟩] w fun e w' => e = .returned (.bool (nameB l)) ∧ w' = w := by
  by_cases h1 : l.length < 1
  · have hn : Hid (nameB l = false) := by unfold Hid nameB; simp; omega
    have h1' : ((l.length : Int) == 0) = true := by simp; exact List.length_eq_zero_iff.1 (by omega)
    go_enter Try.func46, Try.ntmps46
    go_wp2
    go_ret
    exact ⟨by rw [hn.out]; rfl, rfl⟩
  have h1' : ((l.length : Int) == 0) = false := by simp; intro h; simp [h] at h1
  by_cases h2 : 36 < l.length
  · have hn : Hid (nameB l = false) := by unfold Hid nameB; simp; omega
    have h2' : (36 : Int) < (l.length : Int) := by omega
    go_enter Try.func46, Try.ntmps46
    go_wp2
    go_ret
    exact ⟨by rw [hn.out]; rfl, rfl⟩
  have h2' : ¬ (36 : Int) < (l.length : Int) := by omega
  by_cases h3 : l = [46]
  · subst h3
    have hn : Hid (nameB [46] = false) := by unfold Hid; decide
    go_enter Try.func46, Try.ntmps46
    go_wp2
    go_ret
    exact ⟨by rw [hn.out]; rfl, rfl⟩
  by_cases h4 : l = [46, 46]
  · subst h4
    have hn : Hid (nameB [46, 46] = false) := by unfold Hid; decide
    go_enter Try.func46, Try.ntmps46
    go_wp2
    go_ret
    exact ⟨by rw [hn.out]; rfl, rfl⟩
  have h3' : (l == [46]) = false := by simpa using h3
  have h4' : (l == [46, 46]) = false := by simpa using h4
  have HN : Hid (nameB l = l.all mayB) := by
    unfold Hid nameB
    simp [h3, h4]
    intro _
    omega
  clear h3 h4
  go_enter Try.func46, Try.ntmps46
  go_wp2_with fail
  go_loopw [22] (fun i wr => ∃ k : Nat, k ≤ l.length ∧ i = .int .i64 (k : Int) ∧ (l.take k).all mayB = true ∧ wr = w) (fun i _ => l.length - (intOf i).toNat)
  case atStart => exact ⟨0, Nat.zero_le _, rfl, rfl, rfl⟩
  case round =>
    obtain ⟨k, hk, rfl, ha, rfl⟩ := hrel
    have HA := hid ha
    clear ha
    by_cases hlt : k < l.length
    · have hkl' : (k : Int) < ((l.length : Nat) : Int) := by omega
      have hk0 : (0 : Int) ≤ (k : Int) := Int.natCast_nonneg _
      have HSt := hid (all_take_succ mayB l k hlt)
      have HBad := hid (all_false_of mayB l k hlt)
      cases hb : mayB l[k] with
      | true =>
        rw [hb] at HSt
        go_wp2_with (go_at_call 68; refine (may_any _ l[k]).mono ?_; rintro e w' ⟨rfl, rfl⟩; rw [hb])
        exact ⟨⟨k + 1, by omega, by go_num, by rw [HSt.out, HA.out]; rfl, trivial⟩, by simp [intOf]; omega⟩
      | false =>
        have HB := hid (HBad.out hb)
        go_wp2_with (go_at_call 68; refine (may_any _ l[k]).mono ?_; rintro e w' ⟨rfl, rfl⟩; rw [hb])
        go_ret
        exact ⟨by rw [HN.out, HB.out]; rfl, rfl⟩
    · obtain rfl : k = l.length := by omega
      have hkn : ¬ ((l.length : Nat) : Int) < ((l.length : Nat) : Int) := by omega
      rw [List.take_length] at HA
      go_wp2
      go_ret
      exact ⟨by rw [HN.out, HA.out]; rfl, rfl⟩

end Go.Proofs.Ytangnoicnogddaa.Tr
/- How a path is cut: plain facts. Nothing here speaks of the Go text. -/
namespace Go.Proofs.Ytangnoicnogddaa.Tr

/-- How far the document's Path has come: at i, the piece begins at f, D are the names so far. -/
structure PInv (l : List UInt8) (i f : Nat) (D : List (List UInt8)) : Prop where
  pos : 1 ≤ f
  fi : f ≤ i
  il : i ≤ l.length + 1
  names : D.all nameB = true
  few : D.length + 1 ≤ f
  now : i ≤ l.length → cutS [] (l.drop 1) = D ++ cutS (sub l f i) (l.drop i)
  done : i = l.length + 1 → cutS [] (l.drop 1) = D
theorem PInv.start (l : List UInt8) (h : 1 ≤ l.length) : PInv l 1 1 [] :=
  ⟨by omega, by omega, by omega, rfl, by simp, fun _ => by rw [sub_self]; rfl, fun e => by omega⟩
theorem PInv.skip {l : List UInt8} {i f : Nat} {D : List (List UInt8)} (h : PInv l i f D) (hi : i < l.length) (e : l[i] ≠ 47) : PInv l (i + 1) f D :=
  ⟨h.pos, by have := h.fi; omega, by omega, h.names, h.few, fun _ => by rw [h.now (by omega), cutS_other _ l i hi e, sub_snoc l f i h.fi hi], fun e => by omega⟩
theorem pcut {l : List UInt8} {i f : Nat} (hi : i ≤ l.length) (e : ∀ h : i < l.length, l[i] = 47) : cutS (sub l f i) (l.drop i) = sub l f i :: (if i < l.length then cutS [] (l.drop (i + 1)) else []) := by
  by_cases hlt : i < l.length
  · rw [cutS_slash _ l i hlt (e hlt), if_pos hlt]
  · rw [cutS_end _ l i (by omega), if_neg hlt]
theorem PInv.take {l : List UInt8} {i f : Nat} {D : List (List UInt8)} (h : PInv l i f D) (hi : i ≤ l.length) (e : ∀ h : i < l.length, l[i] = 47) (hn : nameB (sub l f i) = true) : PInv l (i + 1) (i + 1) (D ++ [sub l f i]) := by
  have hc := h.now hi
  rw [pcut hi e] at hc
  refine ⟨by omega, by omega, by omega, by simp only [List.all_append, h.names, List.all_cons, hn, List.all_nil]; rfl, ?_, fun hle => ?_, fun he => ?_⟩
  · have := h.few; have := h.fi; simp; omega
  · rw [hc, if_pos (by omega), sub_self]; simp
  · rw [hc, if_neg (by omega)]
theorem PInv.bad {l : List UInt8} {i f : Nat} {D : List (List UInt8)} (h : PInv l i f D) (hi : i ≤ l.length) (e : ∀ h : i < l.length, l[i] = 47) (hn : nameB (sub l f i) = false) : (cutS [] (l.drop 1)).all nameB = false := by
  rw [h.now hi, pcut hi e, List.all_append, List.all_cons, hn]; simp
theorem pathN_root : pathN [47] = ([], true) := by unfold pathN; rw [if_pos rfl]
theorem pathN_no (l : List UInt8) (h0 : l ≠ [47]) (h : l.length = 0 ∨ 200 < l.length ∨ l.head? ≠ some 47) : pathN l = ([], false) := by unfold pathN; rw [if_neg h0, if_pos h]
theorem pathN_bad (l : List UInt8) (h0 : l ≠ [47]) (h : ¬ (l.length = 0 ∨ 200 < l.length ∨ l.head? ≠ some 47)) (hn : (cutS [] (l.drop 1)).all nameB = false) : pathN l = ([], false) := by
  unfold pathN; rw [if_neg h0, if_neg h, if_neg (by rw [hn]; decide)]
theorem pathN_ok (l : List UInt8) (h0 : l ≠ [47]) (h : ¬ (l.length = 0 ∨ 200 < l.length ∨ l.head? ≠ some 47)) (hn : (cutS [] (l.drop 1)).all nameB = true) : pathN l = (cutS [] (l.drop 1), decide ((cutS [] (l.drop 1)).length ≤ 16)) := by
  unfold pathN; rw [if_neg h0, if_neg h, if_pos hn]

end Go.Proofs.Ytangnoicnogddaa.Tr
/- The contract of the document's Path. -/
namespace Go.Proofs.Ytangnoicnogddaa.Tr
open Go.RowKit

def strs (L : List (List UInt8)) : List Value := L.map fun l => .string ⟨l.toArray⟩
theorem strs_length (L : List (List UInt8)) : (strs L).length = L.length := by simp [strs]
theorem strs_app (L M : List (List UInt8)) : strs (L ++ M) = strs L ++ strs M := by simp [strs]
theorem info9 : (Try.prog.info? 9).map (fun i => (i.zero, i.size, i.bytes)) = some (some (.string ⟨#[]⟩), 1, 16) := by kernel_rfl

/-- What Path leaves: the names in a row of its own, and whether it is a path. -/
def PathPost (w : World) (r : List (List UInt8) × Bool) (e : Ending) (w' : World) : Prop :=
  ∃ v, e = .returned (.tuple #[v, .bool r.2]) ∧ w'.ownsRow w.heap.size 9 1 v r.1.length (strs r.1) ∧ Fr (fun _ => False) w w'
theorem ownsRow_none (w : World) (B : Nat) (e : TypeId) (s : Nat) : w.ownsRow B e s (.slice none 0 0) 0 [] := ⟨by simp, .inl ⟨rfl, rfl⟩⟩
theorem PathPost.none (w w' : World) (b : Bool) (h : Fr (fun _ => False) w w') : PathPost w ([], b) (.returned (.tuple #[.slice none 0 0, .bool b])) w' :=
  ⟨_, rfl, ownsRow_none _ _ _ _, h⟩

/-- 'append(v, s)' of one string onto a row of the call's own. -/
theorem wpList_append_str {ops : Array Oper} {rest : List Oper} {o : Oper} {a : Act} {W : World} {Q : Exit → Act → World → Prop} (hgd : o.guard = none) (d s : Operand)
    (ho : o.op = .call { callee := .builtin .append, args := #[d, s], argTypes := #[30, 30] }) (base : Nat) (v : Value) (L : List (List UInt8)) (x : List UInt8) (ad : Nat)
    (hd : a.eval d = v) (hs : a.eval s = .slice (some ⟨ad, 0, none⟩) 1 1) (hown : W.ownsRow base 9 1 v L.length (strs L)) (hbase : base ≤ W.heap.size) (hsz : L.length < 8796093022207)
    (hsrc : W.cell? ⟨ad, 0, none⟩ = some (.string ⟨x.toArray⟩))
    (h : ∀ g cap W', W'.ownsRow base 9 1 (.slice (some ⟨g, 0, none⟩) (L.length + 1) cap) (L ++ [x]).length (strs (L ++ [x])) → W.grownBy W' v.ownBlock → wpList Try.prog ops Q rest (a.put o.dst (.slice (some ⟨g, 0, none⟩) (L.length + 1) cap)) W') : wpList Try.prog ops Q (o :: rest) a W := by
  obtain ⟨i0, hi0, hz0, hz1, hz2⟩ := info_parts info9
  refine wpList_append_lies W hgd d s 30 ho base 9 i0 _ 1 16 Try.underlying30 hi0 hz0 hz1 hz2 rfl (by omega) v L.length (strs L) hd hown ⟨ad, 0, none⟩ 1 1 (strs [x]) hs rfl (fun j u hu => ?_) (fun u hu => ?_) (by omega) (by unfold maxLen; omega) (by omega) hbase _ rfl ?_
  · match j, hu with
    | 0, hu => simp [strs] at hu; subst hu; rw [Addr.add_mid]; exact hsrc
    | n + 1, hu => simp [strs] at hu
  · simp [strs] at hu; subst hu; rfl
  · intro g cap W' h1 h2 _ _
    refine h g cap W' ?_ h2
    rw [strs_app]
    simpa using h1

theorem own_len {B : Nat} {w : World} {e : TypeId} {s : Nat} {v : Value} {n : Nat} {xs : List Value} (h : w.ownsRow B e s v n xs) : ∃ a cap, v = .slice a n cap := by
  rcases h.2 with ⟨h0, h1⟩ | ⟨g, cap, _, hv, _⟩
  · exact ⟨none, 0, by rw [h0, h1]⟩
  · exact ⟨_, cap, hv⟩

set_option maxRecDepth 100000 in
set_option maxHeartbeats 1000000 in
theorem rpath_any (w : World) (l : List UInt8) : Calls Try.prog 87 #[.string ⟨l.toArray⟩] w (PathPost w (pathN l)) := by
  by_cases h0 : l = [47]
  · subst h0
    have HP := hid pathN_root
    go_enter Try.func87, Try.ntmps87
    go_wp2
    go_ret2
    rw [HP.out]; exact .none w w _ (Fr.refl _ _)
  have h0' : (l == [47]) = false := by simpa using h0
  by_cases h1 : l.length = 0
  · have HP := hid (pathN_no l h0 (.inl h1))
    obtain rfl := List.length_eq_zero_iff.1 h1
    go_enter Try.func87, Try.ntmps87
    go_wp2
    go_ret2
    rw [HP.out]; exact .none w w _ (Fr.refl _ _)
  have h1' : ((l.length : Int) == 0) = false := by simp; intro h; simp [h] at h1
  by_cases h2 : 200 < l.length
  · have HP := hid (pathN_no l h0 (.inr (.inl h2)))
    have h2' : (200 : Int) < (l.length : Int) := by omega
    clear h0
    go_enter Try.func87, Try.ntmps87
    go_wp2
    go_ret2
    rw [HP.out]; exact .none w w _ (Fr.refl _ _)
  have h2' : ¬ (200 : Int) < (l.length : Int) := by omega
  have hpos : (0 : Int) < (l.length : Int) := by omega
  have hp0 : 0 < l.length := by omega
  have hat := str_at l 0 (by omega)
  have hhd : l.head? = some l[0] := by rw [List.head?_eq_getElem?, List.getElem?_eq_getElem hp0]
  by_cases h3 : l[0] = 47
  · have HNo : Hid (¬ (l.length = 0 ∨ 200 < l.length ∨ l.head? ≠ some 47)) := by unfold Hid; rw [hhd, h3]; exact fun h => h.elim h1 (fun h => h.elim h2 (fun h => h rfl))
    have HI := hid (PInv.start l hp0)
    have h3' : (((((ByteArray.mk l.toArray)[0]'(by simpa [ByteArray.size] using hp0)).toNat : Int)) != 47) = false := by rw [hat, h3]; rfl
    have H0 := hid h0
    clear h0 h3 hat hhd
    go_enter Try.func87, Try.ntmps87
    go_wp2_with fail
    go_loopw [4, 5, 6] (fun ov fv iv wr => ∃ (i f : Nat) (D : List (List UInt8)), PInv l i f D ∧ iv = .int .i64 (i : Int) ∧ fv = .int .i64 (f : Int) ∧ wr.ownsRow w.heap.size 9 1 ov D.length (strs D) ∧ Fr (fun _ => False) w wr) (fun _ _ iv _ => l.length + 1 - (intOf iv).toNat)
    case atStart => exact ⟨1, 1, [], HI.out, rfl, rfl, ownsRow_none _ _ _ _, Fr.refl _ _⟩
    case round =>
      obtain ⟨i, f, D, hI, rfl, rfl, hO, hF⟩ := hrel
      have HI' := hid hI
      have hf1 := hI.pos
      have hfi := hI.fi
      have hil := hI.il
      have hfew := hI.few
      have HO := hid hO
      have HF := hid hF
      clear hI hO hF HI
      by_cases hle : i ≤ l.length
      · have hi1 : (i : Int) ≤ ((l.length : Nat) : Int) := by omega
        have hi0 : (0 : Int) ≤ (i : Int) := Int.natCast_nonneg _
        have hf0 : (0 : Int) ≤ (f : Int) := Int.natCast_nonneg _
        have hfi' : (f : Int) ≤ (i : Int) := by omega
        by_cases hsk : ∃ h : i < l.length, l[i] ≠ 47
        · obtain ⟨hlt, hne⟩ := hsk
          have hi2 : (i : Int) < ((l.length : Nat) : Int) := by omega
          have hne' : (((((ByteArray.mk l.toArray)[i]'(by simpa [ByteArray.size] using hlt)).toNat : Int)) != 47) = true := by
            rw [str_at l i hlt]
            exact bne_iff_ne.2 (fun h => hne (UInt8.toNat_inj.1 (by have e : (47 : UInt8).toNat = 47 := rfl; rw [e]; omega)))
          have HI2 := hid (HI'.out.skip hlt hne)
          clear hne
          go_wp2
          exact ⟨⟨i + 1, f, D, HI2.out, by go_num, rfl, HO.out, HF.out⟩, by simp [intOf]; omega⟩
        · have he : ∀ h : i < l.length, l[i] = 47 := fun h => Classical.byContradiction fun hc => hsk ⟨h, hc⟩
          have HT := hid (HI'.out.take hle he)
          have HB := hid (HI'.out.bad hle he)
          have HX := hid (ext_sub l f i)
          have hgo : ∀ (K : Prop), (¬ (i : Int) < ((l.length : Nat) : Int) → K) → ((i : Int) < ((l.length : Nat) : Int) → (∀ h : i < l.length, ((((((ByteArray.mk l.toArray)[i]'(by simpa [ByteArray.size] using h)).toNat : Int)) != 47) = false)) → K) → K := by
            intro K k1 k2
            by_cases hlt : i < l.length
            · exact k2 (by omega) (fun h => by rw [str_at l i h, he h]; rfl)
            · exact k1 (by omega)
          have HD : Hid (D.length < 8796093022207) := by unfold Hid; omega
          clear he hsk
          refine hgo _ (fun hnl => ?_) (fun hlt' hq => ?_)
          · clear hgo
            cases hb : nameB (sub l f i) with
            | true =>
              have HT' := hid (HT.out hb)
              go_wp2_with (first
                | (go_at_call 35; rw [HX.out]; refine (rname_any _ (sub l f i)).mono ?_; rintro e w1 ⟨rfl, f1⟩; rw [hb]; have F1 := hid (HF.out.trans f1 (fun _ h => h.elim)); have O1 := hid (owns_of_eq HO.out (fun k hk => f1.block k (HO.out.lt k hk).2 (fun h => h)) ); clear f1)
                | (at_builtin; refine wpList_append_str (by rfl) _ _ (by rfl) w.heap.size _ D (sub l f i) w1.heap.size (by rfl) (by rfl) (by exact O1.out.alloc _) (by have := F1.out.size; simp; omega) HD.out (by rw [← HX.out]; simp) ?_
                   intro g cap w2 hown hgrow
                   have O2 := hid hown
                   have F2 : Hid (Fr (fun _ => False) w w2) := (F1.out.alloc _).grown hgrow (fun k hk => .inr (O1.out.lt k hk).1)
                   clear hown hgrow))
              exact ⟨⟨i + 1, i + 1, D ++ [sub l f i], HT'.out, by go_num, by go_num, O2.out, F2.out⟩, by simp [intOf]; omega⟩
            | false =>
              have HP := hid (pathN_bad l H0.out HNo.out (HB.out hb))
              go_wp2_with (first
                | (go_at_call 35; rw [HX.out]; refine (rname_any _ (sub l f i)).mono ?_; rintro e w1 ⟨rfl, f1⟩; rw [hb]; have F1 := hid (HF.out.trans f1 (fun _ h => h.elim)); have O1 := hid (owns_of_eq HO.out (fun k hk => f1.block k (HO.out.lt k hk).2 (fun h => h)) ); clear f1)
                | (at_builtin; refine wpList_append_str (by rfl) _ _ (by rfl) w.heap.size _ D (sub l f i) w1.heap.size (by rfl) (by rfl) (by exact O1.out.alloc _) (by have := F1.out.size; simp; omega) HD.out (by rw [← HX.out]; simp) ?_
                   intro g cap w2 hown hgrow
                   have O2 := hid hown
                   have F2 : Hid (Fr (fun _ => False) w w2) := (F1.out.alloc _).grown hgrow (fun k hk => .inr (O1.out.lt k hk).1)
                   clear hown hgrow))
              go_ret2
              rw [HP.out]; exact .none w _ _ F1.out
          · have hlt : i < l.length := by omega
            have hq' := hq hlt
            clear hgo hq
            cases hb : nameB (sub l f i) with
            | true =>
              have HT' := hid (HT.out hb)
              go_wp2_with (first
                | (go_at_call 35; rw [HX.out]; refine (rname_any _ (sub l f i)).mono ?_; rintro e w1 ⟨rfl, f1⟩; rw [hb]; have F1 := hid (HF.out.trans f1 (fun _ h => h.elim)); have O1 := hid (owns_of_eq HO.out (fun k hk => f1.block k (HO.out.lt k hk).2 (fun h => h)) ); clear f1)
                | (at_builtin; refine wpList_append_str (by rfl) _ _ (by rfl) w.heap.size _ D (sub l f i) w1.heap.size (by rfl) (by rfl) (by exact O1.out.alloc _) (by have := F1.out.size; simp; omega) HD.out (by rw [← HX.out]; simp) ?_
                   intro g cap w2 hown hgrow
                   have O2 := hid hown
                   have F2 : Hid (Fr (fun _ => False) w w2) := (F1.out.alloc _).grown hgrow (fun k hk => .inr (O1.out.lt k hk).1)
                   clear hown hgrow))
              exact ⟨⟨i + 1, i + 1, D ++ [sub l f i], HT'.out, by go_num, by go_num, O2.out, F2.out⟩, by simp [intOf]; omega⟩
            | false =>
              have HP := hid (pathN_bad l H0.out HNo.out (HB.out hb))
              go_wp2_with (first
                | (go_at_call 35; rw [HX.out]; refine (rname_any _ (sub l f i)).mono ?_; rintro e w1 ⟨rfl, f1⟩; rw [hb]; have F1 := hid (HF.out.trans f1 (fun _ h => h.elim)); have O1 := hid (owns_of_eq HO.out (fun k hk => f1.block k (HO.out.lt k hk).2 (fun h => h)) ); clear f1)
                | (at_builtin; refine wpList_append_str (by rfl) _ _ (by rfl) w.heap.size _ D (sub l f i) w1.heap.size (by rfl) (by rfl) (by exact O1.out.alloc _) (by have := F1.out.size; simp; omega) HD.out (by rw [← HX.out]; simp) ?_
                   intro g cap w2 hown hgrow
                   have O2 := hid hown
                   have F2 : Hid (Fr (fun _ => False) w w2) := (F1.out.alloc _).grown hgrow (fun k hk => .inr (O1.out.lt k hk).1)
                   clear hown hgrow))
              go_ret2
              rw [HP.out]; exact .none w _ _ F1.out
      · obtain rfl : i = l.length + 1 := by omega
        have hn : ¬ ((l.length + 1 : Nat) : Int) ≤ ((l.length : Nat) : Int) := by omega
        have hd := HI'.out.done rfl
        have HP := hid (pathN_ok l H0.out HNo.out (by rw [hd]; exact HI'.out.names))
        rw [hd] at HP
        obtain ⟨oa, oc, rfl⟩ := own_len HO.out
        clear hd
        go_wp2
        go_ret2
        rw [HP.out]
        exact ⟨_, congrArg (fun x => Ending.returned (.tuple #[.slice oa D.length oc, .bool x])) (by simp; omega), HO.out, HF.out⟩
  · have HP := hid (pathN_no l h0 (.inr (.inr (by rw [hhd]; intro h; exact h3 (Option.some.inj h)))))
    have h3' : (((((ByteArray.mk l.toArray)[0]'(by simpa [ByteArray.size] using hp0)).toNat : Int)) != 47) = true := by
      rw [hat]
      exact bne_iff_ne.2 (fun h => h3 (UInt8.toNat_inj.1 (by have e : (47 : UInt8).toNat = 47 := rfl; rw [e]; omega)))
    clear h0 h3 hat hhd
    go_enter Try.func87, Try.ntmps87
    go_wp2
    go_ret2
    rw [HP.out]; exact .none w w _ (Fr.refl _ _)

end Go.Proofs.Ytangnoicnogddaa.Tr
/- Cut and CutPrefix at a slash. -/
namespace Go.Proofs.Ytangnoicnogddaa.Tr
open Go.RowKit

/-- What stands ahead of the first slash, what behind it; is there one? -/
def cut1 : List UInt8 → List UInt8 × List UInt8 × Bool
  | [] => ([], [], false)
  | c :: r => if c = 47 then ([], r, true) else (c :: (cut1 r).1, (cut1 r).2.1, (cut1 r).2.2)
theorem cut1_index (s : List UInt8) : (Lib.indexByte s 47 = -1 ∧ cut1 s = (s, [], false)) ∨ ∃ i : Nat, i < s.length ∧ Lib.indexByte s 47 = (i : Int) ∧ cut1 s = (s.take i, s.drop (i + 1), true) := by
  induction s with
  | nil => exact .inl ⟨rfl, rfl⟩
  | cons c r ih =>
    unfold Lib.indexByte cut1
    by_cases hc : c = 47
    · subst hc
      exact .inr ⟨0, by simp, by simp, by simp⟩
    · have hb : (c == 47) = false := by simpa using hc
      rcases ih with ⟨h1, h2⟩ | ⟨i, hi, h1, h2⟩
      · exact .inl ⟨by simp [hb, h1], by simp [hc, h2]⟩
      · refine .inr ⟨i + 1, by simp; omega, ?_, by simp [hc, h2]⟩
        rw [h1]
        have : ((i : Int) == -1) = false := by rw [beq_eq_false_iff_ne]; omega
        simp [hb, this]
theorem cutS_cut1 (s cur : List UInt8) : cutS cur s = (cur ++ (cut1 s).1) :: (if (cut1 s).2.2 then cutS [] (cut1 s).2.1 else []) := by
  induction s generalizing cur with
  | nil => simp [cutS, cut1]
  | cons c r ih =>
    rw [cutS, cut1]
    by_cases hc : c = 47
    · rw [if_pos hc, if_pos hc]; simp
    · rw [if_neg hc, if_neg hc, ih]; simp
theorem cut1_shorter (s : List UInt8) (h : (cut1 s).2.2 = true) : (cut1 s).2.1.length < s.length := by
  rcases cut1_index s with ⟨_, h2⟩ | ⟨i, hi, _, h2⟩
  · rw [h2] at h; cases h
  · rw [h2]; simp; omega
theorem cut1_le (s : List UInt8) : (cut1 s).1.length ≤ s.length ∧ (cut1 s).2.1.length ≤ s.length := by
  rcases cut1_index s with ⟨_, h2⟩ | ⟨i, hi, _, h2⟩
  · rw [h2]; simp
  · rw [h2]; simp; omega

set_option maxRecDepth 100000 in
set_option maxHeartbeats 1000000 in
theorem ib_any (w : World) (s : List UInt8) (c : Int) : Calls Try.prog 99 #[.string ⟨s.toArray⟩, .int .u8 c] w fun e w' => e = .returned (.int .i64 (Lib.indexByte s c.toNat.toUInt8)) ∧ w' = w := by
  go_enter Try.func99, Try.ntmps99
  go_wp2
  rw [run_callFunc_extern Try.func103 (by kernel_rfl) (by kernel_rfl) (by kernel_rfl) (e := Extern.BytealgIndexByte.indexByte) (by kernel_rfl), Lib.run_indexByteString]
  simp only [Result.andThen]
  rw [Oper.upon_value]
  go_wp2
  go_ret
  exact ⟨rfl, rfl⟩

set_option maxRecDepth 100000 in
set_option maxHeartbeats 1000000 in
theorem idx_any (w : World) (s : List UInt8) : Calls Try.prog 98 #[.string ⟨s.toArray⟩, .string ⟨#[47]⟩] w fun e w' => e = .returned (.int .i64 (Lib.indexByte s 47)) ∧ w' = w := by
  have HI := hid (ib_any w s 47)
  by_cases h : s = [47]
  · subst h
    go_enter Try.func98, Try.ntmps98
    go_wp2_with fail
    go_ret
    exact ⟨rfl, rfl⟩
  · have h' : (([47] : List UInt8) == s) = false := by simpa using fun e => h e.symm
    clear h
    go_enter Try.func98, Try.ntmps98
    go_wp2_with fail
    refine HI.out.mono ?_
    rintro e w1 ⟨rfl, rfl⟩
    go_wp2_with fail
    go_ret
    exact ⟨rfl, rfl⟩

def cutV (x : List UInt8 × List UInt8 × Bool) : Value := .tuple #[.string ⟨x.1.toArray⟩, .string ⟨x.2.1.toArray⟩, .bool x.2.2]
set_option maxRecDepth 100000 in
set_option maxHeartbeats 1000000 in
theorem cutl_any (w : World) (s : List UInt8) (hs : s.length ≤ 140737488355328) : Calls Try.prog 97 #[.string ⟨s.toArray⟩, .string ⟨#[47]⟩] w fun e w' => e = .returned (cutV (cut1 s)) ∧ ∃ n, w' = w.drewN n := by
  have HI := hid (idx_any w s)
  rcases cut1_index s with ⟨h1, h2⟩ | ⟨i, hi, h1, h2⟩
  · rw [h1] at HI
    have H2 := hid h2
    clear h1 h2
    go_enter Try.func97, Try.ntmps97
    go_wp2_with fail
    refine HI.out.mono ?_
    rintro e w1 ⟨rfl, rfl⟩
    go_wp2_with fail
    exact bodyPost_ret (v := cutV (s, [], false)) (by simp [results, Try.results97, go_sem, cutV]) rfl ⟨by rw [H2.out], 0, rfl⟩
  · rw [h1] at HI
    have H2 := hid h2
    have hi0 : (0 : Int) ≤ (i : Int) := Int.natCast_nonneg _
    have hi1 : (i : Int) < (s.length : Int) := by omega
    have HX1 := hid (ext_sub s 0 i)
    have HX2 := hid (ext_sub s (i + 1) s.length)
    clear h1 h2
    go_enter Try.func97, Try.ntmps97
    go_wp2_with fail
    refine HI.out.mono ?_
    rintro e w1 ⟨rfl, rfl⟩
    go_wp2_with fail
    go_quiet (fail)
    go_wp2_with fail
    refine bodyPost_ret (v := cutV (s.take i, s.drop (i + 1), true)) ?_ rfl ⟨by rw [H2.out], nq, rfl⟩
    rw [HX1.out, HX2.out, sub_all]
    simp [results, Try.results97, go_sem, cutV, sub]

set_option maxRecDepth 100000 in
set_option maxHeartbeats 1000000 in
theorem cut_any (w : World) (s : List UInt8) (hs : s.length ≤ 140737488355328) : Calls Try.prog 96 #[.string ⟨s.toArray⟩, .string ⟨#[47]⟩] w fun e w' => e = .returned (cutV (cut1 s)) ∧ ∃ n, w' = w.drewN n := by
  have HI := hid (cutl_any w s hs)
  go_enter Try.func96, Try.ntmps96
  go_wp2_with fail
  refine HI.out.mono ?_
  rintro e w1 ⟨rfl, n, rfl⟩
  unfold cutV
  go_wp2_with fail
  exact bodyPost_ret (v := cutV (cut1 s)) (by simp [results, Try.results96, go_sem, cutV]) rfl ⟨rfl, n, rfl⟩

def hasSl (s : List UInt8) : Bool := s.head? == some 47
set_option maxRecDepth 100000 in
set_option maxHeartbeats 1000000 in
theorem hasp_any (w : World) (s : List UInt8) : Calls Try.prog 91 #[.string ⟨s.toArray⟩, .string ⟨#[47]⟩] w fun e w' => e = .returned (.bool (hasSl s)) ∧ w' = w := by
  cases s with
  | nil =>
    go_enter Try.func91, Try.ntmps91
    go_wp2
    go_ret
    exact ⟨rfl, rfl⟩
  | cons c r =>
    have hl : (1 : Int) ≤ (((c :: r).length : Nat) : Int) := by simp; omega
    have HX := hid (ext_sub (c :: r) 0 1)
    have HE : Hid ((sub (c :: r) 0 1 == [47]) = hasSl (c :: r)) := by
      unfold Hid sub hasSl
      rw [Bool.eq_iff_iff]
      simp
    generalize (c :: r) = t at *
    go_enter Try.func91, Try.ntmps91
    go_wp2
    go_ret
    rw [HX.out]
    exact ⟨congrArg (fun x => Ending.returned (.bool x)) (by rw [ByteArray.toList_mk]; exact HE.out), rfl⟩

set_option maxRecDepth 100000 in
set_option maxHeartbeats 1000000 in
theorem cutp_any (w : World) (s : List UInt8) : Calls Try.prog 94 #[.string ⟨s.toArray⟩, .string ⟨#[47]⟩] w fun e w' => e = .returned (.tuple #[.string ⟨(if hasSl s then s.drop 1 else s).toArray⟩, .bool (hasSl s)]) ∧ w' = w := by
  have HI := hid (hasp_any w s)
  cases hb : hasSl s with
  | false =>
    rw [hb] at HI
    go_enter Try.func94, Try.ntmps94
    go_wp2_with fail
    refine HI.out.mono ?_
    rintro e w1 ⟨rfl, rfl⟩
    go_wp2_with fail
    go_ret2
    exact ⟨rfl, rfl⟩
  | true =>
    rw [hb] at HI
    have h1 : (1 : Int) ≤ ((s.length : Nat) : Int) := by
      cases s with
      | nil => cases hb
      | cons c r => simp; omega
    have HX := hid (ext_sub s 1 s.length)
    go_enter Try.func94, Try.ntmps94
    go_wp2_with fail
    refine HI.out.mono ?_
    rintro e w1 ⟨rfl, rfl⟩
    go_wp2_with fail
    go_ret2
    refine ⟨?_, rfl⟩
    rw [HX.out, sub_all, List.drop_one]
    rfl

set_option maxRecDepth 100000 in
set_option maxHeartbeats 1000000 in
theorem cutpre_any (w : World) (s : List UInt8) : Calls Try.prog 89 #[.string ⟨s.toArray⟩, .string ⟨#[47]⟩] w fun e w' => e = .returned (.tuple #[.string ⟨(if hasSl s then s.drop 1 else s).toArray⟩, .bool (hasSl s)]) ∧ w' = w := by
  have HI := hid (cutp_any w s)
  go_enter Try.func89, Try.ntmps89
  generalize (if hasSl s then s.drop 1 else s) = t at *
  go_wp2_with fail
  refine HI.out.mono ?_
  rintro e w1 ⟨rfl, rfl⟩
  go_wp2_with fail
  go_ret2
  exact ⟨rfl, rfl⟩

end Go.Proofs.Ytangnoicnogddaa.Tr
/- The pieces of a path, one by one. -/
namespace Go.Proofs.Ytangnoicnogddaa.Tr
open Go.RowKit Go.Shelf

attribute [local go_sem] Oper.semAt_some

/-- How much is left to be cut. -/
def msr : Value → Value → Nat
  | .string r, .bool true => r.size + 1
  | _, _ => 0

set_option maxRecDepth 100000 in
set_option maxHeartbeats 2000000 in
theorem pieces1_in (n : Nat) (hn : 1 ≤ n) (l c1 : Nat) (s : List UInt8) (hs : s.length ≤ 140737488355328) (J Jx : List (List UInt8) → World → Prop) (hJd : ∀ p W n, J p W → J p (W.drewN n))
    (hY : ∀ pre x W, J pre W → pre.length < (cutS [] s).length → YieldAt Fence.wide (n - 1) Try.prog l #[.string ⟨x.toArray⟩] W fun e W' =>
      (e = .returned (.bool true) ∧ J (pre ++ [x]) W' ∧ True) ∨ (e = .returned (.bool false) ∧ Jx (pre ++ [x]) W'))
    (W : World) (hc1 : Blk W c1 9 [.string ⟨s.toArray⟩]) (h0 : J [] W) :
    CallsIn Fence.wide n Try.prog 95 #[.func (.yield l) #[] #[], .pointer (some ⟨c1, 0, none⟩)] W fun e W' => (∃ v, e = .returned v) ∧
      ((∃ ys, ys = cutS [] s ∧ J ys W') ∨ (∃ pre, (pre <+: cutS [] s) ∧ Jx pre W')) := by
  refine callsIn_of_wp Try.func95 rfl trivial ?_ rfl
  simp only [Try.ntmps95, List.size_toArray, List.length_cons, List.length_nil, Nat.reduceAdd, Nat.reduceSub, Array.replicate_succ, Array.replicate_zero, List.push_toArray, List.append_toArray, List.nil_append, List.cons_append]
  have d1 := hc1.cell 0
  simp only [List.getElem?_cons_zero] at d1
  have hf47 : Fence.wide.fn 96 := trivial
  have HCu := hid (cut_any W s hs)
  have HC0 := hid (cutS_cut1 s [])
  have HL0 := hid (Nat.le_trans (cut1_le s).2 hs)
  unfold cutV at HCu
  generalize cut1 s = c at *
  obtain ⟨p0, r0, m0⟩ := c
  gi_wp2_with fail
  refine (callsIn_wide.2 HCu.out).mono ?_
  rintro e w1 ⟨rfl, nd, rfl⟩
  have HJ1 := hid (hJd [] W nd h0)
  clear HCu h0 d1 hc1
  gi_wp2_with fail
  gi_loopw [3, 4, 5] (fun pv rv mv wr => ∃ (pre : List (List UInt8)) (p r : List UInt8) (m : Bool), pv = .string ⟨p.toArray⟩ ∧ rv = .string ⟨r.toArray⟩ ∧ mv = .bool m ∧ r.length ≤ 140737488355328 ∧ J pre wr ∧ cutS [] s = pre ++ p :: (if m then cutS [] r else [])) (fun _ rv mv _ => msr rv mv)
  case atStart => exact ⟨[], p0, r0, m0, rfl, rfl, rfl, HL0.out, HJ1.out, by simpa using HC0.out⟩
  case round =>
    obtain ⟨pre, p, r, m, rfl, rfl, rfl, hrl, hJ, hcs⟩ := hrel
    have hlt : pre.length < (cutS [] s).length := by rw [hcs]; simp
    obtain ⟨fn, tmps, assign, body, hy, hR⟩ := hY pre p wr hJ hlt
    have HR := hid hR
    have HCs := hid hcs
    clear hR hY hJ hcs hlt HJ1
    cases m with
    | false =>
      gi_wp2_with fail
      refine HR.out.mono ?_
      rintro e W3 (⟨rfl, hJ3, _⟩ | ⟨rfl, hJx3⟩)
      · have HJ3 := hid hJ3
        clear hJ3 HR hy
        gi_wp2
        go_end0
        exact ⟨⟨_, rfl⟩, .inl ⟨_, by rw [HCs.out]; simp, HJ3.out⟩⟩
      · have HJ3 := hid hJx3
        clear hJx3 HR hy
        gi_wp2
        go_end0
        exact ⟨⟨_, rfl⟩, .inr ⟨_, by rw [HCs.out]; simp, HJ3.out⟩⟩
    | true =>
      gi_wp2_with fail
      refine HR.out.mono ?_
      rintro e W3 (⟨rfl, hJ3, _⟩ | ⟨rfl, hJx3⟩)
      · have HJ3 := hid hJ3
        have HCu := hid (cut_any W3 r hrl)
        have HC1 := hid (cutS_cut1 r [])
        have HL1 := hid (Nat.le_trans (cut1_le r).2 hrl)
        have HSh := hid (cut1_shorter r)
        unfold cutV at HCu
        clear hJ3 HR hy
        generalize cut1 r = c at *
        obtain ⟨p1, r1, m1⟩ := c
        gi_wp2_with fail
        refine (callsIn_wide.2 HCu.out).mono ?_
        rintro e w4 ⟨rfl, nd2, rfl⟩
        clear HCu
        gi_wp2
        refine ⟨⟨pre ++ [p], p1, r1, m1, rfl, rfl, rfl, HL1.out, hJd _ _ _ HJ3.out, ?_⟩, ?_⟩
        · have h1 := HCs.out
          have h2 := HC1.out
          simp only [if_true] at h1
          rw [h1, h2]
          simp
        · cases m1 with
          | false => simp [msr]
          | true =>
            have := HSh.out rfl
            simp [msr, ByteArray.size]; omega
      · have HJ3 := hid hJx3
        clear hJx3 HR hy
        gi_wp2
        go_end0
        exact ⟨⟨_, rfl⟩, .inr ⟨_, by rw [HCs.out]; simp, HJ3.out⟩⟩

theorem pieces_stops (n : Nat) (hn : 1 ≤ n) (c1 : Nat) (s : List UInt8) (hs : s.length ≤ 140737488355328) (w : World) (hc1 : Blk w c1 9 [.string ⟨s.toArray⟩]) :
    SeqStopsK Fence.wide n Try.prog 95 #[.pointer (some ⟨c1, 0, none⟩)] (fun x : List UInt8 => #[.string ⟨x.toArray⟩]) (fun _ _ => True) (fun ys => ys = cutS [] s) (fun pre => pre <+: cutS [] s) (cutS [] s).length w := fun l J Jx W hW hJ _ hY h0 => by
  have e1 : W.heap[c1]? = w.heap[c1]? := by
    obtain ⟨_, _, _, _, a5⟩ := hW
    exact a5 c1 hc1.lt
  exact pieces1_in n hn l c1 s hs J Jx (fun p W1 k h => hJ p W1 (W1.drewN k) none h ⟨rfl, rfl, rfl, Nat.le_refl _, fun _ _ _ => rfl⟩ (fun r e => by cases e)) hY W (hc1.of_eq e1) h0

set_option maxHeartbeats 1000000 in
theorem pieces_any (w : World) (s : List UInt8) :
    Calls Try.prog 90 #[.string ⟨s.toArray⟩] w fun e w' => e = .returned (.func (.func 95) #[] #[.pointer (some ⟨w.heap.size, 0, none⟩)]) ∧ w' = w.alloc (.cells #[.string ⟨s.toArray⟩] 9) := by
  go_enter Try.func90, Try.ntmps90
  go_wp2
  go_ret
  exact ⟨rfl, rfl⟩

end Go.Proofs.Ytangnoicnogddaa.Tr
/- The contract of the program's Path. -/
namespace Go.Proofs.Ytangnoicnogddaa.Tr
open Go.RowKit Go.Shelf

attribute [local go_sem] Oper.semAt_some

/-- A path's names, and whether it is one (the program's Path). -/
def dpath (l : List UInt8) : List (List UInt8) × Bool := if (pathN l).2 then pathN l else ([], false)
theorem dpath_2 (l : List UInt8) : (dpath l).2 = (pathN l).2 := by unfold dpath; split <;> simp_all
theorem dpath_no (l : List UInt8) (h : (pathN l).2 = false) : dpath l = ([], false) := by unfold dpath; rw [h]; rfl
theorem dpath_yes (l : List UInt8) (h : (pathN l).2 = true) : dpath l = pathN l := by unfold dpath; rw [h]; rfl

theorem results2 {fn : Func} {t1 t2 : Tmp} (h : fn.results = #[.cell t1 30, .cell t2 4]) {tmps : Array Value} {W : World} {b1 b2 : Nat} {v1 v2 : Value} {x1 x2 : TypeId} (ha : tmps.getD t1 undef = .pointer (some ⟨b1, 0, none⟩)) (ha2 : tmps.getD t2 undef = .pointer (some ⟨b2, 0, none⟩)) (hb : Blk W b1 x1 [v1]) (hb2 : Blk W b2 x2 [v2]) :
    (results fn tmps).run Try.prog W = .ok (.tuple #[v1, v2]) W := by
  have ha' : tmps[t1]?.getD undef = .pointer (some ⟨b1, 0, none⟩) := by simpa using ha
  have ha2' : tmps[t2]?.getD undef = .pointer (some ⟨b2, 0, none⟩) := by simpa using ha2
  have hc := hb.cell 0
  have hc2 := hb2.cell 0
  simp only [List.getElem?_cons_zero] at hc hc2
  have hu := Try.underlying30
  have hu2 := Try.underlying4
  simp [results, h, ha', ha2', asAddr, loadVar, isAgg, run_underlying hu, run_underlying hu2, go_sem, hc, hc2]

theorem heap_putObj_ne {W : World} {r k : Nat} {o : Obj} (h : k ≠ r) : (W.putObj r o).heap[k]? = W.heap[k]? := by
  have hg := grownBy_putObj' W r o
  rcases Nat.lt_or_ge k W.heap.size with hk | hk
  · exact hg.block k hk (fun e => h (by simpa using e))
  · have hs : (W.putObj r o).heap.size = W.heap.size := by simp [World.putObj]
    rw [Array.getElem?_eq_none hk, Array.getElem?_eq_none (by omega)]
theorem Blk.turned {w w' : World} {b : Nat} {t : TypeId} {xs : List Value} {row : Option Nat} (h : Blk w b t xs) (hg : w.grownBy w' row) (hr : ∀ r, row = some r → ∃ o : Obj, w.heap[r]? = some o ∧ o.isCells = false) : Blk w' b t xs :=
  h.of_eq (hg.block b h.lt (fun e => by
    obtain ⟨o, ho, hc⟩ := hr b e.symm
    have h' : w.heap[b]? = some (.cells xs.toArray t (0, 0)) := h
    rw [h'] at ho
    cases ho
    cases hc))
theorem owns_turned {w w' : World} {B : Nat} {e : TypeId} {s : Nat} {v : Value} {n : Nat} {xs : List Value} {row : Option Nat} (h : w.ownsRow B e s v n xs) (hg : w.grownBy w' row) (hr : ∀ r, row = some r → ∃ o : Obj, w.heap[r]? = some o ∧ o.isCells = false) : w'.ownsRow B e s v n xs := by
  refine owns_of_eq h (fun k hk => hg.block k (h.lt k hk).2 (fun e => ?_))
  obtain ⟨o, ho, hc⟩ := hr k e.symm
  rcases h.2 with ⟨h0, _⟩ | ⟨g, cap, cur, hv, _, hg', _⟩
  · rw [h0] at hk; cases hk
  · rw [hv] at hk
    obtain rfl : g = k := by simpa [Value.ownBlock] using hk
    rw [hg'] at ho
    cases ho
    cases hc

theorem owns_base {w : World} {B B' : Nat} {e : TypeId} {s : Nat} {v : Value} {n : Nat} {xs : List Value} (h : w.ownsRow B e s v n xs) (hb : B' ≤ B) : w.ownsRow B' e s v n xs :=
  ⟨h.1, h.2.imp id (fun ⟨g, cap, cur, h1, h2, h3⟩ => ⟨g, cap, cur, h1, Nat.le_trans hb h2, h3⟩)⟩
/-- In mid-way: the names of pre are taken in. -/
structure PMid (w W : World) (pre : List (List UInt8)) : Prop where
  b1 : Blk W w.heap.size 30 [.slice none 0 0]
  b2 : Blk W (w.heap.size + 1) 4 [.bool false]
  v : ∃ v, Blk W (w.heap.size + 2) 30 [v] ∧ W.ownsRow (w.heap.size + 4) 9 1 v pre.length (strs pre)
  nm : pre.all nameB = true
  few : pre.length ≤ 16
  fr : Fr (fun _ => False) w W
  sz : w.heap.size + 4 ≤ W.heap.size
theorem PMid.turned {w W W' : World} {pre : List (List UInt8)} {row : Option Nat} (h : PMid w W pre) (hg : W.grownBy W' row) (hr : ∀ r, row = some r → w.heap.size + 4 ≤ r ∧ ∃ o : Obj, W.heap[r]? = some o ∧ o.isCells = false) : PMid w W' pre :=
  ⟨Blk.turned h.b1 hg (fun r e => (hr r e).2), Blk.turned h.b2 hg (fun r e => (hr r e).2), by
    obtain ⟨v, hb, ho⟩ := h.v
    exact ⟨v, Blk.turned hb hg (fun r e => (hr r e).2), owns_turned ho hg (fun r e => (hr r e).2)⟩, h.nm, h.few, h.fr.grown hg (fun k e => .inr (by have := (hr k e).1; omega)), Nat.le_trans h.sz hg.size⟩

/-- A round has left: what has come shows that there is no path. -/
structure PEnd (w W : World) (pre : List (List UInt8)) : Prop where
  b1 : Blk W w.heap.size 30 [.slice none 0 0]
  b2 : Blk W (w.heap.size + 1) 4 [.bool false]
  bad : pre.all nameB = false ∨ 16 < pre.length
  fr : Fr (fun _ => False) w W
theorem PEnd.turned {w W W' : World} {pre : List (List UInt8)} {row : Option Nat} (h : PEnd w W pre) (hg : W.grownBy W' row) (hr : ∀ r, row = some r → w.heap.size + 4 ≤ r ∧ ∃ o : Obj, W.heap[r]? = some o ∧ o.isCells = false) : PEnd w W' pre :=
  ⟨Blk.turned h.b1 hg (fun r e => (hr r e).2), Blk.turned h.b2 hg (fun r e => (hr r e).2), h.bad, h.fr.grown hg (fun k e => .inr (by have := (hr k e).1; omega))⟩
theorem PMid.ends {w W : World} {pre : List (List UInt8)} (h : PMid w W pre) (x : List UInt8) (hx : nameB x = false ∨ pre.length = 16) : PEnd w ((W.setCell ⟨w.heap.size, 0, none⟩ (.slice none 0 0)).setCell ⟨w.heap.size + 1, 0, none⟩ (.bool false)) (pre ++ [x]) :=
  ⟨(h.b1.setCell 0 _).setCell_ne (by simp) _, (h.b2.setCell_ne (by simp) _).setCell 0 _, hx.imp (fun e => by rw [List.all_append, List.all_cons, e]; simp) (fun e => by simp [e]), (h.fr.setCell (.inr (Nat.le_refl _)) _).setCell (.inr (by simp)) _⟩
theorem PMid.next {w W W1 : World} {pre : List (List UInt8)} {v v' : Value} (h : PMid w W pre) (x : List UInt8) (hx : nameB x = true) (hl : pre.length ≠ 16) (hv : Blk W (w.heap.size + 2) 30 [v]) (ho : W.ownsRow (w.heap.size + 4) 9 1 v pre.length (strs pre))
    (hown : W1.ownsRow (w.heap.size + 4) 9 1 v' (pre.length + 1) (strs pre ++ [.string ⟨x.toArray⟩])) (hg : (W.alloc (.cells #[.string ⟨x.toArray⟩] 9)).grownBy W1 v.ownBlock) :
    Blk W1 (w.heap.size + 2) 30 [v] ∧ PMid w (W1.setCell ⟨w.heap.size + 2, 0, none⟩ v') (pre ++ [x]) ∧ KeepsFrom (w.heap.size + 4) W (W1.setCell ⟨w.heap.size + 2, 0, none⟩ v') := by
  have hrow : ∀ k, v.ownBlock = some k → w.heap.size + 4 ≤ k := fun k hk => (ho.lt k hk).1
  have keep : ∀ {b t xs}, b < w.heap.size + 4 → Blk W b t xs → Blk W1 b t xs := fun hb hB => (hB.alloc _).of_eq (hg.block _ (hB.alloc _).lt (fun e => by have := hrow _ e.symm; omega))
  have h2 := keep (by omega) hv
  have hsz := hg.size
  have hsz0 := h.sz
  simp at hsz
  have h3 : W1.ownsRow (w.heap.size + 4) 9 1 v' (pre ++ [x]).length (strs (pre ++ [x])) := by rw [strs_app]; simpa [strs] using hown
  have hne : ∀ k, v'.ownBlock = some k → k ≠ w.heap.size + 2 := fun k hk => by have := (h3.lt k hk).1; omega
  refine ⟨h2, ⟨(keep (by omega) h.b1).setCell_ne (by simp) _, (keep (by omega) h.b2).setCell_ne (by simp) _, ⟨v', h2.setCell 0 _, owns_of_eq h3 (fun k hk => Below.heap_setCell W1 _ _ k (hne k hk))⟩, by rw [List.all_append, h.nm, List.all_cons, hx]; rfl, by have := h.few; simp; omega, ?_, by simp [World.setCell]; omega⟩, ?_⟩
  · exact ((h.fr.alloc _).grown hg (fun k e => .inr (by have := hrow k e; omega))).setCell (.inr (by simp)) _
  · refine ⟨by simp [World.setCell]; omega, fun k o hB hk hc => ?_⟩
    rw [Below.heap_setCell W1 _ _ k (by simp; omega)]
    have hlt := (Array.getElem?_eq_some_iff.1 hk).1
    rw [hg.block k (by simp; omega) (fun e => ?_), Below.heap_alloc W _ k hlt, hk]
    rcases ho.2 with ⟨h0, _⟩ | ⟨g, cap, cur, hv', _, hg', _⟩
    · rw [h0] at e; cases e
    · rw [hv'] at e
      obtain rfl : k = g := by simpa [Value.ownBlock] using e
      rw [hg'] at hk
      cases hk
      cases hc

set_option maxRecDepth 100000 in
set_option maxHeartbeats 2000000 in
theorem path_any (w : World) (l : List UInt8) : Calls Try.prog 80 #[.string ⟨l.toArray⟩] w (PathPost w (dpath l)) := by
  have HPost : Hid (∀ v w', w'.ownsRow w.heap.size 9 1 v (dpath l).1.length (strs (dpath l).1) → Fr (fun _ => False) w w' → PathPost w (dpath l) (.returned (.tuple #[v, .bool (dpath l).2])) w') := fun v w' a b => ⟨v, rfl, a, b⟩
  have HB1 : Hid (Blk ((w.alloc (.cells #[.slice none 0 0] 30)).alloc (.cells #[.bool false] 4)) w.heap.size 30 [.slice none 0 0]) := (Blk.new w 30 [.slice none 0 0]).alloc _
  have HB2 : Hid (Blk ((w.alloc (.cells #[.slice none 0 0] 30)).alloc (.cells #[.bool false] 4)) (w.heap.size + 1) 4 [.bool false]) := by
    have := Blk.new (w.alloc (.cells #[.slice none 0 0] 30)) 4 [.bool false]
    rw [World.size_alloc] at this
    exact this
  have HF : Hid (Fr (fun _ => False) w ((w.alloc (.cells #[.slice none 0 0] 30)).alloc (.cells #[.bool false] 4))) := ((Fr.refl _ w).alloc _).alloc _
  have HCp := hid (cutpre_any ((w.alloc (.cells #[.slice none 0 0] 30)).alloc (.cells #[.bool false] 4)) l)
  generalize hW1 : (w.alloc (.cells #[.slice none 0 0] 30)).alloc (.cells #[.bool false] 4) = W1 at *
  have hs1 : W1.heap.size = w.heap.size + 2 := by rw [← hW1]; simp
  refine (callsIn_wide (n := 10)).1 ?_
  refine callsIn_of_wp_marks Try.func80 rfl trivial ?_ rfl
  simp only [Try.ntmps80, List.size_toArray, List.length_cons, List.length_nil, Nat.reduceAdd, Nat.reduceSub, Array.replicate_succ, Array.replicate_zero, List.push_toArray, List.append_toArray, List.nil_append, List.cons_append]
  refine wpIn_wide.2 ?_
  by_cases h1 : hasSl l = true
  · rw [h1] at HCp
    simp only [if_true] at HCp
    by_cases h2 : 200 < l.length
    · have h2' : (200 : Int) < (l.length : Int) := by omega
      have HD : Hid (dpath l = ([], false)) := dpath_no l (by rw [pathN_no l (fun e => by rw [e] at h2; simp at h2) (.inr (.inl h2))])
      have q0 := HB1.out.cell 0
      have z0 := HB1.out.frozen 0
      have q1 := HB2.out.cell 0
      have z1 := HB2.out.frozen 0
      simp only [List.getElem?_cons_zero] at q0 q1
      generalize l.drop 1 = rest at *
      go_wp2_with fail
      refine HCp.out.mono ?_
      rintro e w2 ⟨rfl, rfl⟩
      go_wp2
      refine ⟨_, results2 rfl rfl rfl ((HB1.out.setCell 0 _).setCell_ne (by simp) _) ((HB2.out.setCell_ne (by simp) _).setCell 0 _), ?_⟩
      rw [HD.out]
      exact ⟨_, rfl, ownsRow_none _ _ _ _, (HF.out.setCell (.inr (Nat.le_refl _)) _).setCell (.inr (by simp)) _⟩
    · have h2' : ¬ (200 : Int) < (l.length : Int) := by omega
      by_cases h3 : l.drop 1 = []
      · have hl : l = [47] := by
          cases l with
          | nil => cases h1
          | cons c r =>
            simp [hasSl] at h1
            simp at h3
            rw [h1, h3]
        have HD : Hid (dpath l = ([], true)) := by unfold Hid; rw [hl]; rfl
        have q0 := HB1.out.cell 0
        have z0 := HB1.out.frozen 0
        have q1 := HB2.out.cell 0
        have z1 := HB2.out.frozen 0
        simp only [List.getElem?_cons_zero] at q0 q1
        rw [h3] at HCp
        clear hl h3
        go_wp2_with fail
        refine HCp.out.mono ?_
        rintro e w2 ⟨rfl, rfl⟩
        go_wp2
        refine ⟨_, results2 rfl rfl rfl ((HB1.out.setCell 0 _).setCell_ne (by simp) _) ((HB2.out.setCell_ne (by simp) _).setCell 0 _), ?_⟩
        rw [HD.out]
        exact ⟨_, rfl, ownsRow_none _ _ _ _, (HF.out.setCell (.inr (Nat.le_refl _)) _).setCell (.inr (by simp)) _⟩
      · have h3' : ((l.drop 1) == []) = false := by simpa using h3
        have hrl : (l.drop 1).length ≤ 140737488355328 := by simp; omega
        have hne : l ≠ [47] := fun e => h3 (by rw [e]; rfl)
        have hok : ¬ (l.length = 0 ∨ 200 < l.length ∨ l.head? ≠ some 47) := by
          rintro (h | h | h)
          · exact h3 (by rw [List.length_eq_zero_iff.1 h]; rfl)
          · exact h2 h
          · exact h (by simpa [hasSl] using h1)
        have HBad := hid (fun hn => dpath_no l (by rw [pathN_bad l hne hok hn]))
        have HLong : Hid (16 < (cutS [] (l.drop 1)).length → dpath l = ([], false)) := fun hn => by
          cases hb : (cutS [] (l.drop 1)).all nameB with
          | false => exact HBad.out hb
          | true => exact dpath_no l (by rw [pathN_ok l hne hok hb]; exact decide_eq_false (by omega))
        have HGood : Hid ((cutS [] (l.drop 1)).all nameB = true → (cutS [] (l.drop 1)).length ≤ 16 → dpath l = (cutS [] (l.drop 1), true)) := fun hb hn => by
          rw [dpath_yes l (by rw [pathN_ok l hne hok hb]; exact decide_eq_true hn), pathN_ok l hne hok hb, decide_eq_true hn]
        clear hne hok
        generalize l.drop 1 = rest at *
        have HPc := hid (pieces_any (W1.alloc (.cells #[.slice none 0 0] 30)) rest)
        clear h3
        go_wp2_with fail
        refine HCp.out.mono ?_
        rintro e w2 ⟨rfl, rfl⟩
        go_wp2_with fail
        refine HPc.out.mono ?_
        rintro e w3 ⟨rfl, rfl⟩
        go_wp2_with fail
        have HBx : Hid (Blk ((w2.alloc (.cells #[.slice none 0 0] 30)).alloc (.cells #[.string ⟨rest.toArray⟩] 9)) (w.heap.size + 2 + 1) 9 [.string ⟨rest.toArray⟩]) := by
          have := Blk.new (w2.alloc (.cells #[.slice none 0 0] 30)) 9 [.string ⟨rest.toArray⟩]
          rw [World.size_alloc, hs1] at this
          exact this
        have HB3 : Hid (Blk ((w2.alloc (.cells #[.slice none 0 0] 30)).alloc (.cells #[.string ⟨rest.toArray⟩] 9)) (w.heap.size + 2) 30 [.slice none 0 0]) := by
          have := (Blk.new w2 30 [.slice none 0 0]).alloc (.cells #[.string ⟨rest.toArray⟩] 9)
          rw [hs1] at this
          exact this
        have hsz3 : ((w2.alloc (.cells #[.slice none 0 0] 30)).alloc (.cells #[.string ⟨rest.toArray⟩] 9)).heap.size = w.heap.size + 4 := by simp [hs1]
        have HI0 : Hid (PMid w ((w2.alloc (.cells #[.slice none 0 0] 30)).alloc (.cells #[.string ⟨rest.toArray⟩] 9)) []) :=
          ⟨(HB1.out.alloc _).alloc _, (HB2.out.alloc _).alloc _, ⟨_, HB3.out, ownsRow_none _ _ _ _⟩, rfl, by simp, (HF.out.alloc _).alloc _, by omega⟩
        clear HCp HPc HB1 HB2 HF HB3 hW1 hs1
        generalize (w2.alloc (.cells #[.slice none 0 0] 30)).alloc (.cells #[.string ⟨rest.toArray⟩] 9) = W3 at *
        refine (wpIn_wide (n := 10)).1 ?_
        refine wpIn_rangeFunc_ownG (F := Fence.wide) (n := 10) rfl (by omega) (gf := 95) (lb := #[.pointer (some ⟨w.heap.size + 2 + 1, 0, none⟩)]) rfl trivial (enters_of Try.func95 (by kernel_rfl) rfl)
          (pieces_stops 9 (by omega) (w.heap.size + 2 + 1) rest hrl W3 HBx.out) (fun _ _ => trivial) (fun _ _ _ _ _ _ _ _ => trivial) (Below.refl _ _) (fun _ => rfl)
          (fun pre W => PMid w W pre) (fun c pre W => c = Code.ret ∧ PEnd w W pre)
          (fun pre A B row hs hg hr => hs.turned hg (fun r e => by have := hr r e; rwa [hsz3] at this)) (fun c pre A B row hs hg hr => ⟨hs.1, hs.2.turned hg (fun r e => by have := hr r e; rwa [hsz3] at this)⟩) HI0.out
          (fun x => { tmps := #[.string ⟨l.toArray⟩, undef, .pointer (some ⟨w.heap.size, 0, none⟩), .pointer (some ⟨w.heap.size + 1, 0, none⟩), .string ⟨rest.toArray⟩, .bool true, .pointer (some ⟨w.heap.size + 2, 0, none⟩), .string ⟨x.toArray⟩,
            .tuple #[.string ⟨rest.toArray⟩, .bool true], .string ⟨l.toArray⟩, .tuple #[.string ⟨rest.toArray⟩, .bool true], .string ⟨rest.toArray⟩, .bool true, .bool true, .bool false, .bool false, .string ⟨l.toArray⟩, .int .i64 (l.length : Int), .bool (decide ((200 : Int) < (l.length : Int))), .bool (decide ((200 : Int) < (l.length : Int))),
            .string ⟨rest.toArray⟩, .bool false, .string ⟨rest.toArray⟩, .func (.func 95) #[] #[.pointer (some ⟨w.heap.size + 2 + 1, 0, none⟩)], .string ⟨x.toArray⟩, undef, undef, undef, undef, undef, undef, undef, undef, undef, undef, undef, undef, undef], defers := [] }) ?assign ?body ?done ?stop
        case assign =>
          intro l' x W K hK
          gi_wp2
          exact hK
        case body =>
          intro l' pre x W hM hlt
          have HM := hid hM
          have HNa := hid (name_any W x)
          obtain ⟨v, hbv, hov⟩ := hM.v
          obtain ⟨va, vc, rfl⟩ := own_len hov
          have HBv := hid hbv
          have HOv := hid hov
          have hf7 : (Fence.wide.inRound l').fn 7 := trivial
          have q0 := hM.b1.cell 0
          have z0 := hM.b1.frozen 0
          have q1 := hM.b2.cell 0
          have z1 := hM.b2.frozen 0
          have q2 := hbv.cell 0
          have z2 := hbv.frozen 0
          simp only [List.getElem?_cons_zero] at q0 q1 q2
          clear hM hbv hov HI0
          cases hb : nameB x with
          | false =>
            have HE := hid (HM.out.ends x (.inl hb))
            rw [hb] at HNa
            gi_wp2_with fail
            refine ⟨trivial, ?_⟩
            refine (CallsIn.inRound l' (callsIn_wide.2 HNa.out)).mono ?_
            rintro e W4 ⟨rfl, rfl⟩
            gi_wp2
            exact ⟨((KeepsOthers.setCell _ _ _).from _).trans ((KeepsOthers.setCell _ _ _).from _), rfl, HE.out⟩
          | true =>
            rw [hb] at HNa
            by_cases h16 : pre.length = 16
            · have HE := hid (HM.out.ends x (.inr h16))
              have h16' : ((pre.length : Int) == 16) = true := by simp; omega
              gi_wp2_with fail
              refine ⟨trivial, ?_⟩
              refine (CallsIn.inRound l' (callsIn_wide.2 HNa.out)).mono ?_
              rintro e W4 ⟨rfl, rfl⟩
              gi_wp2
              exact ⟨((KeepsOthers.setCell _ _ _).from _).trans ((KeepsOthers.setCell _ _ _).from _), rfl, HE.out⟩
            · have h16' : ((pre.length : Int) == 16) = false := by simp; omega
              have HNx := hid (fun (W1 : World) (v' : Value) hown hg => PMid.next (W1 := W1) (v' := v') HM.out x hb h16 HBv.out HOv.out hown hg)
              obtain ⟨i0, hi0, hz0, hz1, hz2⟩ := info_parts info9
              have Hi0 := hid hi0
              have Hz0 := hid hz0
              have Hz1 := hid hz1
              have Hz2 := hid hz2
              have hfew := HM.out.few
              have hszW := HM.out.sz
              clear hi0 hz0 hz1 hz2
              gi_wp2_with fail
              refine ⟨trivial, ?_⟩
              refine (CallsIn.inRound l' (callsIn_wide.2 HNa.out)).mono ?_
              rintro e W4 ⟨rfl, rfl⟩
              gi_wp2_with (gi_at_builtin; refine wpListIn_append_own _ rfl _ _ 30 rfl (w.heap.size + 4) 9 i0 _ 1 16 Try.underlying30 Hi0.out Hz0.out Hz1.out Hz2.out rfl (by decide) _ pre.length (strs pre) rfl (HOv.out.alloc _) ⟨W4.heap.size, 0, none⟩ 1 1 [.string ⟨x.toArray⟩] rfl rfl (cell_one_new _ _ _) (by simp [Value.oneCell']) (by unfold maxLen; omega) (by omega) (by simp; omega) ?_; intro v' w5 hown' hgrow _; obtain ⟨g', cap', rfl⟩ := ownsRow_succ hown'; obtain ⟨hb5, hm5, hk5⟩ := HNx.out _ _ hown' hgrow; have HM5 := hid hm5; have HK5 := hid hk5; have q5 := hb5.cell 0; have z5 := hb5.frozen 0; simp only [List.getElem?_cons_zero] at q5; clear hown' hgrow hm5 hk5 hb5)
              exact ⟨by rw [hsz3]; exact HK5.out, trivial, HM5.out⟩
        case stop =>
          intro D' c pre W hD' hpre hM hK
          obtain ⟨rfl, hM⟩ := hM
          obtain ⟨suf, hsuf⟩ := hpre
          have HD : Hid (dpath l = ([], false)) := by
            rcases hM.bad with hb | hb
            · exact HBad.out (by rw [← hsuf, List.all_append, hb]; rfl)
            · exact HLong.out (by rw [← hsuf]; simp; omega)
          have HT := hid (hM.turned (grownBy_putObj' W D' (.deferred none)) (fun r e => by cases e; exact ⟨by omega, _, hK, rfl⟩))
          have HKd := hid hK
          clear hM hK HBad HLong HGood
          refine wpIn_wide.2 ?_
          go_wp2
          refine ⟨by simp, .inl ⟨_, _, rfl, run_takeDeferred HKd.out, ?_⟩⟩
          refine ⟨_, results2 rfl rfl rfl HT.out.b1 HT.out.b2, ?_⟩
          rw [HD.out]
          exact ⟨_, rfl, ownsRow_none _ _ _ _, HT.out.fr⟩
        case done =>
          intro D' ys W hD' hys hM hK
          subst hys
          have HD := hid (HGood.out hM.nm hM.few)
          have HM := hid hM
          obtain ⟨v, hbv, hov⟩ := hM.v
          obtain ⟨va, vc, rfl⟩ := own_len hov
          have q0 := hM.b1.cell 0
          have z0 := hM.b1.frozen 0
          have q1 := hM.b2.cell 0
          have z1 := hM.b2.frozen 0
          have q2 := hbv.cell 0
          simp only [List.getElem?_cons_zero] at q0 q1 q2
          have HOv := hid hov
          have HKd := hid hK
          clear hM hbv hov hK HBad HLong HGood HI0
          generalize cutS [] rest = cs at *
          go_wp2
          have hKd6 : ((W.setCell ⟨w.heap.size, 0, none⟩ (.slice va cs.length vc)).setCell ⟨w.heap.size + 1, 0, none⟩ (.bool true)).heap[D']? = some (.deferred (some [])) := by
            rw [Below.heap_setCell _ _ _ D' (by simp; omega), Below.heap_setCell _ _ _ D' (by simp; omega)]
            exact HKd.out
          have hne : ∀ k, (Value.slice va cs.length vc).ownBlock = some k → w.heap.size + 4 ≤ k ∧ k ≠ D' := fun k hk => by
            refine ⟨(HOv.out.lt k hk).1, fun e => ?_⟩
            subst e
            rcases HOv.out.2 with ⟨h0, _⟩ | ⟨g, cap, cur, hv', _, hg', _⟩
            · rw [h0] at hk; cases hk
            · rw [hv'] at hk
              obtain rfl : g = k := by simpa [Value.ownBlock] using hk
              rw [HKd.out] at hg'
              cases hg'
          refine ⟨by simp, .inl ⟨_, _, rfl, run_takeDeferred hKd6, ?_⟩⟩
          refine ⟨_, results2 rfl rfl rfl (((HM.out.b1.setCell 0 (.slice va cs.length vc)).setCell_ne (by simp) (.bool true)).of_eq (heap_putObj_ne (by omega))) (((HM.out.b2.setCell_ne (by simp) (.slice va cs.length vc)).setCell 0 (.bool true)).of_eq (heap_putObj_ne (by omega))), ?_⟩
          rw [HD.out]
          refine ⟨_, rfl, ?_, ?_⟩
          · refine owns_base (owns_of_eq HOv.out (fun k hk => ?_)) (by omega)
            have := hne k hk
            rw [heap_putObj_ne this.2, Below.heap_setCell _ _ _ k (by simp; omega), Below.heap_setCell _ _ _ k (by simp; omega)]
          · exact (((HM.out.fr.setCell (.inr (Nat.le_refl _)) _).setCell (.inr (by simp)) _)).grown (grownBy_putObj' _ D' _) (fun k e => .inr (by cases e; omega))
  · have h1' : hasSl l = false := by simpa using h1
    rw [h1'] at HCp
    have HD : Hid (dpath l = ([], false)) := dpath_no l (by rw [pathN_no l (fun e => by rw [e] at h1; exact h1 rfl) (.inr (.inr (fun e => h1 (by simp [hasSl, e]))))])
    have q0 := HB1.out.cell 0
    have z0 := HB1.out.frozen 0
    have q1 := HB2.out.cell 0
    have z1 := HB2.out.frozen 0
    simp only [List.getElem?_cons_zero] at q0 q1
    simp only [Bool.false_eq_true, if_false] at HCp
    clear h1 h1'
    go_wp2_with fail
    refine HCp.out.mono ?_
    rintro e w2 ⟨rfl, rfl⟩
    go_wp2
    refine ⟨_, results2 rfl rfl rfl ((HB1.out.setCell 0 _).setCell_ne (by simp) _) ((HB2.out.setCell_ne (by simp) _).setCell 0 _), ?_⟩
    rw [HD.out]
    exact ⟨_, rfl, ownsRow_none _ _ _ _, (HF.out.setCell (.inr (Nat.le_refl _)) _).setCell (.inr (by simp)) _⟩

end Go.Proofs.Ytangnoicnogddaa.Tr
