/- The contract of behind; rows of names; what putOver keeps. -/
import Derived.Test.YtlepjghfcpgbcaaGreatDoorMgp
import Derived.Test.YtlepjghfcpgbcaaGreatDoorCct
import Derived.Test.YtlepjghfcpgbcaaGreatDoorTll
import Derived.Test.YtlepjghfcpgbcaaGreatDoorRcl
namespace Go.Proofs.YtlepjghfcpgbcaaGreatDoor.Tr
open Go.RowKit

theorem bx_fr {w1 w2 : World} (f2 : Fr (· = w1.heap.size) (vBox w1 vZ) w2) : Fr (fun _ => False) w1 w2 :=
  ((vFr w1 vZ).trans f2 (fun i hi => .inr (by omega)))
/-- The place behind a name. -/
def bh (ns : List (List UInt8)) (i : Nat) (nm : List UInt8) : Nat := if ns[i]? = some nm then i + 1 else i

theorem Strs.at {w : World} {ad : Option Addr} {ns : List (List UInt8)} (h : Strs w ad ns) (i : Nat) (hi : i < ns.length) : ∃ b o, ad = some ⟨b, o, none⟩ ∧ w.cell? ⟨b, o + i, none⟩ = some (.string ⟨ns[i].toArray⟩) := by
  obtain ⟨b, o, e, hc⟩ := h (fun e => by rw [e] at hi; simp at hi)
  exact ⟨b, o, e, hc i hi⟩

set_option maxRecDepth 100000 in
set_option maxHeartbeats 1000000 in
theorem behind_any (w : World) (ad : Option Addr) (cap : Nat) (ns : List (List UInt8)) (i : Nat) (nm : List UInt8) (hs : Strs w ad ns) (hi : i ≤ ns.length) (hl : ns.length ≤ 256) : Calls Tryz.prog 95 #[.slice ad ns.length cap, .int .i64 (i : Int), .string ⟨nm.toArray⟩] w fun e w' => e = .returned (.int .i64 (bh ns i nm : Int)) ∧ w = w' := by
  unfold bh
  by_cases hlt : i < ns.length
  · have hlt' : (i : Int) < ((ns.length : Nat) : Int) := by omega
    obtain ⟨b, o, rfl, hc⟩ := hs.at i hlt
    clear hs
    rw [List.getElem?_eq_getElem hlt]
    generalize ns[i] = m at *
    by_cases hq : m = nm
    · subst hq
      rw [if_pos rfl]
      go_enter Tryz.func95, Tryz.ntmps95
      go_wp2_with fail
      go_ret
      exact ⟨rfl, rfl⟩
    · rw [if_neg (by simpa using hq)]
      have hq' : (m == nm) = false := by simpa using hq
      go_enter Tryz.func95, Tryz.ntmps95
      go_wp2_with fail
      go_ret
      exact ⟨rfl, rfl⟩
  · have hlt' : ¬ ((i : Int) < ((ns.length : Nat) : Int)) := by omega
    rw [List.getElem?_eq_none (by omega), if_neg (by simp)]
    clear hs
    go_enter Tryz.func95, Tryz.ntmps95
    go_wp2_with fail
    go_ret
    exact ⟨rfl, rfl⟩

/-- The cells of names. -/
def strC (ns : List (List UInt8)) : List Value := ns.map fun s => .string ⟨s.toArray⟩
theorem strC_one (ns : List (List UInt8)) : ∀ v ∈ strC ns, v.oneCell' = true := fun v hv => by
  obtain ⟨s, _, rfl⟩ := List.mem_map.1 hv
  rfl
theorem infoS : (Tryz.prog.info? 9).map (fun i => (i.zero, i.size, i.bytes)) = some (some (.string ⟨#[]⟩), 1, 16) := by kernel_rfl
theorem strs_own {w : World} {B n cap : Nat} {ad : Option Addr} {ns : List (List UInt8)} (h : w.ownsRow B 9 1 (.slice ad n cap) ns.length (strC ns)) : Strs w ad ns := fun hne => by
  rcases h.2 with ⟨h0, h1⟩ | ⟨g, c, cur, hv, hb, hg, hc, _, hs, ht⟩
  · exact absurd (List.eq_nil_of_length_eq_zero h1) hne
  · simp only [Value.slice.injEq] at hv
    refine ⟨g, 0, hv.1, fun i hi => ?_⟩
    rw [cell_of_row w g (0 + i) _ _ (0, 0) hg]
    have h2 : (strC ns)[i]? = some (.string ⟨ns[i].toArray⟩) := by unfold strC; rw [List.getElem?_map, List.getElem?_eq_getElem hi]; rfl
    rw [← ht, List.getElem?_take, if_pos (by omega)] at h2
    simpa using h2
/-- Rows of unlike kinds are not one row. -/
theorem own_apart {w : World} {B B' : Nat} {v v' : Value} {n n' z z' : Nat} {xs xs' : List Value} {e e' : TypeId} (h : w.ownsRow B e z v n xs) (h' : w.ownsRow B' e' z' v' n' xs') (he : e ≠ e') : ∀ k, v.ownBlock = some k → v'.ownBlock ≠ some k := fun k hk hk' => by
  rcases h.2 with ⟨h0, _⟩ | ⟨g, c, cur, hv, _, hg, _⟩
  · rw [h0] at hk; cases hk
  rcases h'.2 with ⟨h0, _⟩ | ⟨g', c', cur', hv', _, hg', _⟩
  · rw [h0] at hk'; cases hk'
  rw [hv] at hk
  rw [hv'] at hk'
  simp only [Value.ownBlock, Option.some.injEq] at hk hk'
  subst hk hk'
  rw [hg] at hg'
  simp only [Option.some.injEq, Obj.cells.injEq] at hg'
  exact he hg'.2.1
theorem own_lt {w : World} {B : Nat} {v : Value} {n z : Nat} {xs : List Value} {e : TypeId} (h : w.ownsRow B e z v n xs) : ∀ k, v.ownBlock = some k → B ≤ k ∧ k < w.heap.size := fun k hk => by
  rcases h.2 with ⟨h0, _⟩ | ⟨g, c, cur, hv, hb, hg, _⟩
  · rw [h0] at hk; cases hk
  rw [hv] at hk
  simp only [Value.ownBlock, Option.some.injEq] at hk
  subst hk
  refine ⟨hb, ?_⟩
  rcases Nat.lt_or_ge g w.heap.size with h | h
  · exact h
  · rw [Array.getElem?_eq_none h] at hg; cases hg

/-- Appending one name, at the operation. -/
theorem wp_app_name {o : Oper} {a : Act} {W : World} {K : Act → World → Prop} {Q : Exit → Act → World → Prop} (d s : Operand) (ho : o.op = .call { callee := .builtin .append, args := #[d, s], argTypes := #[23, 23] })
    (base : Nat) (v : Value) (ns : List (List UInt8)) (nm : List UInt8) (g cap : Nat) (hd : a.eval d = v) (hs : a.eval s = .slice (some ⟨g, 0, none⟩) 1 cap) (hown : W.ownsRow base 9 1 v ns.length (strC ns)) (hg : W.cell? ⟨g, 0, none⟩ = some (.string ⟨nm.toArray⟩)) (hb : base ≤ W.heap.size) (hl : ns.length ≤ 1000)
    (h : ∀ na nc W', W'.ownsRow base 9 1 (.slice na (ns.length + 1) nc) (ns ++ [nm]).length (strC (ns ++ [nm])) → W.grownBy W' v.ownBlock → K (a.put o.dst (.slice na (ns.length + 1) nc)) W') : o.wp Tryz.prog a W K Q := by
  obtain ⟨i0, hi0, hz0, hz1, hz2⟩ := info_parts infoS
  refine wp_append_lies W d s 23 ho base 9 i0 _ 1 16 Tryz.underlying23 hi0 hz0 hz1 hz2 rfl (by omega) v ns.length (strC ns) hd hown ⟨g, 0, none⟩ 1 cap [.string ⟨nm.toArray⟩] hs rfl (fun j u hu => by
    cases j with
    | zero => simp only [List.getElem?_cons_zero, Option.some.injEq] at hu; subst hu; rw [Addr.add_mid]; exact hg
    | succ j => simp at hu) (by simp [Value.oneCell']) (by omega) (by unfold maxLen; omega) (by omega) hb _ rfl ?_
  intro g' cap' W' h1 h2 _ _
  refine h _ _ W' ?_ h2
  rw [List.length_append]
  unfold strC
  rw [List.map_append]
  exact h1
/-- Appending one value, at the operation. -/
theorem wp_app_value {o : Oper} {a : Act} {W : World} {K : Act → World → Prop} {Q : Exit → Act → World → Prop} (d s : Operand) (ho : o.op = .call { callee := .builtin .append, args := #[d, s], argTypes := #[24, 24] })
    (base : Nat) (v : Value) (X : List Vv) (x : Vv) (g cap : Nat) (hd : a.eval d = v) (hs : a.eval s = .slice (some ⟨g, 0, none⟩) 1 cap) (hown : W.ownsRow base 26 6 v X.length (flatV X)) (hg : Blk W g 26 x.cs) (hb : base ≤ W.heap.size) (hl : X.length ≤ 1000)
    (h : ∀ ia ic W', W'.ownsRow base 26 6 (.slice ia (X.length + 1) ic) (X ++ [x]).length (flatV (X ++ [x])) → W.grownBy W' v.ownBlock → K (a.put o.dst (.slice ia (X.length + 1) ic)) W') : o.wp Tryz.prog a W K Q := by
  obtain ⟨i0, hi0, hz0, hz1, hz2⟩ := info_parts infoV
  refine wp_append_lies W d s 24 ho base 26 i0 _ 6 88 Tryz.underlying24 hi0 hz0 hz1 hz2 rfl (by omega) v X.length (flatV X) hd hown ⟨g, 0, none⟩ 1 cap x.cs hs rfl (fun j u hu => by rw [Addr.add_mid, Nat.zero_add, hg.cell]; exact hu) (vv_one x) (by omega) (by unfold maxLen; omega) (by omega) hb _ rfl ?_
  intro g' cap' W' h1 h2 _ _
  refine h _ _ W' ?_ h2
  rw [List.length_append, flatV_app]
  exact h1
end Go.Proofs.YtlepjghfcpgbcaaGreatDoor.Tr
