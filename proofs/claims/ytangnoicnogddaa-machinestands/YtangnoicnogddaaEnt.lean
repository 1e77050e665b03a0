/- Entries in memory; the contracts of mayPath, mayBe and of the document's 'one'. -/
import Derived.Test.YtangnoicnogddaaPth
import Derived.Test.YtangnoicnogddaaSAp
namespace Go.Proofs.Ytangnoicnogddaa.Tr
open Go.RowKit

/-- An entry's three values: the bytes lie at ad. -/
structure EntV (w : World) (x : Ent) (ad : Option Addr) (cap : Nat) : Prop where
  src : Src w ad x.data
  cap : x.data.length ≤ cap
  len : x.data.length ≤ 140737488351232
  path : x.path.length ≤ 140737488351232
  k0 : -9223372036854775808 ≤ x.kind
  k1 : x.kind ≤ 9223372036854775807
theorem EntV.fr {w w' : World} {x : Ent} {ad : Option Addr} {cap : Nat} (h : EntV w x ad cap) (f : Fr (fun _ => False) w w') : EntV w' x ad cap :=
  { h with src := h.src.fr f }
abbrev entV (x : Ent) (ad : Option Addr) (cap : Nat) : Value := .agg #[.string ⟨x.path.toArray⟩, .int .i64 x.kind, .slice ad x.data.length cap]

theorem str_cat (a b : List UInt8) : (ByteArray.mk a.toArray) ++ (ByteArray.mk b.toArray) = ⟨(a ++ b).toArray⟩ := by
  apply ByteArray.ext
  simp

/-- May an entry have this path? -/
def pathOk (p : List UInt8) : Bool := decide (p.length ≤ 120) && (pathN (47 :: p)).2 && decide (1 ≤ (pathN (47 :: p)).1.length) && decide ((pathN (47 :: p)).1.length ≤ 4)

set_option maxRecDepth 100000 in
set_option maxHeartbeats 1000000 in
theorem mayPath_any (w : World) (p : List UInt8) : Calls Try.prog 79 #[.string ⟨p.toArray⟩] w fun e w' => e = .returned (.bool (pathOk p)) ∧ Fr (fun _ => False) w w' := by
  by_cases h1 : 120 < p.length
  · have hn : Hid (pathOk p = false) := by unfold Hid pathOk; rw [decide_eq_false (by omega)]; rfl
    have h1' : (120 : Int) < (p.length : Int) := by omega
    go_enter Try.func79, Try.ntmps79
    go_wp2
    go_ret
    exact ⟨by rw [hn.out]; rfl, Fr.refl _ _⟩
  have h1' : ¬ (120 : Int) < (p.length : Int) := by omega
  have HP := hid (path_any w (47 :: p))
  have HO : Hid (pathOk p = ((dpath (47 :: p)).2 && decide (1 ≤ (dpath (47 :: p)).1.length) && decide ((dpath (47 :: p)).1.length ≤ 4))) := by
    unfold Hid pathOk
    rw [decide_eq_true (by omega), Bool.true_and]
    cases hb : (pathN (47 :: p)).2 with
    | true => rw [dpath_yes _ hb, hb]
    | false => rw [dpath_no _ hb]; rfl
  generalize pathOk p = r at *
  generalize dpath (47 :: p) = d at *
  obtain ⟨L, b⟩ := d
  go_enter Try.func79, Try.ntmps79
  go_wp2_with fail
  rw [str_cat [47] p]
  refine HP.out.mono ?_
  rintro e w1 ⟨v, rfl, hown, hF⟩
  have HF := hid hF
  obtain ⟨va, vc, rfl⟩ := own_len hown
  clear hown hF HP h1'
  simp only at *
  cases b with
  | false =>
    go_wp2
    go_ret
    exact ⟨by rw [HO.out]; rfl, HF.out⟩
  | true =>
    by_cases hl : 1 ≤ L.length
    · have hl' : ((L.length : Nat) : Int) ≥ 1 := by omega
      go_wp2
      all_goals
        go_ret
        refine ⟨?_, HF.out⟩
        rw [HO.out]
        simp [hl]
      all_goals omega
    · have hl' : ¬ ((L.length : Nat) : Int) ≥ 1 := by omega
      go_wp2
      go_ret
      exact ⟨by rw [HO.out]; simp [hl], HF.out⟩

theorem mayBe_oneB (x : Ent) : oneB x = (pathOk x.path && decide (x.data.length ≤ 2048) && (if x.kind = 3 then (pathN x.data).2 else decide (x.kind = 1))) := by
  unfold oneB pathOk
  cases decide (x.path.length ≤ 120) <;> cases decide (x.data.length ≤ 2048) <;> cases (pathN (47 :: x.path)).2 <;> cases decide (1 ≤ (pathN (47 :: x.path)).1.length) <;> cases decide ((pathN (47 :: x.path)).1.length ≤ 4) <;> rfl

set_option maxRecDepth 100000 in
set_option maxHeartbeats 1000000 in
theorem mayBe_any (w : World) (x : Ent) (ad : Option Addr) (cap : Nat) (hx : EntV w x ad cap) : Calls Try.prog 63 #[entV x ad cap] w fun e w' => e = .returned (.bool (oneB x)) ∧ Fr (fun _ => False) w w' := by
  have HO := hid (mayBe_oneB x)
  have HX := hid hx
  generalize oneB x = r at *
  obtain ⟨p, k, d⟩ := x
  simp only [entV] at *
  clear hx
  go_enter Try.func63, Try.ntmps63
  go_wp2_with fail
  refine (mayPath_any _ p).mono ?_
  rintro e w1 ⟨rfl, hF⟩
  have hB := hF.blk (Blk.new w 39 [.string ⟨p.toArray⟩, .int .i64 k, .slice ad d.length cap]) (fun h => h)
  have HF : Hid (Fr (fun _ => False) w w1) := ((Fr.refl _ w).alloc _).trans hF (fun _ h => h.elim)
  have c1 := hB.cell 1
  have c2 := hB.cell 2
  simp only [List.getElem?_cons_zero, List.getElem?_cons_succ] at c1 c2
  clear hF hB
  cases hp : pathOk p with
  | false =>
    go_wp2
    go_ret
    exact ⟨by rw [HO.out, hp]; rfl, HF.out⟩
  | true =>
    by_cases hd : 2048 < d.length
    · have hd' : (2048 : Int) < ((d.length : Nat) : Int) := by omega
      go_wp2
      go_ret
      exact ⟨by rw [HO.out, decide_eq_false (show ¬ d.length ≤ 2048 by omega)]; simp, HF.out⟩
    have hd' : ¬ (2048 : Int) < ((d.length : Nat) : Int) := by omega
    have HO2 : Hid (r = if k = 3 then (pathN d).2 else decide (k = 1)) := by
      unfold Hid; rw [HO.out, hp, decide_eq_true (show d.length ≤ 2048 by omega)]; simp
    clear HO hp
    by_cases h1 : k = 1
    · subst h1
      go_wp2
      go_ret
      exact ⟨by rw [HO2.out]; simp, HF.out⟩
    have h1' : (k == 1) = false := by simpa using h1
    by_cases h3 : k = 3
    · subst h3
      have hcv := conv_bytes (HX.out.fr HF.out).src cap
      simp only at hcv
      have HP := hid (path_any w1 d)
      have HO3 : Hid (r = (dpath d).2) := by unfold Hid; rw [HO2.out, dpath_2]; simp
      clear HO2
      generalize dpath d = q at *
      obtain ⟨L, b⟩ := q
      go_wp2_with fail
      refine HP.out.mono ?_
      rintro e w2 ⟨v, rfl, hown, hF2⟩
      have HF2 : Hid (Fr (fun _ => False) w w2) := HF.out.trans hF2 (fun _ h => h.elim)
      obtain ⟨va, vc, rfl⟩ := own_len hown
      clear hown hF2 HP
      go_wp2
      go_ret
      exact ⟨by rw [HO3.out]; rfl, HF2.out⟩
    have h3' : (k == 3) = false := by simpa using h3
    go_wp2
    go_ret
    exact ⟨by rw [HO2.out, if_neg h3, decide_eq_false h1]; rfl, HF.out⟩

set_option maxRecDepth 100000 in
set_option maxHeartbeats 1000000 in
theorem one_any (w : World) (x : Ent) (ad : Option Addr) (cap : Nat) (hx : EntV w x ad cap) : Calls Try.prog 76 #[entV x ad cap] w fun e w' => e = .returned (.bool (oneB x)) ∧ Fr (fun _ => False) w w' := by
  have HX := hid hx
  obtain ⟨p, k, d⟩ := x
  simp only [entV] at *
  clear hx
  have HW : Hid (Fr (fun _ => False) w (w.alloc (.cells #[.string ⟨p.toArray⟩, .int .i64 k, .slice ad d.length cap] 39))) := (Fr.refl _ w).alloc _
  by_cases h1 : 120 < p.length
  · have hn : Hid (oneB ⟨p, k, d⟩ = false) := by unfold Hid oneB; rw [decide_eq_false (show ¬ p.length ≤ 120 by omega)]; rfl
    have h1' : (120 : Int) < (p.length : Int) := by omega
    go_enter Try.func76, Try.ntmps76
    go_wp2
    go_ret
    exact ⟨by rw [hn.out]; rfl, HW.out⟩
  have h1' : ¬ (120 : Int) < (p.length : Int) := by omega
  by_cases hd : 2048 < d.length
  · have hn : Hid (oneB ⟨p, k, d⟩ = false) := by unfold Hid oneB; rw [decide_eq_false (show ¬ d.length ≤ 2048 by omega)]; simp
    have hd' : (2048 : Int) < ((d.length : Nat) : Int) := by omega
    go_enter Try.func76, Try.ntmps76
    go_wp2
    go_ret
    exact ⟨by rw [hn.out]; rfl, HW.out⟩
  have hd' : ¬ (2048 : Int) < ((d.length : Nat) : Int) := by omega
  have HO : Hid (oneB ⟨p, k, d⟩ = ((pathN (47 :: p)).2 && decide (1 ≤ (pathN (47 :: p)).1.length) && decide ((pathN (47 :: p)).1.length ≤ 4) && (if k = 3 then (pathN d).2 else decide (k = 1)))) := by
    unfold Hid oneB
    rw [decide_eq_true (show p.length ≤ 120 by omega), decide_eq_true (show d.length ≤ 2048 by omega)]; rfl
  generalize oneB ⟨p, k, d⟩ = r at *
  have HP := hid (rpath_any (w.alloc (.cells #[.string ⟨p.toArray⟩, .int .i64 k, .slice ad d.length cap] 39)) (47 :: p))
  generalize pathN (47 :: p) = q at *
  obtain ⟨L, b⟩ := q
  go_enter Try.func76, Try.ntmps76
  go_wp2_with fail
  rw [str_cat [47] p]
  refine HP.out.mono ?_
  rintro e w1 ⟨v, rfl, hown, hF⟩
  have hB := hF.blk (Blk.new w 39 [.string ⟨p.toArray⟩, .int .i64 k, .slice ad d.length cap]) (fun h => h)
  have HF : Hid (Fr (fun _ => False) w w1) := HW.out.trans hF (fun _ h => h.elim)
  have c1 := hB.cell 1
  have c2 := hB.cell 2
  simp only [List.getElem?_cons_zero, List.getElem?_cons_succ] at c1 c2
  obtain ⟨va, vc, rfl⟩ := own_len hown
  clear hown hF hB HP h1' HW
  simp only at *
  cases b with
  | false =>
    go_wp2
    go_ret
    exact ⟨by rw [HO.out]; rfl, HF.out⟩
  | true =>
    by_cases hl : L.length < 1
    · have hl' : ((L.length : Nat) : Int) < 1 := by omega
      go_wp2
      go_ret
      exact ⟨by rw [HO.out, decide_eq_false (show ¬ 1 ≤ L.length by omega)]; rfl, HF.out⟩
    have hl' : ¬ ((L.length : Nat) : Int) < 1 := by omega
    by_cases hm : 4 < L.length
    · have hm' : (4 : Int) < ((L.length : Nat) : Int) := by omega
      go_wp2
      go_ret
      exact ⟨by rw [HO.out, decide_eq_false (show ¬ L.length ≤ 4 by omega)]; simp, HF.out⟩
    have hm' : ¬ (4 : Int) < ((L.length : Nat) : Int) := by omega
    have HO2 : Hid (r = if k = 3 then (pathN d).2 else decide (k = 1)) := by
      unfold Hid; rw [HO.out, decide_eq_true (show 1 ≤ L.length by omega), decide_eq_true (show L.length ≤ 4 by omega)]; rfl
    clear HO
    by_cases h3 : k = 3
    · subst h3
      have hcv := conv_bytes (HX.out.fr HF.out).src cap
      simp only at hcv
      have HP := hid (rpath_any w1 d)
      have HO3 : Hid (r = (pathN d).2) := by unfold Hid; rw [HO2.out]; simp
      clear HO2
      generalize pathN d = q at *
      obtain ⟨L2, b⟩ := q
      go_wp2_with fail
      refine HP.out.mono ?_
      rintro e w2 ⟨v, rfl, hown, hF2⟩
      have HF2 : Hid (Fr (fun _ => False) w w2) := HF.out.trans hF2 (fun _ h => h.elim)
      obtain ⟨va2, vc2, rfl⟩ := own_len hown
      clear hown hF2 HP
      go_wp2
      go_ret
      exact ⟨by rw [HO3.out]; rfl, HF2.out⟩
    have h3' : (k == 3) = false := by simpa using h3
    by_cases h1 : k = 1
    · subst h1
      go_wp2
      go_ret
      exact ⟨by rw [HO2.out]; rfl, HF.out⟩
    have h1' : (k == 1) = false := by simpa using h1
    go_wp2
    go_ret
    exact ⟨by rw [HO2.out, if_neg h3, decide_eq_false h1]; rfl, HF.out⟩

end Go.Proofs.Ytangnoicnogddaa.Tr
