/- The contracts of shouldRoundUp, RoundedInteger. -/
import Derived.Test.YtionmohglmbklaaGreatDoorDcr
namespace Go.Proofs.YtionmohglmbklaaGreatDoor.Tr
open Go.RowKit

/-- Is it to be rounded up, where it is cut at a place? -/
def rupI (s : DC) (z : Int) : Bool :=
  if z < 0 then false
  else if (s.L.length : Int) ≤ z then false
  else if dv (s.L.getD z.toNat 0) = 5 ∧ z + 1 = (s.L.length : Int) then (if s.tr then true else if z = 0 then false else decide (dv (s.L.getD (z.toNat - 1) 0) % 2 ≠ 0))
  else decide (5 ≤ dv (s.L.getD z.toNat 0))

theorem Dc.at {w : World} {b : Nat} {s : DC} (h : Dc w b s) (hs : DOk s.L) (i : Nat) (hi : i < s.L.length) : w.cell? ⟨b, i, none⟩ = some (.int .u8 ((dv (s.L.getD i 0) : Int) + 48)) ∧ dv (s.L.getD i 0) ≤ 9 := by
  obtain ⟨A, hD, hA⟩ := h
  have hl := hs.le
  have e : s.L.getD i 0 = s.L[i] := by rw [List.getD_eq_getElem?_getD, List.getElem?_eq_getElem hi]; rfl
  rw [e]
  refine ⟨digC hD hs.dg i hi ?_ (by omega), dv_lt (hs.dg _ (List.getElem_mem hi))⟩
  conv => rhs; rw [← hA]
  rw [List.getElem?_take, if_pos hi]
theorem Dc.c0 {w : World} {b : Nat} {s : DC} (h : Dc w b s) : w.cell? ⟨b, 800, none⟩ = some (.int .i64 (s.L.length : Int)) := by
  obtain ⟨A, hD, _⟩ := h; exact hD.c0
theorem Dc.c1 {w : World} {b : Nat} {s : DC} (h : Dc w b s) : w.cell? ⟨b, 801, none⟩ = some (.int .i64 s.dp) := by
  obtain ⟨A, hD, _⟩ := h; exact hD.c1
theorem Dc.c2 {w : World} {b : Nat} {s : DC} (h : Dc w b s) : w.cell? ⟨b, 802, none⟩ = some (.bool false) := by
  obtain ⟨A, hD, _⟩ := h; exact hD.c2
theorem Dc.c3 {w : World} {b : Nat} {s : DC} (h : Dc w b s) : w.cell? ⟨b, 803, none⟩ = some (.bool s.tr) := by
  obtain ⟨A, hD, _⟩ := h; exact hD.c3

set_option maxRecDepth 100000 in
set_option maxHeartbeats 1000000 in
theorem sru_any {w : World} {b : Nat} {s : DC} (h : Dc w b s) (hs : DOk s.L) (z : Int) : Calls Tryz.prog 192 #[pd b, .int .i64 z] w fun e w' => e = .returned (.bool (rupI s z)) ∧ w = w' := by
  have c0 := h.c0
  have c3 := h.c3
  obtain ⟨R, hR⟩ : ∃ R, R = rupI s z := ⟨_, rfl⟩
  rw [← hR]
  unfold rupI at hR
  by_cases h0 : z < 0
  · rw [if_pos h0] at hR
    subst hR
    have q0 : decide (z < 0) = true := decide_eq_true h0
    clear h hs
    go_enter Tryz.func192, Tryz.ntmps192
    go_wp2
    go_ret
    exact ⟨rfl, rfl⟩
  rw [if_neg h0] at hR
  have q0 : decide (z < 0) = false := decide_eq_false h0
  obtain ⟨i, rfl⟩ : ∃ i : Nat, z = (i : Int) := ⟨z.toNat, by omega⟩
  have hl := hs.le
  by_cases h1 : (s.L.length : Int) ≤ (i : Int)
  · rw [if_pos h1] at hR
    subst hR
    have q1 : decide ((i : Int) ≥ (s.L.length : Int)) = true := decide_eq_true h1
    generalize (s.L.length : Int) = nd at *
    clear h hs h0
    go_enter Tryz.func192, Tryz.ntmps192
    go_wp2
    go_ret
    exact ⟨rfl, rfl⟩
  rw [if_neg h1] at hR
  have q1 : decide ((i : Int) ≥ (s.L.length : Int)) = false := decide_eq_false h1
  have hi : i < s.L.length := by omega
  obtain ⟨ck, hy⟩ := h.at hs i hi
  rw [Int.toNat_natCast] at hR
  have hi0 : (0 : Int) ≤ (i : Int) := by omega
  have hi8 : (i : Int) < 800 := by omega
  have hl0 : ((i - 1 : Nat) : Int) = (i : Int) - 1 ∨ i = 0 := by omega
  by_cases h5 : dv (s.L.getD i 0) = 5
  · have q5 : ((dv (s.L.getD i 0) : Int) + 48 == 53) = true := by rw [h5]; rfl
    by_cases h6 : (i : Int) + 1 = (s.L.length : Int)
    · rw [if_pos ⟨h5, h6⟩] at hR
      have q6 : ((i : Int) + 1 == (s.L.length : Int)) = true := by simp [h6]
      cases htr : s.tr with
      | true =>
        rw [htr] at hR c3
        rw [if_pos rfl] at hR
        subst hR
        generalize dv (s.L.getD i 0) = y at *
        generalize (s.L.length : Int) = nd at *
        clear h hs h0 h1 h5 h6 htr hi
        go_enter Tryz.func192, Tryz.ntmps192
        go_wp2
        go_ret
        exact ⟨rfl, rfl⟩
      | false =>
        rw [htr] at hR c3
        rw [if_neg (by decide)] at hR
        by_cases hz : i = 0
        · subst hz
          rw [if_pos (by rfl)] at hR
          subst hR
          have q1' : decide ((s.L.length : Int) ≤ 0) = false := decide_eq_false (by omega)
          generalize dv (s.L.getD 0 0) = y at *
          generalize (s.L.length : Int) = nd at *
          clear h hs h0 h1 h5 h6 htr hi
          go_enter Tryz.func192, Tryz.ntmps192
          go_wp2
          go_ret
          exact ⟨rfl, rfl⟩
        · obtain ⟨j, rfl⟩ : ∃ j, i = j + 1 := ⟨i - 1, by omega⟩
          rw [if_neg (by omega), Nat.add_sub_cancel] at hR
          obtain ⟨cj, hyj⟩ := h.at hs j (by omega)
          have e1 : ((j + 1 : Nat) : Int) = (j : Int) + 1 := by omega
          rw [e1] at q0 q1 q6 hi0 hi8 ⊢
          generalize dv (s.L.getD (j + 1) 0) = y at *
          generalize dv (s.L.getD j 0) = y2 at *
          generalize (s.L.length : Int) = nd at *
          have q8 : decide ((j : Int) + 1 > 0) = true := decide_eq_true (by omega)
          have q9 : (0 : Int) ≤ (j : Int) := by omega
          have q10 : (j : Int) < 800 := by omega
          have HR := hid hR
          have Hy := hid hyj
          clear h hs h0 h1 h5 h6 htr hi hz hR e1 hl0
          go_enter Tryz.func192, Tryz.ntmps192
          go_wp2_with fail
          go_ret
          refine ⟨?_, rfl⟩
          rw [HR.out]
          show Ending.returned (.bool _) = _
          congr 2
          rw [Bool.eq_iff_iff]; simp; omega
    · rw [if_neg (fun e => h6 e.2)] at hR
      have q6 : ((i : Int) + 1 == (s.L.length : Int)) = false := by simpa using h6
      generalize dv (s.L.getD i 0) = y at *
      generalize (s.L.length : Int) = nd at *
      have HR := hid hR
      clear h hs h0 h1 h6 hi hR hl0
      go_enter Tryz.func192, Tryz.ntmps192
      go_wp2_with fail
      go_ret
      refine ⟨?_, rfl⟩
      rw [HR.out]
      show Ending.returned (.bool _) = _
      congr 2
      rw [Bool.eq_iff_iff]; simp; omega
  · rw [if_neg (fun e => h5 e.1)] at hR
    have q5 : ((dv (s.L.getD i 0) : Int) + 48 == 53) = false := by rw [beq_eq_false_iff_ne]; omega
    generalize dv (s.L.getD i 0) = y at *
    generalize (s.L.length : Int) = nd at *
    have HR := hid hR
    clear h hs h0 h1 h5 hi hR hl0
    go_enter Tryz.func192, Tryz.ntmps192
    go_wp2_with fail
    go_ret
    refine ⟨?_, rfl⟩
    rw [HR.out]
    show Ending.returned (.bool _) = _
    congr 2
    rw [Bool.eq_iff_iff]; simp; omega

/-- A digit more. -/
def riS (n : Int) (c : UInt8) : Int := IntKind.u64.wrap (IntKind.u64.wrap (n * 10) + (dv c : Int))
def riA (L : List UInt8) (i : Nat) : Int := (L.take i).foldl riS 0
def riB : Nat → Int → Int
  | 0, n => n
  | j + 1, n => riB j (IntKind.u64.wrap (n * 10))
/-- The whole number before the point, rounded. -/
def rInt (s : DC) : Int := if 20 < s.dp then 18446744073709551615 else
  let n := riB (s.dp.toNat - min s.dp.toNat s.L.length) (riA s.L (min s.dp.toNat s.L.length))
  if rupI s s.dp then IntKind.u64.wrap (n + 1) else n
theorem riA_succ (L : List UInt8) (i : Nat) (h : i < L.length) : riA L (i + 1) = riS (riA L i) L[i] := by
  unfold riA
  rw [List.take_succ_eq_append_getElem h, List.foldl_append]; rfl
def RI1 (L : List UInt8) (m : Nat) (iv nv : Value) : Prop := ∃ i : Nat, i ≤ m ∧ iv = .int .i64 (i : Int) ∧ nv = .int .u64 (riA L i)
def RI2 (m d : Nat) (N : Int) (iv nv : Value) : Prop := ∃ (i : Nat) (n : Int), m ≤ i ∧ i ≤ d ∧ iv = .int .i64 (i : Int) ∧ nv = .int .u64 n ∧ riB (d - i) n = N

set_option maxRecDepth 100000 in
set_option maxHeartbeats 1000000 in
theorem rint_any {w : World} {b : Nat} {s : DC} (h : Dc w b s) (hs : DOk s.L) (hd : -1000000000000 ≤ s.dp) : Calls Tryz.prog 179 #[pd b] w fun e w' => e = .returned (.int .u64 (rInt s)) ∧ w = w' := by
  have c0 := h.c0
  have c1 := h.c1
  have HU := hid (sru_any h hs s.dp)
  obtain ⟨R, hR⟩ : ∃ R, R = rInt s := ⟨_, rfl⟩
  rw [← hR]
  unfold rInt at hR
  by_cases h20 : 20 < s.dp
  · rw [if_pos h20] at hR
    subst hR
    have q1 : decide (s.dp > 20) = true := decide_eq_true h20
    generalize s.dp = dp at *
    clear h hs
    go_enter Tryz.func179, Tryz.ntmps179
    go_wp2
    go_ret
    exact ⟨rfl, rfl⟩
  rw [if_neg h20] at hR
  have q1 : decide (s.dp > 20) = false := decide_eq_false h20
  have hl := hs.le
  obtain ⟨d, hd'⟩ : ∃ d, d = s.dp.toNat := ⟨_, rfl⟩
  obtain ⟨m, hm⟩ : ∃ m, m = min s.dp.toNat s.L.length := ⟨_, rfl⟩
  rw [← hm, ← hd'] at hR
  simp only at hR
  obtain ⟨N, hN⟩ : ∃ N, N = riB (d - m) (riA s.L m) := ⟨_, rfl⟩
  rw [← hN] at hR
  have HAt := hid (fun i hi => h.at hs i hi)
  have HA2 := hid (fun i hi => (show s.L.getD i 0 = s.L[i]'hi by rw [List.getD_eq_getElem?_getD, List.getElem?_eq_getElem hi]; rfl))
  have HR := hid hR
  have HN := hid hN
  have HM : Hid (m = min s.dp.toNat s.L.length ∧ d = s.dp.toNat) := ⟨hm, hd'⟩
  have hd20 : s.dp ≤ 20 := by omega
  clear h hs hR hN hm hd' h20
  generalize hnd : (s.L.length : Int) = nd at *
  have HNd := hid hnd
  clear hnd
  obtain ⟨L, dp, tr⟩ := s
  simp only at *
  go_enter Tryz.func179, Tryz.ntmps179
  go_wp2_with fail
  go_loopw [3, 4] (fun iv nv wr => RI1 L m iv nv ∧ w = wr) (fun iv _ _ => m - (intOf iv).toNat)
  case atStart => exact ⟨⟨0, Nat.zero_le _, rfl, rfl⟩, rfl⟩
  case round =>
    obtain ⟨⟨i, him, rfl, rfl⟩, rfl⟩ := hrel
    have hm1 := HM.out
    have hn1 := HNd.out
    by_cases hi : i < m
    · have hil : i < L.length := by omega
      obtain ⟨ck, hy⟩ := HAt.out i hil
      have q2 : decide ((i : Int) < dp) = true := decide_eq_true (by omega)
      have q3 : decide ((i : Int) < nd) = true := decide_eq_true (by omega)
      have q4 : (0 : Int) ≤ (i : Int) := by omega
      have q5 : (i : Int) < 800 := by omega
      have HSu := hid (riA_succ L i hil)
      unfold riS at HSu
      rw [← HA2.out i hil] at HSu
      generalize dv (L.getD i 0) = y at *
      have q6 : IntKind.u64.wrap (y : Int) = (y : Int) := u64w (by omega) (by omega)
      generalize riA L i = v at *
      clear hm1 hn1
      go_wp2_with fail
      refine ⟨⟨⟨i + 1, by omega, rfl, by rw [HSu.out]⟩, trivial⟩, by simp [intOf]; omega⟩
    · obtain rfl : i = m := by omega
      have HSt : Hid (RI2 i d N (.int .i64 (i : Int)) (.int .u64 (riA L i))) := ⟨i, _, Nat.le_refl _, by omega, rfl, rfl, HN.out.symm⟩
      have hqq : (decide ((i : Int) < dp) = true ∧ decide ((i : Int) < nd) = false) ∨ decide ((i : Int) < dp) = false := by
        by_cases hdi : (i : Int) < dp
        · exact .inl ⟨decide_eq_true hdi, decide_eq_false (by omega)⟩
        · exact .inr (decide_eq_false hdi)
      have HMd : Hid (∀ k : Nat, k ≤ d → (((k : Int) < dp) ↔ k < d)) := fun k hk => by
        rw [hm1.2] at hk ⊢; omega
      clear hm1 hn1 HM HN HNd him hi HAt HA2
      generalize riA L i = v at *
      rcases hqq with ⟨q2, q3⟩ | q2
      all_goals
        go_wp2_with fail
        try clear q2
        try clear q3
        obtain ⟨wo, hwo⟩ : ∃ wo, wo = w := ⟨_, rfl⟩
        go_loopw [3, 4] (fun iv nv wr => RI2 i d N iv nv ∧ w = wr) (fun iv _ _ => d - (intOf iv).toNat)
        case atStart => exact ⟨HSt.out, rfl⟩
        case round =>
          obtain ⟨⟨i2, n2, h1, h2, rfl, rfl, h3⟩, rfl⟩ := hrel
          have hmd := HMd.out i2 h2
          clear hwo
          by_cases hlt : i2 < d
          · have q2 : decide ((i2 : Int) < dp) = true := decide_eq_true (hmd.2 hlt)
            have HNx : Hid (RI2 i d N (.int .i64 ((i2 : Int) + 1)) (.int .u64 (IntKind.u64.wrap (n2 * 10)))) := by
              refine ⟨i2 + 1, _, by omega, hlt, rfl, rfl, ?_⟩
              rw [← h3, show d - i2 = (d - (i2 + 1)) + 1 by omega]; rfl
            have hi9 : (i2 : Int) ≤ 20 := by have := hmd.2 hlt; omega
            have hi0 : (0 : Int) ≤ (i2 : Int) := by omega
            clear hmd h3 HSt
            go_wp2_with fail
            exact ⟨⟨HNx.out, trivial⟩, by simp [intOf]; omega⟩
          · have q2 : decide ((i2 : Int) < dp) = false := decide_eq_false (fun h => hlt (hmd.1 h))
            have hNe : n2 = N := by rw [show d - i2 = 0 by omega] at h3; exact h3
            subst hNe
            clear hmd h3 HSt h1 h2 hlt
            go_wp2_with fail
            refine HU.out.mono ?_
            rintro e w2 ⟨rfl, rfl⟩
            clear HU
            have HR' := hid HR.out
            clear HR
            generalize hru : rupI ⟨L, dp, tr⟩ dp = ru at *
            clear hru
            cases ru
            · rw [if_neg (by decide)] at HR'
              go_wp2
              go_ret
              exact ⟨by rw [HR'.out]; rfl, rfl⟩
            · rw [if_pos rfl] at HR'
              go_wp2
              go_ret
              exact ⟨by rw [HR'.out]; rfl, rfl⟩

end Go.Proofs.YtionmohglmbklaaGreatDoor.Tr
