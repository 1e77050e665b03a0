import Derived.Test.YtniailfcmlongaaGreatDoorTnmM
import Derived.Test.YtniailfcmlongaaGreatDoorVtrM
import Derived.Test.YtniailfcmlongaaGreatDoorCmp
/- A type that was read, in memory; bytes' classes; readBare. -/
namespace Go.Proofs.YtniailfcmlongaaGreatDoor.Tr
open Go.RowKit

/-- At block b lies the type. -/
def KIn (w : World) : Ty → Nat → Prop
  | .bare s, b => w.cell? ⟨b, 0, none⟩ = some (.string ⟨s.toArray⟩)
  | .int lo hi, b => w.cell? ⟨b, 0, none⟩ = some (.string ⟨sInt.toArray⟩) ∧ w.cell? ⟨b, 1, none⟩ = some (.int .i64 lo) ∧ w.cell? ⟨b, 2, none⟩ = some (.int .i64 hi)
  | .enum ws, b => w.cell? ⟨b, 0, none⟩ = some (.string ⟨sEnum.toArray⟩) ∧ ∃ ad cap, w.cell? ⟨b, 3, none⟩ = some (.slice ad ws.length cap) ∧ ws.length ≤ 100 ∧ Strs w ad ws
  | .list t, b => w.cell? ⟨b, 0, none⟩ = some (.string ⟨sList.toArray⟩) ∧ ∃ c, w.cell? ⟨b, 4, none⟩ = some (pv c) ∧ KIn w t c
  | .attrs t, b => w.cell? ⟨b, 0, none⟩ = some (.string ⟨sAttrs.toArray⟩) ∧ ∃ c, w.cell? ⟨b, 4, none⟩ = some (pv c) ∧ KIn w t c
theorem KIn.env {w W : World} (e : Env w W) : ∀ (t : Ty) (b : Nat), KIn w t b → KIn W t b
  | .bare s, b, h => e.cell h
  | .int lo hi, b, h => ⟨e.cell h.1, e.cell h.2.1, e.cell h.2.2⟩
  | .enum ws, b, h => by
    obtain ⟨h0, ad, cap, h1, h2, h3⟩ := h
    exact ⟨e.cell h0, ad, cap, e.cell h1, h2, h3.env e⟩
  | .list t, b, h => by
    obtain ⟨h0, c, h1, h2⟩ := h
    exact ⟨e.cell h0, c, e.cell h1, KIn.env e t c h2⟩
  | .attrs t, b, h => by
    obtain ⟨h0, c, h1, h2⟩ := h
    exact ⟨e.cell h0, c, e.cell h1, KIn.env e t c h2⟩
/-- What reading a type leaves. -/
def KPost (w : World) (o : Option Ty) (e : Ending) (w' : World) : Prop :=
  Fr (fun _ => False) w w' ∧ ((o = none ∧ e = .returned (.pointer none)) ∨ ∃ t b, o = some t ∧ e = .returned (pv b) ∧ KIn w' t b)

abbrev kBox (w : World) (s : List UInt8) (lo hi : Int) (ad : Option Addr) (n cap : Nat) (p : Option Addr) : World := w.alloc (.cells #[.string ⟨s.toArray⟩, .int .i64 lo, .int .i64 hi, .slice ad n cap, .pointer p] 70)
theorem kBlk (w : World) (s : List UInt8) (lo hi : Int) (ad : Option Addr) (n cap : Nat) (p : Option Addr) : Blk (kBox w s lo hi ad n cap p) w.heap.size 70 [.string ⟨s.toArray⟩, .int .i64 lo, .int .i64 hi, .slice ad n cap, .pointer p] := Blk.new w _ _

theorem u8_lt (c : UInt8) : c.toNat < 256 := c.toNat_lt

set_option maxRecDepth 100000 in
set_option maxHeartbeats 1000000 in
theorem isNoDigit_any (w : World) (c : UInt8) : Calls Tryz.prog 106 #[bv c] w fun e w' => e = .returned (.bool (noDig c)) ∧ w = w' := by
  unfold noDig bv
  generalize c.toNat = n
  by_cases h1 : n < 48
  · have h1' : decide ((n : Int) < 48) = true := by simpa using (show (n : Int) < 48 by omega)
    rw [decide_eq_true h1]
    clear h1
    go_enter Tryz.func106, Tryz.ntmps106
    go_wp2
    go_ret
    exact ⟨rfl, rfl⟩
  · have h1' : decide ((n : Int) < 48) = false := by simpa using (show (48 : Int) ≤ n by omega)
    rw [decide_eq_false h1]
    clear h1
    by_cases h2 : 57 < n
    · have h2' : decide ((n : Int) > 57) = true := by simpa using (show (57 : Int) < n by omega)
      rw [decide_eq_true h2]
      clear h2
      go_enter Tryz.func106, Tryz.ntmps106
      go_wp2
      go_ret
      exact ⟨rfl, rfl⟩
    · have h2' : decide ((n : Int) > 57) = false := by simpa using (show (n : Int) ≤ 57 by omega)
      rw [decide_eq_false h2]
      clear h2
      go_enter Tryz.func106, Tryz.ntmps106
      go_wp2
      go_ret
      exact ⟨rfl, rfl⟩

set_option maxRecDepth 100000 in
set_option maxHeartbeats 1000000 in
theorem isForeign_any (w : World) (c : UInt8) : Calls Tryz.prog 108 #[bv c] w fun e w' => e = .returned (.bool (foreignB c)) ∧ w = w' := by
  have HN := hid (fun W => isNoDigit_any W c)
  have h45 : decide (c ≠ 45) = !(((c.toNat : Nat) : Int) == 45) := by
    by_cases h : c = 45
    · subst h; rfl
    · have : c.toNat ≠ 45 := fun e => h (UInt8.toNat_inj.1 e)
      rw [decide_eq_true h]
      simp; omega
  unfold foreignB
  rw [h45]
  clear h45
  generalize noDig c = nd at *
  unfold bv at *
  generalize c.toNat = n at *
  by_cases h1 : n < 97
  · have h1' : decide ((n : Int) < 97) = true := by simpa using (show (n : Int) < 97 by omega)
    rw [decide_eq_true h1]
    clear h1
    cases nd with
    | false =>
      go_enter Tryz.func108, Tryz.ntmps108
      go_wp2_with (go_at_call 106; refine (HN.out _).mono ?_; rintro e w' ⟨rfl, rfl⟩)
      go_ret
      exact ⟨rfl, rfl⟩
    | true =>
      go_enter Tryz.func108, Tryz.ntmps108
      go_wp2_with (go_at_call 106; refine (HN.out _).mono ?_; rintro e w' ⟨rfl, rfl⟩)
      go_ret
      exact ⟨rfl, rfl⟩
  · have h1' : decide ((n : Int) < 97) = false := by simpa using (show (97 : Int) ≤ n by omega)
    rw [decide_eq_false h1]
    clear h1
    by_cases h2 : 122 < n
    · have h2' : decide ((n : Int) > 122) = true := by simpa using (show (122 : Int) < n by omega)
      rw [decide_eq_true h2]
      clear h2
      cases nd with
      | false =>
        go_enter Tryz.func108, Tryz.ntmps108
        go_wp2_with (go_at_call 106; refine (HN.out _).mono ?_; rintro e w' ⟨rfl, rfl⟩)
        go_ret
        exact ⟨rfl, rfl⟩
      | true =>
        go_enter Tryz.func108, Tryz.ntmps108
        go_wp2_with (go_at_call 106; refine (HN.out _).mono ?_; rintro e w' ⟨rfl, rfl⟩)
        go_ret
        exact ⟨rfl, rfl⟩
    · have h2' : decide ((n : Int) > 122) = false := by simpa using (show (n : Int) ≤ 122 by omega)
      rw [decide_eq_false h2]
      clear h2
      go_enter Tryz.func108, Tryz.ntmps108
      go_wp2_with (go_at_call 106; refine (HN.out _).mono ?_; rintro e w' ⟨rfl, rfl⟩)
      go_ret
      exact ⟨rfl, rfl⟩

set_option maxRecDepth 100000 in
set_option maxHeartbeats 1000000 in
theorem readBare_any (w : World) (s : List UInt8) (ad : Option Addr) (n cap : Nat) : Calls Tryz.prog 60 #[.string ⟨s.toArray⟩, .slice ad n cap] w fun e w' => KPost w (if n = 0 then some (.bare s) else none) e w' := by
  have HF : Hid (Fr (fun _ => False) w (kBox w s 0 0 none 0 0 none)) := (Fr.refl _ w).alloc _
  have HK := hid ((kBlk w s 0 0 none 0 0 none).cell 0)
  by_cases h : n = 0
  · subst h
    go_enter Tryz.func60, Tryz.ntmps60
    go_wp2
    go_ret
    exact ⟨HF.out, .inr ⟨.bare s, w.heap.size, rfl, rfl, HK.out⟩⟩
  · have h' : decide (0 < n) = true := by simpa using (show 0 < n by omega)
    rw [if_neg h]
    go_enter Tryz.func60, Tryz.ntmps60
    go_wp2
    go_ret
    exact ⟨Fr.refl _ _, .inl ⟨rfl, rfl⟩⟩
end Go.Proofs.YtniailfcmlongaaGreatDoor.Tr
/- The contracts of left and small. -/
namespace Go.Proofs.YtniailfcmlongaaGreatDoor.Tr
open Go.RowKit

theorem drop_cons {α : Type} (l : List α) (i : Nat) (h : i < l.length) : l.drop i = l[i] :: l.drop (i + 1) := List.drop_eq_getElem_cons h
mutual
/-- What 'left' tells. -/
def lfF : Vt → Int → Int
  | .mk _ _ _ _ _ its, n => lfL its (n - 1)
def lfL : List Vt → Int → Int
  | [], n => n
  | v :: r, n => if n ≤ 0 then n else lfL r (lfF v n)
end
mutual
theorem lfF_le : ∀ (v : Vt) (n : Int), 0 < n → 0 ≤ lfF v n ∧ lfF v n ≤ n
  | .mk _ _ _ _ _ its, n, h => by
    rw [lfF]
    have := lfL_le its (n - 1) (by omega); omega
theorem lfL_le : ∀ (l : List Vt) (n : Int), 0 ≤ n → 0 ≤ lfL l n ∧ lfL l n ≤ n
  | [], n, h => by rw [lfL]; omega
  | v :: r, n, h => by
    rw [lfL]
    split
    · omega
    · have h1 := lfF_le v n (by omega)
      have := lfL_le r (lfF v n) h1.1
      omega
end
theorem lfL_zero (l : List Vt) : lfL l 0 = 0 := by cases l <;> rw [lfL]; rfl
theorem lfF_eq (v : Vt) (n : Int) : lfF v n = lfL v.its (n - 1) := by cases v; rw [lfF]; rfl
theorem lfL_cons (v : Vt) (r : List Vt) (n : Int) (h : 0 < n) : lfL (v :: r) n = lfL r (lfF v n) := by
  rw [lfL, if_neg (by omega)]

set_option maxRecDepth 100000 in
set_option maxHeartbeats 4000000 in
theorem left_any : ∀ (m : Nat) (v : Vt), SizeOf.sizeOf v ≤ m → ∀ (x : Vv) (w : World) (left : Int), VIn w v x → 0 < left → left ≤ 100000 → Calls Tryz.prog 22 #[x.v, .int .i64 left] w fun e w' => e = .returned (.int .i64 (lfF v left)) ∧ Fr (fun _ => False) w w' := by
  intro m
  induction m with
  | zero =>
    intro v hv
    exfalso
    cases v
    simp only [Vt.mk.sizeOf_spec] at hv
    omega
  | succ m ih =>
    intro v hv x w left hx h0 h1
    have HB := hid (vBlk w x)
    have HF := hid (vFr w x)
    have HX := hid hx
    have HIH : Hid (∀ i (h : i < v.its.length) (y : Vv) (W : World) (l : Int), VIn W v.its[i] y → 0 < l → l ≤ 100000 → Calls Tryz.prog 22 #[y.v, .int .i64 l] W fun e w' => e = .returned (.int .i64 (lfF v.its[i] l)) ∧ Fr (fun _ => False) W w') := fun i h y W l => ih v.its[i] (by have := Vt.its_lt (List.getElem_mem h); omega) y W l
    have HQ := hid (lfF_eq v left)
    have hil : x.il = v.its.length := hx.parts.2.2.2.1.1
    have hlim : v.its.length ≤ 140737488351232 := hx.parts.2.2.2.1.2.2
    clear ih hv hx
    obtain ⟨k, n, f, t, na, nl, nc, ia, il, ic⟩ := x
    simp only [Vv.v] at *
    subst hil
    go_enter Tryz.func22, Tryz.ntmps22
    go_wp2_with fail
    go_loopw [1, 5] (fun lv iv wr => ∃ (i : Nat) (l : Int), i ≤ v.its.length ∧ iv = .int .i64 (i : Int) ∧ lv = .int .i64 l ∧ 0 ≤ l ∧ l ≤ 100000 ∧ lfL (v.its.drop i) l = lfL v.its (left - 1) ∧ Fr (fun _ => False) w wr ∧ Blk wr w.heap.size 26 (Vv.cs ⟨k, n, f, t, na, nl, nc, ia, v.its.length, ic⟩)) (fun _ iv _ => v.its.length - (intOf iv).toNat)
    case atStart => exact ⟨0, left - 1, by omega, rfl, rfl, by omega, by omega, by simp, HF.out, HB.out⟩
    case round =>
      obtain ⟨i, l, hi, rfl, rfl, hl0, hl1, hS, hF, hB⟩ := hrel
      clear HB HF
      have HB := hid hB
      have HF := hid hF
      have HS := hid hS
      clear hB hF hS
      obtain ⟨c0, c1, c2, c3, c4, c5⟩ := HB.out.six
      by_cases hlt : i < v.its.length
      · have hlt' : (i : Int) < ((v.its.length : Nat) : Int) := by omega
        by_cases hp : 0 < l
        · have HN : Hid (lfL (v.its.drop (i + 1)) (lfF v.its[i] l) = lfL v.its (left - 1)) := by
            have h := HS.out
            rw [drop_cons _ _ hlt, lfL_cons _ _ _ hp] at h
            exact h
          have hle := lfF_le v.its[i] l hp
          obtain ⟨b, o, y, e1, e2, e3⟩ := (HX.out).item i hlt
          simp only at e1
          subst e1
          obtain ⟨k0, k1, k2, k3, k4, k5⟩ := (e2.env (Env.of HF.out)).six
          have HC := hid (HIH.out i hlt y wr l (VIn.env (Env.of HF.out) _ _ e3) hp hl1)
          generalize lfF v.its[i] l = l2 at *
          clear e2 e3 HS
          go_wp2_with fail
          refine HC.out.mono ?_
          rintro e w2 ⟨rfl, f2⟩
          have HB2 := hid (f2.blk HB.out (fun h => h))
          have HF2 := hid (HF.out.trans f2 (fun _ h => h.elim))
          clear f2
          go_wp2_with fail
          exact ⟨⟨i + 1, l2, by omega, by first | rfl | (congr 1), rfl, hle.1, by omega, HN.out, HF2.out, HB2.out⟩, by simp [intOf]; omega⟩
        · obtain rfl : l = 0 := by omega
          have HE : Hid (lfL v.its (left - 1) = 0) := by unfold Hid; rw [← HS.out, lfL_zero]
          go_wp2_with fail
          go_ret
          exact ⟨by rw [HQ.out, HE.out]; rfl, HF.out⟩
      · have hlt' : ¬ (i : Int) < ((v.its.length : Nat) : Int) := by omega
        have HE : Hid (lfL v.its (left - 1) = l) := by
          unfold Hid
          rw [← HS.out, List.drop_eq_nil_of_le (by omega), lfL]
        go_wp2_with fail
        go_ret
        exact ⟨by rw [HQ.out, HE.out]; rfl, HF.out⟩
end Go.Proofs.YtniailfcmlongaaGreatDoor.Tr
/- The contracts of rightNames, rightItems, rightWithin, Right over any value. -/
namespace Go.Proofs.YtniailfcmlongaaGreatDoor.Tr
open Go.RowKit

/-- May a name stand there? -/
def rnAt (ns : List (List UInt8)) (i : Nat) : Bool := decide ((ns.getD i []).length ≤ 1024) && (decide (i = 0) || Op.bytesLess (ns.getD (i - 1) []) (ns.getD i []))
def rnB (ns : List (List UInt8)) : Bool := (List.range ns.length).all (rnAt ns)
theorem rnB_true {ns : List (List UInt8)} (h : ∀ j, j < ns.length → rnAt ns j = true) : rnB ns = true := List.all_eq_true.2 fun j hj => h j (List.mem_range.1 hj)
theorem rnB_false {ns : List (List UInt8)} {j : Nat} (hj : j < ns.length) (h : rnAt ns j = false) : rnB ns = false := by
  cases e : rnB ns with
  | false => rfl
  | true =>
    have := List.all_eq_true.1 e j (List.mem_range.2 hj)
    rw [h] at this; cases this

set_option maxRecDepth 100000 in
set_option maxHeartbeats 4000000 in
theorem rightNames_any (w : World) (ad : Option Addr) (cap : Nat) (ns : List (List UInt8)) (hs : Strs w ad ns) (hl : ns.length ≤ lim) (hb : ∀ s ∈ ns, s.length ≤ lim) : Calls Tryz.prog 66 #[.slice ad ns.length cap] w fun e w' => e = .returned (.bool (rnB ns)) ∧ Fr (fun _ => False) w w' := by
  have hlim : ns.length ≤ 140737488351232 := hl
  have HS := hid hs
  have HB := hid hb
  clear hs hb hl
  go_enter Tryz.func66, Tryz.ntmps66
  go_wp2_with fail
  go_loopw [3, 4, 7] (fun _ _ iv wr => ∃ i : Nat, i ≤ ns.length ∧ iv = .int .i64 (i : Int) ∧ (∀ j, j < i → rnAt ns j = true) ∧ wr = w) (fun _ _ iv _ => ns.length - (intOf iv).toNat)
  case atStart => exact ⟨0, Nat.zero_le _, rfl, fun j hj => absurd hj (by omega), rfl⟩
  case round =>
    obtain ⟨i, hi, rfl, hA, rfl⟩ := hrel
    have HA := hid hA
    clear hA
    by_cases hlt : i < ns.length
    · have hlt' : (i : Int) < ((ns.length : Nat) : Int) := by omega
      obtain ⟨b, o, rfl, hc⟩ := HS.out (by intro e; rw [e] at hlt; simp at hlt)
      have c0 := hc i hlt
      have hlen : ns[i].length ≤ 140737488351232 := HB.out _ (List.getElem_mem hlt)
      have eg : ns.getD i [] = ns[i] := by rw [List.getD_eq_getElem?_getD, List.getElem?_eq_getElem hlt]; rfl
      by_cases h1 : 1024 < ns[i].length
      · have h1' : ((ns[i].length : Nat) : Int) > 1024 := by omega
        have HR : Hid (rnB ns = false) := rnB_false hlt (by unfold rnAt; rw [eg, decide_eq_false (by omega)]; rfl)
        generalize ns[i] = s at *
        clear hc
        go_wp2_with fail
        go_ret
        exact ⟨by rw [HR.out]; rfl, Fr.refl _ _⟩
      · have h1' : ¬ ((ns[i].length : Nat) : Int) > 1024 := by omega
        cases i with
        | zero =>
          have HN : Hid (rnAt ns 0 = true) := by unfold Hid rnAt; rw [eg, decide_eq_true (show ns[0].length ≤ 1024 by omega)]; rfl
          generalize ns[0] = s at *
          clear hc
          rw [Nat.add_zero] at c0
          go_wp2_with fail
          exact ⟨⟨1, by omega, rfl, fun j hj => by obtain rfl : j = 0 := by omega
                                                   exact HN.out, by first | rfl | trivial⟩, by simp [intOf]; omega⟩
        | succ i =>
          have c1 := hc i (by omega)
          have ep : ns.getD i [] = ns[i] := by rw [List.getD_eq_getElem?_getD, List.getElem?_eq_getElem (by omega)]; rfl
          have hi1 : (((i + 1 : Nat) : Int) - 1) = (i : Int) := by omega
          have hpos : ((i + 1 : Nat) : Int) > 0 := by omega
          have HQ : Hid (rnAt ns (i + 1) = Op.bytesLess ns[i] ns[i + 1]) := by
            unfold Hid rnAt
            rw [eg, Nat.add_sub_cancel, ep, decide_eq_true (show ns[i + 1].length ≤ 1024 by omega), decide_eq_false (show ¬ i + 1 = 0 by omega)]
            rfl
          generalize ns[i + 1] = s at *
          generalize ns[i] = p at *
          clear hc
          cases hq : Op.bytesLess p s with
          | false =>
            have HR : Hid (rnB ns = false) := rnB_false hlt (by rw [HQ.out, hq])
            go_wp2_with fail
            go_ret
            exact ⟨by rw [HR.out]; rfl, Fr.refl _ _⟩
          | true =>
            have HN : Hid (rnAt ns (i + 1) = true) := by unfold Hid; rw [HQ.out, hq]
            go_wp2_with fail
            exact ⟨⟨i + 2, by omega, by first | rfl | (congr 1), fun j hj => by
              by_cases e : j = i + 1
              · subst e; exact HN.out
              · exact HA.out j (by omega), by first | rfl | trivial⟩, by simp [intOf]; omega⟩
    · have hlt' : ¬ (i : Int) < ((ns.length : Nat) : Int) := by omega
      have HR : Hid (rnB ns = true) := rnB_true (fun j hj => HA.out j (by omega))
      go_wp2_with fail
      go_ret
      exact ⟨by rw [HR.out]; rfl, Fr.refl _ _⟩

mutual
/-- Is a value right, where so many lists and sets may stand within one another? -/
def rtB : Vt → Nat → Bool
  | .mk k n f t ns its, room =>
    if k = 5 then (decide (room ≠ 0) && decide (its.length ≤ 256) && rtL its (room - 1)) && bareB ⟨5, n, f, t, none, ns.length, 0, none, 0, 0⟩
    else if k = 6 then (decide (ns.length = its.length) && rnB ns && (decide (room ≠ 0) && decide (its.length ≤ 256) && rtL its (room - 1))) && bareB ⟨6, n, f, t, none, 0, 0, none, 0, 0⟩
    else rightS ⟨k, n, f, t, none, ns.length, 0, none, its.length, 0⟩
def rtL : List Vt → Nat → Bool
  | [], _ => true
  | v :: r, room => rtB v room && rtL r room
end
def itB (its : List Vt) (room : Nat) : Bool := decide (room ≠ 0) && decide (its.length ≤ 256) && rtL its (room - 1)
theorem rtL_cons (v : Vt) (r : List Vt) (room : Nat) : rtL (v :: r) room = (rtB v room && rtL r room) := by rw [rtL]

/-- What rightWithin tells of a value. -/
def RtOf (v : Vt) : Prop := ∀ (x : Vv) (w : World) (room : Nat), VIn w v x → room ≤ 32 → Calls Tryz.prog 42 #[x.v, .int .i64 (room : Int)] w fun e w' => e = .returned (.bool (rtB v room)) ∧ Fr (fun _ => False) w w'

set_option maxRecDepth 100000 in
set_option maxHeartbeats 4000000 in
theorem rightItems_of (l : List Vt) (hR : ∀ v ∈ l, RtOf v) (w : World) (ad : Option Addr) (cap room : Nat) (hI : IIn w l ad) (hlim : l.length ≤ lim) (hroom : room ≤ 32) : Calls Tryz.prog 65 #[.slice ad l.length cap, .int .i64 (room : Int)] w fun e w' => e = .returned (.bool (itB l room)) ∧ Fr (fun _ => False) w w' := by
  have hl : l.length ≤ 140737488351232 := hlim
  have hst := fun (W : World) (a : Addr) (m : Mode) (f : Nat) => run_store Tryz.prog W a (.float .f64 f) m rfl
  have HR := hid hR
  have HI := hid hI
  clear hR hI hlim
  cases room with
  | zero =>
    go_enter Tryz.func65, Tryz.ntmps65
    go_wp2_with fail
    go_ret
    exact ⟨rfl, Fr.refl _ _⟩
  | succ room =>
    have hz : (((room + 1 : Nat) : Int) == 0) = false := by simp; omega
    have hr1 : (((room + 1 : Nat) : Int) - 1) = (room : Int) := by omega
    by_cases h256 : 256 < l.length
    · have h' : ((l.length : Nat) : Int) > 256 := by omega
      have HQ : Hid (itB l (room + 1) = false) := by unfold Hid itB; rw [decide_eq_false (show ¬ l.length ≤ 256 by omega)]; simp
      go_enter Tryz.func65, Tryz.ntmps65
      go_wp2_with fail
      go_ret
      exact ⟨by rw [HQ.out]; rfl, Fr.refl _ _⟩
    · have h' : ¬ ((l.length : Nat) : Int) > 256 := by omega
      have HQ : Hid (itB l (room + 1) = rtL l room) := by unfold Hid itB; rw [decide_eq_true (show l.length ≤ 256 by omega)]; simp
      go_enter Tryz.func65, Tryz.ntmps65
      go_wp2_with fail
      go_loopw [6, 16] (fun _ iv wr => ∃ i : Nat, i ≤ l.length ∧ iv = .int .i64 (i : Int) ∧ rtL (l.drop i) room = rtL l room ∧ Fr (fun _ => False) w wr) (fun _ iv _ => l.length - (intOf iv).toNat)
      case atStart => exact ⟨0, Nat.zero_le _, rfl, by simp, Fr.refl _ _⟩
      case round =>
        obtain ⟨i, hi, rfl, hS, hF⟩ := hrel
        have HS := hid hS
        have HF := hid hF
        clear hS hF
        by_cases hlt : i < l.length
        · have hlt' : (i : Int) < ((l.length : Nat) : Int) := by omega
          obtain ⟨b, o, e1⟩ := HI.out.some (by intro e; rw [e] at hlt; simp at hlt)
          subst e1
          obtain ⟨y, e2, e3⟩ := HI.out.get i hlt
          have HN : Hid (rtL l room = (rtB l[i] room && rtL (l.drop (i + 1)) room)) := by
            unfold Hid; rw [← HS.out, drop_cons _ _ hlt, rtL_cons]
          obtain ⟨k0, k1, k2, k3, k4, k5⟩ := (e2.env (Env.of HF.out)).six
          have HFb := hid (HF.out.trans (vFr wr y) (fun _ h => h.elim))
          have HC := hid (HR.out l[i] (List.getElem_mem hlt) y (vBox wr y) room (VIn.env (Env.of HFb.out) _ _ e3) (by omega))
          generalize rtB l[i] room = q at *
          clear e2 e3 HS
          go_wp2_with fail
          refine HC.out.mono ?_
          rintro e w2 ⟨rfl, f2⟩
          have HF2 := hid (HFb.out.trans f2 (fun _ h => h.elim))
          clear f2
          cases q with
          | false =>
            go_wp2_with fail
            go_ret
            exact ⟨by rw [HQ.out, HN.out]; rfl, HF2.out⟩
          | true =>
            go_wp2_with fail
            exact ⟨⟨i + 1, by omega, by first | rfl | (congr 1), by rw [HN.out]; rfl, HF2.out⟩, by simp [intOf]; omega⟩
        · have hlt' : ¬ (i : Int) < ((l.length : Nat) : Int) := by omega
          have HE : Hid (rtL l room = true) := by
            unfold Hid
            rw [← HS.out, List.drop_eq_nil_of_le (by omega), rtL]
          go_wp2_with fail
          go_ret
          exact ⟨by rw [HQ.out, HE.out]; rfl, HF.out⟩

theorem rightS_same (x y : Vv) (h : x.k = y.k ∧ x.n = y.n ∧ x.f = y.f ∧ x.t = y.t ∧ x.nl = y.nl ∧ x.il = y.il) : rightS x = rightS y := by
  obtain ⟨k, n, f, t, na, nl, nc, ia, il, ic⟩ := x
  obtain ⟨k', n', f', t', na', nl', nc', ia', il', ic'⟩ := y
  obtain ⟨rfl, rfl, rfl, rfl, rfl, rfl⟩ := h
  rfl

set_option maxRecDepth 100000 in
set_option maxHeartbeats 4000000 in
theorem right_tree : ∀ (m : Nat) (v : Vt), SizeOf.sizeOf v ≤ m → RtOf v := by
  intro m
  induction m with
  | zero =>
    intro v hv
    exfalso
    cases v
    simp only [Vt.mk.sizeOf_spec] at hv
    omega
  | succ m ih =>
    intro v hv x w room hx hroom
    have HIt : Hid (∀ (W : World), Env w W → Calls Tryz.prog 65 #[.slice x.ia v.its.length x.ic, .int .i64 (room : Int)] W fun e w' => e = .returned (.bool (itB v.its room)) ∧ Fr (fun _ => False) W w') := fun W e =>
      rightItems_of v.its (fun u hu => ih u (by have := Vt.its_lt hu; omega)) W x.ia x.ic room (IIn.env e _ _ hx.parts.2.2.2.2) hx.parts.2.2.2.1.2.2 hroom
    have HNm : Hid (∀ (W : World), Env w W → Calls Tryz.prog 66 #[.slice x.na v.ns.length x.nc] W fun e w' => e = .returned (.bool (rnB v.ns)) ∧ Fr (fun _ => False) W w') := fun W e =>
      rightNames_any W x.na x.nc v.ns (hx.parts.2.2.1.2.2.2.env e) hx.parts.2.2.1.2.2.1 hx.parts.2.1.2.2.2
    obtain ⟨⟨p1, p2, p3, p4⟩, _, ⟨p5, _, hnl, _⟩, ⟨p6, _, hil⟩, _⟩ := hx.parts
    have hnl2 : v.ns.length ≤ 140737488351232 := hnl
    have hil2 : v.its.length ≤ 140737488351232 := hil
    clear hnl hil
    clear ih hv hx
    by_cases h5 : v.k = 5
    · have HQ : Hid (rtB v room = (itB v.its room && bareB ⟨5, v.n, v.f, v.t, none, v.ns.length, 0, none, 0, 0⟩)) := by
        cases v with
        | mk k n f t ns its =>
          simp only [Vt.k] at h5
          subst h5
          unfold Hid
          rw [rtB, if_pos rfl]; rfl
      obtain ⟨k, n, f, t, na, nl, nc, ia, il, ic⟩ := x
      simp only at p1 p2 p3 p4 p5 p6
      rw [h5] at p1
      subst p1 p2 p3 p4 p5 p6
      have HB := hid (vBlk w ⟨5, v.n, v.f, v.t, na, v.ns.length, nc, ia, v.its.length, ic⟩)
      have HF := hid (vFr w ⟨5, v.n, v.f, v.t, na, v.ns.length, nc, ia, v.its.length, ic⟩)
      simp only [Vv.v] at *
      generalize itB v.its room = q at *
      have HBr := hid (fun W => isBare_any W ⟨5, v.n, v.f, v.t, na, v.ns.length, nc, none, 0, 0⟩)
      have ebr : bareB ⟨5, v.n, v.f, v.t, na, v.ns.length, nc, none, 0, 0⟩ = bareB ⟨5, v.n, v.f, v.t, none, v.ns.length, 0, none, 0, 0⟩ := rfl
      rw [ebr] at HBr
      clear ebr h5
      generalize bareB ⟨5, v.n, v.f, v.t, none, v.ns.length, 0, none, 0, 0⟩ = r at *
      go_enter Tryz.func42, Tryz.ntmps42
      go_wp2_with fail
      refine (HIt.out _ (Env.of HF.out)).mono ?_
      rintro e w1 ⟨rfl, f1⟩
      have hB1 := f1.blk HB.out (fun h => h)
      have HF1 := hid (HF.out.trans f1 (fun _ h => h.elim))
      obtain ⟨c0, c1, c2, c3, c4, c5⟩ := hB1.six
      have z5 := hB1.frozen 5
      have HFs := hid (HF1.out.setCell (p := ⟨w.heap.size, 5, none⟩) (.inr (Nat.le_refl _)) (.slice none 0 0))
      clear f1 hB1
      cases q with
      | false =>
        go_wp2_with fail
        go_ret
        exact ⟨by rw [HQ.out]; rfl, HFs.out⟩
      | true =>
        go_wp2_with fail
        refine (HBr.out _).mono ?_
        rintro e w2 ⟨rfl, f2⟩
        have HF2 := hid (HFs.out.trans f2 (fun _ h => h.elim))
        clear f2
        go_wp2_with fail
        go_ret
        exact ⟨by rw [HQ.out]; rfl, HF2.out⟩
    by_cases h6 : v.k = 6
    · have HQ : Hid (rtB v room = ((decide (v.ns.length = v.its.length) && rnB v.ns && itB v.its room) && bareB ⟨6, v.n, v.f, v.t, none, 0, 0, none, 0, 0⟩)) := by
        cases v with
        | mk k n f t ns its =>
          simp only [Vt.k] at h6
          subst h6
          unfold Hid
          rw [rtB, if_neg (by decide), if_pos rfl]; rfl
      obtain ⟨k, n, f, t, na, nl, nc, ia, il, ic⟩ := x
      simp only at p1 p2 p3 p4 p5 p6
      rw [h6] at p1
      subst p1 p2 p3 p4 p5 p6
      have HB := hid (vBlk w ⟨6, v.n, v.f, v.t, na, v.ns.length, nc, ia, v.its.length, ic⟩)
      have HF := hid (vFr w ⟨6, v.n, v.f, v.t, na, v.ns.length, nc, ia, v.its.length, ic⟩)
      simp only [Vv.v] at *
      generalize itB v.its room = q at *
      generalize rnB v.ns = u at *
      have HBr := hid (fun W => isBare_any W ⟨6, v.n, v.f, v.t, none, 0, 0, none, 0, 0⟩)
      clear h6 h5
      generalize bareB ⟨6, v.n, v.f, v.t, none, 0, 0, none, 0, 0⟩ = r at *
      by_cases hne : v.ns.length = v.its.length
      · have hne' : (((v.ns.length : Nat) : Int) == ((v.its.length : Nat) : Int)) = true := by simp; omega
        rw [decide_eq_true hne] at HQ
        clear hne
        go_enter Tryz.func42, Tryz.ntmps42
        go_wp2_with fail
        refine (HNm.out _ (Env.of HF.out)).mono ?_
        rintro e w1 ⟨rfl, f1⟩
        have hB1 := f1.blk HB.out (fun h => h)
        have HF1 := hid (HF.out.trans f1 (fun _ h => h.elim))
        have HB1 := hid hB1
        obtain ⟨c0, c1, c2, c3, c4, c5⟩ := hB1.six
        have z4 := hB1.frozen 4
        have z5 := hB1.frozen 5
        have HFs := hid ((HF1.out.setCell (p := ⟨w.heap.size, 4, none⟩) (.inr (Nat.le_refl _)) (.slice none 0 0)).setCell (p := ⟨w.heap.size, 5, none⟩) (.inr (Nat.le_refl _)) (.slice none 0 0))
        clear f1 hB1 HNm
        cases u with
        | false =>
          go_wp2_with fail
          go_ret
          exact ⟨by rw [HQ.out]; rfl, HFs.out⟩
        | true =>
          clear HFs
          go_wp2_with fail
          refine (HIt.out _ (Env.of HF1.out)).mono ?_
          rintro e w2 ⟨rfl, f2⟩
          have hB2 := f2.blk HB1.out (fun h => h)
          have HF2 := hid (HF1.out.trans f2 (fun _ h => h.elim))
          clear c0 c1 c2 c3 c4 c5 z4 z5
          obtain ⟨c0, c1, c2, c3, c4, c5⟩ := hB2.six
          have z4 := hB2.frozen 4
          have z5 := hB2.frozen 5
          have HFs := hid ((HF2.out.setCell (p := ⟨w.heap.size, 4, none⟩) (.inr (Nat.le_refl _)) (.slice none 0 0)).setCell (p := ⟨w.heap.size, 5, none⟩) (.inr (Nat.le_refl _)) (.slice none 0 0))
          clear f2 hB2
          cases q with
          | false =>
            go_wp2_with fail
            go_ret
            exact ⟨by rw [HQ.out]; rfl, HFs.out⟩
          | true =>
            go_wp2_with fail
            refine (HBr.out _).mono ?_
            rintro e w3 ⟨rfl, f3⟩
            have HF3 := hid (HFs.out.trans f3 (fun _ h => h.elim))
            clear f3
            go_wp2_with fail
            go_ret
            exact ⟨by rw [HQ.out]; rfl, HF3.out⟩
      · have hne' : (((v.ns.length : Nat) : Int) == ((v.its.length : Nat) : Int)) = false := by simp; omega
        rw [decide_eq_false hne] at HQ
        have HFs := hid (vFr w ⟨6, v.n, v.f, v.t, none, 0, 0, none, 0, 0⟩)
        clear hne
        go_enter Tryz.func42, Tryz.ntmps42
        go_wp2_with fail
        go_ret
        exact ⟨by rw [HQ.out]; rfl, HFs.out⟩
    · have e : rtB v room = rightS x := by
        cases v with
        | mk k n f t ns its =>
          simp only [Vt.k, Vt.n, Vt.f, Vt.t, Vt.ns, Vt.its] at *
          rw [rtB, if_neg h5, if_neg h6]
          exact rightS_same _ _ ⟨p1.symm, p2.symm, p3.symm, p4.symm, p5.symm, p6.symm⟩
      rw [e]
      exact rightWithin_sca w x (room : Int) (by rw [p1]; exact h5) (by rw [p1]; exact h6)
theorem rt_of (v : Vt) : RtOf v := right_tree _ v (Nat.le_refl _)

set_option maxRecDepth 100000 in
set_option maxHeartbeats 2000000 in
theorem right_any {w : World} {v : Vt} {x : Vv} (hx : VIn w v x) : RightOf w x (rtB v 32) := by
  intro W e
  have HF := hid (vFr W x)
  have HR := hid (fun W' (e' : Env w W') => rt_of v x W' 32 (VIn.env e' _ _ hx) (Nat.le_refl _))
  have HE := hid e
  clear hx e
  simp only [Vv.v] at *
  go_enter Tryz.func26, Tryz.ntmps26
  go_wp2_with fail
  refine (HR.out _ (HE.out.trans (Env.of HF.out))).mono ?_
  rintro e1 w1 ⟨rfl, f1⟩
  have HF1 := hid (HF.out.trans f1 (fun _ h => h.elim))
  clear f1
  go_wp2_with fail
  go_ret
  exact ⟨rfl, HF1.out⟩
end Go.Proofs.YtniailfcmlongaaGreatDoor.Tr
/- takes over types that have no items. -/
namespace Go.Proofs.YtniailfcmlongaaGreatDoor.Tr
open Go.RowKit

abbrev sStart : List UInt8 := [115, 116, 97, 114, 116]
abbrev sAfter : List UInt8 := [97, 102, 116, 101, 114]
abbrev sRequires : List UInt8 := [114, 101, 113, 117, 105, 114, 101, 115]
def bareT (s : List UInt8) (k : Int) : Bool := if s = sBool then decide (k = 1) else if s = sFloat then decide (k = 3) || decide (k = 2) else decide (k = 4)
def partB (name : List UInt8) (u : Vt) : Bool :=
  if name = sStart then decide (u.k = 4) else if name = sAfter ∨ name = sRequires then decide (u.k = 5) && u.its.all (fun v => decide (v.k = 4)) else false
def partsB : List (List UInt8) → List Vt → Bool
  | n :: ns, v :: vs => partB n v && partsB ns vs
  | _, _ => true
/-- Is a value of a type? -/
def tkB : Ty → Vt → Bool
  | .bare s, v => if s = sUnit then decide (v.k = 6) && partsB v.ns v.its else bareT s v.k
  | .int lo hi, v => decide (v.k = 2) && (decide (lo ≤ v.n) && decide (v.n ≤ hi))
  | .enum ws, v => decide (v.k = 4) && ws.contains v.t
  | .list t, v => decide (v.k = 5) && v.its.all (fun u => tkB t u)
  | .attrs t, v => decide (v.k = 6) && v.its.all (fun u => tkB t u)
/-- As many names as items, in every set. -/
def evenV (v : Vt) : Prop := ∃ n, rtB v n = true

theorem takes_env {w : World} {b j : Nat} {v : Value} (x : Vv) (h : w.cell? ⟨b, j, none⟩ = some v) : (vBox w x).cell? ⟨b, j, none⟩ = some v := (Env.alloc w _).cell h

set_option maxRecDepth 100000 in
set_option maxHeartbeats 2000000 in
theorem takes_bare (w : World) (s : List UInt8) (hs : s = sBool ∨ s = sFloat ∨ s = sString ∨ s = sLines) (x : Vv) (b : Nat) (hk : w.cell? ⟨b, 0, none⟩ = some (.string ⟨s.toArray⟩)) :
    Calls Tryz.prog 27 #[pv b, x.v] w fun e w' => e = .returned (.bool (bareT s x.k)) ∧ Fr (fun _ => False) w w' := by
  have HF := hid (vFr w x)
  have c0 := takes_env x hk
  clear hk
  obtain ⟨k, n, f, t, na, nl, nc, ia, il, ic⟩ := x
  simp only [Vv.v, vBox] at *
  rcases hs with rfl | rfl | rfl | rfl
  · have HR : Hid (bareT sBool k = (k == 1)) := by unfold Hid bareT; rw [if_pos rfl]; rfl
    generalize bareT sBool k = r at *
    go_enter Tryz.func27, Tryz.ntmps27
    go_wp2
    go_ret
    exact ⟨by rw [HR.out]; rfl, HF.out⟩
  · have HR : Hid (bareT sFloat k = ((k == 3) || (k == 2))) := by unfold Hid bareT; rw [if_neg (by decide), if_pos rfl]; rfl
    generalize bareT sFloat k = r at *
    by_cases h3 : k = 3
    · have h3' : (k == 3) = true := by simpa using h3
      clear h3
      go_enter Tryz.func27, Tryz.ntmps27
      go_wp2
      go_ret
      exact ⟨by rw [HR.out, h3']; rfl, HF.out⟩
    · have h3' : (k == 3) = false := by simpa using h3
      clear h3
      go_enter Tryz.func27, Tryz.ntmps27
      go_wp2
      go_ret
      exact ⟨by rw [HR.out, h3']; rfl, HF.out⟩
  · have HR : Hid (bareT sString k = (k == 4)) := by unfold Hid bareT; rw [if_neg (by decide), if_neg (by decide)]; rfl
    generalize bareT sString k = r at *
    go_enter Tryz.func27, Tryz.ntmps27
    go_wp2
    go_ret
    exact ⟨by rw [HR.out]; rfl, HF.out⟩
  · have HR : Hid (bareT sLines k = (k == 4)) := by unfold Hid bareT; rw [if_neg (by decide), if_neg (by decide)]; rfl
    generalize bareT sLines k = r at *
    go_enter Tryz.func27, Tryz.ntmps27
    go_wp2
    go_ret
    exact ⟨by rw [HR.out]; rfl, HF.out⟩

set_option maxRecDepth 100000 in
set_option maxHeartbeats 2000000 in
theorem takes_int (w : World) (lo hi : Int) (x : Vv) (b : Nat) (hk : KIn w (.int lo hi) b) :
    Calls Tryz.prog 27 #[pv b, x.v] w fun e w' => e = .returned (.bool (decide (x.k = 2) && (decide (lo ≤ x.n) && decide (x.n ≤ hi)))) ∧ Fr (fun _ => False) w w' := by
  have HF := hid (vFr w x)
  obtain ⟨k0, k1, k2⟩ := hk
  have c0 := takes_env x k0
  have c1 := takes_env x k1
  have c2 := takes_env x k2
  clear k0 k1 k2
  obtain ⟨k, n, f, t, na, nl, nc, ia, il, ic⟩ := x
  simp only [Vv.v, vBox] at *
  by_cases h2 : k = 2
  · have h2' : (k == 2) = true := by simpa using h2
    by_cases hl : lo ≤ n
    · have hl' : decide (lo ≤ n) = true := by simpa using hl
      have HR : Hid ((decide (k = 2) && (decide (lo ≤ n) && decide (n ≤ hi))) = decide (n ≤ hi)) := by unfold Hid; rw [decide_eq_true h2, hl']; rfl
      generalize (decide (k = 2) && (decide (lo ≤ n) && decide (n ≤ hi))) = r at *
      clear h2 hl
      go_enter Tryz.func27, Tryz.ntmps27
      go_wp2
      go_quiet (fail)
      go_wp2
      go_ret
      exact ⟨by rw [HR.out]; rfl, HF.out.drewN _⟩
    · have hl' : decide (lo ≤ n) = false := by simpa using hl
      have HR : Hid ((decide (k = 2) && (decide (lo ≤ n) && decide (n ≤ hi))) = false) := by unfold Hid; rw [decide_eq_true h2, hl']; rfl
      generalize (decide (k = 2) && (decide (lo ≤ n) && decide (n ≤ hi))) = r at *
      clear h2 hl
      go_enter Tryz.func27, Tryz.ntmps27
      go_wp2
      go_quiet (fail)
      go_wp2
      go_ret
      exact ⟨by rw [HR.out]; rfl, HF.out.drewN _⟩
  · have h2' : (k == 2) = false := by simpa using h2
    have HR : Hid ((decide (k = 2) && (decide (lo ≤ n) && decide (n ≤ hi))) = false) := by unfold Hid; rw [decide_eq_false h2]; rfl
    generalize (decide (k = 2) && (decide (lo ≤ n) && decide (n ≤ hi))) = r at *
    clear h2
    go_enter Tryz.func27, Tryz.ntmps27
    go_wp2
    go_quiet (fail)
    go_wp2
    go_ret
    exact ⟨by rw [HR.out]; rfl, HF.out.drewN _⟩

/-- What takes tells of a type, of every value. -/
def TkOf (t : Ty) : Prop := ∀ (v : Vt) (x : Vv) (w : World) (b : Nat), evenV v → VIn w v x → KIn w t b → Calls Tryz.prog 27 #[pv b, x.v] w fun e w' => e = .returned (.bool (tkB t v)) ∧ Fr (fun _ => False) w w'

set_option maxRecDepth 100000 in
set_option maxHeartbeats 4000000 in
theorem takesAll_of (t : Ty) (hT : TkOf t) (l : List Vt) (hE : ∀ v ∈ l, evenV v) (w : World) (ad : Option Addr) (cap b : Nat) (hI : IIn w l ad) (hlim : l.length ≤ lim) (hK : KIn w t b) :
    Calls Tryz.prog 33 #[pv b, .slice ad l.length cap] w fun e w' => e = .returned (.bool (l.all fun u => tkB t u)) ∧ Fr (fun _ => False) w w' := by
  have hlim' : l.length ≤ 140737488351232 := hlim
  have hst := fun (W : World) (a : Addr) (m : Mode) (f : Nat) => run_store Tryz.prog W a (.float .f64 f) m rfl
  have HT := hid hT
  have HE := hid hE
  have HI := hid hI
  have HK := hid hK
  clear hT hE hI hlim hK
  go_enter Tryz.func33, Tryz.ntmps33
  go_wp2_with fail
  go_loopw [6, 9] (fun _ iv wr => ∃ i : Nat, i ≤ l.length ∧ iv = .int .i64 (i : Int) ∧ (∀ j (h : j < l.length), j < i → tkB t l[j] = true) ∧ Fr (fun _ => False) w wr) (fun _ iv _ => l.length - (intOf iv).toNat)
  case atStart => exact ⟨0, Nat.zero_le _, rfl, fun j _ hj => absurd hj (by omega), Fr.refl _ _⟩
  case round =>
    obtain ⟨i, hi, rfl, hA, hF⟩ := hrel
    have HA := hid hA
    have HF := hid hF
    clear hA hF
    by_cases hlt : i < l.length
    · have hlt' : (i : Int) < ((l.length : Nat) : Int) := by omega
      obtain ⟨bb, bo, rfl⟩ := HI.out.some (by intro e; rw [e] at hlt; simp at hlt)
      obtain ⟨y, y1, y2⟩ := HI.out.get i hlt
      obtain ⟨k0, k1, k2, k3, k4, k5⟩ := (y1.env (Env.of HF.out)).six
      have HFb := hid (HF.out.trans (vFr wr y) (fun _ h => h.elim))
      have HC := hid (HT.out l[i] y (vBox wr y) b (HE.out _ (List.getElem_mem hlt)) (VIn.env (Env.of HFb.out) _ _ y2) (KIn.env (Env.of HFb.out) _ _ HK.out))
      have HN : Hid (tkB t l[i] = false → (l.all fun u => tkB t u) = false) := fun h => by
        rw [List.all_eq_false]
        exact ⟨l[i], List.getElem_mem hlt, by rw [h]; simp⟩
      have HN2 : Hid (tkB t l[i] = true → ∀ j (h : j < l.length), j < i + 1 → tkB t l[j] = true) := fun h j hj hj' => by
        by_cases e : j = i
        · subst e; exact h
        · exact HA.out j hj (by omega)
      generalize hq : tkB t l[i] = q at HC HN HN2
      clear y1 y2 HA hq
      go_wp2_with fail
      refine HC.out.mono ?_
      rintro e w2 ⟨rfl, f2⟩
      have HF2 := hid (HFb.out.trans f2 (fun _ h => h.elim))
      clear f2
      cases q with
      | false =>
        have HE2 := hid (HN.out rfl)
        go_wp2_with fail
        go_ret
        exact ⟨by rw [HE2.out]; rfl, HF2.out⟩
      | true =>
        have HE2 := hid (HN2.out rfl)
        go_wp2_with fail
        exact ⟨⟨i + 1, by omega, by first | rfl | (congr 1), HE2.out, HF2.out⟩, by simp [intOf]; omega⟩
    · have hlt' : ¬ (i : Int) < ((l.length : Nat) : Int) := by omega
      have HR : Hid ((l.all fun u => tkB t u) = true) := List.all_eq_true.2 fun u hu => by
        obtain ⟨j, hj, rfl⟩ := List.getElem_of_mem hu
        exact HA.out j hj (by omega)
      go_wp2_with fail
      go_ret
      exact ⟨by rw [HR.out]; rfl, HF.out⟩
end Go.Proofs.YtniailfcmlongaaGreatDoor.Tr
