import Derived.Test.YtangnoicnogddaaMin
import Derived.Lib.Bytealg
import Derived.Sort.Walk0
import Derived.LoopTactic
/- Searching rows that rise. -/
namespace Go.Proofs.Ytangnoicnogddaa.Tr
open Go.RowKit

theorem cmpb_spec : ∀ a b : Nm, (a < b ∧ Lib.compareBytes a b = -1) ∨ (a = b ∧ Lib.compareBytes a b = 0) ∨ (¬ a < b ∧ a ≠ b ∧ Lib.compareBytes a b = 1)
  | [], [] => .inr (.inl ⟨rfl, rfl⟩)
  | [], y :: b => .inl ⟨by simp, rfl⟩
  | x :: a, [] => .inr (.inr ⟨by simp, by simp, rfl⟩)
  | x :: a, y :: b => by
    unfold Lib.compareBytes
    simp only [List.cons_lt_cons_iff, List.cons.injEq, ne_eq]
    by_cases h1 : x < y
    · exact .inl ⟨.inl h1, by rw [if_pos h1]⟩
    · by_cases h2 : y < x
      · have hne : x ≠ y := fun e => by subst e; exact h1 h2
        refine .inr (.inr ⟨?_, fun h => hne h.1, by rw [if_neg h1, if_pos h2]⟩)
        rintro (h | ⟨h, _⟩)
        · exact h1 h
        · exact hne h
      · have e : x = y := UInt8.le_antisymm (UInt8.not_lt.1 h2) (UInt8.not_lt.1 h1)
        subst e
        rw [if_neg h1, if_neg h1]
        rcases cmpb_spec a b with ⟨h, k⟩ | ⟨h, k⟩ | ⟨h, h', k⟩
        · exact .inl ⟨.inr ⟨rfl, h⟩, k⟩
        · exact .inr (.inl ⟨⟨rfl, h⟩, k⟩)
        · refine .inr (.inr ⟨?_, fun q => h' q.2, k⟩)
          rintro (q | ⟨_, q⟩)
          · exact h1 q
          · exact h q
set_option maxRecDepth 100000 in
set_option maxHeartbeats 1000000 in
theorem cmp0_any (a b : Nm) (w : World) : Calls Try.prog 77 #[.string ⟨a.toArray⟩, .string ⟨b.toArray⟩] w fun e w' => e = .returned (.int .i64 (Lib.compareBytes a b)) ∧ w' = w := by
  have hx : (callFunc 88 #[.string ⟨a.toArray⟩, .string ⟨b.toArray⟩]).run Try.prog w = .ok (.value (.int .i64 (Lib.compareBytes a b))) w := by
    rw [run_callFunc_extern Try.func88 (by kernel_rfl) (by kernel_rfl) (by kernel_rfl) (e := Extern.BytealgCompare.compare) (by kernel_rfl), Lib.run_compareString]
    rfl
  generalize Lib.compareBytes a b = r at *
  go_enter Try.func77, Try.ntmps77
  go_wp2_with (simp only [hx])
  go_ret
  exact ⟨rfl, rfl⟩
set_option maxRecDepth 100000 in
set_option maxHeartbeats 1000000 in
theorem cmp_any (a b : Nm) (w : World) : Calls Try.prog 60 #[.string ⟨a.toArray⟩, .string ⟨b.toArray⟩] w fun e w' => e = .returned (.int .i64 (Lib.compareBytes a b)) ∧ w' = w := by
  have H := hid (cmp0_any a b w)
  generalize Lib.compareBytes a b = r at *
  go_enter Try.func60, Try.ntmps60
  go_wp2_with (go_at_call 77; refine H.out.mono ?_; rintro e w1 ⟨rfl, rfl⟩)
  go_ret
  exact ⟨rfl, rfl⟩
/-- An entry in a block of its own. -/
abbrev xBox (w : World) (x : Xv) : World := w.alloc (.cells x.cs.toArray 39)
theorem xBlk (w : World) (x : Xv) : Blk (xBox w x) w.heap.size 39 x.cs := Blk.new w 39 x.cs
set_option maxRecDepth 100000 in
set_option maxHeartbeats 1000000 in
theorem place1_any (x : Xv) (t : Nm) (w : World) : Calls Try.prog 59 #[x.v, .string ⟨t.toArray⟩] w fun e w' => e = .returned (.int .i64 (Lib.compareBytes x.p t)) ∧ Fr (fun _ => False) w w' := by
  have HF : Hid (Fr (fun _ => False) w (xBox w x)) := (Fr.refl _ w).alloc _
  have c0 := (xBlk w x).cell 0
  have H := hid (cmp_any x.p t (xBox w x))
  obtain ⟨p, k, da, dl, dc⟩ := x
  simp only [Xv.v, Xv.cs, xBox, List.getElem?_cons_zero] at *
  generalize Lib.compareBytes p t = r at *
  go_enter Try.func59, Try.ntmps59
  go_wp2_with (go_at_call 60; refine H.out.mono ?_; rintro e w1 ⟨rfl, rfl⟩)
  go_ret
  exact ⟨rfl, HF.out⟩
set_option maxRecDepth 100000 in
set_option maxHeartbeats 1000000 in
theorem cmpNaN_any (x : ByteArray) (w : World) : Calls Try.prog 78 #[.string x] w fun e w' => e = .returned (.bool false) ∧ w' = w := by
  go_enter Try.func78, Try.ntmps78
  go_wp2
  go_ret
  exact ⟨by simp, rfl⟩
set_option maxRecDepth 100000 in
set_option maxHeartbeats 1000000 in
theorem slNaN_any (x : ByteArray) (w : World) : Calls Try.prog 62 #[.string x] w fun e w' => e = .returned (.bool false) ∧ w' = w := by
  go_enter Try.func62, Try.ntmps62
  go_wp2
  go_ret
  exact ⟨by simp, rfl⟩
set_option maxRecDepth 100000 in
set_option maxHeartbeats 1000000 in
theorem less_any (a b : Nm) (w : World) : Calls Try.prog 61 #[.string ⟨a.toArray⟩, .string ⟨b.toArray⟩] w fun e w' => e = .returned (.bool (decide (a < b))) ∧ w' = w := by
  have hb : Hid (Op.bytesLess a b = decide (a < b)) := bytesLess_eq a b
  go_enter Try.func61, Try.ntmps61
  go_wp2_with (go_at_call 78; refine (cmpNaN_any _ _).mono ?_; rintro e w' ⟨rfl, rfl⟩)
  go_ret
  refine ⟨?_, rfl⟩
  rw [← hb.out]
  simp
end Go.Proofs.Ytangnoicnogddaa.Tr
/- The two binary searches. -/
namespace Go.Proofs.Ytangnoicnogddaa.Tr
open Go.RowKit

theorem pos_iff {l : List Nm} (hp : l.Pairwise (· < ·)) {t : Nm} {m : Nat} (h : m < l.length) : l[m] < t ↔ m < pos l t := by
  constructor
  · intro hlt
    rcases Nat.lt_or_ge m (pos l t) with h1 | h1
    · exact h1
    · exfalso
      have h2 : pos l t < l.length := by omega
      have h3 := pos_ge h2
      rcases Nat.lt_or_eq_of_le h1 with h4 | h4
      · exact h3 (nm_lt_trans (rise_at hp h4 h) hlt)
      · simp only [h4] at h3
        exact h3 hlt
  · intro hm; exact pos_lt h hm
theorem isAt_yes {l : List Nm} {t : Nm} (h : pos l t < l.length) (e : l[pos l t] = t) : isAt l t = true := by
  unfold isAt; rw [List.getElem?_eq_getElem h, e]; simp
theorem isAt_no {l : List Nm} {t : Nm} (h : pos l t < l.length) (e : l[pos l t] ≠ t) : isAt l t = false := by
  unfold isAt; rw [List.getElem?_eq_getElem h]; simpa using e
theorem isAt_out {l : List Nm} {t : Nm} (h : ¬ pos l t < l.length) : isAt l t = false := by
  unfold isAt; rw [List.getElem?_eq_none (by omega)]; simp
theorem half_nat (lo hi : Nat) : ((lo : Int) + (hi : Int)) / 2 = (((lo + hi) / 2 : Nat) : Int) := by omega

set_option maxRecDepth 1000000 in
set_option maxHeartbeats 4000000 in
theorem bsS_any (w : World) (L : List Nm) (ad : Option Addr) (cap : Nat) (t : Nm) (hL : Strs w ad L) (hp : L.Pairwise (· < ·)) (hl : L.length ≤ 1000) :
    Calls Try.prog 41 #[.slice ad L.length cap, .string ⟨t.toArray⟩] w fun e w' => e = .returned (.tuple #[.int .i64 (pos L t : Nat), .bool (isAt L t)]) ∧ ∃ q, w' = w.drewN q := by
  have mixed : Try.prog.follows .mixedOrders = true := by kernel_rfl
  have HC : Hid (∀ i (h : i < L.length), ∃ b o, ad = some ⟨b, o, none⟩ ∧ w.cell? ⟨b, o + i, none⟩ = some (.string ⟨L[i].toArray⟩)) := fun i h => hL.at i h
  have HI : Hid (∀ m (h : m < L.length), L[m] < t ↔ m < pos L t) := fun m h => pos_iff hp h
  have HA1 : Hid (∀ h : pos L t < L.length, L[pos L t] = t → isAt L t = true) := fun h => isAt_yes h
  have HA2 : Hid (∀ h : pos L t < L.length, L[pos L t] ≠ t → isAt L t = false) := fun h => isAt_no h
  have HA3 : Hid (¬ pos L t < L.length → isAt L t = false) := fun h => isAt_out h
  have hP := pos_le L t
  generalize pos L t = P at *
  generalize isAt L t = r at *
  clear hL hp
  go_enter Try.func41, Try.ntmps41
  go_wp2
  go_loopw [7, 8] (fun s7 s8 wr => ∃ lo hi q : Nat, s7 = .int .i64 lo ∧ s8 = .int .i64 hi ∧ lo ≤ P ∧ P ≤ hi ∧ hi ≤ L.length ∧ wr = w.drewN q) (fun s7 s8 _ => (intOf s8).toNat - (intOf s7).toNat)
  case atStart => exact ⟨0, L.length, 0, rfl, rfl, Nat.zero_le _, hP, Nat.le_refl _, rfl⟩
  case round =>
    obtain ⟨lo, hi, q, rfl, rfl, h1, h2, h3, rfl⟩ := hrel
    by_cases hlt : lo < hi
    · have hm : (lo + hi) / 2 < L.length := by omega
      obtain ⟨b, o, rfl, cm⟩ := HC.out ((lo + hi) / 2) hm
      have HM := hid (HI.out ((lo + hi) / 2) hm)
      clear HC HI HA1 HA2 HA3
      generalize L[(lo + hi) / 2] = y at *
      by_cases hy : y < t
      · have hM : (lo + hi) / 2 < P := HM.out.1 hy
        have hd : Hid (decide (y < t) = true) := decide_eq_true hy
        clear HM hy
        go_wp2_with (go_at_call 61; refine (less_any _ _ _).mono ?_; rintro e w' ⟨rfl, rfl⟩; rw [hd.out])
        exact ⟨⟨(lo + hi) / 2 + 1, hi, _, by rw [half_nat]; rfl, rfl, by omega, h2, h3, rfl⟩, by simp [intOf]; omega⟩
      · have hM : ¬ (lo + hi) / 2 < P := fun h => hy (HM.out.2 h)
        have hd : Hid (decide (y < t) = false) := decide_eq_false hy
        clear HM hy
        go_wp2_with (go_at_call 61; refine (less_any _ _ _).mono ?_; rintro e w' ⟨rfl, rfl⟩; rw [hd.out])
        exact ⟨⟨lo, (lo + hi) / 2, _, rfl, by rw [half_nat], h1, by omega, by omega, rfl⟩, by simp [intOf]; omega⟩
    · obtain rfl : hi = lo := by omega
      obtain rfl : P = hi := by omega
      by_cases hn : P < L.length
      · obtain ⟨b, o, rfl, cl⟩ := HC.out P hn
        have HA1' := hid (HA1.out hn)
        have HA2' := hid (HA2.out hn)
        clear HC HI HA1 HA2 HA3
        generalize L[P] = y at *
        by_cases hy : y = t
        · subst hy
          have HR := hid (HA1'.out rfl)
          clear HA1' HA2'
          go_wp2_with (go_at_call 62; refine (slNaN_any _ _).mono ?_; rintro e w' ⟨rfl, rfl⟩)
          go_ret2
          exact ⟨by rw [HR.out]; first | rfl | simp [*], _, rfl⟩
        · have HR := hid (HA2'.out hy)
          have hne : (y == t) = false := by simpa using hy
          clear HA1' HA2' hy
          go_wp2_with (go_at_call 62; refine (slNaN_any _ _).mono ?_; rintro e w' ⟨rfl, rfl⟩)
          all_goals
            go_ret2
            exact ⟨by rw [HR.out]; first | rfl | simp [*], _, rfl⟩
      · have HR := hid (HA3.out hn)
        clear HC HI HA1 HA2 HA3
        go_wp2_with (go_at_call 62; refine (slNaN_any _ _).mono ?_; rintro e w' ⟨rfl, rfl⟩)
        go_ret2
        exact ⟨by rw [HR.out]; first | rfl | simp [*], _, rfl⟩

/-- Entries in a row, by their paths. -/
def PathsAt (w : World) (ad : Option Addr) (L : List Nm) : Prop := ∀ i (h : i < L.length), ∃ b x, ad = some ⟨b, 0, none⟩ ∧ Xv.p x = L[i] ∧ w.cell? ⟨b, i * 3, none⟩ = some (.string ⟨x.p.toArray⟩) ∧ w.cell? ⟨b, i * 3 + 1, none⟩ = some (.int .i64 x.k) ∧ w.cell? ⟨b, i * 3 + 2, none⟩ = some (.slice x.da x.dl x.dc)
theorem PathsAt.fr {w w' : World} {ad : Option Addr} {L : List Nm} (h : PathsAt w ad L) (f : Fr (fun _ => False) w w') : PathsAt w' ad L := fun i hi => by
  obtain ⟨b, x, e, h1, h2, h3, h4⟩ := h i hi
  have e' := Env.of f
  exact ⟨b, x, e, h1, e'.cell h2, e'.cell h3, e'.cell h4⟩

set_option maxRecDepth 1000000 in
set_option maxHeartbeats 4000000 in
theorem bsE_any (w : World) (L : List Nm) (ad : Option Addr) (cap : Nat) (t : Nm) (hL : PathsAt w ad L) (hp : L.Pairwise (· < ·)) (hl : L.length ≤ 1000) :
    Calls Try.prog 58 #[.slice ad L.length cap, .string ⟨t.toArray⟩, .func (.func 59) #[] #[]] w fun e w' => e = .returned (.tuple #[.int .i64 (pos L t : Nat), .bool (isAt L t)]) ∧ Fr (fun _ => False) w w' := by
  have mixed : Try.prog.follows .mixedOrders = true := by kernel_rfl
  have HC := hid hL
  have HI : Hid (∀ m (h : m < L.length), L[m] < t ↔ m < pos L t) := fun m h => pos_iff hp h
  have HA1 : Hid (∀ h : pos L t < L.length, L[pos L t] = t → isAt L t = true) := fun h => isAt_yes h
  have HA2 : Hid (∀ h : pos L t < L.length, L[pos L t] ≠ t → isAt L t = false) := fun h => isAt_no h
  have HA3 : Hid (¬ pos L t < L.length → isAt L t = false) := fun h => isAt_out h
  have hP := pos_le L t
  generalize pos L t = P at *
  generalize isAt L t = r at *
  clear hL hp
  go_enter Try.func58, Try.ntmps58
  go_wp2
  go_loopw [9, 10, 11] (fun s7 s8 _ wr => ∃ lo hi : Nat, s7 = .int .i64 lo ∧ s8 = .int .i64 hi ∧ lo ≤ P ∧ P ≤ hi ∧ hi ≤ L.length ∧ Fr (fun _ => False) w wr) (fun s7 s8 _ _ => (intOf s8).toNat - (intOf s7).toNat)
  case atStart => exact ⟨0, L.length, rfl, rfl, Nat.zero_le _, hP, Nat.le_refl _, Fr.refl _ _⟩
  case round =>
    obtain ⟨lo, hi, rfl, rfl, h1, h2, h3, hF⟩ := hrel
    have HF := hid hF
    clear hF
    by_cases hlt : lo < hi
    · have hm : (lo + hi) / 2 < L.length := by omega
      obtain ⟨b, x, rfl, hx, c0, c1, c2⟩ := HC.out.fr HF.out ((lo + hi) / 2) hm
      have HM := hid (HI.out ((lo + hi) / 2) hm)
      rw [← hx] at HM
      clear HC HI HA1 HA2 HA3 hx
      have HK := hid (fun W => place1_any x t W)
      obtain ⟨p, k, da, dl, dc⟩ := x
      simp only [Xv.v, Xv.cs] at *
      rcases cmpb_spec p t with ⟨g1, g2⟩ | ⟨g1, g2⟩ | ⟨g1, g3, g2⟩
      · have hM : (lo + hi) / 2 < P := HM.out.1 g1
        have hd := hid g2
        clear HM g1 g2
        go_wp2_with (go_at_call 59; refine (HK.out _).mono ?_; rintro e w1 ⟨rfl, f1⟩; have F1 := hid f1; clear f1; rw [hd.out])
        exact ⟨⟨(lo + hi) / 2 + 1, hi, by rw [half_nat]; rfl, rfl, by omega, h2, h3, HF.out.trans F1.out (fun _ h => h.elim)⟩, by simp [intOf]; omega⟩
      · have hM : ¬ (lo + hi) / 2 < P := fun h => nm_lt_irrefl t (by have := HM.out.2 h; rwa [g1] at this)
        have hd := hid g2
        clear HM g1 g2
        go_wp2_with (go_at_call 59; refine (HK.out _).mono ?_; rintro e w1 ⟨rfl, f1⟩; have F1 := hid f1; clear f1; rw [hd.out])
        exact ⟨⟨lo, (lo + hi) / 2, rfl, by rw [half_nat], h1, by omega, by omega, HF.out.trans F1.out (fun _ h => h.elim)⟩, by simp [intOf]; omega⟩
      · have hM : ¬ (lo + hi) / 2 < P := fun h => g1 (HM.out.2 h)
        have hd := hid g2
        clear HM g1 g2 g3
        go_wp2_with (go_at_call 59; refine (HK.out _).mono ?_; rintro e w1 ⟨rfl, f1⟩; have F1 := hid f1; clear f1; rw [hd.out])
        exact ⟨⟨lo, (lo + hi) / 2, rfl, by rw [half_nat], h1, by omega, by omega, HF.out.trans F1.out (fun _ h => h.elim)⟩, by simp [intOf]; omega⟩
    · obtain rfl : hi = lo := by omega
      obtain rfl : P = hi := by omega
      by_cases hn : P < L.length
      · obtain ⟨b, x, rfl, hx, c0, c1, c2⟩ := HC.out.fr HF.out P hn
        have HA1' := hid (HA1.out hn)
        have HA2' := hid (HA2.out hn)
        rw [← hx] at HA1' HA2'
        clear HC HI HA1 HA2 HA3 hx
        have HK := hid (fun W => place1_any x t W)
        obtain ⟨p, k, da, dl, dc⟩ := x
        simp only [Xv.v, Xv.cs] at *
        rcases cmpb_spec p t with ⟨g1, g2⟩ | ⟨g1, g2⟩ | ⟨g1, g3, g2⟩
        · have HR := hid (HA2'.out (fun e => nm_lt_irrefl t (by rwa [e] at g1)))
          have hd := hid g2
          clear HA1' HA2' g1 g2
          go_wp2_with (go_at_call 59; refine (HK.out _).mono ?_; rintro e w1 ⟨rfl, f1⟩; have F1 := hid f1; clear f1; rw [hd.out])
          go_ret2
          exact ⟨by rw [HR.out]; first | rfl | simp [*], HF.out.trans F1.out (fun _ h => h.elim)⟩
        · have HR := hid (HA1'.out g1)
          have hd := hid g2
          clear HA1' HA2' g1 g2
          go_wp2_with (go_at_call 59; refine (HK.out _).mono ?_; rintro e w1 ⟨rfl, f1⟩; have F1 := hid f1; clear f1; rw [hd.out])
          go_ret2
          exact ⟨by rw [HR.out]; first | rfl | simp [*], HF.out.trans F1.out (fun _ h => h.elim)⟩
        · have HR := hid (HA2'.out g3)
          have hd := hid g2
          clear HA1' HA2' g1 g2 g3
          go_wp2_with (go_at_call 59; refine (HK.out _).mono ?_; rintro e w1 ⟨rfl, f1⟩; have F1 := hid f1; clear f1; rw [hd.out])
          go_ret2
          exact ⟨by rw [HR.out]; first | rfl | simp [*], HF.out.trans F1.out (fun _ h => h.elim)⟩
      · have HR := hid (HA3.out hn)
        clear HC HI HA1 HA2 HA3
        go_wp2_with fail
        go_ret2
        exact ⟨by rw [HR.out]; first | rfl | simp [*], HF.out⟩
end Go.Proofs.Ytangnoicnogddaa.Tr
