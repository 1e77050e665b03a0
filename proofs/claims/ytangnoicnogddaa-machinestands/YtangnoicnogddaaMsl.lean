/- The contracts of slot, fails, place. -/
import Derived.Test.YtangnoicnogddaaMem
namespace Go.Proofs.Ytangnoicnogddaa.Tr
open Go.RowKit

set_option maxRecDepth 100000 in
set_option maxHeartbeats 1000000 in
theorem slot1_any (w : World) (x : Uv) (n : Nm) (cb : Nat) (hc : w.cell? ⟨cb, 0, none⟩ = some (.string ⟨n.toArray⟩)) :
    Calls Try.prog 57 #[x.v, .pointer (some ⟨cb, 0, none⟩)] w fun e w' => e = .returned (.bool (decide (x.n = n))) ∧ Fr (fun _ => False) w w' := by
  have HF := hid (uFr w x)
  obtain ⟨c0, c1, c2, c3⟩ := (uBlk w x).fourU
  have cn := (Env.of (uFr w x)).cell hc
  have hd : decide (x.n = n) = (x.n == n) := by by_cases h : x.n = n <;> simp [h]
  rw [hd]
  clear hc hd
  obtain ⟨n', s, ra, rl, rc, aa, al, ac⟩ := x
  simp only [Uv.v] at *
  cases hn : (n' == n) with
  | true =>
    go_enter Try.func57, Try.ntmps57
    go_wp2_with fail
    go_ret
    exact ⟨rfl, HF.out⟩
  | false =>
    go_enter Try.func57, Try.ntmps57
    go_wp2_with fail
    go_ret
    exact ⟨rfl, HF.out⟩

set_option maxRecDepth 100000 in
set_option maxHeartbeats 2000000 in
theorem ixU_any (w0 w : World) (U : List Ut) (ad : Option Addr) (cap : Nat) (n : Nm) (cb : Nat) (hU : Us w0 w U ad) (hc : w.cell? ⟨cb, 0, none⟩ = some (.string ⟨n.toArray⟩)) (hl : U.length ≤ lim) :
    Calls Try.prog 56 #[.slice ad U.length cap, .func (.func 57) #[] #[.pointer (some ⟨cb, 0, none⟩)]] w fun e w' => e = .returned (.int .i64 (fiI U n)) ∧ Fr (fun _ => False) w w' := by
  have HU := hid hU
  have HCn := hid hc
  have hl' : U.length ≤ 140737488351232 := hl
  clear hU hl hc
  go_enter Try.func56, Try.ntmps56
  go_wp2_with fail
  go_loopw [5, 8] (fun _ iv wr => ∃ i : Nat, i ≤ U.length ∧ iv = .int .i64 (i : Int) ∧ (∀ j (h : j < U.length), j < i → U[j].n ≠ n) ∧ Fr (fun _ => False) w wr) (fun _ iv _ => U.length - (intOf iv).toNat)
  case atStart => exact ⟨0, Nat.zero_le _, rfl, fun j _ h => by omega, Fr.refl _ _⟩
  case round =>
    obtain ⟨i, hi, rfl, hno, hF⟩ := hrel
    have HNo := hid hno
    have HF := hid hF
    clear hno hF
    by_cases hlt : i < U.length
    · have hlt' : (i : Int) < ((U.length : Nat) : Int) := by omega
      obtain ⟨b, o, rfl⟩ := HU.out.some hlt
      obtain ⟨x, x1, x2⟩ := (HU.out.env (Env.of HF.out)).get i hlt
      obtain ⟨c0, c1, c2, c3⟩ := x1.all
      have HK := hid (slot1_any wr x n cb ((Env.of HF.out).cell HCn.out))
      have HT : Hid (x.n = n → fiI U n = (i : Int)) := fun h => fiI_some (fi_some.2 ⟨hlt, by rw [← x2.n]; exact h, fun j hj => HNo.out j (by omega) hj⟩)
      have HN : Hid (x.n ≠ n → ∀ j (h : j < U.length), j < i + 1 → U[j].n ≠ n) := fun h j hj hj' => by
        by_cases e : j = i
        · subst e; rw [← x2.n]; exact h
        · exact HNo.out j hj (by omega)
      clear x1 x2 HNo
      obtain ⟨n', s, ra, rl, rc, aa, al, ac⟩ := x
      simp only [Uv.v] at *
      by_cases hp : n' = n
      · have HR := hid (HT.out hp)
        rw [decide_eq_true hp] at HK
        clear HT HN hp
        go_wp2_with fail
        refine HK.out.mono ?_
        rintro e w2 ⟨rfl, f2⟩
        have HF2 := hid (HF.out.trans f2 (fun _ h => h.elim))
        clear f2
        go_wp2_with fail
        go_ret
        exact ⟨by rw [HR.out]; rfl, HF2.out⟩
      · have HR := hid (HN.out hp)
        rw [decide_eq_false hp] at HK
        clear HT HN hp
        go_wp2_with fail
        refine HK.out.mono ?_
        rintro e w2 ⟨rfl, f2⟩
        have HF2 := hid (HF.out.trans f2 (fun _ h => h.elim))
        clear f2
        go_wp2_with fail
        exact ⟨⟨i + 1, by omega, by first | rfl | (congr 1), HR.out, HF2.out⟩, by simp [intOf]; omega⟩
    · have hlt' : ¬ (i : Int) < ((U.length : Nat) : Int) := by omega
      have HR := hid (fiI_none (fi_none.2 (fun j h => HNo.out j h (by omega))))
      go_wp2_with fail
      go_ret
      exact ⟨by rw [HR.out]; rfl, HF.out⟩

section
variable {O D : Nat → Prop} {w : World} {mb : Nat} {s : St} {fv uv rv : Value} {pa : Option Addr} {pc : Nat} {XF : List Xv} {XR : List Uv}
set_option maxRecDepth 100000 in
set_option maxHeartbeats 2000000 in
theorem slot_any (h : MI O D w mb s fv uv rv pa pc XF XR) (hl : s.r.length ≤ lim) (n : Nm) :
    Calls Try.prog 36 #[.pointer (some ⟨mb, 2, none⟩), .string ⟨n.toArray⟩] w fun e w' => e = .returned (.int .i64 (fiI s.r n)) ∧ Fr (fun _ => False) w w' := by
  obtain ⟨fa, fc, ua, uc, ra, rc, rfl, rfl, rfl⟩ := h.rows
  have HF : Hid (Fr (fun _ => False) w (w.alloc (.cells #[.string ⟨n.toArray⟩] 9))) := (Fr.refl _ w).alloc _
  have h' := h.keep0 HF.out
  have HK := hid (ixU_any _ _ s.r ra rc n w.heap.size h'.us ((Blk.new w 9 [.string ⟨n.toArray⟩]).cell 0) hl)
  have c2 := h'.cells.2.2.1
  clear h h' hl
  generalize fiI s.r n = r at *
  go_enter Try.func36, Try.ntmps36
  go_wp2_with fail
  refine HK.out.mono ?_
  rintro e w2 ⟨rfl, f2⟩
  have HF2 := hid (HF.out.trans f2 (fun _ h => h.elim))
  clear f2
  go_wp2_with fail
  go_ret
  exact ⟨rfl, HF2.out⟩
set_option maxRecDepth 100000 in
set_option maxHeartbeats 2000000 in
theorem place_any (h : MI O D w mb s fv uv rv pa pc XF XR) (hs : s.ok) (n : Nm) :
    Calls Try.prog 39 #[.pointer (some ⟨mb, 0, none⟩), .string ⟨n.toArray⟩] w fun e w' => e = .returned (.tuple #[.int .i64 (pos (paths s.f) n : Nat), .bool (isAt (paths s.f) n)]) ∧ Fr (fun _ => False) w w' := by
  obtain ⟨fa, fc, ua, uc, ra, rc, rfl, rfl, rfl⟩ := h.rows
  have hle : (paths s.f).length = s.f.length := by simp [paths]
  have HK := hid (bsE_any w (paths s.f) fa fc n h.pathsAt hs.f (by rw [hle]; have := hs.fl; omega))
  rw [hle] at HK
  have c0 := h.cells.1
  clear h hs hle
  generalize pos (paths s.f) n = q at *
  generalize isAt (paths s.f) n = r at *
  go_enter Try.func39, Try.ntmps39
  go_wp2_with fail
  refine HK.out.mono ?_
  rintro e w2 ⟨rfl, f2⟩
  have HF2 := hid f2
  clear f2
  go_wp2_with fail
  go_ret2
  exact ⟨rfl, HF2.out⟩
/-- What a try leaves. -/
def TryPost (O D : Nat → Prop) (w : World) (mb : Nat) (s : St) (fv uv rv : Value) (XF : List Xv) (XR : List Uv) (e : Ending) (w' : World) : Prop :=
  e = .returned (.bool (s.p.headD false)) ∧ Fr O w w' ∧ ∃ pa pc, MI O D w' mb { s with p := s.p.tail } fv uv rv pa pc XF XR
set_option maxRecDepth 100000 in
set_option maxHeartbeats 2000000 in
theorem fails_any (h : MI O D w mb s fv uv rv pa pc XF XR) : Calls Try.prog 37 #[.pointer (some ⟨mb, 2, none⟩)] w fun e w' => TryPost O D w mb s fv uv rv XF XR e w' := by
  obtain ⟨fs, us, rs, p⟩ := s
  have c3 := h.cells.2.2.2
  have HO := hid h.om
  cases p with
  | nil =>
    have HM := hid h
    clear h
    go_enter Try.func37, Try.ntmps37
    go_wp2_with fail
    go_ret
    exact ⟨rfl, Fr.refl _ _, _, _, HM.out⟩
  | cons b p =>
    obtain ⟨bb, bo, rfl, hc⟩ := h.p (by simp)
    have k0 := hc 0 (by simp)
    simp only [List.getElem_cons_zero, Nat.add_zero] at k0
    have hlen : (((b :: p).length : Nat) : Int) = (p.length : Int) + 1 := by simp
    have hz0 : (((p.length : Nat) : Int) + 1 == 0) = false := by simp; omega
    have hpl := h.pl
    have hpm := h.pm
    simp only [List.length_cons] at hpl c3
    have hp1 : (1 : Int) ≤ (p.length : Int) + 1 := by omega
    have hp2 : (0 : Int) < (p.length : Int) + 1 := by omega
    have hf3 := h.blk.frozen 3
    have hcap : 1 ≤ pc := by omega
    obtain ⟨A, hA, HP⟩ : ∃ A : Option Addr, (if pc = 1 then (some (⟨bb, bo, none⟩ : Addr)) else some ⟨bb, bo + 1, none⟩) = A ∧ Hid (MI O D (w.setCell ⟨mb, 3, none⟩ (.slice A p.length (pc - 1))) mb ⟨fs, us, rs, p⟩ fv uv rv A (pc - 1) XF XR) := by
      refine ⟨_, rfl, h.plan p _ (pc - 1) (fun hne => ?_) (fun hn x hx => ?_) (by omega) (by omega)⟩
      · have hn : 0 < p.length := List.length_pos_iff.2 hne
        have hpc : ¬ pc = 1 := by omega
        rw [if_neg hpc]
        exact ⟨bb, bo + 1, rfl, fun i hi => by have := hc (i + 1) (by simp; omega); simpa [Nat.add_assoc, Nat.add_comm 1 i] using this⟩
      · have hpc : ¬ pc = 1 := by omega
        rw [if_neg hpc] at hx
        cases hx
        exact h.pd (by simp) ⟨bb, bo, none⟩ rfl
    have HF : Hid (Fr O w (w.setCell ⟨mb, 3, none⟩ (.slice A p.length (pc - 1)))) := (Fr.refl O w).setCell (.inl HO.out) _
    clear h hc hlen
    go_enter Try.func37, Try.ntmps37
    go_wp2_with fail
    go_ret
    exact ⟨rfl, HF.out, _, _, HP.out⟩
end
end Go.Proofs.Ytangnoicnogddaa.Tr
