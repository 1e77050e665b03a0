/- The contracts of twice and lacking. -/
import Derived.Test.YtcpeebkfnnkjnaaDoorUpc
namespace Go.Proofs.YtcpeebkfnnkjnaaDoor.Tr
open Go.RowKit Go.Maps

theorem zero3 (w : World) : (zeroValue 3).run Tryd.prog w = .ok (.int .i64 0) w := by kernel_rfl
theorem Tells.at {D : DataW Unit} {x : Nm} {j : Nat} {c : Int} (h : Tells D x (some j)) (hat : D.atKey (.string x) (.lit (.int .i64 0)) = .lit (.int .i64 c)) : c = (j : Int) := by
  have := h.2
  rw [hat] at this
  injection this with this
  injection this
/-- The first name that stands ahead already. -/
def twF (l : List Ut) : Option Nm := ((List.range l.length).find? (fun i => decide (fi l (l[i]?.getD default).n ≠ some i))).map (fun i => (l[i]?.getD default).n)
theorem fi_of_mem {l : List Ut} {i : Nat} (h : i < l.length) : ∃ j, fi l l[i].n = some j := by
  cases e : fi l l[i].n with
  | some j => exact ⟨j, rfl⟩
  | none => exact absurd rfl ((fi_none.1 e) i h)
theorem twF_some {l : List Ut} {i : Nat} (h : i < l.length) (hi : fi l l[i].n ≠ some i) (hn : ∀ j (hj : j < l.length), j < i → fi l l[j].n = some j) : twF l = some l[i].n := by
  unfold twF
  have hf : (List.range l.length).find? (fun i => decide (fi l (l[i]?.getD default).n ≠ some i)) = some i := by
    rw [List.find?_eq_some_iff_getElem]
    refine ⟨by simpa [List.getElem?_eq_getElem h] using hi, i, by simpa using h, by simp, fun j hj => ?_⟩
    have hj' : j < l.length := by omega
    simpa [List.getElem?_eq_getElem hj'] using hn j hj' hj
  rw [hf]
  simp [List.getElem?_eq_getElem h]
theorem twF_none {l : List Ut} (hn : ∀ j (hj : j < l.length), fi l l[j].n = some j) : twF l = none := by
  unfold twF
  rw [Option.map_eq_none_iff, List.find?_eq_none]
  intro j hj
  have hj' : j < l.length := List.mem_range.1 hj
  simpa [List.getElem?_eq_getElem hj'] using hn j hj'
theorem nodup_of_twF {l : List Ut} (h : twF l = none) : (l.map (·.n)).Nodup := by
  refine nodup_of_fi (fun i hi => ?_)
  unfold twF at h
  rw [Option.map_eq_none_iff, List.find?_eq_none] at h
  have := h i (List.mem_range.2 hi)
  simpa [List.getElem?_eq_getElem hi] using this
theorem twF_of_nodup {l : List Ut} (h : (l.map (·.n)).Nodup) : twF l = none := twF_none (fun _ hj => fi_self h hj)
/-- A text that may be none, and whether there is one. -/
def optV (o : Option Nm) : Value := .tuple #[.string ⟨(o.getD []).toArray⟩, .bool o.isSome]

set_option maxRecDepth 100000 in
set_option maxHeartbeats 2000000 in
theorem twice_any (w0 w : World) (l : List Ut) (ad : Option Addr) (cap : Nat) (hU : Us w0 w l ad) (hl : l.length ≤ 1000000) :
    Calls Tryd.prog 20 #[.slice ad l.length cap] w fun e w' => e = .returned (optV (twF l)) ∧ Fr (fun _ => False) w w' := by
  have HU := hid hU
  have HP := hid (places_any w0 w l ad cap hU hl)
  clear hU
  go_enter Tryd.func20, Tryd.ntmps20
  go_wp2_with fail
  refine HP.out.mono ?_
  rintro e w1 ⟨m, rfl, hPm, hm, hF1⟩
  have HPm := hid hPm
  have HF1 := hid hF1
  clear hPm hF1 HP
  go_wp2_with fail
  go_loopw [11] (fun iv wr => ∃ i : Nat, i ≤ l.length ∧ iv = .int .i64 (i : Int) ∧ (∀ j (hj : j < l.length), j < i → fi l l[j].n = some j) ∧ Fr (fun _ => False) w1 wr) (fun iv _ => l.length - (intOf iv).toNat)
  case atStart => exact ⟨0, Nat.zero_le _, rfl, fun j _ h => by omega, Fr.refl _ _⟩
  case round =>
    obtain ⟨i, hi, rfl, hno, hF⟩ := hrel
    have HNo := hid hno
    have HF := hid hF
    clear hno hF
    by_cases hlt : i < l.length
    · have hi1 : (i : Int) < ((l.length : Nat) : Int) := by omega
      obtain ⟨bb, bo, rfl⟩ := HU.out.some hlt
      obtain ⟨y, y1, y2⟩ := HU.out.get i hlt
      have hF0 := HF1.out.trans HF.out (fun _ h => h.elim)
      obtain ⟨k0, k1, k2, k3⟩ := (y1.env (Env.of hF0)).all
      have hyn := y2.n
      have hkey : keyOf Tryd.prog 9 (.string ⟨y.n.toArray⟩) = some (.string y.n) := keyS (by rw [hyn]; exact y2.ok.n)
      obtain ⟨j, hj⟩ := fi_of_mem hlt
      obtain ⟨nn, D, hnn, hM, hT⟩ := HPm.out.fr (HF.out.trans (uFr wr y) (fun _ h => h.elim)) (fun h => h)
      have hTj := hT y.n
      rw [hyn, hj] at hTj
      rw [← hyn] at hTj
      have HM := hid hM
      have HTj := hid hTj
      have HF2 : Hid (Fr (fun _ => False) w1 (uBox wr y)) := HF.out.trans (uFr wr y) (fun _ h => h.elim)
      have HEnd : Hid (j ≠ i → twF l = some y.n) := fun hne => by
        rw [hyn]
        exact twF_some hlt (fun e => hne (by rw [hj] at e; injection e)) HNo.out
      have HNx : Hid (j = i → ∀ q (hq : q < l.length), q < i + 1 → fi l l[q].n = some q) := fun he q hq hqi => by
        rcases Nat.lt_or_eq_of_le (Nat.le_of_lt_succ hqi) with h | h
        · exact HNo.out q hq h
        · subst h; rw [hj, he]
      clear y1 y2 hT hTj hM hyn hj hF0
      obtain ⟨n, s, ra, rl, rc, aa, al, ac⟩ := y
      simp only [uBox] at *
      go_wp2_with (at_lookup; refine Hid.out ?_)
      refine wpList_lookup_own_int _ rfl _ _ 47 rfl 9 3 .i64 lawS Tryd.underlying47 Tryd.underlying3 (zero3 _) m nn D rfl HM.out _ _ rfl hkey ?_
      intro c hat hwc
      have hc := HTj.out.at hat
      subst hc
      clear hat hwc HTj HM
      by_cases he : j = i
      · have HNx' := hid (HNx.out he)
        have hs1 : ((j : Int) != (i : Int)) = false := by rw [he]; simp
        clear he HNx HEnd
        go_wp2_with fail
        exact ⟨⟨i + 1, by omega, by go_num, HNx'.out, HF2.out⟩, by simp [intOf]; omega⟩
      · have HE := hid (HEnd.out he)
        have hs1 : ((j : Int) != (i : Int)) = true := by simpa using fun h => he (by omega)
        have HF3 : Hid (Fr (fun _ => False) w _) := HF1.out.trans HF2.out (fun _ h => h.elim)
        clear he HNx HEnd
        go_wp2_with fail
        go_ret2
        exact ⟨by rw [HE.out]; rfl, HF3.out⟩
    · have hi1 : ¬ ((i : Int) < ((l.length : Nat) : Int)) := by omega
      have HE := hid (twF_none (fun j hj => HNo.out j hj (by omega)))
      have HF3 := hid (HF1.out.trans HF.out (fun _ h => h.elim))
      go_wp2_with fail
      go_ret2
      exact ⟨by rw [HE.out]; rfl, HF3.out⟩

/-- The first unit that requires one that there is not. -/
def lkB (R : List Ut) (u : Ut) : Bool := u.r.any (fun x => (fi R x).isNone)
def lkF (R l : List Ut) : Option Nm := (l.find? (lkB R)).map (·.n)
theorem Tells.has {D : DataW Unit} {x : Nm} {o : Option Nat} (h : Tells D x o) : Maps.has D (.string x) = o.isSome := by
  cases o with
  | none => exact h
  | some i => exact h.1

set_option maxRecDepth 100000 in
set_option maxHeartbeats 2000000 in
theorem lacking_any (w0 w : World) (e0 : Env w0 w) (R l : List Ut) (ad : Option Addr) (cap m : Nat) (hU : Us w0 w l ad) (hl : l.length ≤ 1000000) (hP : Pm w m R) :
    Calls Tryd.prog 26 #[.slice ad l.length cap, .map (some m)] w fun e w' => e = .returned (optV (lkF R l)) ∧ Fr (fun _ => False) w w' := by
  have HU := hid hU
  have HP := hid hP
  have HE0 := hid e0
  clear hU hP e0
  go_enter Tryd.func26, Tryd.ntmps26
  go_wp2_with fail
  go_loopw [14] (fun iv wr => ∃ i : Nat, i ≤ l.length ∧ iv = .int .i64 (i : Int) ∧ (∀ u ∈ l.take i, lkB R u = false) ∧ Fr (fun _ => False) w wr) (fun iv _ => l.length - (intOf iv).toNat)
  case atStart => exact ⟨0, Nat.zero_le _, rfl, fun u hu => by simp at hu, Fr.refl _ _⟩
  case round =>
    obtain ⟨i, hi, rfl, hno, hF⟩ := hrel
    have HNo := hid hno
    have HF := hid hF
    clear hno hF
    by_cases hlt : i < l.length
    · have hi1 : (i : Int) < ((l.length : Nat) : Int) := by omega
      obtain ⟨bb, bo, rfl⟩ := HU.out.some hlt
      obtain ⟨y, y1, y2⟩ := HU.out.get i hlt
      obtain ⟨k0, k1, k2, k3⟩ := (y1.env (Env.of HF.out)).all
      have hrl := y2.rl
      have HSt := hid y2.r
      have HRx := hid y2.ok.rx
      have hrlim : l[i].r.length ≤ 140737488351232 := y2.ok.r
      have HF2 : Hid (Fr (fun _ => False) w (uBox wr y)) := HF.out.trans (uFr wr y) (fun _ h => h.elim)
      have HBy := hid (uBlk wr y)
      have HEnd : Hid (lkB R l[i] = true → lkF R l = some y.n) := fun hb => by
        unfold lkF
        have hf : l.find? (lkB R) = some l[i] := by
          rw [List.find?_eq_some_iff_getElem]
          refine ⟨hb, i, hlt, rfl, fun j hj => ?_⟩
          have := HNo.out l[j] (List.mem_take_iff_getElem.2 ⟨j, by omega, rfl⟩)
          simpa using this
        rw [hf, y2.n]
        rfl
      have HNx : Hid (lkB R l[i] = false → ∀ u ∈ l.take (i + 1), lkB R u = false) := fun hb u hu => by
        rw [List.take_succ_eq_append_getElem hlt, List.mem_append] at hu
        rcases hu with hu | hu
        · exact HNo.out u hu
        · rw [List.mem_singleton.1 hu]; exact hb
      clear y1 y2 HNo
      unfold lkB at HEnd HNx
      generalize l[i].r = rs at *
      obtain ⟨n, s, ra, rl, rc, aa, al, ac⟩ := y
      simp only at hrl HSt
      subst hrl
      simp only [uBox] at *
      obtain ⟨wo, hwo⟩ : ∃ wo, wo = wr := ⟨_, rfl⟩
      subst hwo
      go_wp2_with fail
      go_loopw [21] (fun jv wr => ∃ j : Nat, j ≤ rs.length ∧ jv = .int .i64 (j : Int) ∧ (∀ x ∈ rs.take j, (fi R x).isNone = false) ∧ Fr (fun _ => False) (wo.alloc (.cells (Uv.cs ⟨n, s, ra, rs.length, rc, aa, al, ac⟩).toArray 32)) wr) (fun jv _ => rs.length - (intOf jv).toNat)
      case atStart => exact ⟨0, Nat.zero_le _, rfl, fun x hx => by simp at hx, Fr.refl _ _⟩
      case round =>
        obtain ⟨j, hj, rfl, hno, hF⟩ := hrel
        have HNo := hid hno
        have HG := hid hF
        clear hno hF
        by_cases hjl : j < rs.length
        · have hjl' : (j : Int) < ((rs.length : Nat) : Int) := by omega
          have hFw := HF2.out.trans HG.out (fun _ h => h.elim)
          obtain ⟨nb, no, rfl, kn⟩ := (HSt.out.env (HE0.out.trans (Env.of hFw))).at j hjl
          have hkey := keyS (HRx.out rs[j] (List.getElem_mem hjl))
          obtain ⟨nn, D, hnn, hM, hT⟩ := HP.out.fr hFw (fun h => h)
          have hTj := (hT rs[j]).has
          obtain ⟨q0, _, _, _⟩ := (HG.out.blk HBy.out (fun h => h)).fourU
          have HM := hid hM
          have HFw := hid hFw
          have HYes : Hid (fi R rs[j] = none → lkF R l = some n) := fun e => HEnd.out (List.any_eq_true.2 ⟨rs[j], List.getElem_mem hjl, by rw [e]; rfl⟩)
          have HNo2 : Hid ((fi R rs[j]).isSome = true → ∀ x ∈ rs.take (j + 1), (fi R x).isNone = false) := fun e x hx => by
            rw [List.take_succ_eq_append_getElem hjl, List.mem_append] at hx
            rcases hx with hx | hx
            · exact HNo.out x hx
            · rw [List.mem_singleton.1 hx]
              cases h : fi R rs[j] with
              | none => rw [h] at e; cases e
              | some _ => rfl
          clear hM hT hFw HNo HEnd HNx
          generalize rs[j] = nm at *
          cases hf : fi R nm with
          | none =>
            rw [hf] at hTj
            have HR := hid (HYes.out hf)
            clear HYes HNo2 hf
            go_wp2_with (at_lookup; refine Hid.out ?_)
            refine wpList_lookup_own_ok_int _ rfl _ _ 47 rfl 9 3 .i64 lawS Tryd.underlying47 Tryd.underlying3 (zero3 _) m nn D rfl HM.out _ _ rfl hkey ?_
            intro c hat hwc
            rw [hTj]
            clear hat hwc HM hTj
            simp only [Option.isSome_none]
            go_wp2_with fail
            go_ret2
            exact ⟨by rw [HR.out]; rfl, HFw.out⟩
          | some a =>
            rw [hf] at hTj
            have HR := hid (HNo2.out (by rw [hf]; rfl))
            clear HYes HNo2 hf
            go_wp2_with (at_lookup; refine Hid.out ?_)
            refine wpList_lookup_own_ok_int _ rfl _ _ 47 rfl 9 3 .i64 lawS Tryd.underlying47 Tryd.underlying3 (zero3 _) m nn D rfl HM.out _ _ rfl hkey ?_
            intro c hat hwc
            rw [hTj]
            clear hat hwc HM hTj
            simp only [Option.isSome_some]
            go_wp2_with fail
            exact ⟨⟨j + 1, by omega, by go_num, HR.out, HG.out⟩, by simp [intOf]; omega⟩
        · have hjl' : ¬ ((j : Int) < ((rs.length : Nat) : Int)) := by omega
          have HFw := hid (HF2.out.trans HG.out (fun _ h => h.elim))
          have HR : Hid (∀ u ∈ l.take (i + 1), u.r.any (fun x => (fi R x).isNone) = false) := HNx.out (by
            rw [List.any_eq_false]
            intro x hx
            rw [HNo.out x (by rw [List.take_of_length_le (by omega)]; exact hx)]
            simp)
          clear HNo HNx HEnd
          go_wp2_with fail
          exact ⟨⟨i + 1, by omega, by go_num, HR.out, HFw.out⟩, by simp [intOf]; omega⟩
    · have hi1 : ¬ ((i : Int) < ((l.length : Nat) : Int)) := by omega
      have HE : Hid (lkF R l = none) := by
        unfold Hid lkF
        rw [Option.map_eq_none_iff, List.find?_eq_none]
        intro u hu
        rw [HNo.out u (by rw [List.take_of_length_le (by omega)]; exact hu)]
        simp
      go_wp2_with fail
      go_ret2
      exact ⟨by rw [HE.out]; rfl, HF.out⟩
end Go.Proofs.YtcpeebkfnnkjnaaDoor.Tr
