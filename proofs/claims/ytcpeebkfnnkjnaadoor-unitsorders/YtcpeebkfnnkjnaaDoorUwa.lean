/- The contract of the document's waits. -/
import Derived.Test.YtcpeebkfnnkjnaaDoorUsh
namespace Go.Proofs.YtcpeebkfnnkjnaaDoor.Tr
open Go.RowKit Go.Maps

def boC (n : Nat) (B : Nat → Bool) : List Value := (List.range n).map (fun q => .bool (B q))
theorem boC_at {n q : Nat} (B : Nat → Bool) (h : q < n) : (boC n B)[q]? = some (.bool (B q)) := by simp [boC, h]
def lfB (l : List Ut) (B : Nat → Bool) (x : Nm) : Bool := match fi l x with
  | some k => B k
  | none => false
/-- Does a unit wait for one that is left? -/
def wtB (l : List Ut) (B : Nat → Bool) (u : Ut) : Bool := (u.r ++ u.a).any (lfB l B)

set_option maxRecDepth 100000 in
set_option maxHeartbeats 4000000 in
theorem waits_any (w0 w : World) (e0 : Env w0 w) (l : List Ut) (ad : Option Addr) (cap lb : Nat) (B : Nat → Bool) (u : Ut) (x : Uv) (hU : Us w0 w l ad) (hl : l.length ≤ 1000000) (hL : Blk w lb 4 (boC l.length B)) (hx : UIn w0 u x) :
    Calls Tryd.prog 19 #[.slice ad l.length cap, .slice (some ⟨lb, 0, none⟩) l.length l.length, x.v] w fun e w' => e = .returned (.bool (wtB l B u)) ∧ Fr (fun _ => False) w w' := by
  have HF1 := hid (uFr w x)
  have HB1 := hid (uBlk w x)
  have HL := hid (hL.alloc (.cells x.cs.toArray 32))
  have HC := hid (fun nm => find_any w0 (uBox w x) l ad cap nm (hU.env (Env.of (uFr w x))) (by unfold lim; omega))
  have HSr := hid (hx.r.env (e0.trans (Env.of (uFr w x))))
  have HSa := hid (hx.a.env (e0.trans (Env.of (uFr w x))))
  have hb1 : u.r.length ≤ 140737488351232 := hx.ok.r
  have hb2 : u.a.length ≤ 140737488351232 := hx.ok.a
  have p3 := hx.rl
  have p4 := hx.al
  clear hx hU e0 hL
  obtain ⟨Z, hZ⟩ : ∃ Z, Z = wtB l B u := ⟨_, rfl⟩
  rw [← hZ]
  unfold wtB at hZ
  generalize u.r = rs at *
  generalize u.a = xs at *
  have HZ := hid hZ
  clear hZ
  obtain ⟨n, s, ra, rl, rc, aa, al, ac⟩ := x
  simp only at p3 p4 HSr HSa
  subst p3 p4
  simp only [uBox, Uv.v, Uv.cs] at *
  generalize hW1 : w.alloc (.cells #[.string ⟨n.toArray⟩, .string ⟨s.toArray⟩, .slice ra rs.length rc, .slice aa xs.length ac] 32) = W1 at *
  obtain ⟨_, _, c2, c3⟩ := Blk.fourU (x := ⟨n, s, ra, rs.length, rc, aa, xs.length, ac⟩) HB1.out
  have HB1 : Hid (Blk W1 w.heap.size 32 (Uv.cs ⟨n, s, ra, rs.length, rc, aa, xs.length, ac⟩)) := HB1
  go_enter Tryd.func19, Tryd.ntmps19
  go_wp2_with fail
  clear c2 c3 hW1
  go_loopw [7] (fun kv wr => ∃ k : Nat, k ≤ rs.length ∧ kv = .int .i64 (k : Int) ∧ (∀ y ∈ rs.take k, lfB l B y = false) ∧ W1 = wr) (fun kv _ => rs.length - (intOf kv).toNat)
  case atStart => exact ⟨0, Nat.zero_le _, rfl, fun y hy => by simp at hy, rfl⟩
  case round =>
    obtain ⟨k, hk, rfl, hno, hw⟩ := hrel
    have HNo := hid hno
    have HW := hid hw
    rw [hw] at HC HSr HSa HL HB1 HF1
    clear hno
    obtain ⟨_, _, k2, k3⟩ := HB1.out.fourU
    by_cases hkl : k < rs.length
    · have hkl' : (k : Int) < ((rs.length : Nat) : Int) := by omega
      have hk0 : (0 : Int) ≤ (k : Int) := Int.natCast_nonneg _
      obtain ⟨nb, no, rfl, kn⟩ := HSr.out.at k hkl
      have HC3 := hid (HC.out rs[k])
      have HTrue : Hid (lfB l B rs[k] = true → (rs ++ xs).any (lfB l B) = true) := fun h => List.any_eq_true.2 ⟨rs[k], List.mem_append_left _ (List.getElem_mem hkl), h⟩
      have HFalse : Hid (lfB l B rs[k] = false → ∀ y ∈ rs.take (k + 1), lfB l B y = false) := fun h y hy => by
        rw [List.take_succ_eq_append_getElem hkl, List.mem_append] at hy
        rcases hy with hy | hy
        · exact HNo.out y hy
        · rw [List.mem_singleton.1 hy]; exact h
      clear HNo
      generalize rs[k] = nm at *
      cases hf : fi l nm with
      | none =>
        rw [fiI_none hf] at HC3
        have HN2 := hid (HFalse.out (by unfold lfB; rw [hf]))
        clear HTrue HFalse hf
        go_wp2_with fail
        refine HC3.out.mono ?_
        rintro e wa ⟨rfl, hwa⟩
        subst hwa
        go_wp2_with fail
        exact ⟨⟨k + 1, by omega, by go_num, HN2.out, HW.out⟩, by simp [intOf]; omega⟩
      | some j =>
        rw [fiI_some hf] at HC3
        have hjl : j < l.length := fi_lt hf
        have hj1 : (j : Int) < ((l.length : Nat) : Int) := by omega
        have hj0 : (0 : Int) ≤ (j : Int) := Int.natCast_nonneg _
        have cl := HL.out.cell j
        rw [boC_at B hjl] at cl
        cases hb : B j with
        | true =>
          have HR := hid (HTrue.out (by unfold lfB; rw [hf]; exact hb))
          rw [hb] at cl
          clear HTrue HFalse hf
          go_wp2_with fail
          refine HC3.out.mono ?_
          rintro e wa ⟨rfl, hwa⟩
          subst hwa
          go_wp2_with fail
          go_ret
          exact ⟨by rw [HZ.out, HR.out]; rfl, HF1.out⟩
        | false =>
          have HN2 := hid (HFalse.out (by unfold lfB; rw [hf]; exact hb))
          rw [hb] at cl
          clear HTrue HFalse hf
          go_wp2_with fail
          refine HC3.out.mono ?_
          rintro e wa ⟨rfl, hwa⟩
          subst hwa
          go_wp2_with fail
          exact ⟨⟨k + 1, by omega, by go_num, HN2.out, HW.out⟩, by simp [intOf]; omega⟩
    · have hkl' : ¬ ((k : Int) < ((rs.length : Nat) : Int)) := by omega
      have HN1 : Hid (∀ y ∈ rs, lfB l B y = false) := fun y hy => HNo.out y (by rw [List.take_of_length_le (by omega)]; exact hy)
      clear HNo HSr HW
      obtain ⟨wo, hwo⟩ : ∃ wo, wo = wr := ⟨_, rfl⟩
      subst hwo
      go_wp2_with fail
      go_loopw [9] (fun kv wr => ∃ k : Nat, k ≤ xs.length ∧ kv = .int .i64 (k : Int) ∧ (∀ y ∈ xs.take k, lfB l B y = false) ∧ wo = wr) (fun kv _ => xs.length - (intOf kv).toNat)
      case atStart => exact ⟨0, Nat.zero_le _, rfl, fun y hy => by simp at hy, rfl⟩
      case round =>
        obtain ⟨k, hk, rfl, hno, hw⟩ := hrel
        have HNo := hid hno
        have HW := hid hw
        rw [hw] at HC HSa HL HB1 HF1
        clear hno
        obtain ⟨_, _, k2, k3⟩ := HB1.out.fourU
        by_cases hkl : k < xs.length
        · have hkl' : (k : Int) < ((xs.length : Nat) : Int) := by omega
          have hk0 : (0 : Int) ≤ (k : Int) := Int.natCast_nonneg _
          obtain ⟨nb, no, rfl, kn⟩ := HSa.out.at k hkl
          have HC3 := hid (HC.out xs[k])
          have HTrue : Hid (lfB l B xs[k] = true → (rs ++ xs).any (lfB l B) = true) := fun h => List.any_eq_true.2 ⟨xs[k], List.mem_append_right _ (List.getElem_mem hkl), h⟩
          have HFalse : Hid (lfB l B xs[k] = false → ∀ y ∈ xs.take (k + 1), lfB l B y = false) := fun h y hy => by
            rw [List.take_succ_eq_append_getElem hkl, List.mem_append] at hy
            rcases hy with hy | hy
            · exact HNo.out y hy
            · rw [List.mem_singleton.1 hy]; exact h
          clear HNo
          generalize xs[k] = nm at *
          cases hf : fi l nm with
          | none =>
            rw [fiI_none hf] at HC3
            have HN2 := hid (HFalse.out (by unfold lfB; rw [hf]))
            clear HTrue HFalse hf
            go_wp2_with fail
            refine HC3.out.mono ?_
            rintro e wa ⟨rfl, hwa⟩
            subst hwa
            go_wp2_with fail
            exact ⟨⟨k + 1, by omega, by go_num, HN2.out, HW.out⟩, by simp [intOf]; omega⟩
          | some j =>
            rw [fiI_some hf] at HC3
            have hjl : j < l.length := fi_lt hf
            have hj1 : (j : Int) < ((l.length : Nat) : Int) := by omega
            have hj0 : (0 : Int) ≤ (j : Int) := Int.natCast_nonneg _
            have cl := HL.out.cell j
            rw [boC_at B hjl] at cl
            cases hb : B j with
            | true =>
              have HR := hid (HTrue.out (by unfold lfB; rw [hf]; exact hb))
              rw [hb] at cl
              clear HTrue HFalse hf
              go_wp2_with fail
              refine HC3.out.mono ?_
              rintro e wa ⟨rfl, hwa⟩
              subst hwa
              go_wp2_with fail
              go_ret
              exact ⟨by rw [HZ.out, HR.out]; rfl, HF1.out⟩
            | false =>
              have HN2 := hid (HFalse.out (by unfold lfB; rw [hf]; exact hb))
              rw [hb] at cl
              clear HTrue HFalse hf
              go_wp2_with fail
              refine HC3.out.mono ?_
              rintro e wa ⟨rfl, hwa⟩
              subst hwa
              go_wp2_with fail
              exact ⟨⟨k + 1, by omega, by go_num, HN2.out, HW.out⟩, by simp [intOf]; omega⟩
        · have hkl' : ¬ ((k : Int) < ((xs.length : Nat) : Int)) := by omega
          have HE : Hid ((rs ++ xs).any (lfB l B) = false) := by
            unfold Hid
            rw [List.any_eq_false]
            intro y hy
            rcases List.mem_append.1 hy with hy | hy
            · rw [HN1.out y hy]; simp
            · rw [HNo.out y (by rw [List.take_of_length_le (by omega)]; exact hy)]; simp
          go_wp2_with fail
          go_ret
          exact ⟨by rw [HZ.out, HE.out]; rfl, HF1.out⟩
end Go.Proofs.YtcpeebkfnnkjnaaDoor.Tr
