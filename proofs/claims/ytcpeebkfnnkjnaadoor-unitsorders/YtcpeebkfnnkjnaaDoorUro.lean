/- The document's Order: what stands in the way of one. -/
import Derived.Test.YtcpeebkfnnkjnaaDoorUoq
import Derived.Test.YtcpeebkfnnkjnaaDoorUdi
import Derived.Sort.Walk0
namespace Go.Proofs.YtcpeebkfnnkjnaaDoor.Tr
open Go.RowKit Go.Maps

def ixV (b : Option Nat) : Value := .int .i64 (match b with | some i => (i : Int) | none => -1)
theorem less_eq (a b : Nm) : Op.bytesLess a b = decide (a < b) := Go.Proofs.bytesLess_eq a b
/-- What the document's Order tells: the units' lists are those that were handed in. -/
def RPost (w0 w : World) (r : List Ut × Nm × Int) (e : Ending) (w' : World) : Prop := Fr (fun _ => False) w w' ∧ ∃ v X, e = .returned (.tuple #[v, .string ⟨r.2.1.toArray⟩, .int .i64 r.2.2]) ∧ w'.ownsRow w.heap.size 32 4 v X.length (flatU X) ∧ RowIs w0 r.1 X
theorem row_none (w0 : World) (B : Nat) (W : World) : W.ownsRow B 32 4 (.slice none 0 0) ([] : List Uv).length (flatU []) ∧ RowIs w0 [] [] := ⟨World.ownsRow_nil _ _ _ _, rowIs_nil _⟩
/-- Which of the first i units, and of the next one's first names, lack one. -/
def Lk (l : List Ut) (i : Nat) (ns : List Nm) (b : Option Nat) : Prop := ((∀ y ∈ ns, fi l y ≠ none) ∧ Bst l (fun j => lkB l (l[j]?.getD default)) i b) ∨ (lkB l (l[i]?.getD default) = true ∧ Bst l (fun j => lkB l (l[j]?.getD default)) (i + 1) b)

theorem lk_name {l : List Ut} {i : Nat} {ns : List Nm} {b : Option Nat} {nm : Nm} {j : Nat} (h : Lk l i ns b) (hf : fi l nm = some j) : Lk l i (ns ++ [nm]) b := by
  rcases h with ⟨h1, h2⟩ | h
  · refine .inl ⟨fun y hy => ?_, h2⟩
    rcases List.mem_append.1 hy with hy | hy
    · exact h1 y hy
    · rw [List.mem_singleton.1 hy, hf]; simp
  · exact .inr h
theorem lk_here {l : List Ut} {i : Nat} {ns : List Nm} {b : Option Nat} {nm : Nm} (h : Lk l i ns b) (hi : i < l.length) (hk : lkB l (l[i]?.getD default) = true) (hb : ∀ c, b = some c → (l[i]?.getD default).n < (l[c]?.getD default).n) : Lk l i (ns ++ [nm]) (some i) := by
  rcases h with ⟨h1, h2⟩ | ⟨_, h2⟩
  · exact .inr ⟨hk, h2.turn hi hk hb⟩
  · cases b with
    | none => exact absurd ((h2 i (by omega)).symm.trans hk) (by simp)
    | some c => exact absurd (hb c rfl) (h2.2.2.2 i (by omega) hk)
theorem lk_stay {l : List Ut} {i c : Nat} {ns : List Nm} {nm : Nm} (h : Lk l i ns (some c)) (hk : lkB l (l[i]?.getD default) = true) (hb : ¬ (l[i]?.getD default).n < (l[c]?.getD default).n) : Lk l i (ns ++ [nm]) (some c) := by
  rcases h with ⟨h1, h2⟩ | h
  · exact .inr ⟨hk, h2.stay hb⟩
  · exact .inr h
theorem lk_next {l : List Ut} {i : Nat} {b : Option Nat} (h : Lk l i (l[i]?.getD default).r b) : Lk l (i + 1) [] b := by
  rcases h with ⟨h1, h2⟩ | ⟨_, h2⟩
  · refine .inl ⟨fun y hy => by simp at hy, h2.skip ?_⟩
    show lkB l (l[i]?.getD default) = false
    unfold lkB
    rw [List.any_eq_false]
    intro y hy
    have := h1 y hy
    cases hf : fi l y with
    | none => exact absurd hf this
    | some _ => simp
  · exact .inl ⟨fun y hy => by simp at hy, h2⟩
theorem lk_in {l : List Ut} {i c : Nat} {ns : List Nm} (h : Lk l i ns (some c)) : c < l.length := by
  rcases h with ⟨_, h2⟩ | ⟨_, h2⟩
  · exact h2.2.1
  · exact h2.2.1
theorem lk_end {l : List Ut} {b : Option Nat} (h : Lk l l.length [] b) : Bst l (fun j => lkB l (l[j]?.getD default)) l.length b := by
  rcases h with ⟨_, h2⟩ | ⟨h1, _⟩
  · exact h2
  · exfalso
    rw [List.getElem?_eq_none (Nat.le_refl _)] at h1
    have h2 : lkB l default = false := rfl
    rw [Option.getD_none, h2] at h1
    cases h1

set_option maxRecDepth 100000 in
set_option maxHeartbeats 8000000 in
theorem rorder_head (w0 w : World) (e0 : Env w0 w) (l : List Ut) (ad : Option Addr) (cap : Nat) (hU : Us w0 w l ad) (hl : l.length ≤ 1000000) :
    Calls Tryd.prog 11 #[.slice ad l.length cap] w fun e w' => RPost w0 w (ordF l) e w' := by
  have HU := hid hU
  have HE0 := hid e0
  have HFd := hid (fun (W : World) (f : Fr (fun _ => False) w W) (nm : Nm) => find_any w0 W l ad cap nm (hU.env (Env.of f)) (by unfold lim; omega))
  clear hU e0
  by_cases h24 : 24 < l.length
  · have h24' : (24 : Int) < ((l.length : Nat) : Int) := by omega
    have HR : Hid (ordF l = ([], [], 30)) := by unfold Hid ordF; rw [if_pos h24]
    go_enter Tryd.func11, Tryd.ntmps11
    go_wp2_with fail
    go_ret3
    refine ⟨Fr.refl _ _, .slice none 0 0, [], ?_, ?_⟩
    · rw [HR.out]; rfl
    · rw [HR.out]; exact row_none _ _ _
  · have h24' : ¬ ((24 : Int) < ((l.length : Nat) : Int)) := by omega
    have HR0 : Hid (∀ n, twF l = some n → ordF l = ([], n, 10)) := fun n h => by unfold ordF; rw [if_neg h24, h]
    go_enter Tryd.func11, Tryd.ntmps11
    go_wp2_with fail
    go_loopw [5] (fun iv wr => ∃ i : Nat, i ≤ l.length ∧ iv = .int .i64 (i : Int) ∧ (∀ j (hj : j < l.length), j < i → fi l l[j].n = some j) ∧ Fr (fun _ => False) w wr) (fun iv _ => l.length - (intOf iv).toNat)
    case atStart => exact ⟨0, Nat.zero_le _, rfl, fun j _ h => by omega, Fr.refl _ _⟩
    case round =>
      obtain ⟨i, hi, rfl, hno, hF⟩ := hrel
      have HNo := hid hno
      have HF := hid hF
      clear hno hF
      by_cases hlt : i < l.length
      · have hi1 : (i : Int) < ((l.length : Nat) : Int) := by omega
        have hi0 : (0 : Int) ≤ (i : Int) := Int.natCast_nonneg _
        obtain ⟨bb, bo, rfl⟩ := HU.out.some hlt
        obtain ⟨y, y1, y2⟩ := HU.out.get i hlt
        obtain ⟨k0, _, _, _⟩ := (y1.env (Env.of HF.out)).all
        rw [y2.n] at k0
        obtain ⟨j, hj⟩ := fi_of_mem hlt
        have HC := hid (HFd.out wr HF.out l[i].n)
        rw [fiI_some hj] at HC
        clear y1 y2
        by_cases he : j = i
        · have hs1 : ((j : Int) != (i : Int)) = false := by rw [he]; simp
          have HN2 : Hid (∀ q (hq : q < l.length), q < i + 1 → fi l l[q].n = some q) := fun q hq hqi => by
            rcases Nat.lt_or_eq_of_le (Nat.le_of_lt_succ hqi) with h | h
            · exact HNo.out q hq h
            · subst h; rw [hj, he]
          clear he
          generalize l[i].n = nm at *
          go_wp2_with fail
          refine HC.out.mono ?_
          rintro e wa ⟨rfl, hwa⟩
          subst hwa
          go_wp2_with fail
          exact ⟨⟨i + 1, by omega, by go_num, HN2.out, HF.out⟩, by simp [intOf]; omega⟩
        · have hs1 : ((j : Int) != (i : Int)) = true := by simpa using fun h => he (by omega)
          have HR := hid (HR0.out _ (twF_some hlt (fun e => he (by rw [hj] at e; injection e)) HNo.out))
          clear he
          generalize l[i].n = nm at *
          go_wp2_with fail
          refine HC.out.mono ?_
          rintro e wa ⟨rfl, hwa⟩
          subst hwa
          go_wp2_with fail
          go_region
          all_goals
            have HF2 := hid HF.out.drew
            go_wp2_with fail
            go_ret3
            refine ⟨HF2.out, .slice none 0 0, [], ?_, ?_⟩
            · rw [HR.out]; rfl
            · rw [HR.out]; exact row_none _ _ _
      · have hi1 : ¬ ((i : Int) < ((l.length : Nat) : Int)) := by omega
        have HNd := hid (nodup_of_fi (fun j hj => HNo.out j hj (by omega)))
        have HTw := hid (twF_of_nodup HNd.out)
        clear HNo HR0
        go_wp2_with fail
        go_loopw [6, 7] (fun bv iv wr => ∃ (i : Nat) (b : Option Nat), i ≤ l.length ∧ iv = .int .i64 (i : Int) ∧ bv = ixV b ∧ Lk l i [] b ∧ Fr (fun _ => False) w wr) (fun _ iv _ => l.length - (intOf iv).toNat)
        case atStart => exact ⟨0, none, Nat.zero_le _, rfl, rfl, .inl ⟨fun y hy => by simp at hy, Bst.zero _ _⟩, HF.out⟩
        case round =>
          obtain ⟨i, b, hi, rfl, rfl, hLk, hF⟩ := hrel
          have HLk := hid hLk
          clear HF
          have HF := hid hF
          clear hLk hF
          by_cases hlt : i < l.length
          · have hi1 : (i : Int) < ((l.length : Nat) : Int) := by omega
            have hi0 : (0 : Int) ≤ (i : Int) := Int.natCast_nonneg _
            obtain ⟨bb, bo, rfl⟩ := HU.out.some hlt
            obtain ⟨y, y1, y2⟩ := HU.out.get i hlt
            have HCell : Hid (∀ W, Fr (fun _ => False) w W → fourB W bb (bo + i * 4) y) := fun W f => (y1.env (Env.of f)).all
            have hrl := y2.rl
            have hyn : y.n = (l[i]?.getD default).n := by rw [y2.n, List.getElem?_eq_getElem hlt]; rfl
            have hrs : l[i].r = (l[i]?.getD default).r := by rw [List.getElem?_eq_getElem hlt]; rfl
            have HSr := hid y2.r
            have hrb : l[i].r.length ≤ 140737488351232 := y2.ok.r
            have HLk0 : Hid (Lk l i (l[i].r.take 0) b) := by unfold Hid; simpa using HLk.out
            have HMiss : Hid (∀ nm ∈ l[i].r, fi l nm = none → lkB l (l[i]?.getD default) = true) := fun nm hm hf => by
              unfold lkB
              rw [hrs] at hm
              exact List.any_eq_true.2 ⟨nm, hm, by rw [hf]; rfl⟩
            have HNext : Hid (∀ b, Lk l i l[i].r b → Lk l (i + 1) [] b) := fun b h => lk_next (by rw [← hrs]; exact h)
            clear y1 y2 HLk hrs
            generalize l[i].r = rs at *
            obtain ⟨n', s', ra', rl', rc', aa', al', ac'⟩ := y
            simp only at hrl hyn HSr
            subst hrl
            obtain ⟨wo, hwo⟩ : ∃ wo, wo = wr := ⟨_, rfl⟩
            subst hwo
            go_wp2_with fail
            go_loopw [6, 8] (fun bv kv wr => ∃ (k : Nat) (b : Option Nat), k ≤ rs.length ∧ kv = .int .i64 (k : Int) ∧ bv = ixV b ∧ Lk l i (rs.take k) b ∧ Fr (fun _ => False) w wr) (fun _ kv _ => rs.length - (intOf kv).toNat)
            case atStart => exact ⟨0, b, Nat.zero_le _, rfl, rfl, HLk0.out, HF.out⟩
            case round =>
              obtain ⟨k, b, hk, rfl, rfl, hLk, hF⟩ := hrel
              have HLk := hid hLk
              clear HF HLk0
              have HF := hid hF
              clear hLk hF
              obtain ⟨c0, c1, c2, c3⟩ := HCell.out wr HF.out
              simp only at c0 c1 c2 c3
              by_cases hkl : k < rs.length
              · have hkl' : (k : Int) < ((rs.length : Nat) : Int) := by omega
                have hk0 : (0 : Int) ≤ (k : Int) := Int.natCast_nonneg _
                obtain ⟨nb, no, rfl, kn⟩ := (HSr.out.env (HE0.out.trans (Env.of HF.out))).at k hkl
                have HTk : Hid (rs.take (k + 1) = rs.take k ++ [rs[k]]) := List.take_succ_eq_append_getElem hkl
                have HMk := hid (HMiss.out rs[k] (List.getElem_mem hkl))
                have HQ := hid (HFd.out wr.drew HF.out.drew rs[k])
                have HSx : Hid (∀ W', Fr (fun _ => False) w W' → fourB W' bb (bo + i * 4) ⟨n', s', (some ⟨nb, no, none⟩), rs.length, rc', aa', al', ac'⟩ ∧ W'.cell? ⟨nb, no + k, none⟩ = some (.string ⟨rs[k].toArray⟩)) := fun W' f => ⟨HCell.out W' f, by
                  obtain ⟨_, _, e2, kn2⟩ := (HSr.out.env (HE0.out.trans (Env.of f))).at k hkl
                  cases e2
                  exact kn2⟩
                generalize rs[k] = nm at *
                have hn1 : decide ((-1 : Int) < 0) = true := by decide
                cases hf : fi l nm with
                | some j =>
                  rw [fiI_some hf] at HQ
                  have hj0 : decide ((j : Int) < 0) = false := decide_eq_false (by omega)
                  have HL2 : Hid (Lk l i (rs.take (k + 1)) b) := by unfold Hid; rw [HTk.out]; exact lk_name HLk.out hf
                  clear hf HMk
                  obtain ⟨bz, hbz⟩ : ∃ z : Int, ixV b = .int .i64 z := ⟨_, rfl⟩
                  rw [hbz]
                  have HBz := hid hbz
                  clear hbz
                  go_wp2_with fail
                  refine wp_region_noPanic ?_
                  refine wp_region_held_drew (S := fun W' => fourB W' bb (bo + i * 4) ⟨n', s', (some ⟨nb, no, none⟩), rs.length, rc', aa', al', ac'⟩ ∧ W'.cell? ⟨nb, no + k, none⟩ = some (.string ⟨nm.toArray⟩)) (by kernel_rfl) (HSx.out _ HF.out.drew) (fun _ => ?_)
                  refine takeH (i := 0) (d := some 55) (.slice (some ⟨bb, bo, none⟩) l.length cap) rfl (by kernel_rfl) (by kernel_rfl) (by kernel_rfl) (fun _ _ _ _ h => h) (HSx.out _ HF.out.drew) (fun o ho => by cases ho; exact .inl ⟨by rfl, fun w hSw => by (obtain ⟨⟨hs1, hs2, hs3, hs4⟩, hs5⟩ := hSw; simp only at hs1 hs2 hs3 hs4; go_simp)⟩) ?_
                  simp only [Act.put, List.setIfInBounds_toArray, List.set_cons_zero, List.set_cons_succ]
                  refine takeH (i := 1) (d := some 56) (.slice (some ⟨bb, bo, none⟩) l.length cap) rfl (by kernel_rfl) (by kernel_rfl) (by kernel_rfl) (fun _ _ _ _ h => h) (HSx.out _ HF.out.drew) (fun o ho => by cases ho; exact .inl ⟨by rfl, fun w hSw => by (obtain ⟨⟨hs1, hs2, hs3, hs4⟩, hs5⟩ := hSw; simp only at hs1 hs2 hs3 hs4; go_simp)⟩) ?_
                  simp only [Act.put, List.setIfInBounds_toArray, List.set_cons_zero, List.set_cons_succ]
                  refine takeH (i := 2) (d := some 57) (.int .i64 (i : Int)) rfl (by kernel_rfl) (by kernel_rfl) (by kernel_rfl) (fun _ _ _ _ h => h) (HSx.out _ HF.out.drew) (fun o ho => by cases ho; exact .inl ⟨by rfl, fun w hSw => by (obtain ⟨⟨hs1, hs2, hs3, hs4⟩, hs5⟩ := hSw; simp only at hs1 hs2 hs3 hs4; go_simp)⟩) ?_
                  simp only [Act.put, List.setIfInBounds_toArray, List.set_cons_zero, List.set_cons_succ]
                  refine takeH (i := 3) (d := some 58) (.pointer (some ⟨bb, bo + i * 4, none⟩)) rfl (by kernel_rfl) (by kernel_rfl) (by kernel_rfl) (fun _ _ _ _ h => h) (HSx.out _ HF.out.drew) (fun o ho => by cases ho; exact .inl ⟨by rfl, fun w hSw => by (obtain ⟨⟨hs1, hs2, hs3, hs4⟩, hs5⟩ := hSw; simp only at hs1 hs2 hs3 hs4; go_simp)⟩) ?_
                  simp only [Act.put, List.setIfInBounds_toArray, List.set_cons_zero, List.set_cons_succ]
                  refine takeH (i := 4) (d := some 59) (.pointer (some ⟨bb, bo + i * 4 + 2, none⟩)) rfl (by kernel_rfl) (by kernel_rfl) (by kernel_rfl) (fun _ _ _ _ h => h) (HSx.out _ HF.out.drew) (fun o ho => by cases ho; exact .inl ⟨by rfl, fun w hSw => by (obtain ⟨⟨hs1, hs2, hs3, hs4⟩, hs5⟩ := hSw; simp only at hs1 hs2 hs3 hs4; go_simp)⟩) ?_
                  simp only [Act.put, List.setIfInBounds_toArray, List.set_cons_zero, List.set_cons_succ]
                  refine takeH (i := 5) (d := some 60) (.slice (some ⟨nb, no, none⟩) rs.length rc') rfl (by kernel_rfl) (by kernel_rfl) (by kernel_rfl) (fun _ _ _ _ h => h) (HSx.out _ HF.out.drew) (fun o ho => by cases ho; exact .inl ⟨by rfl, fun w hSw => by (obtain ⟨⟨hs1, hs2, hs3, hs4⟩, hs5⟩ := hSw; simp only at hs1 hs2 hs3 hs4; go_simp)⟩) ?_
                  simp only [Act.put, List.setIfInBounds_toArray, List.set_cons_zero, List.set_cons_succ]
                  refine takeH (i := 6) (d := some 61) (.int .i64 (k : Int)) rfl (by kernel_rfl) (by kernel_rfl) (by kernel_rfl) (fun _ _ _ _ h => h) (HSx.out _ HF.out.drew) (fun o ho => by cases ho; exact .inl ⟨by rfl, fun w hSw => by (obtain ⟨⟨hs1, hs2, hs3, hs4⟩, hs5⟩ := hSw; simp only at hs1 hs2 hs3 hs4; go_simp)⟩) ?_
                  simp only [Act.put, List.setIfInBounds_toArray, List.set_cons_zero, List.set_cons_succ]
                  refine takeH (i := 7) (d := some 62) (.pointer (some ⟨nb, no + k, none⟩)) rfl (by kernel_rfl) (by kernel_rfl) (by kernel_rfl) (fun _ _ _ _ h => h) (HSx.out _ HF.out.drew) (fun o ho => by cases ho; exact .inl ⟨by rfl, fun w hSw => by (obtain ⟨⟨hs1, hs2, hs3, hs4⟩, hs5⟩ := hSw; simp only at hs1 hs2 hs3 hs4; go_simp)⟩) ?_
                  simp only [Act.put, List.setIfInBounds_toArray, List.set_cons_zero, List.set_cons_succ]
                  refine takeH (i := 8) (d := some 63) (.string ⟨nm.toArray⟩) rfl (by kernel_rfl) (by kernel_rfl) (by kernel_rfl) (fun _ _ _ _ h => h) (HSx.out _ HF.out.drew) (fun o ho => by cases ho; exact .inl ⟨by rfl, fun w hSw => by (obtain ⟨⟨hs1, hs2, hs3, hs4⟩, hs5⟩ := hSw; simp only at hs1 hs2 hs3 hs4; go_simp)⟩) ?_
                  simp only [Act.put, List.setIfInBounds_toArray, List.set_cons_zero, List.set_cons_succ]
                  refine oneH (i := 9) (by kernel_rfl) (fun o ho K' hK => ?_) (by decide)
                  cases ho
                  rw [if_pos (by rfl)]
                  go_simp
                  refine HQ.out.mono ?_
                  rintro e wa ⟨rfl, hwa⟩
                  subst hwa
                  refine hK.out _ _ (HSx.out _ HF.out.drew) ?_
                  clear hK K'
                  try simp only [Act.put, List.setIfInBounds_toArray, List.set_cons_zero, List.set_cons_succ]
                  refine takeH (i := 10) (d := some 65) (.bool false) rfl (by kernel_rfl) (by kernel_rfl) (by kernel_rfl) (fun _ _ _ _ h => h) (HSx.out _ HF.out.drew) (fun o ho => by cases ho; exact .inl ⟨by rfl, fun w hSw => by (obtain ⟨⟨hs1, hs2, hs3, hs4⟩, hs5⟩ := hSw; simp only at hs1 hs2 hs3 hs4; go_simp)⟩) ?_
                  simp only [Act.put, List.setIfInBounds_toArray, List.set_cons_zero, List.set_cons_succ]
                  refine takeH (i := 11) (d := some 66) (.bool false) rfl (by kernel_rfl) (by kernel_rfl) (by kernel_rfl) (fun _ _ _ _ h => h) (HSx.out _ HF.out.drew) (fun o ho => by cases ho; exact .inl ⟨by rfl, fun w hSw => by (obtain ⟨⟨hs1, hs2, hs3, hs4⟩, hs5⟩ := hSw; simp only at hs1 hs2 hs3 hs4; go_simp)⟩) ?_
                  simp only [Act.put, List.setIfInBounds_toArray, List.set_cons_zero, List.set_cons_succ]
                  refine takeH (i := 12) (d := some 67) undef rfl (by kernel_rfl) (by kernel_rfl) (by kernel_rfl) (fun _ _ _ _ h => h) (HSx.out _ HF.out.drew) (fun o ho => by cases ho; exact .inr ⟨by rfl, rfl⟩) ?_
                  simp only [Act.put, List.setIfInBounds_toArray, List.set_cons_zero, List.set_cons_succ]
                  refine takeH (i := 13) (d := some 68) undef rfl (by kernel_rfl) (by kernel_rfl) (by kernel_rfl) (fun _ _ _ _ h => h) (HSx.out _ HF.out.drew) (fun o ho => by cases ho; exact .inr ⟨by rfl, rfl⟩) ?_
                  simp only [Act.put, List.setIfInBounds_toArray, List.set_cons_zero, List.set_cons_succ]
                  refine takeH (i := 14) (d := some 69) undef rfl (by kernel_rfl) (by kernel_rfl) (by kernel_rfl) (fun _ _ _ _ h => h) (HSx.out _ HF.out.drew) (fun o ho => by cases ho; exact .inr ⟨by rfl, rfl⟩) ?_
                  simp only [Act.put, List.setIfInBounds_toArray, List.set_cons_zero, List.set_cons_succ]
                  refine takeH (i := 15) (d := some 70) undef rfl (by kernel_rfl) (by kernel_rfl) (by kernel_rfl) (fun _ _ _ _ h => h) (HSx.out _ HF.out.drew) (fun o ho => by cases ho; exact .inr ⟨by rfl, rfl⟩) ?_
                  simp only [Act.put, List.setIfInBounds_toArray, List.set_cons_zero, List.set_cons_succ]
                  refine takeH (i := 16) (d := some 71) undef rfl (by kernel_rfl) (by kernel_rfl) (by kernel_rfl) (fun _ _ _ _ h => h) (HSx.out _ HF.out.drew) (fun o ho => by cases ho; exact .inr ⟨by rfl, rfl⟩) ?_
                  simp only [Act.put, List.setIfInBounds_toArray, List.set_cons_zero, List.set_cons_succ]
                  refine takeH (i := 17) (d := some 72) undef rfl (by kernel_rfl) (by kernel_rfl) (by kernel_rfl) (fun _ _ _ _ h => h) (HSx.out _ HF.out.drew) (fun o ho => by cases ho; exact .inr ⟨by rfl, rfl⟩) ?_
                  simp only [Act.put, List.setIfInBounds_toArray, List.set_cons_zero, List.set_cons_succ]
                  refine takeH (i := 18) (d := some 73) undef rfl (by kernel_rfl) (by kernel_rfl) (by kernel_rfl) (fun _ _ _ _ h => h) (HSx.out _ HF.out.drew) (fun o ho => by cases ho; exact .inr ⟨by rfl, rfl⟩) ?_
                  simp only [Act.put, List.setIfInBounds_toArray, List.set_cons_zero, List.set_cons_succ]
                  refine takeH (i := 19) (d := some 74) undef rfl (by kernel_rfl) (by kernel_rfl) (by kernel_rfl) (fun _ _ _ _ h => h) (HSx.out _ HF.out.drew) (fun o ho => by cases ho; exact .inr ⟨by rfl, rfl⟩) ?_
                  simp only [Act.put, List.setIfInBounds_toArray, List.set_cons_zero, List.set_cons_succ]
                  refine takeH (i := 20) (d := some 75) undef rfl (by kernel_rfl) (by kernel_rfl) (by kernel_rfl) (fun _ _ _ _ h => h) (HSx.out _ HF.out.drew) (fun o ho => by cases ho; exact .inr ⟨by rfl, rfl⟩) ?_
                  simp only [Act.put, List.setIfInBounds_toArray, List.set_cons_zero, List.set_cons_succ]
                  refine takeH (i := 21) (d := some 76) undef rfl (by kernel_rfl) (by kernel_rfl) (by kernel_rfl) (fun _ _ _ _ h => h) (HSx.out _ HF.out.drew) (fun o ho => by cases ho; exact .inr ⟨by rfl, rfl⟩) ?_
                  simp only [Act.put, List.setIfInBounds_toArray, List.set_cons_zero, List.set_cons_succ]
                  refine takeH (i := 22) (d := some 77) undef rfl (by kernel_rfl) (by kernel_rfl) (by kernel_rfl) (fun _ _ _ _ h => h) (HSx.out _ HF.out.drew) (fun o ho => by cases ho; exact .inr ⟨by rfl, rfl⟩) ?_
                  simp only [Act.put, List.setIfInBounds_toArray, List.set_cons_zero, List.set_cons_succ]
                  refine takeH (i := 23) (d := some 78) undef rfl (by kernel_rfl) (by kernel_rfl) (by kernel_rfl) (fun _ _ _ _ h => h) (HSx.out _ HF.out.drew) (fun o ho => by cases ho; exact .inr ⟨by rfl, rfl⟩) ?_
                  simp only [Act.put, List.setIfInBounds_toArray, List.set_cons_zero, List.set_cons_succ]
                  refine takeH (i := 24) (d := some 79) undef rfl (by kernel_rfl) (by kernel_rfl) (by kernel_rfl) (fun _ _ _ _ h => h) (HSx.out _ HF.out.drew) (fun o ho => by cases ho; exact .inr ⟨by rfl, rfl⟩) ?_
                  simp only [Act.put, List.setIfInBounds_toArray, List.set_cons_zero, List.set_cons_succ]
                  refine takeH (i := 25) (d := some 80) undef rfl (by kernel_rfl) (by kernel_rfl) (by kernel_rfl) (fun _ _ _ _ h => h) (HSx.out _ HF.out.drew) (fun o ho => by cases ho; exact .inr ⟨by rfl, rfl⟩) ?_
                  simp only [Act.put, List.setIfInBounds_toArray, List.set_cons_zero, List.set_cons_succ]
                  refine takeH (i := 26) (d := some 81) undef rfl (by kernel_rfl) (by kernel_rfl) (by kernel_rfl) (fun _ _ _ _ h => h) (HSx.out _ HF.out.drew) (fun o ho => by cases ho; exact .inr ⟨by rfl, rfl⟩) ?_
                  simp only [Act.put, List.setIfInBounds_toArray, List.set_cons_zero, List.set_cons_succ]
                  refine takeH (i := 27) (d := some 82) (.bool false) rfl (by kernel_rfl) (by kernel_rfl) (by kernel_rfl) (fun _ _ _ _ h => h) (HSx.out _ HF.out.drew) (fun o ho => by cases ho; exact .inl ⟨by rfl, fun w hSw => by (obtain ⟨⟨hs1, hs2, hs3, hs4⟩, hs5⟩ := hSw; simp only at hs1 hs2 hs3 hs4; go_simp)⟩) ?_
                  simp only [Act.put, List.setIfInBounds_toArray, List.set_cons_zero, List.set_cons_succ]
                  refine wpAnyH_done (by kernel_rfl) (NoPanic.normal ?_) _
                  have HF2 := hid HF.out.drew
                  go_wp2_with fail
                  exact ⟨⟨k + 1, b, by omega, by go_num, HBz.out.symm, HL2.out, HF2.out⟩, by simp [intOf]; omega⟩
                | none =>
                  rw [fiI_none hf] at HQ
                  have hm := HMk.out hf
                  cases b with
                  | none =>
                    have HL2 : Hid (Lk l i (rs.take (k + 1)) (some i)) := by unfold Hid; rw [HTk.out]; exact lk_here HLk.out hlt hm (fun c e => by cases e)
                    clear hf HMk
                    simp only [ixV]
                    go_wp2_with fail
                    refine wp_region_noPanic ?_
                    refine wp_region_held_drew (S := fun W' => fourB W' bb (bo + i * 4) ⟨n', s', (some ⟨nb, no, none⟩), rs.length, rc', aa', al', ac'⟩ ∧ W'.cell? ⟨nb, no + k, none⟩ = some (.string ⟨nm.toArray⟩)) (by kernel_rfl) (HSx.out _ HF.out.drew) (fun _ => ?_)
                    refine takeH (i := 0) (d := some 55) (.slice (some ⟨bb, bo, none⟩) l.length cap) rfl (by kernel_rfl) (by kernel_rfl) (by kernel_rfl) (fun _ _ _ _ h => h) (HSx.out _ HF.out.drew) (fun o ho => by cases ho; exact .inl ⟨by rfl, fun w hSw => by (obtain ⟨⟨hs1, hs2, hs3, hs4⟩, hs5⟩ := hSw; simp only at hs1 hs2 hs3 hs4; go_simp)⟩) ?_
                    simp only [Act.put, List.setIfInBounds_toArray, List.set_cons_zero, List.set_cons_succ]
                    refine takeH (i := 1) (d := some 56) (.slice (some ⟨bb, bo, none⟩) l.length cap) rfl (by kernel_rfl) (by kernel_rfl) (by kernel_rfl) (fun _ _ _ _ h => h) (HSx.out _ HF.out.drew) (fun o ho => by cases ho; exact .inl ⟨by rfl, fun w hSw => by (obtain ⟨⟨hs1, hs2, hs3, hs4⟩, hs5⟩ := hSw; simp only at hs1 hs2 hs3 hs4; go_simp)⟩) ?_
                    simp only [Act.put, List.setIfInBounds_toArray, List.set_cons_zero, List.set_cons_succ]
                    refine takeH (i := 2) (d := some 57) (.int .i64 (i : Int)) rfl (by kernel_rfl) (by kernel_rfl) (by kernel_rfl) (fun _ _ _ _ h => h) (HSx.out _ HF.out.drew) (fun o ho => by cases ho; exact .inl ⟨by rfl, fun w hSw => by (obtain ⟨⟨hs1, hs2, hs3, hs4⟩, hs5⟩ := hSw; simp only at hs1 hs2 hs3 hs4; go_simp)⟩) ?_
                    simp only [Act.put, List.setIfInBounds_toArray, List.set_cons_zero, List.set_cons_succ]
                    refine takeH (i := 3) (d := some 58) (.pointer (some ⟨bb, bo + i * 4, none⟩)) rfl (by kernel_rfl) (by kernel_rfl) (by kernel_rfl) (fun _ _ _ _ h => h) (HSx.out _ HF.out.drew) (fun o ho => by cases ho; exact .inl ⟨by rfl, fun w hSw => by (obtain ⟨⟨hs1, hs2, hs3, hs4⟩, hs5⟩ := hSw; simp only at hs1 hs2 hs3 hs4; go_simp)⟩) ?_
                    simp only [Act.put, List.setIfInBounds_toArray, List.set_cons_zero, List.set_cons_succ]
                    refine takeH (i := 4) (d := some 59) (.pointer (some ⟨bb, bo + i * 4 + 2, none⟩)) rfl (by kernel_rfl) (by kernel_rfl) (by kernel_rfl) (fun _ _ _ _ h => h) (HSx.out _ HF.out.drew) (fun o ho => by cases ho; exact .inl ⟨by rfl, fun w hSw => by (obtain ⟨⟨hs1, hs2, hs3, hs4⟩, hs5⟩ := hSw; simp only at hs1 hs2 hs3 hs4; go_simp)⟩) ?_
                    simp only [Act.put, List.setIfInBounds_toArray, List.set_cons_zero, List.set_cons_succ]
                    refine takeH (i := 5) (d := some 60) (.slice (some ⟨nb, no, none⟩) rs.length rc') rfl (by kernel_rfl) (by kernel_rfl) (by kernel_rfl) (fun _ _ _ _ h => h) (HSx.out _ HF.out.drew) (fun o ho => by cases ho; exact .inl ⟨by rfl, fun w hSw => by (obtain ⟨⟨hs1, hs2, hs3, hs4⟩, hs5⟩ := hSw; simp only at hs1 hs2 hs3 hs4; go_simp)⟩) ?_
                    simp only [Act.put, List.setIfInBounds_toArray, List.set_cons_zero, List.set_cons_succ]
                    refine takeH (i := 6) (d := some 61) (.int .i64 (k : Int)) rfl (by kernel_rfl) (by kernel_rfl) (by kernel_rfl) (fun _ _ _ _ h => h) (HSx.out _ HF.out.drew) (fun o ho => by cases ho; exact .inl ⟨by rfl, fun w hSw => by (obtain ⟨⟨hs1, hs2, hs3, hs4⟩, hs5⟩ := hSw; simp only at hs1 hs2 hs3 hs4; go_simp)⟩) ?_
                    simp only [Act.put, List.setIfInBounds_toArray, List.set_cons_zero, List.set_cons_succ]
                    refine takeH (i := 7) (d := some 62) (.pointer (some ⟨nb, no + k, none⟩)) rfl (by kernel_rfl) (by kernel_rfl) (by kernel_rfl) (fun _ _ _ _ h => h) (HSx.out _ HF.out.drew) (fun o ho => by cases ho; exact .inl ⟨by rfl, fun w hSw => by (obtain ⟨⟨hs1, hs2, hs3, hs4⟩, hs5⟩ := hSw; simp only at hs1 hs2 hs3 hs4; go_simp)⟩) ?_
                    simp only [Act.put, List.setIfInBounds_toArray, List.set_cons_zero, List.set_cons_succ]
                    refine takeH (i := 8) (d := some 63) (.string ⟨nm.toArray⟩) rfl (by kernel_rfl) (by kernel_rfl) (by kernel_rfl) (fun _ _ _ _ h => h) (HSx.out _ HF.out.drew) (fun o ho => by cases ho; exact .inl ⟨by rfl, fun w hSw => by (obtain ⟨⟨hs1, hs2, hs3, hs4⟩, hs5⟩ := hSw; simp only at hs1 hs2 hs3 hs4; go_simp)⟩) ?_
                    simp only [Act.put, List.setIfInBounds_toArray, List.set_cons_zero, List.set_cons_succ]
                    refine oneH (i := 9) (by kernel_rfl) (fun o ho K' hK => ?_) (by decide)
                    cases ho
                    rw [if_pos (by rfl)]
                    go_simp
                    refine HQ.out.mono ?_
                    rintro e wa ⟨rfl, hwa⟩
                    subst hwa
                    refine hK.out _ _ (HSx.out _ HF.out.drew) ?_
                    clear hK K'
                    try simp only [Act.put, List.setIfInBounds_toArray, List.set_cons_zero, List.set_cons_succ]
                    refine takeH (i := 10) (d := some 65) (.bool true) rfl (by kernel_rfl) (by kernel_rfl) (by kernel_rfl) (fun _ _ _ _ h => h) (HSx.out _ HF.out.drew) (fun o ho => by cases ho; exact .inl ⟨by rfl, fun w hSw => by (obtain ⟨⟨hs1, hs2, hs3, hs4⟩, hs5⟩ := hSw; simp only at hs1 hs2 hs3 hs4; go_simp)⟩) ?_
                    simp only [Act.put, List.setIfInBounds_toArray, List.set_cons_zero, List.set_cons_succ]
                    refine takeH (i := 11) (d := some 66) (.bool true) rfl (by kernel_rfl) (by kernel_rfl) (by kernel_rfl) (fun _ _ _ _ h => h) (HSx.out _ HF.out.drew) (fun o ho => by cases ho; exact .inl ⟨by rfl, fun w hSw => by (obtain ⟨⟨hs1, hs2, hs3, hs4⟩, hs5⟩ := hSw; simp only at hs1 hs2 hs3 hs4; go_simp)⟩) ?_
                    simp only [Act.put, List.setIfInBounds_toArray, List.set_cons_zero, List.set_cons_succ]
                    refine takeH (i := 12) (d := some 67) (.int .i64 (-1)) rfl (by kernel_rfl) (by kernel_rfl) (by kernel_rfl) (fun _ _ _ _ h => h) (HSx.out _ HF.out.drew) (fun o ho => by cases ho; exact .inl ⟨by rfl, fun w hSw => by (obtain ⟨⟨hs1, hs2, hs3, hs4⟩, hs5⟩ := hSw; simp only at hs1 hs2 hs3 hs4; go_simp)⟩) ?_
                    simp only [Act.put, List.setIfInBounds_toArray, List.set_cons_zero, List.set_cons_succ]
                    refine takeH (i := 13) (d := some 68) (.bool true) rfl (by kernel_rfl) (by kernel_rfl) (by kernel_rfl) (fun _ _ _ _ h => h) (HSx.out _ HF.out.drew) (fun o ho => by cases ho; exact .inl ⟨by rfl, fun w hSw => by (obtain ⟨⟨hs1, hs2, hs3, hs4⟩, hs5⟩ := hSw; simp only at hs1 hs2 hs3 hs4; go_simp)⟩) ?_
                    simp only [Act.put, List.setIfInBounds_toArray, List.set_cons_zero, List.set_cons_succ]
                    refine takeH (i := 14) (d := some 69) (.bool true) rfl (by kernel_rfl) (by kernel_rfl) (by kernel_rfl) (fun _ _ _ _ h => h) (HSx.out _ HF.out.drew) (fun o ho => by cases ho; exact .inl ⟨by rfl, fun w hSw => by (obtain ⟨⟨hs1, hs2, hs3, hs4⟩, hs5⟩ := hSw; simp only at hs1 hs2 hs3 hs4; go_simp)⟩) ?_
                    simp only [Act.put, List.setIfInBounds_toArray, List.set_cons_zero, List.set_cons_succ]
                    refine takeH (i := 15) (d := some 70) undef rfl (by kernel_rfl) (by kernel_rfl) (by kernel_rfl) (fun _ _ _ _ h => h) (HSx.out _ HF.out.drew) (fun o ho => by cases ho; exact .inr ⟨by rfl, rfl⟩) ?_
                    simp only [Act.put, List.setIfInBounds_toArray, List.set_cons_zero, List.set_cons_succ]
                    refine takeH (i := 16) (d := some 71) undef rfl (by kernel_rfl) (by kernel_rfl) (by kernel_rfl) (fun _ _ _ _ h => h) (HSx.out _ HF.out.drew) (fun o ho => by cases ho; exact .inr ⟨by rfl, rfl⟩) ?_
                    simp only [Act.put, List.setIfInBounds_toArray, List.set_cons_zero, List.set_cons_succ]
                    refine takeH (i := 17) (d := some 72) undef rfl (by kernel_rfl) (by kernel_rfl) (by kernel_rfl) (fun _ _ _ _ h => h) (HSx.out _ HF.out.drew) (fun o ho => by cases ho; exact .inr ⟨by rfl, rfl⟩) ?_
                    simp only [Act.put, List.setIfInBounds_toArray, List.set_cons_zero, List.set_cons_succ]
                    refine takeH (i := 18) (d := some 73) undef rfl (by kernel_rfl) (by kernel_rfl) (by kernel_rfl) (fun _ _ _ _ h => h) (HSx.out _ HF.out.drew) (fun o ho => by cases ho; exact .inr ⟨by rfl, rfl⟩) ?_
                    simp only [Act.put, List.setIfInBounds_toArray, List.set_cons_zero, List.set_cons_succ]
                    refine takeH (i := 19) (d := some 74) undef rfl (by kernel_rfl) (by kernel_rfl) (by kernel_rfl) (fun _ _ _ _ h => h) (HSx.out _ HF.out.drew) (fun o ho => by cases ho; exact .inr ⟨by rfl, rfl⟩) ?_
                    simp only [Act.put, List.setIfInBounds_toArray, List.set_cons_zero, List.set_cons_succ]
                    refine takeH (i := 20) (d := some 75) undef rfl (by kernel_rfl) (by kernel_rfl) (by kernel_rfl) (fun _ _ _ _ h => h) (HSx.out _ HF.out.drew) (fun o ho => by cases ho; exact .inr ⟨by rfl, rfl⟩) ?_
                    simp only [Act.put, List.setIfInBounds_toArray, List.set_cons_zero, List.set_cons_succ]
                    refine takeH (i := 21) (d := some 76) undef rfl (by kernel_rfl) (by kernel_rfl) (by kernel_rfl) (fun _ _ _ _ h => h) (HSx.out _ HF.out.drew) (fun o ho => by cases ho; exact .inr ⟨by rfl, rfl⟩) ?_
                    simp only [Act.put, List.setIfInBounds_toArray, List.set_cons_zero, List.set_cons_succ]
                    refine takeH (i := 22) (d := some 77) undef rfl (by kernel_rfl) (by kernel_rfl) (by kernel_rfl) (fun _ _ _ _ h => h) (HSx.out _ HF.out.drew) (fun o ho => by cases ho; exact .inr ⟨by rfl, rfl⟩) ?_
                    simp only [Act.put, List.setIfInBounds_toArray, List.set_cons_zero, List.set_cons_succ]
                    refine takeH (i := 23) (d := some 78) undef rfl (by kernel_rfl) (by kernel_rfl) (by kernel_rfl) (fun _ _ _ _ h => h) (HSx.out _ HF.out.drew) (fun o ho => by cases ho; exact .inr ⟨by rfl, rfl⟩) ?_
                    simp only [Act.put, List.setIfInBounds_toArray, List.set_cons_zero, List.set_cons_succ]
                    refine takeH (i := 24) (d := some 79) undef rfl (by kernel_rfl) (by kernel_rfl) (by kernel_rfl) (fun _ _ _ _ h => h) (HSx.out _ HF.out.drew) (fun o ho => by cases ho; exact .inr ⟨by rfl, rfl⟩) ?_
                    simp only [Act.put, List.setIfInBounds_toArray, List.set_cons_zero, List.set_cons_succ]
                    refine takeH (i := 25) (d := some 80) undef rfl (by kernel_rfl) (by kernel_rfl) (by kernel_rfl) (fun _ _ _ _ h => h) (HSx.out _ HF.out.drew) (fun o ho => by cases ho; exact .inr ⟨by rfl, rfl⟩) ?_
                    simp only [Act.put, List.setIfInBounds_toArray, List.set_cons_zero, List.set_cons_succ]
                    refine takeH (i := 26) (d := some 81) (.bool true) rfl (by kernel_rfl) (by kernel_rfl) (by kernel_rfl) (fun _ _ _ _ h => h) (HSx.out _ HF.out.drew) (fun o ho => by cases ho; exact .inl ⟨by rfl, fun w hSw => by (obtain ⟨⟨hs1, hs2, hs3, hs4⟩, hs5⟩ := hSw; simp only at hs1 hs2 hs3 hs4; go_simp)⟩) ?_
                    simp only [Act.put, List.setIfInBounds_toArray, List.set_cons_zero, List.set_cons_succ]
                    refine takeH (i := 27) (d := some 82) (.bool true) rfl (by kernel_rfl) (by kernel_rfl) (by kernel_rfl) (fun _ _ _ _ h => h) (HSx.out _ HF.out.drew) (fun o ho => by cases ho; exact .inl ⟨by rfl, fun w hSw => by (obtain ⟨⟨hs1, hs2, hs3, hs4⟩, hs5⟩ := hSw; simp only at hs1 hs2 hs3 hs4; go_simp)⟩) ?_
                    simp only [Act.put, List.setIfInBounds_toArray, List.set_cons_zero, List.set_cons_succ]
                    refine wpAnyH_done (by kernel_rfl) (NoPanic.normal ?_) _
                    have HF2 := hid HF.out.drew
                    go_wp2_with fail
                    exact ⟨⟨k + 1, some i, by omega, by go_num, rfl, HL2.out, HF2.out⟩, by simp [intOf]; omega⟩
                  | some c =>
                    have hcl := lk_in HLk.out
                    obtain ⟨z, z1, z2⟩ := HU.out.get c hcl
                    have HSz : Hid (∀ W', Fr (fun _ => False) w W' → fourB W' bb (bo + c * 4) z) := fun W' f => (z1.env (Env.of f)).all
                    have hzn : z.n = (l[c]?.getD default).n := by rw [z2.n, List.getElem?_eq_getElem hcl]; rfl
                    have hc1 : (c : Int) < ((l.length : Nat) : Int) := by omega
                    have hc0 : (0 : Int) ≤ (c : Int) := Int.natCast_nonneg _
                    have hc2 : decide ((c : Int) < 0) = false := decide_eq_false (by omega)
                    have HL2 : Hid (Lk l i (rs.take (k + 1)) (some (if n' < z.n then i else c))) := by
                      unfold Hid; rw [HTk.out]
                      by_cases hle : n' < z.n
                      · rw [if_pos hle]
                        exact lk_here HLk.out hlt hm (fun c' e => by cases e; rw [← hyn, ← hzn]; exact hle)
                      · rw [if_neg hle]
                        exact lk_stay HLk.out hm (by rw [← hyn, ← hzn]; exact hle)
                    have hls : Op.bytesLess n' z.n = decide (n' < z.n) := less_eq _ _
                    clear hf HMk hyn hzn z1 z2
                    by_cases hle : n' < z.n
                    · rw [decide_eq_true hle] at hls
                      rw [if_pos hle] at HL2
                      clear hle
                      simp only [ixV]
                      go_wp2_with fail
                      refine wp_region_noPanic ?_
                      refine wp_region_held_drew (S := fun W' => fourB W' bb (bo + i * 4) ⟨n', s', (some ⟨nb, no, none⟩), rs.length, rc', aa', al', ac'⟩ ∧ W'.cell? ⟨nb, no + k, none⟩ = some (.string ⟨nm.toArray⟩) ∧ fourB W' bb (bo + c * 4) z) (by kernel_rfl) ⟨(HSx.out _ HF.out.drew).1, (HSx.out _ HF.out.drew).2, HSz.out _ HF.out.drew⟩ (fun _ => ?_)
                      refine takeH (i := 0) (d := some 55) (.slice (some ⟨bb, bo, none⟩) l.length cap) rfl (by kernel_rfl) (by kernel_rfl) (by kernel_rfl) (fun _ _ _ _ h => h) ⟨(HSx.out _ HF.out.drew).1, (HSx.out _ HF.out.drew).2, HSz.out _ HF.out.drew⟩ (fun o ho => by cases ho; exact .inl ⟨by rfl, fun w hSw => by (obtain ⟨⟨hs1, hs2, hs3, hs4⟩, hs5, hs6, _, _, _⟩ := hSw; simp only at hs1 hs2 hs3 hs4; go_simp)⟩) ?_
                      simp only [Act.put, List.setIfInBounds_toArray, List.set_cons_zero, List.set_cons_succ]
                      refine takeH (i := 1) (d := some 56) (.slice (some ⟨bb, bo, none⟩) l.length cap) rfl (by kernel_rfl) (by kernel_rfl) (by kernel_rfl) (fun _ _ _ _ h => h) ⟨(HSx.out _ HF.out.drew).1, (HSx.out _ HF.out.drew).2, HSz.out _ HF.out.drew⟩ (fun o ho => by cases ho; exact .inl ⟨by rfl, fun w hSw => by (obtain ⟨⟨hs1, hs2, hs3, hs4⟩, hs5, hs6, _, _, _⟩ := hSw; simp only at hs1 hs2 hs3 hs4; go_simp)⟩) ?_
                      simp only [Act.put, List.setIfInBounds_toArray, List.set_cons_zero, List.set_cons_succ]
                      refine takeH (i := 2) (d := some 57) (.int .i64 (i : Int)) rfl (by kernel_rfl) (by kernel_rfl) (by kernel_rfl) (fun _ _ _ _ h => h) ⟨(HSx.out _ HF.out.drew).1, (HSx.out _ HF.out.drew).2, HSz.out _ HF.out.drew⟩ (fun o ho => by cases ho; exact .inl ⟨by rfl, fun w hSw => by (obtain ⟨⟨hs1, hs2, hs3, hs4⟩, hs5, hs6, _, _, _⟩ := hSw; simp only at hs1 hs2 hs3 hs4; go_simp)⟩) ?_
                      simp only [Act.put, List.setIfInBounds_toArray, List.set_cons_zero, List.set_cons_succ]
                      refine takeH (i := 3) (d := some 58) (.pointer (some ⟨bb, bo + i * 4, none⟩)) rfl (by kernel_rfl) (by kernel_rfl) (by kernel_rfl) (fun _ _ _ _ h => h) ⟨(HSx.out _ HF.out.drew).1, (HSx.out _ HF.out.drew).2, HSz.out _ HF.out.drew⟩ (fun o ho => by cases ho; exact .inl ⟨by rfl, fun w hSw => by (obtain ⟨⟨hs1, hs2, hs3, hs4⟩, hs5, hs6, _, _, _⟩ := hSw; simp only at hs1 hs2 hs3 hs4; go_simp)⟩) ?_
                      simp only [Act.put, List.setIfInBounds_toArray, List.set_cons_zero, List.set_cons_succ]
                      refine takeH (i := 4) (d := some 59) (.pointer (some ⟨bb, bo + i * 4 + 2, none⟩)) rfl (by kernel_rfl) (by kernel_rfl) (by kernel_rfl) (fun _ _ _ _ h => h) ⟨(HSx.out _ HF.out.drew).1, (HSx.out _ HF.out.drew).2, HSz.out _ HF.out.drew⟩ (fun o ho => by cases ho; exact .inl ⟨by rfl, fun w hSw => by (obtain ⟨⟨hs1, hs2, hs3, hs4⟩, hs5, hs6, _, _, _⟩ := hSw; simp only at hs1 hs2 hs3 hs4; go_simp)⟩) ?_
                      simp only [Act.put, List.setIfInBounds_toArray, List.set_cons_zero, List.set_cons_succ]
                      refine takeH (i := 5) (d := some 60) (.slice (some ⟨nb, no, none⟩) rs.length rc') rfl (by kernel_rfl) (by kernel_rfl) (by kernel_rfl) (fun _ _ _ _ h => h) ⟨(HSx.out _ HF.out.drew).1, (HSx.out _ HF.out.drew).2, HSz.out _ HF.out.drew⟩ (fun o ho => by cases ho; exact .inl ⟨by rfl, fun w hSw => by (obtain ⟨⟨hs1, hs2, hs3, hs4⟩, hs5, hs6, _, _, _⟩ := hSw; simp only at hs1 hs2 hs3 hs4; go_simp)⟩) ?_
                      simp only [Act.put, List.setIfInBounds_toArray, List.set_cons_zero, List.set_cons_succ]
                      refine takeH (i := 6) (d := some 61) (.int .i64 (k : Int)) rfl (by kernel_rfl) (by kernel_rfl) (by kernel_rfl) (fun _ _ _ _ h => h) ⟨(HSx.out _ HF.out.drew).1, (HSx.out _ HF.out.drew).2, HSz.out _ HF.out.drew⟩ (fun o ho => by cases ho; exact .inl ⟨by rfl, fun w hSw => by (obtain ⟨⟨hs1, hs2, hs3, hs4⟩, hs5, hs6, _, _, _⟩ := hSw; simp only at hs1 hs2 hs3 hs4; go_simp)⟩) ?_
                      simp only [Act.put, List.setIfInBounds_toArray, List.set_cons_zero, List.set_cons_succ]
                      refine takeH (i := 7) (d := some 62) (.pointer (some ⟨nb, no + k, none⟩)) rfl (by kernel_rfl) (by kernel_rfl) (by kernel_rfl) (fun _ _ _ _ h => h) ⟨(HSx.out _ HF.out.drew).1, (HSx.out _ HF.out.drew).2, HSz.out _ HF.out.drew⟩ (fun o ho => by cases ho; exact .inl ⟨by rfl, fun w hSw => by (obtain ⟨⟨hs1, hs2, hs3, hs4⟩, hs5, hs6, _, _, _⟩ := hSw; simp only at hs1 hs2 hs3 hs4; go_simp)⟩) ?_
                      simp only [Act.put, List.setIfInBounds_toArray, List.set_cons_zero, List.set_cons_succ]
                      refine takeH (i := 8) (d := some 63) (.string ⟨nm.toArray⟩) rfl (by kernel_rfl) (by kernel_rfl) (by kernel_rfl) (fun _ _ _ _ h => h) ⟨(HSx.out _ HF.out.drew).1, (HSx.out _ HF.out.drew).2, HSz.out _ HF.out.drew⟩ (fun o ho => by cases ho; exact .inl ⟨by rfl, fun w hSw => by (obtain ⟨⟨hs1, hs2, hs3, hs4⟩, hs5, hs6, _, _, _⟩ := hSw; simp only at hs1 hs2 hs3 hs4; go_simp)⟩) ?_
                      simp only [Act.put, List.setIfInBounds_toArray, List.set_cons_zero, List.set_cons_succ]
                      refine oneH (i := 9) (by kernel_rfl) (fun o ho K' hK => ?_) (by decide)
                      cases ho
                      rw [if_pos (by rfl)]
                      go_simp
                      refine HQ.out.mono ?_
                      rintro e wa ⟨rfl, hwa⟩
                      subst hwa
                      refine hK.out _ _ ⟨(HSx.out _ HF.out.drew).1, (HSx.out _ HF.out.drew).2, HSz.out _ HF.out.drew⟩ ?_
                      clear hK K'
                      try simp only [Act.put, List.setIfInBounds_toArray, List.set_cons_zero, List.set_cons_succ]
                      refine takeH (i := 10) (d := some 65) (.bool true) rfl (by kernel_rfl) (by kernel_rfl) (by kernel_rfl) (fun _ _ _ _ h => h) ⟨(HSx.out _ HF.out.drew).1, (HSx.out _ HF.out.drew).2, HSz.out _ HF.out.drew⟩ (fun o ho => by cases ho; exact .inl ⟨by rfl, fun w hSw => by (obtain ⟨⟨hs1, hs2, hs3, hs4⟩, hs5, hs6, _, _, _⟩ := hSw; simp only at hs1 hs2 hs3 hs4; go_simp)⟩) ?_
                      simp only [Act.put, List.setIfInBounds_toArray, List.set_cons_zero, List.set_cons_succ]
                      refine takeH (i := 11) (d := some 66) (.bool true) rfl (by kernel_rfl) (by kernel_rfl) (by kernel_rfl) (fun _ _ _ _ h => h) ⟨(HSx.out _ HF.out.drew).1, (HSx.out _ HF.out.drew).2, HSz.out _ HF.out.drew⟩ (fun o ho => by cases ho; exact .inl ⟨by rfl, fun w hSw => by (obtain ⟨⟨hs1, hs2, hs3, hs4⟩, hs5, hs6, _, _, _⟩ := hSw; simp only at hs1 hs2 hs3 hs4; go_simp)⟩) ?_
                      simp only [Act.put, List.setIfInBounds_toArray, List.set_cons_zero, List.set_cons_succ]
                      refine takeH (i := 12) (d := some 67) (.int .i64 (c : Int)) rfl (by kernel_rfl) (by kernel_rfl) (by kernel_rfl) (fun _ _ _ _ h => h) ⟨(HSx.out _ HF.out.drew).1, (HSx.out _ HF.out.drew).2, HSz.out _ HF.out.drew⟩ (fun o ho => by cases ho; exact .inl ⟨by rfl, fun w hSw => by (obtain ⟨⟨hs1, hs2, hs3, hs4⟩, hs5, hs6, _, _, _⟩ := hSw; simp only at hs1 hs2 hs3 hs4; go_simp)⟩) ?_
                      simp only [Act.put, List.setIfInBounds_toArray, List.set_cons_zero, List.set_cons_succ]
                      refine takeH (i := 13) (d := some 68) (.bool false) rfl (by kernel_rfl) (by kernel_rfl) (by kernel_rfl) (fun _ _ _ _ h => h) ⟨(HSx.out _ HF.out.drew).1, (HSx.out _ HF.out.drew).2, HSz.out _ HF.out.drew⟩ (fun o ho => by cases ho; exact .inl ⟨by rfl, fun w hSw => by (obtain ⟨⟨hs1, hs2, hs3, hs4⟩, hs5, hs6, _, _, _⟩ := hSw; simp only at hs1 hs2 hs3 hs4; go_simp)⟩) ?_
                      simp only [Act.put, List.setIfInBounds_toArray, List.set_cons_zero, List.set_cons_succ]
                      refine takeH (i := 14) (d := some 69) (.bool false) rfl (by kernel_rfl) (by kernel_rfl) (by kernel_rfl) (fun _ _ _ _ h => h) ⟨(HSx.out _ HF.out.drew).1, (HSx.out _ HF.out.drew).2, HSz.out _ HF.out.drew⟩ (fun o ho => by cases ho; exact .inl ⟨by rfl, fun w hSw => by (obtain ⟨⟨hs1, hs2, hs3, hs4⟩, hs5, hs6, _, _, _⟩ := hSw; simp only at hs1 hs2 hs3 hs4; go_simp)⟩) ?_
                      simp only [Act.put, List.setIfInBounds_toArray, List.set_cons_zero, List.set_cons_succ]
                      refine takeH (i := 15) (d := some 70) (.slice (some ⟨bb, bo, none⟩) l.length cap) rfl (by kernel_rfl) (by kernel_rfl) (by kernel_rfl) (fun _ _ _ _ h => h) ⟨(HSx.out _ HF.out.drew).1, (HSx.out _ HF.out.drew).2, HSz.out _ HF.out.drew⟩ (fun o ho => by cases ho; exact .inl ⟨by rfl, fun w hSw => by (obtain ⟨⟨hs1, hs2, hs3, hs4⟩, hs5, hs6, _, _, _⟩ := hSw; simp only at hs1 hs2 hs3 hs4; go_simp)⟩) ?_
                      simp only [Act.put, List.setIfInBounds_toArray, List.set_cons_zero, List.set_cons_succ]
                      refine takeH (i := 16) (d := some 71) (.int .i64 (i : Int)) rfl (by kernel_rfl) (by kernel_rfl) (by kernel_rfl) (fun _ _ _ _ h => h) ⟨(HSx.out _ HF.out.drew).1, (HSx.out _ HF.out.drew).2, HSz.out _ HF.out.drew⟩ (fun o ho => by cases ho; exact .inl ⟨by rfl, fun w hSw => by (obtain ⟨⟨hs1, hs2, hs3, hs4⟩, hs5, hs6, _, _, _⟩ := hSw; simp only at hs1 hs2 hs3 hs4; go_simp)⟩) ?_
                      simp only [Act.put, List.setIfInBounds_toArray, List.set_cons_zero, List.set_cons_succ]
                      refine takeH (i := 17) (d := some 72) (.pointer (some ⟨bb, bo + i * 4, none⟩)) rfl (by kernel_rfl) (by kernel_rfl) (by kernel_rfl) (fun _ _ _ _ h => h) ⟨(HSx.out _ HF.out.drew).1, (HSx.out _ HF.out.drew).2, HSz.out _ HF.out.drew⟩ (fun o ho => by cases ho; exact .inl ⟨by rfl, fun w hSw => by (obtain ⟨⟨hs1, hs2, hs3, hs4⟩, hs5, hs6, _, _, _⟩ := hSw; simp only at hs1 hs2 hs3 hs4; go_simp)⟩) ?_
                      simp only [Act.put, List.setIfInBounds_toArray, List.set_cons_zero, List.set_cons_succ]
                      refine takeH (i := 18) (d := some 73) (.pointer (some ⟨bb, bo + i * 4, none⟩)) rfl (by kernel_rfl) (by kernel_rfl) (by kernel_rfl) (fun _ _ _ _ h => h) ⟨(HSx.out _ HF.out.drew).1, (HSx.out _ HF.out.drew).2, HSz.out _ HF.out.drew⟩ (fun o ho => by cases ho; exact .inl ⟨by rfl, fun w hSw => by (obtain ⟨⟨hs1, hs2, hs3, hs4⟩, hs5, hs6, _, _, _⟩ := hSw; simp only at hs1 hs2 hs3 hs4; go_simp)⟩) ?_
                      simp only [Act.put, List.setIfInBounds_toArray, List.set_cons_zero, List.set_cons_succ]
                      refine takeH (i := 19) (d := some 74) (.string ⟨n'.toArray⟩) rfl (by kernel_rfl) (by kernel_rfl) (by kernel_rfl) (fun _ _ _ _ h => h) ⟨(HSx.out _ HF.out.drew).1, (HSx.out _ HF.out.drew).2, HSz.out _ HF.out.drew⟩ (fun o ho => by cases ho; exact .inl ⟨by rfl, fun w hSw => by (obtain ⟨⟨hs1, hs2, hs3, hs4⟩, hs5, hs6, _, _, _⟩ := hSw; simp only at hs1 hs2 hs3 hs4; go_simp)⟩) ?_
                      simp only [Act.put, List.setIfInBounds_toArray, List.set_cons_zero, List.set_cons_succ]
                      refine takeH (i := 20) (d := some 75) (.slice (some ⟨bb, bo, none⟩) l.length cap) rfl (by kernel_rfl) (by kernel_rfl) (by kernel_rfl) (fun _ _ _ _ h => h) ⟨(HSx.out _ HF.out.drew).1, (HSx.out _ HF.out.drew).2, HSz.out _ HF.out.drew⟩ (fun o ho => by cases ho; exact .inl ⟨by rfl, fun w hSw => by (obtain ⟨⟨hs1, hs2, hs3, hs4⟩, hs5, hs6, _, _, _⟩ := hSw; simp only at hs1 hs2 hs3 hs4; go_simp)⟩) ?_
                      simp only [Act.put, List.setIfInBounds_toArray, List.set_cons_zero, List.set_cons_succ]
                      refine takeH (i := 21) (d := some 76) (.int .i64 (c : Int)) rfl (by kernel_rfl) (by kernel_rfl) (by kernel_rfl) (fun _ _ _ _ h => h) ⟨(HSx.out _ HF.out.drew).1, (HSx.out _ HF.out.drew).2, HSz.out _ HF.out.drew⟩ (fun o ho => by cases ho; exact .inl ⟨by rfl, fun w hSw => by (obtain ⟨⟨hs1, hs2, hs3, hs4⟩, hs5, hs6, _, _, _⟩ := hSw; simp only at hs1 hs2 hs3 hs4; go_simp)⟩) ?_
                      simp only [Act.put, List.setIfInBounds_toArray, List.set_cons_zero, List.set_cons_succ]
                      refine takeH (i := 22) (d := some 77) (.pointer (some ⟨bb, bo + c * 4, none⟩)) rfl (by kernel_rfl) (by kernel_rfl) (by kernel_rfl) (fun _ _ _ _ h => h) ⟨(HSx.out _ HF.out.drew).1, (HSx.out _ HF.out.drew).2, HSz.out _ HF.out.drew⟩ (fun o ho => by cases ho; exact .inl ⟨by rfl, fun w hSw => by (obtain ⟨⟨hs1, hs2, hs3, hs4⟩, hs5, hs6, _, _, _⟩ := hSw; simp only at hs1 hs2 hs3 hs4; go_simp)⟩) ?_
                      simp only [Act.put, List.setIfInBounds_toArray, List.set_cons_zero, List.set_cons_succ]
                      refine takeH (i := 23) (d := some 78) (.pointer (some ⟨bb, bo + c * 4, none⟩)) rfl (by kernel_rfl) (by kernel_rfl) (by kernel_rfl) (fun _ _ _ _ h => h) ⟨(HSx.out _ HF.out.drew).1, (HSx.out _ HF.out.drew).2, HSz.out _ HF.out.drew⟩ (fun o ho => by cases ho; exact .inl ⟨by rfl, fun w hSw => by (obtain ⟨⟨hs1, hs2, hs3, hs4⟩, hs5, hs6, _, _, _⟩ := hSw; simp only at hs1 hs2 hs3 hs4; go_simp)⟩) ?_
                      simp only [Act.put, List.setIfInBounds_toArray, List.set_cons_zero, List.set_cons_succ]
                      refine takeH (i := 24) (d := some 79) (.string ⟨z.n.toArray⟩) rfl (by kernel_rfl) (by kernel_rfl) (by kernel_rfl) (fun _ _ _ _ h => h) ⟨(HSx.out _ HF.out.drew).1, (HSx.out _ HF.out.drew).2, HSz.out _ HF.out.drew⟩ (fun o ho => by cases ho; exact .inl ⟨by rfl, fun w hSw => by (obtain ⟨⟨hs1, hs2, hs3, hs4⟩, hs5, hs6, _, _, _⟩ := hSw; simp only at hs1 hs2 hs3 hs4; go_simp)⟩) ?_
                      simp only [Act.put, List.setIfInBounds_toArray, List.set_cons_zero, List.set_cons_succ]
                      refine takeH (i := 25) (d := some 80) (.bool true) rfl (by kernel_rfl) (by kernel_rfl) (by kernel_rfl) (fun _ _ _ _ h => h) ⟨(HSx.out _ HF.out.drew).1, (HSx.out _ HF.out.drew).2, HSz.out _ HF.out.drew⟩ (fun o ho => by cases ho; exact .inl ⟨by rfl, fun w hSw => by (obtain ⟨⟨hs1, hs2, hs3, hs4⟩, hs5, hs6, _, _, _⟩ := hSw; simp only at hs1 hs2 hs3 hs4; go_simp)⟩) ?_
                      simp only [Act.put, List.setIfInBounds_toArray, List.set_cons_zero, List.set_cons_succ]
                      refine takeH (i := 26) (d := some 81) (.bool true) rfl (by kernel_rfl) (by kernel_rfl) (by kernel_rfl) (fun _ _ _ _ h => h) ⟨(HSx.out _ HF.out.drew).1, (HSx.out _ HF.out.drew).2, HSz.out _ HF.out.drew⟩ (fun o ho => by cases ho; exact .inl ⟨by rfl, fun w hSw => by (obtain ⟨⟨hs1, hs2, hs3, hs4⟩, hs5, hs6, _, _, _⟩ := hSw; simp only at hs1 hs2 hs3 hs4; go_simp)⟩) ?_
                      simp only [Act.put, List.setIfInBounds_toArray, List.set_cons_zero, List.set_cons_succ]
                      refine takeH (i := 27) (d := some 82) (.bool true) rfl (by kernel_rfl) (by kernel_rfl) (by kernel_rfl) (fun _ _ _ _ h => h) ⟨(HSx.out _ HF.out.drew).1, (HSx.out _ HF.out.drew).2, HSz.out _ HF.out.drew⟩ (fun o ho => by cases ho; exact .inl ⟨by rfl, fun w hSw => by (obtain ⟨⟨hs1, hs2, hs3, hs4⟩, hs5, hs6, _, _, _⟩ := hSw; simp only at hs1 hs2 hs3 hs4; go_simp)⟩) ?_
                      simp only [Act.put, List.setIfInBounds_toArray, List.set_cons_zero, List.set_cons_succ]
                      refine wpAnyH_done (by kernel_rfl) (NoPanic.normal ?_) _
                      have HF2 := hid HF.out.drew
                      go_wp2_with fail
                      exact ⟨⟨k + 1, some i, by omega, by go_num, rfl, HL2.out, HF2.out⟩, by simp [intOf]; omega⟩
                    · rw [decide_eq_false hle] at hls
                      rw [if_neg hle] at HL2
                      clear hle
                      simp only [ixV]
                      go_wp2_with fail
                      refine wp_region_noPanic ?_
                      refine wp_region_held_drew (S := fun W' => fourB W' bb (bo + i * 4) ⟨n', s', (some ⟨nb, no, none⟩), rs.length, rc', aa', al', ac'⟩ ∧ W'.cell? ⟨nb, no + k, none⟩ = some (.string ⟨nm.toArray⟩) ∧ fourB W' bb (bo + c * 4) z) (by kernel_rfl) ⟨(HSx.out _ HF.out.drew).1, (HSx.out _ HF.out.drew).2, HSz.out _ HF.out.drew⟩ (fun _ => ?_)
                      refine takeH (i := 0) (d := some 55) (.slice (some ⟨bb, bo, none⟩) l.length cap) rfl (by kernel_rfl) (by kernel_rfl) (by kernel_rfl) (fun _ _ _ _ h => h) ⟨(HSx.out _ HF.out.drew).1, (HSx.out _ HF.out.drew).2, HSz.out _ HF.out.drew⟩ (fun o ho => by cases ho; exact .inl ⟨by rfl, fun w hSw => by (obtain ⟨⟨hs1, hs2, hs3, hs4⟩, hs5, hs6, _, _, _⟩ := hSw; simp only at hs1 hs2 hs3 hs4; go_simp)⟩) ?_
                      simp only [Act.put, List.setIfInBounds_toArray, List.set_cons_zero, List.set_cons_succ]
                      refine takeH (i := 1) (d := some 56) (.slice (some ⟨bb, bo, none⟩) l.length cap) rfl (by kernel_rfl) (by kernel_rfl) (by kernel_rfl) (fun _ _ _ _ h => h) ⟨(HSx.out _ HF.out.drew).1, (HSx.out _ HF.out.drew).2, HSz.out _ HF.out.drew⟩ (fun o ho => by cases ho; exact .inl ⟨by rfl, fun w hSw => by (obtain ⟨⟨hs1, hs2, hs3, hs4⟩, hs5, hs6, _, _, _⟩ := hSw; simp only at hs1 hs2 hs3 hs4; go_simp)⟩) ?_
                      simp only [Act.put, List.setIfInBounds_toArray, List.set_cons_zero, List.set_cons_succ]
                      refine takeH (i := 2) (d := some 57) (.int .i64 (i : Int)) rfl (by kernel_rfl) (by kernel_rfl) (by kernel_rfl) (fun _ _ _ _ h => h) ⟨(HSx.out _ HF.out.drew).1, (HSx.out _ HF.out.drew).2, HSz.out _ HF.out.drew⟩ (fun o ho => by cases ho; exact .inl ⟨by rfl, fun w hSw => by (obtain ⟨⟨hs1, hs2, hs3, hs4⟩, hs5, hs6, _, _, _⟩ := hSw; simp only at hs1 hs2 hs3 hs4; go_simp)⟩) ?_
                      simp only [Act.put, List.setIfInBounds_toArray, List.set_cons_zero, List.set_cons_succ]
                      refine takeH (i := 3) (d := some 58) (.pointer (some ⟨bb, bo + i * 4, none⟩)) rfl (by kernel_rfl) (by kernel_rfl) (by kernel_rfl) (fun _ _ _ _ h => h) ⟨(HSx.out _ HF.out.drew).1, (HSx.out _ HF.out.drew).2, HSz.out _ HF.out.drew⟩ (fun o ho => by cases ho; exact .inl ⟨by rfl, fun w hSw => by (obtain ⟨⟨hs1, hs2, hs3, hs4⟩, hs5, hs6, _, _, _⟩ := hSw; simp only at hs1 hs2 hs3 hs4; go_simp)⟩) ?_
                      simp only [Act.put, List.setIfInBounds_toArray, List.set_cons_zero, List.set_cons_succ]
                      refine takeH (i := 4) (d := some 59) (.pointer (some ⟨bb, bo + i * 4 + 2, none⟩)) rfl (by kernel_rfl) (by kernel_rfl) (by kernel_rfl) (fun _ _ _ _ h => h) ⟨(HSx.out _ HF.out.drew).1, (HSx.out _ HF.out.drew).2, HSz.out _ HF.out.drew⟩ (fun o ho => by cases ho; exact .inl ⟨by rfl, fun w hSw => by (obtain ⟨⟨hs1, hs2, hs3, hs4⟩, hs5, hs6, _, _, _⟩ := hSw; simp only at hs1 hs2 hs3 hs4; go_simp)⟩) ?_
                      simp only [Act.put, List.setIfInBounds_toArray, List.set_cons_zero, List.set_cons_succ]
                      refine takeH (i := 5) (d := some 60) (.slice (some ⟨nb, no, none⟩) rs.length rc') rfl (by kernel_rfl) (by kernel_rfl) (by kernel_rfl) (fun _ _ _ _ h => h) ⟨(HSx.out _ HF.out.drew).1, (HSx.out _ HF.out.drew).2, HSz.out _ HF.out.drew⟩ (fun o ho => by cases ho; exact .inl ⟨by rfl, fun w hSw => by (obtain ⟨⟨hs1, hs2, hs3, hs4⟩, hs5, hs6, _, _, _⟩ := hSw; simp only at hs1 hs2 hs3 hs4; go_simp)⟩) ?_
                      simp only [Act.put, List.setIfInBounds_toArray, List.set_cons_zero, List.set_cons_succ]
                      refine takeH (i := 6) (d := some 61) (.int .i64 (k : Int)) rfl (by kernel_rfl) (by kernel_rfl) (by kernel_rfl) (fun _ _ _ _ h => h) ⟨(HSx.out _ HF.out.drew).1, (HSx.out _ HF.out.drew).2, HSz.out _ HF.out.drew⟩ (fun o ho => by cases ho; exact .inl ⟨by rfl, fun w hSw => by (obtain ⟨⟨hs1, hs2, hs3, hs4⟩, hs5, hs6, _, _, _⟩ := hSw; simp only at hs1 hs2 hs3 hs4; go_simp)⟩) ?_
                      simp only [Act.put, List.setIfInBounds_toArray, List.set_cons_zero, List.set_cons_succ]
                      refine takeH (i := 7) (d := some 62) (.pointer (some ⟨nb, no + k, none⟩)) rfl (by kernel_rfl) (by kernel_rfl) (by kernel_rfl) (fun _ _ _ _ h => h) ⟨(HSx.out _ HF.out.drew).1, (HSx.out _ HF.out.drew).2, HSz.out _ HF.out.drew⟩ (fun o ho => by cases ho; exact .inl ⟨by rfl, fun w hSw => by (obtain ⟨⟨hs1, hs2, hs3, hs4⟩, hs5, hs6, _, _, _⟩ := hSw; simp only at hs1 hs2 hs3 hs4; go_simp)⟩) ?_
                      simp only [Act.put, List.setIfInBounds_toArray, List.set_cons_zero, List.set_cons_succ]
                      refine takeH (i := 8) (d := some 63) (.string ⟨nm.toArray⟩) rfl (by kernel_rfl) (by kernel_rfl) (by kernel_rfl) (fun _ _ _ _ h => h) ⟨(HSx.out _ HF.out.drew).1, (HSx.out _ HF.out.drew).2, HSz.out _ HF.out.drew⟩ (fun o ho => by cases ho; exact .inl ⟨by rfl, fun w hSw => by (obtain ⟨⟨hs1, hs2, hs3, hs4⟩, hs5, hs6, _, _, _⟩ := hSw; simp only at hs1 hs2 hs3 hs4; go_simp)⟩) ?_
                      simp only [Act.put, List.setIfInBounds_toArray, List.set_cons_zero, List.set_cons_succ]
                      refine oneH (i := 9) (by kernel_rfl) (fun o ho K' hK => ?_) (by decide)
                      cases ho
                      rw [if_pos (by rfl)]
                      go_simp
                      refine HQ.out.mono ?_
                      rintro e wa ⟨rfl, hwa⟩
                      subst hwa
                      refine hK.out _ _ ⟨(HSx.out _ HF.out.drew).1, (HSx.out _ HF.out.drew).2, HSz.out _ HF.out.drew⟩ ?_
                      clear hK K'
                      try simp only [Act.put, List.setIfInBounds_toArray, List.set_cons_zero, List.set_cons_succ]
                      refine takeH (i := 10) (d := some 65) (.bool true) rfl (by kernel_rfl) (by kernel_rfl) (by kernel_rfl) (fun _ _ _ _ h => h) ⟨(HSx.out _ HF.out.drew).1, (HSx.out _ HF.out.drew).2, HSz.out _ HF.out.drew⟩ (fun o ho => by cases ho; exact .inl ⟨by rfl, fun w hSw => by (obtain ⟨⟨hs1, hs2, hs3, hs4⟩, hs5, hs6, _, _, _⟩ := hSw; simp only at hs1 hs2 hs3 hs4; go_simp)⟩) ?_
                      simp only [Act.put, List.setIfInBounds_toArray, List.set_cons_zero, List.set_cons_succ]
                      refine takeH (i := 11) (d := some 66) (.bool true) rfl (by kernel_rfl) (by kernel_rfl) (by kernel_rfl) (fun _ _ _ _ h => h) ⟨(HSx.out _ HF.out.drew).1, (HSx.out _ HF.out.drew).2, HSz.out _ HF.out.drew⟩ (fun o ho => by cases ho; exact .inl ⟨by rfl, fun w hSw => by (obtain ⟨⟨hs1, hs2, hs3, hs4⟩, hs5, hs6, _, _, _⟩ := hSw; simp only at hs1 hs2 hs3 hs4; go_simp)⟩) ?_
                      simp only [Act.put, List.setIfInBounds_toArray, List.set_cons_zero, List.set_cons_succ]
                      refine takeH (i := 12) (d := some 67) (.int .i64 (c : Int)) rfl (by kernel_rfl) (by kernel_rfl) (by kernel_rfl) (fun _ _ _ _ h => h) ⟨(HSx.out _ HF.out.drew).1, (HSx.out _ HF.out.drew).2, HSz.out _ HF.out.drew⟩ (fun o ho => by cases ho; exact .inl ⟨by rfl, fun w hSw => by (obtain ⟨⟨hs1, hs2, hs3, hs4⟩, hs5, hs6, _, _, _⟩ := hSw; simp only at hs1 hs2 hs3 hs4; go_simp)⟩) ?_
                      simp only [Act.put, List.setIfInBounds_toArray, List.set_cons_zero, List.set_cons_succ]
                      refine takeH (i := 13) (d := some 68) (.bool false) rfl (by kernel_rfl) (by kernel_rfl) (by kernel_rfl) (fun _ _ _ _ h => h) ⟨(HSx.out _ HF.out.drew).1, (HSx.out _ HF.out.drew).2, HSz.out _ HF.out.drew⟩ (fun o ho => by cases ho; exact .inl ⟨by rfl, fun w hSw => by (obtain ⟨⟨hs1, hs2, hs3, hs4⟩, hs5, hs6, _, _, _⟩ := hSw; simp only at hs1 hs2 hs3 hs4; go_simp)⟩) ?_
                      simp only [Act.put, List.setIfInBounds_toArray, List.set_cons_zero, List.set_cons_succ]
                      refine takeH (i := 14) (d := some 69) (.bool false) rfl (by kernel_rfl) (by kernel_rfl) (by kernel_rfl) (fun _ _ _ _ h => h) ⟨(HSx.out _ HF.out.drew).1, (HSx.out _ HF.out.drew).2, HSz.out _ HF.out.drew⟩ (fun o ho => by cases ho; exact .inl ⟨by rfl, fun w hSw => by (obtain ⟨⟨hs1, hs2, hs3, hs4⟩, hs5, hs6, _, _, _⟩ := hSw; simp only at hs1 hs2 hs3 hs4; go_simp)⟩) ?_
                      simp only [Act.put, List.setIfInBounds_toArray, List.set_cons_zero, List.set_cons_succ]
                      refine takeH (i := 15) (d := some 70) (.slice (some ⟨bb, bo, none⟩) l.length cap) rfl (by kernel_rfl) (by kernel_rfl) (by kernel_rfl) (fun _ _ _ _ h => h) ⟨(HSx.out _ HF.out.drew).1, (HSx.out _ HF.out.drew).2, HSz.out _ HF.out.drew⟩ (fun o ho => by cases ho; exact .inl ⟨by rfl, fun w hSw => by (obtain ⟨⟨hs1, hs2, hs3, hs4⟩, hs5, hs6, _, _, _⟩ := hSw; simp only at hs1 hs2 hs3 hs4; go_simp)⟩) ?_
                      simp only [Act.put, List.setIfInBounds_toArray, List.set_cons_zero, List.set_cons_succ]
                      refine takeH (i := 16) (d := some 71) (.int .i64 (i : Int)) rfl (by kernel_rfl) (by kernel_rfl) (by kernel_rfl) (fun _ _ _ _ h => h) ⟨(HSx.out _ HF.out.drew).1, (HSx.out _ HF.out.drew).2, HSz.out _ HF.out.drew⟩ (fun o ho => by cases ho; exact .inl ⟨by rfl, fun w hSw => by (obtain ⟨⟨hs1, hs2, hs3, hs4⟩, hs5, hs6, _, _, _⟩ := hSw; simp only at hs1 hs2 hs3 hs4; go_simp)⟩) ?_
                      simp only [Act.put, List.setIfInBounds_toArray, List.set_cons_zero, List.set_cons_succ]
                      refine takeH (i := 17) (d := some 72) (.pointer (some ⟨bb, bo + i * 4, none⟩)) rfl (by kernel_rfl) (by kernel_rfl) (by kernel_rfl) (fun _ _ _ _ h => h) ⟨(HSx.out _ HF.out.drew).1, (HSx.out _ HF.out.drew).2, HSz.out _ HF.out.drew⟩ (fun o ho => by cases ho; exact .inl ⟨by rfl, fun w hSw => by (obtain ⟨⟨hs1, hs2, hs3, hs4⟩, hs5, hs6, _, _, _⟩ := hSw; simp only at hs1 hs2 hs3 hs4; go_simp)⟩) ?_
                      simp only [Act.put, List.setIfInBounds_toArray, List.set_cons_zero, List.set_cons_succ]
                      refine takeH (i := 18) (d := some 73) (.pointer (some ⟨bb, bo + i * 4, none⟩)) rfl (by kernel_rfl) (by kernel_rfl) (by kernel_rfl) (fun _ _ _ _ h => h) ⟨(HSx.out _ HF.out.drew).1, (HSx.out _ HF.out.drew).2, HSz.out _ HF.out.drew⟩ (fun o ho => by cases ho; exact .inl ⟨by rfl, fun w hSw => by (obtain ⟨⟨hs1, hs2, hs3, hs4⟩, hs5, hs6, _, _, _⟩ := hSw; simp only at hs1 hs2 hs3 hs4; go_simp)⟩) ?_
                      simp only [Act.put, List.setIfInBounds_toArray, List.set_cons_zero, List.set_cons_succ]
                      refine takeH (i := 19) (d := some 74) (.string ⟨n'.toArray⟩) rfl (by kernel_rfl) (by kernel_rfl) (by kernel_rfl) (fun _ _ _ _ h => h) ⟨(HSx.out _ HF.out.drew).1, (HSx.out _ HF.out.drew).2, HSz.out _ HF.out.drew⟩ (fun o ho => by cases ho; exact .inl ⟨by rfl, fun w hSw => by (obtain ⟨⟨hs1, hs2, hs3, hs4⟩, hs5, hs6, _, _, _⟩ := hSw; simp only at hs1 hs2 hs3 hs4; go_simp)⟩) ?_
                      simp only [Act.put, List.setIfInBounds_toArray, List.set_cons_zero, List.set_cons_succ]
                      refine takeH (i := 20) (d := some 75) (.slice (some ⟨bb, bo, none⟩) l.length cap) rfl (by kernel_rfl) (by kernel_rfl) (by kernel_rfl) (fun _ _ _ _ h => h) ⟨(HSx.out _ HF.out.drew).1, (HSx.out _ HF.out.drew).2, HSz.out _ HF.out.drew⟩ (fun o ho => by cases ho; exact .inl ⟨by rfl, fun w hSw => by (obtain ⟨⟨hs1, hs2, hs3, hs4⟩, hs5, hs6, _, _, _⟩ := hSw; simp only at hs1 hs2 hs3 hs4; go_simp)⟩) ?_
                      simp only [Act.put, List.setIfInBounds_toArray, List.set_cons_zero, List.set_cons_succ]
                      refine takeH (i := 21) (d := some 76) (.int .i64 (c : Int)) rfl (by kernel_rfl) (by kernel_rfl) (by kernel_rfl) (fun _ _ _ _ h => h) ⟨(HSx.out _ HF.out.drew).1, (HSx.out _ HF.out.drew).2, HSz.out _ HF.out.drew⟩ (fun o ho => by cases ho; exact .inl ⟨by rfl, fun w hSw => by (obtain ⟨⟨hs1, hs2, hs3, hs4⟩, hs5, hs6, _, _, _⟩ := hSw; simp only at hs1 hs2 hs3 hs4; go_simp)⟩) ?_
                      simp only [Act.put, List.setIfInBounds_toArray, List.set_cons_zero, List.set_cons_succ]
                      refine takeH (i := 22) (d := some 77) (.pointer (some ⟨bb, bo + c * 4, none⟩)) rfl (by kernel_rfl) (by kernel_rfl) (by kernel_rfl) (fun _ _ _ _ h => h) ⟨(HSx.out _ HF.out.drew).1, (HSx.out _ HF.out.drew).2, HSz.out _ HF.out.drew⟩ (fun o ho => by cases ho; exact .inl ⟨by rfl, fun w hSw => by (obtain ⟨⟨hs1, hs2, hs3, hs4⟩, hs5, hs6, _, _, _⟩ := hSw; simp only at hs1 hs2 hs3 hs4; go_simp)⟩) ?_
                      simp only [Act.put, List.setIfInBounds_toArray, List.set_cons_zero, List.set_cons_succ]
                      refine takeH (i := 23) (d := some 78) (.pointer (some ⟨bb, bo + c * 4, none⟩)) rfl (by kernel_rfl) (by kernel_rfl) (by kernel_rfl) (fun _ _ _ _ h => h) ⟨(HSx.out _ HF.out.drew).1, (HSx.out _ HF.out.drew).2, HSz.out _ HF.out.drew⟩ (fun o ho => by cases ho; exact .inl ⟨by rfl, fun w hSw => by (obtain ⟨⟨hs1, hs2, hs3, hs4⟩, hs5, hs6, _, _, _⟩ := hSw; simp only at hs1 hs2 hs3 hs4; go_simp)⟩) ?_
                      simp only [Act.put, List.setIfInBounds_toArray, List.set_cons_zero, List.set_cons_succ]
                      refine takeH (i := 24) (d := some 79) (.string ⟨z.n.toArray⟩) rfl (by kernel_rfl) (by kernel_rfl) (by kernel_rfl) (fun _ _ _ _ h => h) ⟨(HSx.out _ HF.out.drew).1, (HSx.out _ HF.out.drew).2, HSz.out _ HF.out.drew⟩ (fun o ho => by cases ho; exact .inl ⟨by rfl, fun w hSw => by (obtain ⟨⟨hs1, hs2, hs3, hs4⟩, hs5, hs6, _, _, _⟩ := hSw; simp only at hs1 hs2 hs3 hs4; go_simp)⟩) ?_
                      simp only [Act.put, List.setIfInBounds_toArray, List.set_cons_zero, List.set_cons_succ]
                      refine takeH (i := 25) (d := some 80) (.bool false) rfl (by kernel_rfl) (by kernel_rfl) (by kernel_rfl) (fun _ _ _ _ h => h) ⟨(HSx.out _ HF.out.drew).1, (HSx.out _ HF.out.drew).2, HSz.out _ HF.out.drew⟩ (fun o ho => by cases ho; exact .inl ⟨by rfl, fun w hSw => by (obtain ⟨⟨hs1, hs2, hs3, hs4⟩, hs5, hs6, _, _, _⟩ := hSw; simp only at hs1 hs2 hs3 hs4; go_simp)⟩) ?_
                      simp only [Act.put, List.setIfInBounds_toArray, List.set_cons_zero, List.set_cons_succ]
                      refine takeH (i := 26) (d := some 81) (.bool false) rfl (by kernel_rfl) (by kernel_rfl) (by kernel_rfl) (fun _ _ _ _ h => h) ⟨(HSx.out _ HF.out.drew).1, (HSx.out _ HF.out.drew).2, HSz.out _ HF.out.drew⟩ (fun o ho => by cases ho; exact .inl ⟨by rfl, fun w hSw => by (obtain ⟨⟨hs1, hs2, hs3, hs4⟩, hs5, hs6, _, _, _⟩ := hSw; simp only at hs1 hs2 hs3 hs4; go_simp)⟩) ?_
                      simp only [Act.put, List.setIfInBounds_toArray, List.set_cons_zero, List.set_cons_succ]
                      refine takeH (i := 27) (d := some 82) (.bool false) rfl (by kernel_rfl) (by kernel_rfl) (by kernel_rfl) (fun _ _ _ _ h => h) ⟨(HSx.out _ HF.out.drew).1, (HSx.out _ HF.out.drew).2, HSz.out _ HF.out.drew⟩ (fun o ho => by cases ho; exact .inl ⟨by rfl, fun w hSw => by (obtain ⟨⟨hs1, hs2, hs3, hs4⟩, hs5, hs6, _, _, _⟩ := hSw; simp only at hs1 hs2 hs3 hs4; go_simp)⟩) ?_
                      simp only [Act.put, List.setIfInBounds_toArray, List.set_cons_zero, List.set_cons_succ]
                      refine wpAnyH_done (by kernel_rfl) (NoPanic.normal ?_) _
                      have HF2 := hid HF.out.drew
                      go_wp2_with fail
                      exact ⟨⟨k + 1, some c, by omega, by go_num, rfl, HL2.out, HF2.out⟩, by simp [intOf]; omega⟩
              · have hkl' : ¬ ((k : Int) < ((rs.length : Nat) : Int)) := by omega
                have HL2 := hid (HNext.out b (by have := HLk.out; rw [List.take_of_length_le (by omega)] at this; exact this))
                go_wp2_with fail
                exact ⟨⟨i + 1, b, by omega, by go_num, rfl, HL2.out, HF.out⟩, by simp [intOf]; omega⟩
          · have hi1 : ¬ ((i : Int) < ((l.length : Nat) : Int)) := by omega
            cases b with
            | some c =>
              have hcl := lk_in HLk.out
              obtain ⟨bb, bo, rfl⟩ := HU.out.some hcl
              obtain ⟨z, z1, z2⟩ := HU.out.get c hcl
              obtain rfl : i = l.length := by omega
              have hzn : z.n = (l[c]?.getD default).n := by rw [z2.n, List.getElem?_eq_getElem hcl]; rfl
              have HR := hid (ord_lack h24 HNd.out (lk_end HLk.out))
              rw [← hzn] at HR
              obtain ⟨d0, _, _, _⟩ := (z1.env (Env.of HF.out)).all
              have hc1 : (c : Int) < ((l.length : Nat) : Int) := by omega
              have hc0 : (0 : Int) ≤ (c : Int) := Int.natCast_nonneg _
              have hc3 : decide ((0 : Int) ≤ (c : Int)) = true := decide_eq_true hc0
              clear HLk z1 z2 hzn
              generalize z.n = zn at *
              simp only [ixV]
              go_wp2_with fail
              go_region
              all_goals
                have HF2 := hid HF.out.drew
                go_wp2_with fail
                go_ret3
                refine ⟨HF2.out, .slice none 0 0, [], ?_, ?_⟩
                · rw [HR.out]; rfl
                · rw [HR.out]; exact row_none _ _ _
            | none =>
              obtain rfl : i = l.length := by omega
              have HOrd := hid (ord_run h24 HNd.out (lk_end HLk.out))
              have hn3 : decide ((0 : Int) ≤ -1) = false := by decide
              have hmk := mk_bools wr l.length hl
              have hlbw : w.heap.size ≤ wr.heap.size := HF.out.size
              have HB0 : Hid (Blk (wr.alloc (.cells (boC l.length (fun _ => false)).toArray 4)) wr.heap.size 4 (boC l.length (fun q => decide (q < 0)))) := by
                have := Blk.new wr 4 (boC l.length (fun _ => false))
                unfold Hid
                rw [boC_cong (B' := fun _ => false) (fun q _ => by simp)]
                exact this
              have HF0 := hid (HF.out.alloc (.cells (boC l.length (fun _ => false)).toArray 4))
              generalize wr.alloc (.cells (boC l.length (fun _ => false)).toArray 4) = W1 at *
              generalize wr.heap.size = lb at *
              clear HLk HTw HF
              simp only [ixV]
              go_wp2_with fail
              clear hmk
              go_loopw [10] (fun iv wx => ∃ i : Nat, i ≤ l.length ∧ iv = .int .i64 (i : Int) ∧ Blk wx lb 4 (boC l.length (fun q => decide (q < i))) ∧ Fr (fun _ => False) w wx) (fun iv _ => l.length - (intOf iv).toNat)
              case atStart => exact ⟨0, Nat.zero_le _, rfl, HB0.out, HF0.out⟩
              case round =>
                obtain ⟨i, hi, rfl, hB, hF⟩ := hrel
                have HB := hid hB
                have HF := hid hF
                clear hB hF HB0 HF0
                by_cases hil : i < l.length
                · have hi1 : (i : Int) < ((l.length : Nat) : Int) := by omega
                  have hi0 : (0 : Int) ≤ (i : Int) := Int.natCast_nonneg _
                  have q0 := HB.out.cell i
                  rw [boC_at _ hil] at q0
                  have z0 := HB.out.frozen i
                  have HB2 := hid (bo_put (B' := fun q => decide (q < i + 1)) HB.out (v := true) (i := i) (fun q _ => by
                    by_cases e : q = i
                    · rw [if_pos e]; simp; omega
                    · rw [if_neg e]; congr 1; simp; omega))
                  have HF2 : Hid (Fr (fun _ => False) w (wr.setCell ⟨lb, i, none⟩ (.bool true))) := HF.out.setCell (p := ⟨lb, i, none⟩) (.inr hlbw) _
                  clear HB HF
                  go_wp2_with fail
                  exact ⟨⟨i + 1, by omega, by go_num, HB2.out, HF2.out⟩, by simp [intOf]; omega⟩
                · have hi1 : ¬ ((i : Int) < ((l.length : Nat) : Int)) := by omega
                  obtain rfl : i = l.length := by omega
                  have HB2 : Hid (Blk wr lb 4 (boC l.length (fun _ => true))) := by
                    unfold Hid
                    rw [boC_cong (B' := fun q => decide (q < l.length)) (fun q h => by simp [h])]
                    exact HB.out
                  have hsl : (srt l).length = l.length := (srt_perm l).length_eq
                  have hbase : lb + 1 ≤ wr.heap.size := HB.out.lt
                  clear HB
                  go_wp2_with fail
                  go_loopg [11] l.length (fun m ov wx => ∃ (B : Nat → Bool) (f : Nat) (out : List Ut) (X : List Uv), m = (lft l B).length ∧ m ≤ f ∧ out.length + m = l.length ∧ runF f (lft l B) out = runF (srt l).length (srt l) [] ∧ Blk wx lb 4 (boC l.length B) ∧ Fr (fun _ => False) w wx ∧ wx.ownsRow (lb + 1) 32 4 ov X.length (flatU X) ∧ RowIs w0 out X)
                  case atStart => exact ⟨fun _ => true, l.length, [], [], by rw [lft_all HNd.out, hsl], Nat.le_refl _, by simp, by rw [lft_all HNd.out, hsl], HB2.out, HF.out, World.ownsRow_nil _ _ _ _, rowIs_nil _⟩
                  case round =>
                    obtain ⟨B, f, out, X, hgm, hmf, hol, hrun, hB, hFr, hown, hrow⟩ := hrel
                    obtain ⟨oa, oc, hv⟩ := own_len hown
                    subst hv
                    have HXl : Hid (X.length = out.length) := hrow.1
                    have HM := hid (And.intro hgm (And.intro hmf hol))
                    have HRun := hid hrun
                    have HB := hid hB
                    have HFr := hid hFr
                    have HOwn := hid hown
                    have HRow := hid hrow
                    clear hgm hmf hol hrun hB hFr hown hrow HB2 HF
                    by_cases hmz : X.length < l.length
                    · have hx1 : ((X.length : Nat) : Int) < ((l.length : Nat) : Int) := by omega
                      obtain ⟨W2, hW2⟩ : ∃ W2, W2 = wr := ⟨_, rfl⟩
                      subst hW2
                      go_wp2_with fail
                      go_loopw [12, 13, 14] (fun nv lv iv wx => ∃ (i : Nat) (bn bl : Option Nat), i ≤ l.length ∧ iv = .int .i64 (i : Int) ∧ nv = ixV bn ∧ lv = ixV bl ∧ Bst l B i bl ∧ Bst l (fun j => B j && !wtB l B (l[j]?.getD default)) i bn ∧ Fr (fun _ => False) W2 wx) (fun _ _ iv _ => l.length - (intOf iv).toNat)
                      case atStart => exact ⟨0, none, none, Nat.zero_le _, rfl, rfl, rfl, Bst.zero _ _, Bst.zero _ _, Fr.refl _ _⟩
                      case round =>
                        obtain ⟨i, bn, bl, hi, rfl, rfl, rfl, hL, hN, hF⟩ := hrel
                        have HL := hid hL
                        have HN := hid hN
                        have HF := hid hF
                        clear hL hN hF
                        by_cases hil : i < l.length
                        · have hi1 : (i : Int) < ((l.length : Nat) : Int) := by omega
                          have hi0 : (0 : Int) ≤ (i : Int) := Int.natCast_nonneg _
                          obtain ⟨bb, bo, rfl⟩ := HU.out.some hil
                          obtain ⟨y, y1, y2⟩ := HU.out.get i hil
                          have HSx : Hid (∀ W', Fr (fun _ => False) w W' → fourB W' bb (bo + i * 4) y) := fun W' f => (y1.env (Env.of f)).all
                          have HYn : Hid (y.n = (l[i]?.getD default).n) := by unfold Hid; rw [y2.n, List.getElem?_eq_getElem hil]; rfl
                          have HAt : Hid ((l[i]?.getD default) = l[i]) := by unfold Hid; rw [List.getElem?_eq_getElem hil]; rfl
                          have HFw := hid (HFr.out.trans HF.out (fun _ h => h.elim))
                          have hBw := HF.out.blk HB.out (fun h => h)
                          have q0 := hBw.cell i
                          rw [boC_at _ hil] at q0
                          have z0 := hBw.frozen i
                          have hn1 : decide ((-1 : Int) < 0) = true := by decide
                          obtain ⟨zv, hzv⟩ : ∃ z : Int, ixV bn = .int .i64 z := ⟨_, rfl⟩
                          have HZv := hid hzv
                          cases hbi : B i with
                          | false =>
                            rw [hbi] at q0
                            have HL2 := hid (HL.out.skip hbi)
                            have HN2 := hid (HN.out.skip (by simp [hbi]))
                            obtain ⟨zl, hzl⟩ : ∃ z : Int, ixV bl = .int .i64 z := ⟨_, rfl⟩
                            rw [hzl, hzv]
                            have HZ := hid hzl
                            clear hzl hzv y1 y2 hbi hBw
                            go_wp2_with fail
                            exact ⟨⟨i + 1, bn, bl, by omega, by go_num, HZv.out.symm, HZ.out.symm, HL2.out, HN2.out, HF.out⟩, by simp [intOf]; omega⟩
                          | true =>
                            rw [hbi] at q0
                            have HWt := hid (waits_any w0 wr.drew (HE0.out.trans (Env.of HFw.out.drew)) l (some ⟨bb, bo, none⟩) cap lb B l[i] y (HU.out.env (Env.of HFw.out.drew)) hl hBw.drew y2)
                            clear y1 y2 hBw
                            cases bl with
                            | none =>
                              have HL2 := hid (HL.out.turn hil hbi (fun c e => by cases e))
                              rw [hzv]
                              clear hzv
                              simp only [ixV]
                              go_wp2_with fail
                              refine wp_region_noPanic ?_
                              refine wp_region_held_drew (S := fun W' => fourB W' bb (bo + i * 4) y) (by kernel_rfl) (HSx.out _ HFw.out.drew) (fun _ => ?_)
                              refine takeH (i := 0) (d := some 119) (.int .i64 (-1)) rfl (by kernel_rfl) (by kernel_rfl) (by kernel_rfl) (fun _ _ _ _ h => h) (HSx.out _ HFw.out.drew) (fun o ho => by cases ho; exact .inl ⟨by rfl, fun w hSw => by (obtain ⟨hs1, hs2, hs3, hs4⟩ := hSw; go_simp)⟩) ?_
                              simp only [Act.put, List.setIfInBounds_toArray, List.set_cons_zero, List.set_cons_succ]
                              refine takeH (i := 1) (d := some 120) (.bool true) rfl (by kernel_rfl) (by kernel_rfl) (by kernel_rfl) (fun _ _ _ _ h => h) (HSx.out _ HFw.out.drew) (fun o ho => by cases ho; exact .inl ⟨by rfl, fun w hSw => by (obtain ⟨hs1, hs2, hs3, hs4⟩ := hSw; go_simp)⟩) ?_
                              simp only [Act.put, List.setIfInBounds_toArray, List.set_cons_zero, List.set_cons_succ]
                              refine takeH (i := 2) (d := some 121) (.bool true) rfl (by kernel_rfl) (by kernel_rfl) (by kernel_rfl) (fun _ _ _ _ h => h) (HSx.out _ HFw.out.drew) (fun o ho => by cases ho; exact .inl ⟨by rfl, fun w hSw => by (obtain ⟨hs1, hs2, hs3, hs4⟩ := hSw; go_simp)⟩) ?_
                              simp only [Act.put, List.setIfInBounds_toArray, List.set_cons_zero, List.set_cons_succ]
                              refine takeH (i := 3) (d := some 122) undef rfl (by kernel_rfl) (by kernel_rfl) (by kernel_rfl) (fun _ _ _ _ h => h) (HSx.out _ HFw.out.drew) (fun o ho => by cases ho; exact .inr ⟨by rfl, rfl⟩) ?_
                              simp only [Act.put, List.setIfInBounds_toArray, List.set_cons_zero, List.set_cons_succ]
                              refine takeH (i := 4) (d := some 123) undef rfl (by kernel_rfl) (by kernel_rfl) (by kernel_rfl) (fun _ _ _ _ h => h) (HSx.out _ HFw.out.drew) (fun o ho => by cases ho; exact .inr ⟨by rfl, rfl⟩) ?_
                              simp only [Act.put, List.setIfInBounds_toArray, List.set_cons_zero, List.set_cons_succ]
                              refine takeH (i := 5) (d := some 124) undef rfl (by kernel_rfl) (by kernel_rfl) (by kernel_rfl) (fun _ _ _ _ h => h) (HSx.out _ HFw.out.drew) (fun o ho => by cases ho; exact .inr ⟨by rfl, rfl⟩) ?_
                              simp only [Act.put, List.setIfInBounds_toArray, List.set_cons_zero, List.set_cons_succ]
                              refine takeH (i := 6) (d := some 125) undef rfl (by kernel_rfl) (by kernel_rfl) (by kernel_rfl) (fun _ _ _ _ h => h) (HSx.out _ HFw.out.drew) (fun o ho => by cases ho; exact .inr ⟨by rfl, rfl⟩) ?_
                              simp only [Act.put, List.setIfInBounds_toArray, List.set_cons_zero, List.set_cons_succ]
                              refine takeH (i := 7) (d := some 126) undef rfl (by kernel_rfl) (by kernel_rfl) (by kernel_rfl) (fun _ _ _ _ h => h) (HSx.out _ HFw.out.drew) (fun o ho => by cases ho; exact .inr ⟨by rfl, rfl⟩) ?_
                              simp only [Act.put, List.setIfInBounds_toArray, List.set_cons_zero, List.set_cons_succ]
                              refine takeH (i := 8) (d := some 127) undef rfl (by kernel_rfl) (by kernel_rfl) (by kernel_rfl) (fun _ _ _ _ h => h) (HSx.out _ HFw.out.drew) (fun o ho => by cases ho; exact .inr ⟨by rfl, rfl⟩) ?_
                              simp only [Act.put, List.setIfInBounds_toArray, List.set_cons_zero, List.set_cons_succ]
                              refine takeH (i := 9) (d := some 128) undef rfl (by kernel_rfl) (by kernel_rfl) (by kernel_rfl) (fun _ _ _ _ h => h) (HSx.out _ HFw.out.drew) (fun o ho => by cases ho; exact .inr ⟨by rfl, rfl⟩) ?_
                              simp only [Act.put, List.setIfInBounds_toArray, List.set_cons_zero, List.set_cons_succ]
                              refine takeH (i := 10) (d := some 129) undef rfl (by kernel_rfl) (by kernel_rfl) (by kernel_rfl) (fun _ _ _ _ h => h) (HSx.out _ HFw.out.drew) (fun o ho => by cases ho; exact .inr ⟨by rfl, rfl⟩) ?_
                              simp only [Act.put, List.setIfInBounds_toArray, List.set_cons_zero, List.set_cons_succ]
                              refine takeH (i := 11) (d := some 130) undef rfl (by kernel_rfl) (by kernel_rfl) (by kernel_rfl) (fun _ _ _ _ h => h) (HSx.out _ HFw.out.drew) (fun o ho => by cases ho; exact .inr ⟨by rfl, rfl⟩) ?_
                              simp only [Act.put, List.setIfInBounds_toArray, List.set_cons_zero, List.set_cons_succ]
                              refine takeH (i := 12) (d := some 131) undef rfl (by kernel_rfl) (by kernel_rfl) (by kernel_rfl) (fun _ _ _ _ h => h) (HSx.out _ HFw.out.drew) (fun o ho => by cases ho; exact .inr ⟨by rfl, rfl⟩) ?_
                              simp only [Act.put, List.setIfInBounds_toArray, List.set_cons_zero, List.set_cons_succ]
                              refine takeH (i := 13) (d := some 132) undef rfl (by kernel_rfl) (by kernel_rfl) (by kernel_rfl) (fun _ _ _ _ h => h) (HSx.out _ HFw.out.drew) (fun o ho => by cases ho; exact .inr ⟨by rfl, rfl⟩) ?_
                              simp only [Act.put, List.setIfInBounds_toArray, List.set_cons_zero, List.set_cons_succ]
                              refine takeH (i := 14) (d := some 133) (.bool true) rfl (by kernel_rfl) (by kernel_rfl) (by kernel_rfl) (fun _ _ _ _ h => h) (HSx.out _ HFw.out.drew) (fun o ho => by cases ho; exact .inl ⟨by rfl, fun w hSw => by (obtain ⟨hs1, hs2, hs3, hs4⟩ := hSw; go_simp)⟩) ?_
                              simp only [Act.put, List.setIfInBounds_toArray, List.set_cons_zero, List.set_cons_succ]
                              refine wpAnyH_done (by kernel_rfl) (NoPanic.normal ?_) _
                              obtain ⟨k0, k1, k2, k3⟩ := HSx.out _ HFw.out.drew
                              go_wp2_with fail
                              refine HWt.out.mono ?_
                              rintro e wq ⟨rfl, fq⟩
                              have HFq := hid (HF.out.drew.trans fq (fun _ h => h.elim))
                              have HFx := hid (HFr.out.trans HFq.out (fun _ h => h.elim))
                              clear fq HWt k0 k1 k2 k3
                              cases hw : wtB l B l[i] with
                              | true =>
                                have HN2 := hid (HN.out.skip (by rw [HAt.out, hw]; simp))
                                clear hw HN
                                go_wp2_with fail
                                refine wp_region_noPanic ?_
                                refine wp_region_held_drew (S := fun W' => fourB W' bb (bo + i * 4) y) (by kernel_rfl) (HSx.out _ HFx.out.drew) (fun _ => ?_)
                                refine takeH (i := 0) (d := some 142) (.bool true) rfl (by kernel_rfl) (by kernel_rfl) (by kernel_rfl) (fun _ _ _ _ h => h) (HSx.out _ HFx.out.drew) (fun o ho => by cases ho; exact .inl ⟨by rfl, fun w hSw => by (obtain ⟨hs1, hs2, hs3, hs4⟩ := hSw; go_simp)⟩) ?_
                                simp only [Act.put, List.setIfInBounds_toArray, List.set_cons_zero, List.set_cons_succ]
                                refine takeH (i := 1) (d := some 143) (.bool false) rfl (by kernel_rfl) (by kernel_rfl) (by kernel_rfl) (fun _ _ _ _ h => h) (HSx.out _ HFx.out.drew) (fun o ho => by cases ho; exact .inl ⟨by rfl, fun w hSw => by (obtain ⟨hs1, hs2, hs3, hs4⟩ := hSw; go_simp)⟩) ?_
                                simp only [Act.put, List.setIfInBounds_toArray, List.set_cons_zero, List.set_cons_succ]
                                refine takeH (i := 2) (d := some 144) (.bool false) rfl (by kernel_rfl) (by kernel_rfl) (by kernel_rfl) (fun _ _ _ _ h => h) (HSx.out _ HFx.out.drew) (fun o ho => by cases ho; exact .inl ⟨by rfl, fun w hSw => by (obtain ⟨hs1, hs2, hs3, hs4⟩ := hSw; go_simp)⟩) ?_
                                simp only [Act.put, List.setIfInBounds_toArray, List.set_cons_zero, List.set_cons_succ]
                                refine takeH (i := 3) (d := some 145) undef rfl (by kernel_rfl) (by kernel_rfl) (by kernel_rfl) (fun _ _ _ _ h => h) (HSx.out _ HFx.out.drew) (fun o ho => by cases ho; exact .inr ⟨by rfl, rfl⟩) ?_
                                simp only [Act.put, List.setIfInBounds_toArray, List.set_cons_zero, List.set_cons_succ]
                                refine takeH (i := 4) (d := some 146) undef rfl (by kernel_rfl) (by kernel_rfl) (by kernel_rfl) (fun _ _ _ _ h => h) (HSx.out _ HFx.out.drew) (fun o ho => by cases ho; exact .inr ⟨by rfl, rfl⟩) ?_
                                simp only [Act.put, List.setIfInBounds_toArray, List.set_cons_zero, List.set_cons_succ]
                                refine takeH (i := 5) (d := some 147) undef rfl (by kernel_rfl) (by kernel_rfl) (by kernel_rfl) (fun _ _ _ _ h => h) (HSx.out _ HFx.out.drew) (fun o ho => by cases ho; exact .inr ⟨by rfl, rfl⟩) ?_
                                simp only [Act.put, List.setIfInBounds_toArray, List.set_cons_zero, List.set_cons_succ]
                                refine takeH (i := 6) (d := some 148) undef rfl (by kernel_rfl) (by kernel_rfl) (by kernel_rfl) (fun _ _ _ _ h => h) (HSx.out _ HFx.out.drew) (fun o ho => by cases ho; exact .inr ⟨by rfl, rfl⟩) ?_
                                simp only [Act.put, List.setIfInBounds_toArray, List.set_cons_zero, List.set_cons_succ]
                                refine takeH (i := 7) (d := some 149) undef rfl (by kernel_rfl) (by kernel_rfl) (by kernel_rfl) (fun _ _ _ _ h => h) (HSx.out _ HFx.out.drew) (fun o ho => by cases ho; exact .inr ⟨by rfl, rfl⟩) ?_
                                simp only [Act.put, List.setIfInBounds_toArray, List.set_cons_zero, List.set_cons_succ]
                                refine takeH (i := 8) (d := some 150) undef rfl (by kernel_rfl) (by kernel_rfl) (by kernel_rfl) (fun _ _ _ _ h => h) (HSx.out _ HFx.out.drew) (fun o ho => by cases ho; exact .inr ⟨by rfl, rfl⟩) ?_
                                simp only [Act.put, List.setIfInBounds_toArray, List.set_cons_zero, List.set_cons_succ]
                                refine takeH (i := 9) (d := some 151) undef rfl (by kernel_rfl) (by kernel_rfl) (by kernel_rfl) (fun _ _ _ _ h => h) (HSx.out _ HFx.out.drew) (fun o ho => by cases ho; exact .inr ⟨by rfl, rfl⟩) ?_
                                simp only [Act.put, List.setIfInBounds_toArray, List.set_cons_zero, List.set_cons_succ]
                                refine takeH (i := 10) (d := some 152) undef rfl (by kernel_rfl) (by kernel_rfl) (by kernel_rfl) (fun _ _ _ _ h => h) (HSx.out _ HFx.out.drew) (fun o ho => by cases ho; exact .inr ⟨by rfl, rfl⟩) ?_
                                simp only [Act.put, List.setIfInBounds_toArray, List.set_cons_zero, List.set_cons_succ]
                                refine takeH (i := 11) (d := some 153) undef rfl (by kernel_rfl) (by kernel_rfl) (by kernel_rfl) (fun _ _ _ _ h => h) (HSx.out _ HFx.out.drew) (fun o ho => by cases ho; exact .inr ⟨by rfl, rfl⟩) ?_
                                simp only [Act.put, List.setIfInBounds_toArray, List.set_cons_zero, List.set_cons_succ]
                                refine takeH (i := 12) (d := some 154) undef rfl (by kernel_rfl) (by kernel_rfl) (by kernel_rfl) (fun _ _ _ _ h => h) (HSx.out _ HFx.out.drew) (fun o ho => by cases ho; exact .inr ⟨by rfl, rfl⟩) ?_
                                simp only [Act.put, List.setIfInBounds_toArray, List.set_cons_zero, List.set_cons_succ]
                                refine takeH (i := 13) (d := some 155) undef rfl (by kernel_rfl) (by kernel_rfl) (by kernel_rfl) (fun _ _ _ _ h => h) (HSx.out _ HFx.out.drew) (fun o ho => by cases ho; exact .inr ⟨by rfl, rfl⟩) ?_
                                simp only [Act.put, List.setIfInBounds_toArray, List.set_cons_zero, List.set_cons_succ]
                                refine takeH (i := 14) (d := some 156) undef rfl (by kernel_rfl) (by kernel_rfl) (by kernel_rfl) (fun _ _ _ _ h => h) (HSx.out _ HFx.out.drew) (fun o ho => by cases ho; exact .inr ⟨by rfl, rfl⟩) ?_
                                simp only [Act.put, List.setIfInBounds_toArray, List.set_cons_zero, List.set_cons_succ]
                                refine takeH (i := 15) (d := some 157) undef rfl (by kernel_rfl) (by kernel_rfl) (by kernel_rfl) (fun _ _ _ _ h => h) (HSx.out _ HFx.out.drew) (fun o ho => by cases ho; exact .inr ⟨by rfl, rfl⟩) ?_
                                simp only [Act.put, List.setIfInBounds_toArray, List.set_cons_zero, List.set_cons_succ]
                                refine takeH (i := 16) (d := some 158) undef rfl (by kernel_rfl) (by kernel_rfl) (by kernel_rfl) (fun _ _ _ _ h => h) (HSx.out _ HFx.out.drew) (fun o ho => by cases ho; exact .inr ⟨by rfl, rfl⟩) ?_
                                simp only [Act.put, List.setIfInBounds_toArray, List.set_cons_zero, List.set_cons_succ]
                                refine takeH (i := 17) (d := some 159) undef rfl (by kernel_rfl) (by kernel_rfl) (by kernel_rfl) (fun _ _ _ _ h => h) (HSx.out _ HFx.out.drew) (fun o ho => by cases ho; exact .inr ⟨by rfl, rfl⟩) ?_
                                simp only [Act.put, List.setIfInBounds_toArray, List.set_cons_zero, List.set_cons_succ]
                                refine takeH (i := 18) (d := some 160) (.bool false) rfl (by kernel_rfl) (by kernel_rfl) (by kernel_rfl) (fun _ _ _ _ h => h) (HSx.out _ HFx.out.drew) (fun o ho => by cases ho; exact .inl ⟨by rfl, fun w hSw => by (obtain ⟨hs1, hs2, hs3, hs4⟩ := hSw; go_simp)⟩) ?_
                                simp only [Act.put, List.setIfInBounds_toArray, List.set_cons_zero, List.set_cons_succ]
                                refine wpAnyH_done (by kernel_rfl) (NoPanic.normal ?_) _
                                have HF2 := hid HFq.out.drew
                                go_wp2_with fail
                                exact ⟨⟨i + 1, bn, some i, by omega, by go_num, HZv.out.symm, rfl, HL2.out, HN2.out, HF2.out⟩, by simp [intOf]; omega⟩
                              | false =>
                                cases bn with
                                | none =>
                                  have HN2 := hid (HN.out.turn hil (by rw [HAt.out, hbi, hw]; rfl) (fun c e => by cases e))
                                  obtain rfl : zv = -1 := by have h : Value.int .i64 (-1) = .int .i64 zv := HZv.out; injection h with _ h2; exact h2.symm
                                  clear hw HN HZv
                                  go_wp2_with fail
                                  refine wp_region_noPanic ?_
                                  refine wp_region_held_drew (S := fun W' => fourB W' bb (bo + i * 4) y) (by kernel_rfl) (HSx.out _ HFx.out.drew) (fun _ => ?_)
                                  refine takeH (i := 0) (d := some 142) (.bool false) rfl (by kernel_rfl) (by kernel_rfl) (by kernel_rfl) (fun _ _ _ _ h => h) (HSx.out _ HFx.out.drew) (fun o ho => by cases ho; exact .inl ⟨by rfl, fun w hSw => by (obtain ⟨hs1, hs2, hs3, hs4⟩ := hSw; go_simp)⟩) ?_
                                  simp only [Act.put, List.setIfInBounds_toArray, List.set_cons_zero, List.set_cons_succ]
                                  refine takeH (i := 1) (d := some 143) (.bool true) rfl (by kernel_rfl) (by kernel_rfl) (by kernel_rfl) (fun _ _ _ _ h => h) (HSx.out _ HFx.out.drew) (fun o ho => by cases ho; exact .inl ⟨by rfl, fun w hSw => by (obtain ⟨hs1, hs2, hs3, hs4⟩ := hSw; go_simp)⟩) ?_
                                  simp only [Act.put, List.setIfInBounds_toArray, List.set_cons_zero, List.set_cons_succ]
                                  refine takeH (i := 2) (d := some 144) (.bool true) rfl (by kernel_rfl) (by kernel_rfl) (by kernel_rfl) (fun _ _ _ _ h => h) (HSx.out _ HFx.out.drew) (fun o ho => by cases ho; exact .inl ⟨by rfl, fun w hSw => by (obtain ⟨hs1, hs2, hs3, hs4⟩ := hSw; go_simp)⟩) ?_
                                  simp only [Act.put, List.setIfInBounds_toArray, List.set_cons_zero, List.set_cons_succ]
                                  refine takeH (i := 3) (d := some 145) (.int .i64 (-1)) rfl (by kernel_rfl) (by kernel_rfl) (by kernel_rfl) (fun _ _ _ _ h => h) (HSx.out _ HFx.out.drew) (fun o ho => by cases ho; exact .inl ⟨by rfl, fun w hSw => by (obtain ⟨hs1, hs2, hs3, hs4⟩ := hSw; go_simp)⟩) ?_
                                  simp only [Act.put, List.setIfInBounds_toArray, List.set_cons_zero, List.set_cons_succ]
                                  refine takeH (i := 4) (d := some 146) (.bool true) rfl (by kernel_rfl) (by kernel_rfl) (by kernel_rfl) (fun _ _ _ _ h => h) (HSx.out _ HFx.out.drew) (fun o ho => by cases ho; exact .inl ⟨by rfl, fun w hSw => by (obtain ⟨hs1, hs2, hs3, hs4⟩ := hSw; go_simp)⟩) ?_
                                  simp only [Act.put, List.setIfInBounds_toArray, List.set_cons_zero, List.set_cons_succ]
                                  refine takeH (i := 5) (d := some 147) (.bool true) rfl (by kernel_rfl) (by kernel_rfl) (by kernel_rfl) (fun _ _ _ _ h => h) (HSx.out _ HFx.out.drew) (fun o ho => by cases ho; exact .inl ⟨by rfl, fun w hSw => by (obtain ⟨hs1, hs2, hs3, hs4⟩ := hSw; go_simp)⟩) ?_
                                  simp only [Act.put, List.setIfInBounds_toArray, List.set_cons_zero, List.set_cons_succ]
                                  refine takeH (i := 6) (d := some 148) undef rfl (by kernel_rfl) (by kernel_rfl) (by kernel_rfl) (fun _ _ _ _ h => h) (HSx.out _ HFx.out.drew) (fun o ho => by cases ho; exact .inr ⟨by rfl, rfl⟩) ?_
                                  simp only [Act.put, List.setIfInBounds_toArray, List.set_cons_zero, List.set_cons_succ]
                                  refine takeH (i := 7) (d := some 149) undef rfl (by kernel_rfl) (by kernel_rfl) (by kernel_rfl) (fun _ _ _ _ h => h) (HSx.out _ HFx.out.drew) (fun o ho => by cases ho; exact .inr ⟨by rfl, rfl⟩) ?_
                                  simp only [Act.put, List.setIfInBounds_toArray, List.set_cons_zero, List.set_cons_succ]
                                  refine takeH (i := 8) (d := some 150) undef rfl (by kernel_rfl) (by kernel_rfl) (by kernel_rfl) (fun _ _ _ _ h => h) (HSx.out _ HFx.out.drew) (fun o ho => by cases ho; exact .inr ⟨by rfl, rfl⟩) ?_
                                  simp only [Act.put, List.setIfInBounds_toArray, List.set_cons_zero, List.set_cons_succ]
                                  refine takeH (i := 9) (d := some 151) undef rfl (by kernel_rfl) (by kernel_rfl) (by kernel_rfl) (fun _ _ _ _ h => h) (HSx.out _ HFx.out.drew) (fun o ho => by cases ho; exact .inr ⟨by rfl, rfl⟩) ?_
                                  simp only [Act.put, List.setIfInBounds_toArray, List.set_cons_zero, List.set_cons_succ]
                                  refine takeH (i := 10) (d := some 152) undef rfl (by kernel_rfl) (by kernel_rfl) (by kernel_rfl) (fun _ _ _ _ h => h) (HSx.out _ HFx.out.drew) (fun o ho => by cases ho; exact .inr ⟨by rfl, rfl⟩) ?_
                                  simp only [Act.put, List.setIfInBounds_toArray, List.set_cons_zero, List.set_cons_succ]
                                  refine takeH (i := 11) (d := some 153) undef rfl (by kernel_rfl) (by kernel_rfl) (by kernel_rfl) (fun _ _ _ _ h => h) (HSx.out _ HFx.out.drew) (fun o ho => by cases ho; exact .inr ⟨by rfl, rfl⟩) ?_
                                  simp only [Act.put, List.setIfInBounds_toArray, List.set_cons_zero, List.set_cons_succ]
                                  refine takeH (i := 12) (d := some 154) undef rfl (by kernel_rfl) (by kernel_rfl) (by kernel_rfl) (fun _ _ _ _ h => h) (HSx.out _ HFx.out.drew) (fun o ho => by cases ho; exact .inr ⟨by rfl, rfl⟩) ?_
                                  simp only [Act.put, List.setIfInBounds_toArray, List.set_cons_zero, List.set_cons_succ]
                                  refine takeH (i := 13) (d := some 155) undef rfl (by kernel_rfl) (by kernel_rfl) (by kernel_rfl) (fun _ _ _ _ h => h) (HSx.out _ HFx.out.drew) (fun o ho => by cases ho; exact .inr ⟨by rfl, rfl⟩) ?_
                                  simp only [Act.put, List.setIfInBounds_toArray, List.set_cons_zero, List.set_cons_succ]
                                  refine takeH (i := 14) (d := some 156) undef rfl (by kernel_rfl) (by kernel_rfl) (by kernel_rfl) (fun _ _ _ _ h => h) (HSx.out _ HFx.out.drew) (fun o ho => by cases ho; exact .inr ⟨by rfl, rfl⟩) ?_
                                  simp only [Act.put, List.setIfInBounds_toArray, List.set_cons_zero, List.set_cons_succ]
                                  refine takeH (i := 15) (d := some 157) undef rfl (by kernel_rfl) (by kernel_rfl) (by kernel_rfl) (fun _ _ _ _ h => h) (HSx.out _ HFx.out.drew) (fun o ho => by cases ho; exact .inr ⟨by rfl, rfl⟩) ?_
                                  simp only [Act.put, List.setIfInBounds_toArray, List.set_cons_zero, List.set_cons_succ]
                                  refine takeH (i := 16) (d := some 158) undef rfl (by kernel_rfl) (by kernel_rfl) (by kernel_rfl) (fun _ _ _ _ h => h) (HSx.out _ HFx.out.drew) (fun o ho => by cases ho; exact .inr ⟨by rfl, rfl⟩) ?_
                                  simp only [Act.put, List.setIfInBounds_toArray, List.set_cons_zero, List.set_cons_succ]
                                  refine takeH (i := 17) (d := some 159) (.bool true) rfl (by kernel_rfl) (by kernel_rfl) (by kernel_rfl) (fun _ _ _ _ h => h) (HSx.out _ HFx.out.drew) (fun o ho => by cases ho; exact .inl ⟨by rfl, fun w hSw => by (obtain ⟨hs1, hs2, hs3, hs4⟩ := hSw; go_simp)⟩) ?_
                                  simp only [Act.put, List.setIfInBounds_toArray, List.set_cons_zero, List.set_cons_succ]
                                  refine takeH (i := 18) (d := some 160) (.bool true) rfl (by kernel_rfl) (by kernel_rfl) (by kernel_rfl) (fun _ _ _ _ h => h) (HSx.out _ HFx.out.drew) (fun o ho => by cases ho; exact .inl ⟨by rfl, fun w hSw => by (obtain ⟨hs1, hs2, hs3, hs4⟩ := hSw; go_simp)⟩) ?_
                                  simp only [Act.put, List.setIfInBounds_toArray, List.set_cons_zero, List.set_cons_succ]
                                  refine wpAnyH_done (by kernel_rfl) (NoPanic.normal ?_) _
                                  have HF2 := hid HFq.out.drew
                                  go_wp2_with fail
                                  exact ⟨⟨i + 1, some i, some i, by omega, by go_num, rfl, rfl, HL2.out, HN2.out, HF2.out⟩, by simp [intOf]; omega⟩
                                | some d =>
                                  have hdl := HN.out.2.1
                                  obtain ⟨z2, z21, z22⟩ := HU.out.get d hdl
                                  have HSd : Hid (∀ W', Fr (fun _ => False) w W' → fourB W' bb (bo + d * 4) z2) := fun W' f => (z21.env (Env.of f)).all
                                  have hzd : z2.n = (l[d]?.getD default).n := by rw [z22.n, List.getElem?_eq_getElem hdl]; rfl
                                  have hd1 : (d : Int) < ((l.length : Nat) : Int) := by omega
                                  have hd0 : (0 : Int) ≤ (d : Int) := Int.natCast_nonneg _
                                  have hd2 : decide ((d : Int) < 0) = false := decide_eq_false (by omega)
                                  have hls : Op.bytesLess y.n z2.n = decide (y.n < z2.n) := less_eq _ _
                                  obtain ⟨lt2, hlt2⟩ : ∃ b, b = decide (y.n < z2.n) := ⟨_, rfl⟩
                                  rw [← hlt2] at hls
                                  have HYe : Hid (lt2 = true → Bst l (fun j => B j && !wtB l B (l[j]?.getD default)) (i + 1) (some i)) := fun h => HN.out.turn hil (by rw [HAt.out, hbi, hw]; rfl) (fun c e => by cases e; rw [← HYn.out, ← hzd]; exact of_decide_eq_true (hlt2.symm.trans h))
                                  have HNo : Hid (lt2 = false → Bst l (fun j => B j && !wtB l B (l[j]?.getD default)) (i + 1) (some d)) := fun h => HN.out.stay (by rw [← HYn.out, ← hzd]; exact of_decide_eq_false (hlt2.symm.trans h))
                                  obtain rfl : zv = (d : Int) := by have h : Value.int .i64 (d : Int) = .int .i64 zv := HZv.out; injection h with _ h2; exact h2.symm
                                  clear hw HN hlt2 hzd z21 z22 HZv
                                  go_wp2_with fail
                                  refine wp_region_noPanic ?_
                                  refine wp_region_held_drew (S := fun W' => fourB W' bb (bo + i * 4) y ∧ fourB W' bb (bo + d * 4) z2) (by kernel_rfl) ⟨HSx.out _ HFx.out.drew, HSd.out _ HFx.out.drew⟩ (fun _ => ?_)
                                  refine takeH (i := 0) (d := some 142) (.bool false) rfl (by kernel_rfl) (by kernel_rfl) (by kernel_rfl) (fun _ _ _ _ h => h) ⟨HSx.out _ HFx.out.drew, HSd.out _ HFx.out.drew⟩ (fun o ho => by cases ho; exact .inl ⟨by rfl, fun w hSw => by (obtain ⟨⟨hs1, _, _, _⟩, hs2, _, _, _⟩ := hSw; go_simp)⟩) ?_
                                  simp only [Act.put, List.setIfInBounds_toArray, List.set_cons_zero, List.set_cons_succ]
                                  refine takeH (i := 1) (d := some 143) (.bool true) rfl (by kernel_rfl) (by kernel_rfl) (by kernel_rfl) (fun _ _ _ _ h => h) ⟨HSx.out _ HFx.out.drew, HSd.out _ HFx.out.drew⟩ (fun o ho => by cases ho; exact .inl ⟨by rfl, fun w hSw => by (obtain ⟨⟨hs1, _, _, _⟩, hs2, _, _, _⟩ := hSw; go_simp)⟩) ?_
                                  simp only [Act.put, List.setIfInBounds_toArray, List.set_cons_zero, List.set_cons_succ]
                                  refine takeH (i := 2) (d := some 144) (.bool true) rfl (by kernel_rfl) (by kernel_rfl) (by kernel_rfl) (fun _ _ _ _ h => h) ⟨HSx.out _ HFx.out.drew, HSd.out _ HFx.out.drew⟩ (fun o ho => by cases ho; exact .inl ⟨by rfl, fun w hSw => by (obtain ⟨⟨hs1, _, _, _⟩, hs2, _, _, _⟩ := hSw; go_simp)⟩) ?_
                                  simp only [Act.put, List.setIfInBounds_toArray, List.set_cons_zero, List.set_cons_succ]
                                  refine takeH (i := 3) (d := some 145) (.int .i64 (d : Int)) rfl (by kernel_rfl) (by kernel_rfl) (by kernel_rfl) (fun _ _ _ _ h => h) ⟨HSx.out _ HFx.out.drew, HSd.out _ HFx.out.drew⟩ (fun o ho => by cases ho; exact .inl ⟨by rfl, fun w hSw => by (obtain ⟨⟨hs1, _, _, _⟩, hs2, _, _, _⟩ := hSw; go_simp)⟩) ?_
                                  simp only [Act.put, List.setIfInBounds_toArray, List.set_cons_zero, List.set_cons_succ]
                                  refine takeH (i := 4) (d := some 146) (.bool false) rfl (by kernel_rfl) (by kernel_rfl) (by kernel_rfl) (fun _ _ _ _ h => h) ⟨HSx.out _ HFx.out.drew, HSd.out _ HFx.out.drew⟩ (fun o ho => by cases ho; exact .inl ⟨by rfl, fun w hSw => by (obtain ⟨⟨hs1, _, _, _⟩, hs2, _, _, _⟩ := hSw; go_simp)⟩) ?_
                                  simp only [Act.put, List.setIfInBounds_toArray, List.set_cons_zero, List.set_cons_succ]
                                  refine takeH (i := 5) (d := some 147) (.bool false) rfl (by kernel_rfl) (by kernel_rfl) (by kernel_rfl) (fun _ _ _ _ h => h) ⟨HSx.out _ HFx.out.drew, HSd.out _ HFx.out.drew⟩ (fun o ho => by cases ho; exact .inl ⟨by rfl, fun w hSw => by (obtain ⟨⟨hs1, _, _, _⟩, hs2, _, _, _⟩ := hSw; go_simp)⟩) ?_
                                  simp only [Act.put, List.setIfInBounds_toArray, List.set_cons_zero, List.set_cons_succ]
                                  refine takeH (i := 6) (d := some 148) (.slice (some ⟨bb, bo, none⟩) l.length cap) rfl (by kernel_rfl) (by kernel_rfl) (by kernel_rfl) (fun _ _ _ _ h => h) ⟨HSx.out _ HFx.out.drew, HSd.out _ HFx.out.drew⟩ (fun o ho => by cases ho; exact .inl ⟨by rfl, fun w hSw => by (obtain ⟨⟨hs1, _, _, _⟩, hs2, _, _, _⟩ := hSw; go_simp)⟩) ?_
                                  simp only [Act.put, List.setIfInBounds_toArray, List.set_cons_zero, List.set_cons_succ]
                                  refine takeH (i := 7) (d := some 149) (.int .i64 (i : Int)) rfl (by kernel_rfl) (by kernel_rfl) (by kernel_rfl) (fun _ _ _ _ h => h) ⟨HSx.out _ HFx.out.drew, HSd.out _ HFx.out.drew⟩ (fun o ho => by cases ho; exact .inl ⟨by rfl, fun w hSw => by (obtain ⟨⟨hs1, _, _, _⟩, hs2, _, _, _⟩ := hSw; go_simp)⟩) ?_
                                  simp only [Act.put, List.setIfInBounds_toArray, List.set_cons_zero, List.set_cons_succ]
                                  refine takeH (i := 8) (d := some 150) (.pointer (some ⟨bb, bo + i * 4, none⟩)) rfl (by kernel_rfl) (by kernel_rfl) (by kernel_rfl) (fun _ _ _ _ h => h) ⟨HSx.out _ HFx.out.drew, HSd.out _ HFx.out.drew⟩ (fun o ho => by cases ho; exact .inl ⟨by rfl, fun w hSw => by (obtain ⟨⟨hs1, _, _, _⟩, hs2, _, _, _⟩ := hSw; go_simp)⟩) ?_
                                  simp only [Act.put, List.setIfInBounds_toArray, List.set_cons_zero, List.set_cons_succ]
                                  refine takeH (i := 9) (d := some 151) (.pointer (some ⟨bb, bo + i * 4, none⟩)) rfl (by kernel_rfl) (by kernel_rfl) (by kernel_rfl) (fun _ _ _ _ h => h) ⟨HSx.out _ HFx.out.drew, HSd.out _ HFx.out.drew⟩ (fun o ho => by cases ho; exact .inl ⟨by rfl, fun w hSw => by (obtain ⟨⟨hs1, _, _, _⟩, hs2, _, _, _⟩ := hSw; go_simp)⟩) ?_
                                  simp only [Act.put, List.setIfInBounds_toArray, List.set_cons_zero, List.set_cons_succ]
                                  refine takeH (i := 10) (d := some 152) (.string ⟨y.n.toArray⟩) rfl (by kernel_rfl) (by kernel_rfl) (by kernel_rfl) (fun _ _ _ _ h => h) ⟨HSx.out _ HFx.out.drew, HSd.out _ HFx.out.drew⟩ (fun o ho => by cases ho; exact .inl ⟨by rfl, fun w hSw => by (obtain ⟨⟨hs1, _, _, _⟩, hs2, _, _, _⟩ := hSw; go_simp)⟩) ?_
                                  simp only [Act.put, List.setIfInBounds_toArray, List.set_cons_zero, List.set_cons_succ]
                                  refine takeH (i := 11) (d := some 153) (.slice (some ⟨bb, bo, none⟩) l.length cap) rfl (by kernel_rfl) (by kernel_rfl) (by kernel_rfl) (fun _ _ _ _ h => h) ⟨HSx.out _ HFx.out.drew, HSd.out _ HFx.out.drew⟩ (fun o ho => by cases ho; exact .inl ⟨by rfl, fun w hSw => by (obtain ⟨⟨hs1, _, _, _⟩, hs2, _, _, _⟩ := hSw; go_simp)⟩) ?_
                                  simp only [Act.put, List.setIfInBounds_toArray, List.set_cons_zero, List.set_cons_succ]
                                  refine takeH (i := 12) (d := some 154) (.int .i64 (d : Int)) rfl (by kernel_rfl) (by kernel_rfl) (by kernel_rfl) (fun _ _ _ _ h => h) ⟨HSx.out _ HFx.out.drew, HSd.out _ HFx.out.drew⟩ (fun o ho => by cases ho; exact .inl ⟨by rfl, fun w hSw => by (obtain ⟨⟨hs1, _, _, _⟩, hs2, _, _, _⟩ := hSw; go_simp)⟩) ?_
                                  simp only [Act.put, List.setIfInBounds_toArray, List.set_cons_zero, List.set_cons_succ]
                                  refine takeH (i := 13) (d := some 155) (.pointer (some ⟨bb, bo + d * 4, none⟩)) rfl (by kernel_rfl) (by kernel_rfl) (by kernel_rfl) (fun _ _ _ _ h => h) ⟨HSx.out _ HFx.out.drew, HSd.out _ HFx.out.drew⟩ (fun o ho => by cases ho; exact .inl ⟨by rfl, fun w hSw => by (obtain ⟨⟨hs1, _, _, _⟩, hs2, _, _, _⟩ := hSw; go_simp)⟩) ?_
                                  simp only [Act.put, List.setIfInBounds_toArray, List.set_cons_zero, List.set_cons_succ]
                                  refine takeH (i := 14) (d := some 156) (.pointer (some ⟨bb, bo + d * 4, none⟩)) rfl (by kernel_rfl) (by kernel_rfl) (by kernel_rfl) (fun _ _ _ _ h => h) ⟨HSx.out _ HFx.out.drew, HSd.out _ HFx.out.drew⟩ (fun o ho => by cases ho; exact .inl ⟨by rfl, fun w hSw => by (obtain ⟨⟨hs1, _, _, _⟩, hs2, _, _, _⟩ := hSw; go_simp)⟩) ?_
                                  simp only [Act.put, List.setIfInBounds_toArray, List.set_cons_zero, List.set_cons_succ]
                                  refine takeH (i := 15) (d := some 157) (.string ⟨z2.n.toArray⟩) rfl (by kernel_rfl) (by kernel_rfl) (by kernel_rfl) (fun _ _ _ _ h => h) ⟨HSx.out _ HFx.out.drew, HSd.out _ HFx.out.drew⟩ (fun o ho => by cases ho; exact .inl ⟨by rfl, fun w hSw => by (obtain ⟨⟨hs1, _, _, _⟩, hs2, _, _, _⟩ := hSw; go_simp)⟩) ?_
                                  simp only [Act.put, List.setIfInBounds_toArray, List.set_cons_zero, List.set_cons_succ]
                                  refine takeH (i := 16) (d := some 158) (.bool lt2) rfl (by kernel_rfl) (by kernel_rfl) (by kernel_rfl) (fun _ _ _ _ h => h) ⟨HSx.out _ HFx.out.drew, HSd.out _ HFx.out.drew⟩ (fun o ho => by cases ho; exact .inl ⟨by rfl, fun w hSw => by (obtain ⟨⟨hs1, _, _, _⟩, hs2, _, _, _⟩ := hSw; go_simp)⟩) ?_
                                  simp only [Act.put, List.setIfInBounds_toArray, List.set_cons_zero, List.set_cons_succ]
                                  refine takeH (i := 17) (d := some 159) (.bool lt2) rfl (by kernel_rfl) (by kernel_rfl) (by kernel_rfl) (fun _ _ _ _ h => h) ⟨HSx.out _ HFx.out.drew, HSd.out _ HFx.out.drew⟩ (fun o ho => by cases ho; exact .inl ⟨by rfl, fun w hSw => by (obtain ⟨⟨hs1, _, _, _⟩, hs2, _, _, _⟩ := hSw; go_simp)⟩) ?_
                                  simp only [Act.put, List.setIfInBounds_toArray, List.set_cons_zero, List.set_cons_succ]
                                  refine takeH (i := 18) (d := some 160) (.bool lt2) rfl (by kernel_rfl) (by kernel_rfl) (by kernel_rfl) (fun _ _ _ _ h => h) ⟨HSx.out _ HFx.out.drew, HSd.out _ HFx.out.drew⟩ (fun o ho => by cases ho; exact .inl ⟨by rfl, fun w hSw => by (obtain ⟨⟨hs1, _, _, _⟩, hs2, _, _, _⟩ := hSw; go_simp)⟩) ?_
                                  simp only [Act.put, List.setIfInBounds_toArray, List.set_cons_zero, List.set_cons_succ]
                                  refine wpAnyH_done (by kernel_rfl) (NoPanic.normal ?_) _
                                  cases lt2 with
                                  | true =>
                                    have HF2 := hid HFq.out.drew
                                    go_wp2_with fail
                                    exact ⟨⟨i + 1, some i, some i, by omega, by go_num, rfl, rfl, HL2.out, (HYe.out rfl), HF2.out⟩, by simp [intOf]; omega⟩
                                  | false =>
                                    have HF2 := hid HFq.out.drew
                                    go_wp2_with fail
                                    exact ⟨⟨i + 1, some d, some i, by omega, by go_num, rfl, rfl, HL2.out, (HNo.out rfl), HF2.out⟩, by simp [intOf]; omega⟩
                            | some c =>
                              have hcl := HL.out.2.1
                              obtain ⟨z, z1, z2⟩ := HU.out.get c hcl
                              have HSz : Hid (∀ W', Fr (fun _ => False) w W' → fourB W' bb (bo + c * 4) z) := fun W' f => (z1.env (Env.of f)).all
                              have hzn : z.n = (l[c]?.getD default).n := by rw [z2.n, List.getElem?_eq_getElem hcl]; rfl
                              have hc1 : (c : Int) < ((l.length : Nat) : Int) := by omega
                              have hc0 : (0 : Int) ≤ (c : Int) := Int.natCast_nonneg _
                              have hc2 : decide ((c : Int) < 0) = false := decide_eq_false (by omega)
                              have hls0 : Op.bytesLess y.n z.n = decide (y.n < z.n) := less_eq _ _
                              obtain ⟨lt1, hlt1⟩ : ∃ b, b = decide (y.n < z.n) := ⟨_, rfl⟩
                              rw [← hlt1] at hls0
                              have HLy : Hid (lt1 = true → Bst l B (i + 1) (some i)) := fun h => HL.out.turn hil hbi (fun c e => by cases e; rw [← HYn.out, ← hzn]; exact of_decide_eq_true (hlt1.symm.trans h))
                              have HLn : Hid (lt1 = false → Bst l B (i + 1) (some c)) := fun h => HL.out.stay (by rw [← HYn.out, ← hzn]; exact of_decide_eq_false (hlt1.symm.trans h))
                              rw [hzv]
                              clear hzv hlt1 hzn z1 z2
                              simp only [ixV]
                              go_wp2_with fail
                              refine wp_region_noPanic ?_
                              refine wp_region_held_drew (S := fun W' => fourB W' bb (bo + i * 4) y ∧ fourB W' bb (bo + c * 4) z) (by kernel_rfl) ⟨HSx.out _ HFw.out.drew, HSz.out _ HFw.out.drew⟩ (fun _ => ?_)
                              refine takeH (i := 0) (d := some 119) (.int .i64 (c : Int)) rfl (by kernel_rfl) (by kernel_rfl) (by kernel_rfl) (fun _ _ _ _ h => h) ⟨HSx.out _ HFw.out.drew, HSz.out _ HFw.out.drew⟩ (fun o ho => by cases ho; exact .inl ⟨by rfl, fun w hSw => by (obtain ⟨⟨hs1, _, _, _⟩, hs2, _, _, _⟩ := hSw; go_simp)⟩) ?_
                              simp only [Act.put, List.setIfInBounds_toArray, List.set_cons_zero, List.set_cons_succ]
                              refine takeH (i := 1) (d := some 120) (.bool false) rfl (by kernel_rfl) (by kernel_rfl) (by kernel_rfl) (fun _ _ _ _ h => h) ⟨HSx.out _ HFw.out.drew, HSz.out _ HFw.out.drew⟩ (fun o ho => by cases ho; exact .inl ⟨by rfl, fun w hSw => by (obtain ⟨⟨hs1, _, _, _⟩, hs2, _, _, _⟩ := hSw; go_simp)⟩) ?_
                              simp only [Act.put, List.setIfInBounds_toArray, List.set_cons_zero, List.set_cons_succ]
                              refine takeH (i := 2) (d := some 121) (.bool false) rfl (by kernel_rfl) (by kernel_rfl) (by kernel_rfl) (fun _ _ _ _ h => h) ⟨HSx.out _ HFw.out.drew, HSz.out _ HFw.out.drew⟩ (fun o ho => by cases ho; exact .inl ⟨by rfl, fun w hSw => by (obtain ⟨⟨hs1, _, _, _⟩, hs2, _, _, _⟩ := hSw; go_simp)⟩) ?_
                              simp only [Act.put, List.setIfInBounds_toArray, List.set_cons_zero, List.set_cons_succ]
                              refine takeH (i := 3) (d := some 122) (.slice (some ⟨bb, bo, none⟩) l.length cap) rfl (by kernel_rfl) (by kernel_rfl) (by kernel_rfl) (fun _ _ _ _ h => h) ⟨HSx.out _ HFw.out.drew, HSz.out _ HFw.out.drew⟩ (fun o ho => by cases ho; exact .inl ⟨by rfl, fun w hSw => by (obtain ⟨⟨hs1, _, _, _⟩, hs2, _, _, _⟩ := hSw; go_simp)⟩) ?_
                              simp only [Act.put, List.setIfInBounds_toArray, List.set_cons_zero, List.set_cons_succ]
                              refine takeH (i := 4) (d := some 123) (.int .i64 (i : Int)) rfl (by kernel_rfl) (by kernel_rfl) (by kernel_rfl) (fun _ _ _ _ h => h) ⟨HSx.out _ HFw.out.drew, HSz.out _ HFw.out.drew⟩ (fun o ho => by cases ho; exact .inl ⟨by rfl, fun w hSw => by (obtain ⟨⟨hs1, _, _, _⟩, hs2, _, _, _⟩ := hSw; go_simp)⟩) ?_
                              simp only [Act.put, List.setIfInBounds_toArray, List.set_cons_zero, List.set_cons_succ]
                              refine takeH (i := 5) (d := some 124) (.pointer (some ⟨bb, bo + i * 4, none⟩)) rfl (by kernel_rfl) (by kernel_rfl) (by kernel_rfl) (fun _ _ _ _ h => h) ⟨HSx.out _ HFw.out.drew, HSz.out _ HFw.out.drew⟩ (fun o ho => by cases ho; exact .inl ⟨by rfl, fun w hSw => by (obtain ⟨⟨hs1, _, _, _⟩, hs2, _, _, _⟩ := hSw; go_simp)⟩) ?_
                              simp only [Act.put, List.setIfInBounds_toArray, List.set_cons_zero, List.set_cons_succ]
                              refine takeH (i := 6) (d := some 125) (.pointer (some ⟨bb, bo + i * 4, none⟩)) rfl (by kernel_rfl) (by kernel_rfl) (by kernel_rfl) (fun _ _ _ _ h => h) ⟨HSx.out _ HFw.out.drew, HSz.out _ HFw.out.drew⟩ (fun o ho => by cases ho; exact .inl ⟨by rfl, fun w hSw => by (obtain ⟨⟨hs1, _, _, _⟩, hs2, _, _, _⟩ := hSw; go_simp)⟩) ?_
                              simp only [Act.put, List.setIfInBounds_toArray, List.set_cons_zero, List.set_cons_succ]
                              refine takeH (i := 7) (d := some 126) (.string ⟨y.n.toArray⟩) rfl (by kernel_rfl) (by kernel_rfl) (by kernel_rfl) (fun _ _ _ _ h => h) ⟨HSx.out _ HFw.out.drew, HSz.out _ HFw.out.drew⟩ (fun o ho => by cases ho; exact .inl ⟨by rfl, fun w hSw => by (obtain ⟨⟨hs1, _, _, _⟩, hs2, _, _, _⟩ := hSw; go_simp)⟩) ?_
                              simp only [Act.put, List.setIfInBounds_toArray, List.set_cons_zero, List.set_cons_succ]
                              refine takeH (i := 8) (d := some 127) (.slice (some ⟨bb, bo, none⟩) l.length cap) rfl (by kernel_rfl) (by kernel_rfl) (by kernel_rfl) (fun _ _ _ _ h => h) ⟨HSx.out _ HFw.out.drew, HSz.out _ HFw.out.drew⟩ (fun o ho => by cases ho; exact .inl ⟨by rfl, fun w hSw => by (obtain ⟨⟨hs1, _, _, _⟩, hs2, _, _, _⟩ := hSw; go_simp)⟩) ?_
                              simp only [Act.put, List.setIfInBounds_toArray, List.set_cons_zero, List.set_cons_succ]
                              refine takeH (i := 9) (d := some 128) (.int .i64 (c : Int)) rfl (by kernel_rfl) (by kernel_rfl) (by kernel_rfl) (fun _ _ _ _ h => h) ⟨HSx.out _ HFw.out.drew, HSz.out _ HFw.out.drew⟩ (fun o ho => by cases ho; exact .inl ⟨by rfl, fun w hSw => by (obtain ⟨⟨hs1, _, _, _⟩, hs2, _, _, _⟩ := hSw; go_simp)⟩) ?_
                              simp only [Act.put, List.setIfInBounds_toArray, List.set_cons_zero, List.set_cons_succ]
                              refine takeH (i := 10) (d := some 129) (.pointer (some ⟨bb, bo + c * 4, none⟩)) rfl (by kernel_rfl) (by kernel_rfl) (by kernel_rfl) (fun _ _ _ _ h => h) ⟨HSx.out _ HFw.out.drew, HSz.out _ HFw.out.drew⟩ (fun o ho => by cases ho; exact .inl ⟨by rfl, fun w hSw => by (obtain ⟨⟨hs1, _, _, _⟩, hs2, _, _, _⟩ := hSw; go_simp)⟩) ?_
                              simp only [Act.put, List.setIfInBounds_toArray, List.set_cons_zero, List.set_cons_succ]
                              refine takeH (i := 11) (d := some 130) (.pointer (some ⟨bb, bo + c * 4, none⟩)) rfl (by kernel_rfl) (by kernel_rfl) (by kernel_rfl) (fun _ _ _ _ h => h) ⟨HSx.out _ HFw.out.drew, HSz.out _ HFw.out.drew⟩ (fun o ho => by cases ho; exact .inl ⟨by rfl, fun w hSw => by (obtain ⟨⟨hs1, _, _, _⟩, hs2, _, _, _⟩ := hSw; go_simp)⟩) ?_
                              simp only [Act.put, List.setIfInBounds_toArray, List.set_cons_zero, List.set_cons_succ]
                              refine takeH (i := 12) (d := some 131) (.string ⟨z.n.toArray⟩) rfl (by kernel_rfl) (by kernel_rfl) (by kernel_rfl) (fun _ _ _ _ h => h) ⟨HSx.out _ HFw.out.drew, HSz.out _ HFw.out.drew⟩ (fun o ho => by cases ho; exact .inl ⟨by rfl, fun w hSw => by (obtain ⟨⟨hs1, _, _, _⟩, hs2, _, _, _⟩ := hSw; go_simp)⟩) ?_
                              simp only [Act.put, List.setIfInBounds_toArray, List.set_cons_zero, List.set_cons_succ]
                              refine takeH (i := 13) (d := some 132) (.bool lt1) rfl (by kernel_rfl) (by kernel_rfl) (by kernel_rfl) (fun _ _ _ _ h => h) ⟨HSx.out _ HFw.out.drew, HSz.out _ HFw.out.drew⟩ (fun o ho => by cases ho; exact .inl ⟨by rfl, fun w hSw => by (obtain ⟨⟨hs1, _, _, _⟩, hs2, _, _, _⟩ := hSw; go_simp)⟩) ?_
                              simp only [Act.put, List.setIfInBounds_toArray, List.set_cons_zero, List.set_cons_succ]
                              refine takeH (i := 14) (d := some 133) (.bool lt1) rfl (by kernel_rfl) (by kernel_rfl) (by kernel_rfl) (fun _ _ _ _ h => h) ⟨HSx.out _ HFw.out.drew, HSz.out _ HFw.out.drew⟩ (fun o ho => by cases ho; exact .inl ⟨by rfl, fun w hSw => by (obtain ⟨⟨hs1, _, _, _⟩, hs2, _, _, _⟩ := hSw; go_simp)⟩) ?_
                              simp only [Act.put, List.setIfInBounds_toArray, List.set_cons_zero, List.set_cons_succ]
                              refine wpAnyH_done (by kernel_rfl) (NoPanic.normal ?_) _
                              cases lt1 with
                              | true =>
                                have HL2 := hid (HLy.out rfl)
                                obtain ⟨k0, k1, k2, k3⟩ := HSx.out _ HFw.out.drew
                                go_wp2_with fail
                                refine HWt.out.mono ?_
                                rintro e wq ⟨rfl, fq⟩
                                have HFq := hid (HF.out.drew.trans fq (fun _ h => h.elim))
                                have HFx := hid (HFr.out.trans HFq.out (fun _ h => h.elim))
                                clear fq HWt k0 k1 k2 k3
                                cases hw : wtB l B l[i] with
                                | true =>
                                  have HN2 := hid (HN.out.skip (by rw [HAt.out, hw]; simp))
                                  clear hw HN
                                  go_wp2_with fail
                                  refine wp_region_noPanic ?_
                                  refine wp_region_held_drew (S := fun W' => fourB W' bb (bo + i * 4) y) (by kernel_rfl) (HSx.out _ HFx.out.drew) (fun _ => ?_)
                                  refine takeH (i := 0) (d := some 142) (.bool true) rfl (by kernel_rfl) (by kernel_rfl) (by kernel_rfl) (fun _ _ _ _ h => h) (HSx.out _ HFx.out.drew) (fun o ho => by cases ho; exact .inl ⟨by rfl, fun w hSw => by (obtain ⟨hs1, hs2, hs3, hs4⟩ := hSw; go_simp)⟩) ?_
                                  simp only [Act.put, List.setIfInBounds_toArray, List.set_cons_zero, List.set_cons_succ]
                                  refine takeH (i := 1) (d := some 143) (.bool false) rfl (by kernel_rfl) (by kernel_rfl) (by kernel_rfl) (fun _ _ _ _ h => h) (HSx.out _ HFx.out.drew) (fun o ho => by cases ho; exact .inl ⟨by rfl, fun w hSw => by (obtain ⟨hs1, hs2, hs3, hs4⟩ := hSw; go_simp)⟩) ?_
                                  simp only [Act.put, List.setIfInBounds_toArray, List.set_cons_zero, List.set_cons_succ]
                                  refine takeH (i := 2) (d := some 144) (.bool false) rfl (by kernel_rfl) (by kernel_rfl) (by kernel_rfl) (fun _ _ _ _ h => h) (HSx.out _ HFx.out.drew) (fun o ho => by cases ho; exact .inl ⟨by rfl, fun w hSw => by (obtain ⟨hs1, hs2, hs3, hs4⟩ := hSw; go_simp)⟩) ?_
                                  simp only [Act.put, List.setIfInBounds_toArray, List.set_cons_zero, List.set_cons_succ]
                                  refine takeH (i := 3) (d := some 145) undef rfl (by kernel_rfl) (by kernel_rfl) (by kernel_rfl) (fun _ _ _ _ h => h) (HSx.out _ HFx.out.drew) (fun o ho => by cases ho; exact .inr ⟨by rfl, rfl⟩) ?_
                                  simp only [Act.put, List.setIfInBounds_toArray, List.set_cons_zero, List.set_cons_succ]
                                  refine takeH (i := 4) (d := some 146) undef rfl (by kernel_rfl) (by kernel_rfl) (by kernel_rfl) (fun _ _ _ _ h => h) (HSx.out _ HFx.out.drew) (fun o ho => by cases ho; exact .inr ⟨by rfl, rfl⟩) ?_
                                  simp only [Act.put, List.setIfInBounds_toArray, List.set_cons_zero, List.set_cons_succ]
                                  refine takeH (i := 5) (d := some 147) undef rfl (by kernel_rfl) (by kernel_rfl) (by kernel_rfl) (fun _ _ _ _ h => h) (HSx.out _ HFx.out.drew) (fun o ho => by cases ho; exact .inr ⟨by rfl, rfl⟩) ?_
                                  simp only [Act.put, List.setIfInBounds_toArray, List.set_cons_zero, List.set_cons_succ]
                                  refine takeH (i := 6) (d := some 148) undef rfl (by kernel_rfl) (by kernel_rfl) (by kernel_rfl) (fun _ _ _ _ h => h) (HSx.out _ HFx.out.drew) (fun o ho => by cases ho; exact .inr ⟨by rfl, rfl⟩) ?_
                                  simp only [Act.put, List.setIfInBounds_toArray, List.set_cons_zero, List.set_cons_succ]
                                  refine takeH (i := 7) (d := some 149) undef rfl (by kernel_rfl) (by kernel_rfl) (by kernel_rfl) (fun _ _ _ _ h => h) (HSx.out _ HFx.out.drew) (fun o ho => by cases ho; exact .inr ⟨by rfl, rfl⟩) ?_
                                  simp only [Act.put, List.setIfInBounds_toArray, List.set_cons_zero, List.set_cons_succ]
                                  refine takeH (i := 8) (d := some 150) undef rfl (by kernel_rfl) (by kernel_rfl) (by kernel_rfl) (fun _ _ _ _ h => h) (HSx.out _ HFx.out.drew) (fun o ho => by cases ho; exact .inr ⟨by rfl, rfl⟩) ?_
                                  simp only [Act.put, List.setIfInBounds_toArray, List.set_cons_zero, List.set_cons_succ]
                                  refine takeH (i := 9) (d := some 151) undef rfl (by kernel_rfl) (by kernel_rfl) (by kernel_rfl) (fun _ _ _ _ h => h) (HSx.out _ HFx.out.drew) (fun o ho => by cases ho; exact .inr ⟨by rfl, rfl⟩) ?_
                                  simp only [Act.put, List.setIfInBounds_toArray, List.set_cons_zero, List.set_cons_succ]
                                  refine takeH (i := 10) (d := some 152) undef rfl (by kernel_rfl) (by kernel_rfl) (by kernel_rfl) (fun _ _ _ _ h => h) (HSx.out _ HFx.out.drew) (fun o ho => by cases ho; exact .inr ⟨by rfl, rfl⟩) ?_
                                  simp only [Act.put, List.setIfInBounds_toArray, List.set_cons_zero, List.set_cons_succ]
                                  refine takeH (i := 11) (d := some 153) undef rfl (by kernel_rfl) (by kernel_rfl) (by kernel_rfl) (fun _ _ _ _ h => h) (HSx.out _ HFx.out.drew) (fun o ho => by cases ho; exact .inr ⟨by rfl, rfl⟩) ?_
                                  simp only [Act.put, List.setIfInBounds_toArray, List.set_cons_zero, List.set_cons_succ]
                                  refine takeH (i := 12) (d := some 154) undef rfl (by kernel_rfl) (by kernel_rfl) (by kernel_rfl) (fun _ _ _ _ h => h) (HSx.out _ HFx.out.drew) (fun o ho => by cases ho; exact .inr ⟨by rfl, rfl⟩) ?_
                                  simp only [Act.put, List.setIfInBounds_toArray, List.set_cons_zero, List.set_cons_succ]
                                  refine takeH (i := 13) (d := some 155) undef rfl (by kernel_rfl) (by kernel_rfl) (by kernel_rfl) (fun _ _ _ _ h => h) (HSx.out _ HFx.out.drew) (fun o ho => by cases ho; exact .inr ⟨by rfl, rfl⟩) ?_
                                  simp only [Act.put, List.setIfInBounds_toArray, List.set_cons_zero, List.set_cons_succ]
                                  refine takeH (i := 14) (d := some 156) undef rfl (by kernel_rfl) (by kernel_rfl) (by kernel_rfl) (fun _ _ _ _ h => h) (HSx.out _ HFx.out.drew) (fun o ho => by cases ho; exact .inr ⟨by rfl, rfl⟩) ?_
                                  simp only [Act.put, List.setIfInBounds_toArray, List.set_cons_zero, List.set_cons_succ]
                                  refine takeH (i := 15) (d := some 157) undef rfl (by kernel_rfl) (by kernel_rfl) (by kernel_rfl) (fun _ _ _ _ h => h) (HSx.out _ HFx.out.drew) (fun o ho => by cases ho; exact .inr ⟨by rfl, rfl⟩) ?_
                                  simp only [Act.put, List.setIfInBounds_toArray, List.set_cons_zero, List.set_cons_succ]
                                  refine takeH (i := 16) (d := some 158) undef rfl (by kernel_rfl) (by kernel_rfl) (by kernel_rfl) (fun _ _ _ _ h => h) (HSx.out _ HFx.out.drew) (fun o ho => by cases ho; exact .inr ⟨by rfl, rfl⟩) ?_
                                  simp only [Act.put, List.setIfInBounds_toArray, List.set_cons_zero, List.set_cons_succ]
                                  refine takeH (i := 17) (d := some 159) undef rfl (by kernel_rfl) (by kernel_rfl) (by kernel_rfl) (fun _ _ _ _ h => h) (HSx.out _ HFx.out.drew) (fun o ho => by cases ho; exact .inr ⟨by rfl, rfl⟩) ?_
                                  simp only [Act.put, List.setIfInBounds_toArray, List.set_cons_zero, List.set_cons_succ]
                                  refine takeH (i := 18) (d := some 160) (.bool false) rfl (by kernel_rfl) (by kernel_rfl) (by kernel_rfl) (fun _ _ _ _ h => h) (HSx.out _ HFx.out.drew) (fun o ho => by cases ho; exact .inl ⟨by rfl, fun w hSw => by (obtain ⟨hs1, hs2, hs3, hs4⟩ := hSw; go_simp)⟩) ?_
                                  simp only [Act.put, List.setIfInBounds_toArray, List.set_cons_zero, List.set_cons_succ]
                                  refine wpAnyH_done (by kernel_rfl) (NoPanic.normal ?_) _
                                  have HF2 := hid HFq.out.drew
                                  go_wp2_with fail
                                  exact ⟨⟨i + 1, bn, some i, by omega, by go_num, HZv.out.symm, rfl, HL2.out, HN2.out, HF2.out⟩, by simp [intOf]; omega⟩
                                | false =>
                                  cases bn with
                                  | none =>
                                    have HN2 := hid (HN.out.turn hil (by rw [HAt.out, hbi, hw]; rfl) (fun c e => by cases e))
                                    obtain rfl : zv = -1 := by have h : Value.int .i64 (-1) = .int .i64 zv := HZv.out; injection h with _ h2; exact h2.symm
                                    clear hw HN HZv
                                    go_wp2_with fail
                                    refine wp_region_noPanic ?_
                                    refine wp_region_held_drew (S := fun W' => fourB W' bb (bo + i * 4) y) (by kernel_rfl) (HSx.out _ HFx.out.drew) (fun _ => ?_)
                                    refine takeH (i := 0) (d := some 142) (.bool false) rfl (by kernel_rfl) (by kernel_rfl) (by kernel_rfl) (fun _ _ _ _ h => h) (HSx.out _ HFx.out.drew) (fun o ho => by cases ho; exact .inl ⟨by rfl, fun w hSw => by (obtain ⟨hs1, hs2, hs3, hs4⟩ := hSw; go_simp)⟩) ?_
                                    simp only [Act.put, List.setIfInBounds_toArray, List.set_cons_zero, List.set_cons_succ]
                                    refine takeH (i := 1) (d := some 143) (.bool true) rfl (by kernel_rfl) (by kernel_rfl) (by kernel_rfl) (fun _ _ _ _ h => h) (HSx.out _ HFx.out.drew) (fun o ho => by cases ho; exact .inl ⟨by rfl, fun w hSw => by (obtain ⟨hs1, hs2, hs3, hs4⟩ := hSw; go_simp)⟩) ?_
                                    simp only [Act.put, List.setIfInBounds_toArray, List.set_cons_zero, List.set_cons_succ]
                                    refine takeH (i := 2) (d := some 144) (.bool true) rfl (by kernel_rfl) (by kernel_rfl) (by kernel_rfl) (fun _ _ _ _ h => h) (HSx.out _ HFx.out.drew) (fun o ho => by cases ho; exact .inl ⟨by rfl, fun w hSw => by (obtain ⟨hs1, hs2, hs3, hs4⟩ := hSw; go_simp)⟩) ?_
                                    simp only [Act.put, List.setIfInBounds_toArray, List.set_cons_zero, List.set_cons_succ]
                                    refine takeH (i := 3) (d := some 145) (.int .i64 (-1)) rfl (by kernel_rfl) (by kernel_rfl) (by kernel_rfl) (fun _ _ _ _ h => h) (HSx.out _ HFx.out.drew) (fun o ho => by cases ho; exact .inl ⟨by rfl, fun w hSw => by (obtain ⟨hs1, hs2, hs3, hs4⟩ := hSw; go_simp)⟩) ?_
                                    simp only [Act.put, List.setIfInBounds_toArray, List.set_cons_zero, List.set_cons_succ]
                                    refine takeH (i := 4) (d := some 146) (.bool true) rfl (by kernel_rfl) (by kernel_rfl) (by kernel_rfl) (fun _ _ _ _ h => h) (HSx.out _ HFx.out.drew) (fun o ho => by cases ho; exact .inl ⟨by rfl, fun w hSw => by (obtain ⟨hs1, hs2, hs3, hs4⟩ := hSw; go_simp)⟩) ?_
                                    simp only [Act.put, List.setIfInBounds_toArray, List.set_cons_zero, List.set_cons_succ]
                                    refine takeH (i := 5) (d := some 147) (.bool true) rfl (by kernel_rfl) (by kernel_rfl) (by kernel_rfl) (fun _ _ _ _ h => h) (HSx.out _ HFx.out.drew) (fun o ho => by cases ho; exact .inl ⟨by rfl, fun w hSw => by (obtain ⟨hs1, hs2, hs3, hs4⟩ := hSw; go_simp)⟩) ?_
                                    simp only [Act.put, List.setIfInBounds_toArray, List.set_cons_zero, List.set_cons_succ]
                                    refine takeH (i := 6) (d := some 148) undef rfl (by kernel_rfl) (by kernel_rfl) (by kernel_rfl) (fun _ _ _ _ h => h) (HSx.out _ HFx.out.drew) (fun o ho => by cases ho; exact .inr ⟨by rfl, rfl⟩) ?_
                                    simp only [Act.put, List.setIfInBounds_toArray, List.set_cons_zero, List.set_cons_succ]
                                    refine takeH (i := 7) (d := some 149) undef rfl (by kernel_rfl) (by kernel_rfl) (by kernel_rfl) (fun _ _ _ _ h => h) (HSx.out _ HFx.out.drew) (fun o ho => by cases ho; exact .inr ⟨by rfl, rfl⟩) ?_
                                    simp only [Act.put, List.setIfInBounds_toArray, List.set_cons_zero, List.set_cons_succ]
                                    refine takeH (i := 8) (d := some 150) undef rfl (by kernel_rfl) (by kernel_rfl) (by kernel_rfl) (fun _ _ _ _ h => h) (HSx.out _ HFx.out.drew) (fun o ho => by cases ho; exact .inr ⟨by rfl, rfl⟩) ?_
                                    simp only [Act.put, List.setIfInBounds_toArray, List.set_cons_zero, List.set_cons_succ]
                                    refine takeH (i := 9) (d := some 151) undef rfl (by kernel_rfl) (by kernel_rfl) (by kernel_rfl) (fun _ _ _ _ h => h) (HSx.out _ HFx.out.drew) (fun o ho => by cases ho; exact .inr ⟨by rfl, rfl⟩) ?_
                                    simp only [Act.put, List.setIfInBounds_toArray, List.set_cons_zero, List.set_cons_succ]
                                    refine takeH (i := 10) (d := some 152) undef rfl (by kernel_rfl) (by kernel_rfl) (by kernel_rfl) (fun _ _ _ _ h => h) (HSx.out _ HFx.out.drew) (fun o ho => by cases ho; exact .inr ⟨by rfl, rfl⟩) ?_
                                    simp only [Act.put, List.setIfInBounds_toArray, List.set_cons_zero, List.set_cons_succ]
                                    refine takeH (i := 11) (d := some 153) undef rfl (by kernel_rfl) (by kernel_rfl) (by kernel_rfl) (fun _ _ _ _ h => h) (HSx.out _ HFx.out.drew) (fun o ho => by cases ho; exact .inr ⟨by rfl, rfl⟩) ?_
                                    simp only [Act.put, List.setIfInBounds_toArray, List.set_cons_zero, List.set_cons_succ]
                                    refine takeH (i := 12) (d := some 154) undef rfl (by kernel_rfl) (by kernel_rfl) (by kernel_rfl) (fun _ _ _ _ h => h) (HSx.out _ HFx.out.drew) (fun o ho => by cases ho; exact .inr ⟨by rfl, rfl⟩) ?_
                                    simp only [Act.put, List.setIfInBounds_toArray, List.set_cons_zero, List.set_cons_succ]
                                    refine takeH (i := 13) (d := some 155) undef rfl (by kernel_rfl) (by kernel_rfl) (by kernel_rfl) (fun _ _ _ _ h => h) (HSx.out _ HFx.out.drew) (fun o ho => by cases ho; exact .inr ⟨by rfl, rfl⟩) ?_
                                    simp only [Act.put, List.setIfInBounds_toArray, List.set_cons_zero, List.set_cons_succ]
                                    refine takeH (i := 14) (d := some 156) undef rfl (by kernel_rfl) (by kernel_rfl) (by kernel_rfl) (fun _ _ _ _ h => h) (HSx.out _ HFx.out.drew) (fun o ho => by cases ho; exact .inr ⟨by rfl, rfl⟩) ?_
                                    simp only [Act.put, List.setIfInBounds_toArray, List.set_cons_zero, List.set_cons_succ]
                                    refine takeH (i := 15) (d := some 157) undef rfl (by kernel_rfl) (by kernel_rfl) (by kernel_rfl) (fun _ _ _ _ h => h) (HSx.out _ HFx.out.drew) (fun o ho => by cases ho; exact .inr ⟨by rfl, rfl⟩) ?_
                                    simp only [Act.put, List.setIfInBounds_toArray, List.set_cons_zero, List.set_cons_succ]
                                    refine takeH (i := 16) (d := some 158) undef rfl (by kernel_rfl) (by kernel_rfl) (by kernel_rfl) (fun _ _ _ _ h => h) (HSx.out _ HFx.out.drew) (fun o ho => by cases ho; exact .inr ⟨by rfl, rfl⟩) ?_
                                    simp only [Act.put, List.setIfInBounds_toArray, List.set_cons_zero, List.set_cons_succ]
                                    refine takeH (i := 17) (d := some 159) (.bool true) rfl (by kernel_rfl) (by kernel_rfl) (by kernel_rfl) (fun _ _ _ _ h => h) (HSx.out _ HFx.out.drew) (fun o ho => by cases ho; exact .inl ⟨by rfl, fun w hSw => by (obtain ⟨hs1, hs2, hs3, hs4⟩ := hSw; go_simp)⟩) ?_
                                    simp only [Act.put, List.setIfInBounds_toArray, List.set_cons_zero, List.set_cons_succ]
                                    refine takeH (i := 18) (d := some 160) (.bool true) rfl (by kernel_rfl) (by kernel_rfl) (by kernel_rfl) (fun _ _ _ _ h => h) (HSx.out _ HFx.out.drew) (fun o ho => by cases ho; exact .inl ⟨by rfl, fun w hSw => by (obtain ⟨hs1, hs2, hs3, hs4⟩ := hSw; go_simp)⟩) ?_
                                    simp only [Act.put, List.setIfInBounds_toArray, List.set_cons_zero, List.set_cons_succ]
                                    refine wpAnyH_done (by kernel_rfl) (NoPanic.normal ?_) _
                                    have HF2 := hid HFq.out.drew
                                    go_wp2_with fail
                                    exact ⟨⟨i + 1, some i, some i, by omega, by go_num, rfl, rfl, HL2.out, HN2.out, HF2.out⟩, by simp [intOf]; omega⟩
                                  | some d =>
                                    have hdl := HN.out.2.1
                                    obtain ⟨z2, z21, z22⟩ := HU.out.get d hdl
                                    have HSd : Hid (∀ W', Fr (fun _ => False) w W' → fourB W' bb (bo + d * 4) z2) := fun W' f => (z21.env (Env.of f)).all
                                    have hzd : z2.n = (l[d]?.getD default).n := by rw [z22.n, List.getElem?_eq_getElem hdl]; rfl
                                    have hd1 : (d : Int) < ((l.length : Nat) : Int) := by omega
                                    have hd0 : (0 : Int) ≤ (d : Int) := Int.natCast_nonneg _
                                    have hd2 : decide ((d : Int) < 0) = false := decide_eq_false (by omega)
                                    have hls : Op.bytesLess y.n z2.n = decide (y.n < z2.n) := less_eq _ _
                                    obtain ⟨lt2, hlt2⟩ : ∃ b, b = decide (y.n < z2.n) := ⟨_, rfl⟩
                                    rw [← hlt2] at hls
                                    have HYe : Hid (lt2 = true → Bst l (fun j => B j && !wtB l B (l[j]?.getD default)) (i + 1) (some i)) := fun h => HN.out.turn hil (by rw [HAt.out, hbi, hw]; rfl) (fun c e => by cases e; rw [← HYn.out, ← hzd]; exact of_decide_eq_true (hlt2.symm.trans h))
                                    have HNo : Hid (lt2 = false → Bst l (fun j => B j && !wtB l B (l[j]?.getD default)) (i + 1) (some d)) := fun h => HN.out.stay (by rw [← HYn.out, ← hzd]; exact of_decide_eq_false (hlt2.symm.trans h))
                                    obtain rfl : zv = (d : Int) := by have h : Value.int .i64 (d : Int) = .int .i64 zv := HZv.out; injection h with _ h2; exact h2.symm
                                    clear hw HN hlt2 hzd z21 z22 HZv
                                    go_wp2_with fail
                                    refine wp_region_noPanic ?_
                                    refine wp_region_held_drew (S := fun W' => fourB W' bb (bo + i * 4) y ∧ fourB W' bb (bo + d * 4) z2) (by kernel_rfl) ⟨HSx.out _ HFx.out.drew, HSd.out _ HFx.out.drew⟩ (fun _ => ?_)
                                    refine takeH (i := 0) (d := some 142) (.bool false) rfl (by kernel_rfl) (by kernel_rfl) (by kernel_rfl) (fun _ _ _ _ h => h) ⟨HSx.out _ HFx.out.drew, HSd.out _ HFx.out.drew⟩ (fun o ho => by cases ho; exact .inl ⟨by rfl, fun w hSw => by (obtain ⟨⟨hs1, _, _, _⟩, hs2, _, _, _⟩ := hSw; go_simp)⟩) ?_
                                    simp only [Act.put, List.setIfInBounds_toArray, List.set_cons_zero, List.set_cons_succ]
                                    refine takeH (i := 1) (d := some 143) (.bool true) rfl (by kernel_rfl) (by kernel_rfl) (by kernel_rfl) (fun _ _ _ _ h => h) ⟨HSx.out _ HFx.out.drew, HSd.out _ HFx.out.drew⟩ (fun o ho => by cases ho; exact .inl ⟨by rfl, fun w hSw => by (obtain ⟨⟨hs1, _, _, _⟩, hs2, _, _, _⟩ := hSw; go_simp)⟩) ?_
                                    simp only [Act.put, List.setIfInBounds_toArray, List.set_cons_zero, List.set_cons_succ]
                                    refine takeH (i := 2) (d := some 144) (.bool true) rfl (by kernel_rfl) (by kernel_rfl) (by kernel_rfl) (fun _ _ _ _ h => h) ⟨HSx.out _ HFx.out.drew, HSd.out _ HFx.out.drew⟩ (fun o ho => by cases ho; exact .inl ⟨by rfl, fun w hSw => by (obtain ⟨⟨hs1, _, _, _⟩, hs2, _, _, _⟩ := hSw; go_simp)⟩) ?_
                                    simp only [Act.put, List.setIfInBounds_toArray, List.set_cons_zero, List.set_cons_succ]
                                    refine takeH (i := 3) (d := some 145) (.int .i64 (d : Int)) rfl (by kernel_rfl) (by kernel_rfl) (by kernel_rfl) (fun _ _ _ _ h => h) ⟨HSx.out _ HFx.out.drew, HSd.out _ HFx.out.drew⟩ (fun o ho => by cases ho; exact .inl ⟨by rfl, fun w hSw => by (obtain ⟨⟨hs1, _, _, _⟩, hs2, _, _, _⟩ := hSw; go_simp)⟩) ?_
                                    simp only [Act.put, List.setIfInBounds_toArray, List.set_cons_zero, List.set_cons_succ]
                                    refine takeH (i := 4) (d := some 146) (.bool false) rfl (by kernel_rfl) (by kernel_rfl) (by kernel_rfl) (fun _ _ _ _ h => h) ⟨HSx.out _ HFx.out.drew, HSd.out _ HFx.out.drew⟩ (fun o ho => by cases ho; exact .inl ⟨by rfl, fun w hSw => by (obtain ⟨⟨hs1, _, _, _⟩, hs2, _, _, _⟩ := hSw; go_simp)⟩) ?_
                                    simp only [Act.put, List.setIfInBounds_toArray, List.set_cons_zero, List.set_cons_succ]
                                    refine takeH (i := 5) (d := some 147) (.bool false) rfl (by kernel_rfl) (by kernel_rfl) (by kernel_rfl) (fun _ _ _ _ h => h) ⟨HSx.out _ HFx.out.drew, HSd.out _ HFx.out.drew⟩ (fun o ho => by cases ho; exact .inl ⟨by rfl, fun w hSw => by (obtain ⟨⟨hs1, _, _, _⟩, hs2, _, _, _⟩ := hSw; go_simp)⟩) ?_
                                    simp only [Act.put, List.setIfInBounds_toArray, List.set_cons_zero, List.set_cons_succ]
                                    refine takeH (i := 6) (d := some 148) (.slice (some ⟨bb, bo, none⟩) l.length cap) rfl (by kernel_rfl) (by kernel_rfl) (by kernel_rfl) (fun _ _ _ _ h => h) ⟨HSx.out _ HFx.out.drew, HSd.out _ HFx.out.drew⟩ (fun o ho => by cases ho; exact .inl ⟨by rfl, fun w hSw => by (obtain ⟨⟨hs1, _, _, _⟩, hs2, _, _, _⟩ := hSw; go_simp)⟩) ?_
                                    simp only [Act.put, List.setIfInBounds_toArray, List.set_cons_zero, List.set_cons_succ]
                                    refine takeH (i := 7) (d := some 149) (.int .i64 (i : Int)) rfl (by kernel_rfl) (by kernel_rfl) (by kernel_rfl) (fun _ _ _ _ h => h) ⟨HSx.out _ HFx.out.drew, HSd.out _ HFx.out.drew⟩ (fun o ho => by cases ho; exact .inl ⟨by rfl, fun w hSw => by (obtain ⟨⟨hs1, _, _, _⟩, hs2, _, _, _⟩ := hSw; go_simp)⟩) ?_
                                    simp only [Act.put, List.setIfInBounds_toArray, List.set_cons_zero, List.set_cons_succ]
                                    refine takeH (i := 8) (d := some 150) (.pointer (some ⟨bb, bo + i * 4, none⟩)) rfl (by kernel_rfl) (by kernel_rfl) (by kernel_rfl) (fun _ _ _ _ h => h) ⟨HSx.out _ HFx.out.drew, HSd.out _ HFx.out.drew⟩ (fun o ho => by cases ho; exact .inl ⟨by rfl, fun w hSw => by (obtain ⟨⟨hs1, _, _, _⟩, hs2, _, _, _⟩ := hSw; go_simp)⟩) ?_
                                    simp only [Act.put, List.setIfInBounds_toArray, List.set_cons_zero, List.set_cons_succ]
                                    refine takeH (i := 9) (d := some 151) (.pointer (some ⟨bb, bo + i * 4, none⟩)) rfl (by kernel_rfl) (by kernel_rfl) (by kernel_rfl) (fun _ _ _ _ h => h) ⟨HSx.out _ HFx.out.drew, HSd.out _ HFx.out.drew⟩ (fun o ho => by cases ho; exact .inl ⟨by rfl, fun w hSw => by (obtain ⟨⟨hs1, _, _, _⟩, hs2, _, _, _⟩ := hSw; go_simp)⟩) ?_
                                    simp only [Act.put, List.setIfInBounds_toArray, List.set_cons_zero, List.set_cons_succ]
                                    refine takeH (i := 10) (d := some 152) (.string ⟨y.n.toArray⟩) rfl (by kernel_rfl) (by kernel_rfl) (by kernel_rfl) (fun _ _ _ _ h => h) ⟨HSx.out _ HFx.out.drew, HSd.out _ HFx.out.drew⟩ (fun o ho => by cases ho; exact .inl ⟨by rfl, fun w hSw => by (obtain ⟨⟨hs1, _, _, _⟩, hs2, _, _, _⟩ := hSw; go_simp)⟩) ?_
                                    simp only [Act.put, List.setIfInBounds_toArray, List.set_cons_zero, List.set_cons_succ]
                                    refine takeH (i := 11) (d := some 153) (.slice (some ⟨bb, bo, none⟩) l.length cap) rfl (by kernel_rfl) (by kernel_rfl) (by kernel_rfl) (fun _ _ _ _ h => h) ⟨HSx.out _ HFx.out.drew, HSd.out _ HFx.out.drew⟩ (fun o ho => by cases ho; exact .inl ⟨by rfl, fun w hSw => by (obtain ⟨⟨hs1, _, _, _⟩, hs2, _, _, _⟩ := hSw; go_simp)⟩) ?_
                                    simp only [Act.put, List.setIfInBounds_toArray, List.set_cons_zero, List.set_cons_succ]
                                    refine takeH (i := 12) (d := some 154) (.int .i64 (d : Int)) rfl (by kernel_rfl) (by kernel_rfl) (by kernel_rfl) (fun _ _ _ _ h => h) ⟨HSx.out _ HFx.out.drew, HSd.out _ HFx.out.drew⟩ (fun o ho => by cases ho; exact .inl ⟨by rfl, fun w hSw => by (obtain ⟨⟨hs1, _, _, _⟩, hs2, _, _, _⟩ := hSw; go_simp)⟩) ?_
                                    simp only [Act.put, List.setIfInBounds_toArray, List.set_cons_zero, List.set_cons_succ]
                                    refine takeH (i := 13) (d := some 155) (.pointer (some ⟨bb, bo + d * 4, none⟩)) rfl (by kernel_rfl) (by kernel_rfl) (by kernel_rfl) (fun _ _ _ _ h => h) ⟨HSx.out _ HFx.out.drew, HSd.out _ HFx.out.drew⟩ (fun o ho => by cases ho; exact .inl ⟨by rfl, fun w hSw => by (obtain ⟨⟨hs1, _, _, _⟩, hs2, _, _, _⟩ := hSw; go_simp)⟩) ?_
                                    simp only [Act.put, List.setIfInBounds_toArray, List.set_cons_zero, List.set_cons_succ]
                                    refine takeH (i := 14) (d := some 156) (.pointer (some ⟨bb, bo + d * 4, none⟩)) rfl (by kernel_rfl) (by kernel_rfl) (by kernel_rfl) (fun _ _ _ _ h => h) ⟨HSx.out _ HFx.out.drew, HSd.out _ HFx.out.drew⟩ (fun o ho => by cases ho; exact .inl ⟨by rfl, fun w hSw => by (obtain ⟨⟨hs1, _, _, _⟩, hs2, _, _, _⟩ := hSw; go_simp)⟩) ?_
                                    simp only [Act.put, List.setIfInBounds_toArray, List.set_cons_zero, List.set_cons_succ]
                                    refine takeH (i := 15) (d := some 157) (.string ⟨z2.n.toArray⟩) rfl (by kernel_rfl) (by kernel_rfl) (by kernel_rfl) (fun _ _ _ _ h => h) ⟨HSx.out _ HFx.out.drew, HSd.out _ HFx.out.drew⟩ (fun o ho => by cases ho; exact .inl ⟨by rfl, fun w hSw => by (obtain ⟨⟨hs1, _, _, _⟩, hs2, _, _, _⟩ := hSw; go_simp)⟩) ?_
                                    simp only [Act.put, List.setIfInBounds_toArray, List.set_cons_zero, List.set_cons_succ]
                                    refine takeH (i := 16) (d := some 158) (.bool lt2) rfl (by kernel_rfl) (by kernel_rfl) (by kernel_rfl) (fun _ _ _ _ h => h) ⟨HSx.out _ HFx.out.drew, HSd.out _ HFx.out.drew⟩ (fun o ho => by cases ho; exact .inl ⟨by rfl, fun w hSw => by (obtain ⟨⟨hs1, _, _, _⟩, hs2, _, _, _⟩ := hSw; go_simp)⟩) ?_
                                    simp only [Act.put, List.setIfInBounds_toArray, List.set_cons_zero, List.set_cons_succ]
                                    refine takeH (i := 17) (d := some 159) (.bool lt2) rfl (by kernel_rfl) (by kernel_rfl) (by kernel_rfl) (fun _ _ _ _ h => h) ⟨HSx.out _ HFx.out.drew, HSd.out _ HFx.out.drew⟩ (fun o ho => by cases ho; exact .inl ⟨by rfl, fun w hSw => by (obtain ⟨⟨hs1, _, _, _⟩, hs2, _, _, _⟩ := hSw; go_simp)⟩) ?_
                                    simp only [Act.put, List.setIfInBounds_toArray, List.set_cons_zero, List.set_cons_succ]
                                    refine takeH (i := 18) (d := some 160) (.bool lt2) rfl (by kernel_rfl) (by kernel_rfl) (by kernel_rfl) (fun _ _ _ _ h => h) ⟨HSx.out _ HFx.out.drew, HSd.out _ HFx.out.drew⟩ (fun o ho => by cases ho; exact .inl ⟨by rfl, fun w hSw => by (obtain ⟨⟨hs1, _, _, _⟩, hs2, _, _, _⟩ := hSw; go_simp)⟩) ?_
                                    simp only [Act.put, List.setIfInBounds_toArray, List.set_cons_zero, List.set_cons_succ]
                                    refine wpAnyH_done (by kernel_rfl) (NoPanic.normal ?_) _
                                    cases lt2 with
                                    | true =>
                                      have HF2 := hid HFq.out.drew
                                      go_wp2_with fail
                                      exact ⟨⟨i + 1, some i, some i, by omega, by go_num, rfl, rfl, HL2.out, (HYe.out rfl), HF2.out⟩, by simp [intOf]; omega⟩
                                    | false =>
                                      have HF2 := hid HFq.out.drew
                                      go_wp2_with fail
                                      exact ⟨⟨i + 1, some d, some i, by omega, by go_num, rfl, rfl, HL2.out, (HNo.out rfl), HF2.out⟩, by simp [intOf]; omega⟩
                              | false =>
                                have HL2 := hid (HLn.out rfl)
                                obtain ⟨k0, k1, k2, k3⟩ := HSx.out _ HFw.out.drew
                                go_wp2_with fail
                                refine HWt.out.mono ?_
                                rintro e wq ⟨rfl, fq⟩
                                have HFq := hid (HF.out.drew.trans fq (fun _ h => h.elim))
                                have HFx := hid (HFr.out.trans HFq.out (fun _ h => h.elim))
                                clear fq HWt k0 k1 k2 k3
                                cases hw : wtB l B l[i] with
                                | true =>
                                  have HN2 := hid (HN.out.skip (by rw [HAt.out, hw]; simp))
                                  clear hw HN
                                  go_wp2_with fail
                                  refine wp_region_noPanic ?_
                                  refine wp_region_held_drew (S := fun W' => fourB W' bb (bo + i * 4) y) (by kernel_rfl) (HSx.out _ HFx.out.drew) (fun _ => ?_)
                                  refine takeH (i := 0) (d := some 142) (.bool true) rfl (by kernel_rfl) (by kernel_rfl) (by kernel_rfl) (fun _ _ _ _ h => h) (HSx.out _ HFx.out.drew) (fun o ho => by cases ho; exact .inl ⟨by rfl, fun w hSw => by (obtain ⟨hs1, hs2, hs3, hs4⟩ := hSw; go_simp)⟩) ?_
                                  simp only [Act.put, List.setIfInBounds_toArray, List.set_cons_zero, List.set_cons_succ]
                                  refine takeH (i := 1) (d := some 143) (.bool false) rfl (by kernel_rfl) (by kernel_rfl) (by kernel_rfl) (fun _ _ _ _ h => h) (HSx.out _ HFx.out.drew) (fun o ho => by cases ho; exact .inl ⟨by rfl, fun w hSw => by (obtain ⟨hs1, hs2, hs3, hs4⟩ := hSw; go_simp)⟩) ?_
                                  simp only [Act.put, List.setIfInBounds_toArray, List.set_cons_zero, List.set_cons_succ]
                                  refine takeH (i := 2) (d := some 144) (.bool false) rfl (by kernel_rfl) (by kernel_rfl) (by kernel_rfl) (fun _ _ _ _ h => h) (HSx.out _ HFx.out.drew) (fun o ho => by cases ho; exact .inl ⟨by rfl, fun w hSw => by (obtain ⟨hs1, hs2, hs3, hs4⟩ := hSw; go_simp)⟩) ?_
                                  simp only [Act.put, List.setIfInBounds_toArray, List.set_cons_zero, List.set_cons_succ]
                                  refine takeH (i := 3) (d := some 145) undef rfl (by kernel_rfl) (by kernel_rfl) (by kernel_rfl) (fun _ _ _ _ h => h) (HSx.out _ HFx.out.drew) (fun o ho => by cases ho; exact .inr ⟨by rfl, rfl⟩) ?_
                                  simp only [Act.put, List.setIfInBounds_toArray, List.set_cons_zero, List.set_cons_succ]
                                  refine takeH (i := 4) (d := some 146) undef rfl (by kernel_rfl) (by kernel_rfl) (by kernel_rfl) (fun _ _ _ _ h => h) (HSx.out _ HFx.out.drew) (fun o ho => by cases ho; exact .inr ⟨by rfl, rfl⟩) ?_
                                  simp only [Act.put, List.setIfInBounds_toArray, List.set_cons_zero, List.set_cons_succ]
                                  refine takeH (i := 5) (d := some 147) undef rfl (by kernel_rfl) (by kernel_rfl) (by kernel_rfl) (fun _ _ _ _ h => h) (HSx.out _ HFx.out.drew) (fun o ho => by cases ho; exact .inr ⟨by rfl, rfl⟩) ?_
                                  simp only [Act.put, List.setIfInBounds_toArray, List.set_cons_zero, List.set_cons_succ]
                                  refine takeH (i := 6) (d := some 148) undef rfl (by kernel_rfl) (by kernel_rfl) (by kernel_rfl) (fun _ _ _ _ h => h) (HSx.out _ HFx.out.drew) (fun o ho => by cases ho; exact .inr ⟨by rfl, rfl⟩) ?_
                                  simp only [Act.put, List.setIfInBounds_toArray, List.set_cons_zero, List.set_cons_succ]
                                  refine takeH (i := 7) (d := some 149) undef rfl (by kernel_rfl) (by kernel_rfl) (by kernel_rfl) (fun _ _ _ _ h => h) (HSx.out _ HFx.out.drew) (fun o ho => by cases ho; exact .inr ⟨by rfl, rfl⟩) ?_
                                  simp only [Act.put, List.setIfInBounds_toArray, List.set_cons_zero, List.set_cons_succ]
                                  refine takeH (i := 8) (d := some 150) undef rfl (by kernel_rfl) (by kernel_rfl) (by kernel_rfl) (fun _ _ _ _ h => h) (HSx.out _ HFx.out.drew) (fun o ho => by cases ho; exact .inr ⟨by rfl, rfl⟩) ?_
                                  simp only [Act.put, List.setIfInBounds_toArray, List.set_cons_zero, List.set_cons_succ]
                                  refine takeH (i := 9) (d := some 151) undef rfl (by kernel_rfl) (by kernel_rfl) (by kernel_rfl) (fun _ _ _ _ h => h) (HSx.out _ HFx.out.drew) (fun o ho => by cases ho; exact .inr ⟨by rfl, rfl⟩) ?_
                                  simp only [Act.put, List.setIfInBounds_toArray, List.set_cons_zero, List.set_cons_succ]
                                  refine takeH (i := 10) (d := some 152) undef rfl (by kernel_rfl) (by kernel_rfl) (by kernel_rfl) (fun _ _ _ _ h => h) (HSx.out _ HFx.out.drew) (fun o ho => by cases ho; exact .inr ⟨by rfl, rfl⟩) ?_
                                  simp only [Act.put, List.setIfInBounds_toArray, List.set_cons_zero, List.set_cons_succ]
                                  refine takeH (i := 11) (d := some 153) undef rfl (by kernel_rfl) (by kernel_rfl) (by kernel_rfl) (fun _ _ _ _ h => h) (HSx.out _ HFx.out.drew) (fun o ho => by cases ho; exact .inr ⟨by rfl, rfl⟩) ?_
                                  simp only [Act.put, List.setIfInBounds_toArray, List.set_cons_zero, List.set_cons_succ]
                                  refine takeH (i := 12) (d := some 154) undef rfl (by kernel_rfl) (by kernel_rfl) (by kernel_rfl) (fun _ _ _ _ h => h) (HSx.out _ HFx.out.drew) (fun o ho => by cases ho; exact .inr ⟨by rfl, rfl⟩) ?_
                                  simp only [Act.put, List.setIfInBounds_toArray, List.set_cons_zero, List.set_cons_succ]
                                  refine takeH (i := 13) (d := some 155) undef rfl (by kernel_rfl) (by kernel_rfl) (by kernel_rfl) (fun _ _ _ _ h => h) (HSx.out _ HFx.out.drew) (fun o ho => by cases ho; exact .inr ⟨by rfl, rfl⟩) ?_
                                  simp only [Act.put, List.setIfInBounds_toArray, List.set_cons_zero, List.set_cons_succ]
                                  refine takeH (i := 14) (d := some 156) undef rfl (by kernel_rfl) (by kernel_rfl) (by kernel_rfl) (fun _ _ _ _ h => h) (HSx.out _ HFx.out.drew) (fun o ho => by cases ho; exact .inr ⟨by rfl, rfl⟩) ?_
                                  simp only [Act.put, List.setIfInBounds_toArray, List.set_cons_zero, List.set_cons_succ]
                                  refine takeH (i := 15) (d := some 157) undef rfl (by kernel_rfl) (by kernel_rfl) (by kernel_rfl) (fun _ _ _ _ h => h) (HSx.out _ HFx.out.drew) (fun o ho => by cases ho; exact .inr ⟨by rfl, rfl⟩) ?_
                                  simp only [Act.put, List.setIfInBounds_toArray, List.set_cons_zero, List.set_cons_succ]
                                  refine takeH (i := 16) (d := some 158) undef rfl (by kernel_rfl) (by kernel_rfl) (by kernel_rfl) (fun _ _ _ _ h => h) (HSx.out _ HFx.out.drew) (fun o ho => by cases ho; exact .inr ⟨by rfl, rfl⟩) ?_
                                  simp only [Act.put, List.setIfInBounds_toArray, List.set_cons_zero, List.set_cons_succ]
                                  refine takeH (i := 17) (d := some 159) undef rfl (by kernel_rfl) (by kernel_rfl) (by kernel_rfl) (fun _ _ _ _ h => h) (HSx.out _ HFx.out.drew) (fun o ho => by cases ho; exact .inr ⟨by rfl, rfl⟩) ?_
                                  simp only [Act.put, List.setIfInBounds_toArray, List.set_cons_zero, List.set_cons_succ]
                                  refine takeH (i := 18) (d := some 160) (.bool false) rfl (by kernel_rfl) (by kernel_rfl) (by kernel_rfl) (fun _ _ _ _ h => h) (HSx.out _ HFx.out.drew) (fun o ho => by cases ho; exact .inl ⟨by rfl, fun w hSw => by (obtain ⟨hs1, hs2, hs3, hs4⟩ := hSw; go_simp)⟩) ?_
                                  simp only [Act.put, List.setIfInBounds_toArray, List.set_cons_zero, List.set_cons_succ]
                                  refine wpAnyH_done (by kernel_rfl) (NoPanic.normal ?_) _
                                  have HF2 := hid HFq.out.drew
                                  go_wp2_with fail
                                  exact ⟨⟨i + 1, bn, some c, by omega, by go_num, HZv.out.symm, rfl, HL2.out, HN2.out, HF2.out⟩, by simp [intOf]; omega⟩
                                | false =>
                                  cases bn with
                                  | none =>
                                    have HN2 := hid (HN.out.turn hil (by rw [HAt.out, hbi, hw]; rfl) (fun c e => by cases e))
                                    obtain rfl : zv = -1 := by have h : Value.int .i64 (-1) = .int .i64 zv := HZv.out; injection h with _ h2; exact h2.symm
                                    clear hw HN HZv
                                    go_wp2_with fail
                                    refine wp_region_noPanic ?_
                                    refine wp_region_held_drew (S := fun W' => fourB W' bb (bo + i * 4) y) (by kernel_rfl) (HSx.out _ HFx.out.drew) (fun _ => ?_)
                                    refine takeH (i := 0) (d := some 142) (.bool false) rfl (by kernel_rfl) (by kernel_rfl) (by kernel_rfl) (fun _ _ _ _ h => h) (HSx.out _ HFx.out.drew) (fun o ho => by cases ho; exact .inl ⟨by rfl, fun w hSw => by (obtain ⟨hs1, hs2, hs3, hs4⟩ := hSw; go_simp)⟩) ?_
                                    simp only [Act.put, List.setIfInBounds_toArray, List.set_cons_zero, List.set_cons_succ]
                                    refine takeH (i := 1) (d := some 143) (.bool true) rfl (by kernel_rfl) (by kernel_rfl) (by kernel_rfl) (fun _ _ _ _ h => h) (HSx.out _ HFx.out.drew) (fun o ho => by cases ho; exact .inl ⟨by rfl, fun w hSw => by (obtain ⟨hs1, hs2, hs3, hs4⟩ := hSw; go_simp)⟩) ?_
                                    simp only [Act.put, List.setIfInBounds_toArray, List.set_cons_zero, List.set_cons_succ]
                                    refine takeH (i := 2) (d := some 144) (.bool true) rfl (by kernel_rfl) (by kernel_rfl) (by kernel_rfl) (fun _ _ _ _ h => h) (HSx.out _ HFx.out.drew) (fun o ho => by cases ho; exact .inl ⟨by rfl, fun w hSw => by (obtain ⟨hs1, hs2, hs3, hs4⟩ := hSw; go_simp)⟩) ?_
                                    simp only [Act.put, List.setIfInBounds_toArray, List.set_cons_zero, List.set_cons_succ]
                                    refine takeH (i := 3) (d := some 145) (.int .i64 (-1)) rfl (by kernel_rfl) (by kernel_rfl) (by kernel_rfl) (fun _ _ _ _ h => h) (HSx.out _ HFx.out.drew) (fun o ho => by cases ho; exact .inl ⟨by rfl, fun w hSw => by (obtain ⟨hs1, hs2, hs3, hs4⟩ := hSw; go_simp)⟩) ?_
                                    simp only [Act.put, List.setIfInBounds_toArray, List.set_cons_zero, List.set_cons_succ]
                                    refine takeH (i := 4) (d := some 146) (.bool true) rfl (by kernel_rfl) (by kernel_rfl) (by kernel_rfl) (fun _ _ _ _ h => h) (HSx.out _ HFx.out.drew) (fun o ho => by cases ho; exact .inl ⟨by rfl, fun w hSw => by (obtain ⟨hs1, hs2, hs3, hs4⟩ := hSw; go_simp)⟩) ?_
                                    simp only [Act.put, List.setIfInBounds_toArray, List.set_cons_zero, List.set_cons_succ]
                                    refine takeH (i := 5) (d := some 147) (.bool true) rfl (by kernel_rfl) (by kernel_rfl) (by kernel_rfl) (fun _ _ _ _ h => h) (HSx.out _ HFx.out.drew) (fun o ho => by cases ho; exact .inl ⟨by rfl, fun w hSw => by (obtain ⟨hs1, hs2, hs3, hs4⟩ := hSw; go_simp)⟩) ?_
                                    simp only [Act.put, List.setIfInBounds_toArray, List.set_cons_zero, List.set_cons_succ]
                                    refine takeH (i := 6) (d := some 148) undef rfl (by kernel_rfl) (by kernel_rfl) (by kernel_rfl) (fun _ _ _ _ h => h) (HSx.out _ HFx.out.drew) (fun o ho => by cases ho; exact .inr ⟨by rfl, rfl⟩) ?_
                                    simp only [Act.put, List.setIfInBounds_toArray, List.set_cons_zero, List.set_cons_succ]
                                    refine takeH (i := 7) (d := some 149) undef rfl (by kernel_rfl) (by kernel_rfl) (by kernel_rfl) (fun _ _ _ _ h => h) (HSx.out _ HFx.out.drew) (fun o ho => by cases ho; exact .inr ⟨by rfl, rfl⟩) ?_
                                    simp only [Act.put, List.setIfInBounds_toArray, List.set_cons_zero, List.set_cons_succ]
                                    refine takeH (i := 8) (d := some 150) undef rfl (by kernel_rfl) (by kernel_rfl) (by kernel_rfl) (fun _ _ _ _ h => h) (HSx.out _ HFx.out.drew) (fun o ho => by cases ho; exact .inr ⟨by rfl, rfl⟩) ?_
                                    simp only [Act.put, List.setIfInBounds_toArray, List.set_cons_zero, List.set_cons_succ]
                                    refine takeH (i := 9) (d := some 151) undef rfl (by kernel_rfl) (by kernel_rfl) (by kernel_rfl) (fun _ _ _ _ h => h) (HSx.out _ HFx.out.drew) (fun o ho => by cases ho; exact .inr ⟨by rfl, rfl⟩) ?_
                                    simp only [Act.put, List.setIfInBounds_toArray, List.set_cons_zero, List.set_cons_succ]
                                    refine takeH (i := 10) (d := some 152) undef rfl (by kernel_rfl) (by kernel_rfl) (by kernel_rfl) (fun _ _ _ _ h => h) (HSx.out _ HFx.out.drew) (fun o ho => by cases ho; exact .inr ⟨by rfl, rfl⟩) ?_
                                    simp only [Act.put, List.setIfInBounds_toArray, List.set_cons_zero, List.set_cons_succ]
                                    refine takeH (i := 11) (d := some 153) undef rfl (by kernel_rfl) (by kernel_rfl) (by kernel_rfl) (fun _ _ _ _ h => h) (HSx.out _ HFx.out.drew) (fun o ho => by cases ho; exact .inr ⟨by rfl, rfl⟩) ?_
                                    simp only [Act.put, List.setIfInBounds_toArray, List.set_cons_zero, List.set_cons_succ]
                                    refine takeH (i := 12) (d := some 154) undef rfl (by kernel_rfl) (by kernel_rfl) (by kernel_rfl) (fun _ _ _ _ h => h) (HSx.out _ HFx.out.drew) (fun o ho => by cases ho; exact .inr ⟨by rfl, rfl⟩) ?_
                                    simp only [Act.put, List.setIfInBounds_toArray, List.set_cons_zero, List.set_cons_succ]
                                    refine takeH (i := 13) (d := some 155) undef rfl (by kernel_rfl) (by kernel_rfl) (by kernel_rfl) (fun _ _ _ _ h => h) (HSx.out _ HFx.out.drew) (fun o ho => by cases ho; exact .inr ⟨by rfl, rfl⟩) ?_
                                    simp only [Act.put, List.setIfInBounds_toArray, List.set_cons_zero, List.set_cons_succ]
                                    refine takeH (i := 14) (d := some 156) undef rfl (by kernel_rfl) (by kernel_rfl) (by kernel_rfl) (fun _ _ _ _ h => h) (HSx.out _ HFx.out.drew) (fun o ho => by cases ho; exact .inr ⟨by rfl, rfl⟩) ?_
                                    simp only [Act.put, List.setIfInBounds_toArray, List.set_cons_zero, List.set_cons_succ]
                                    refine takeH (i := 15) (d := some 157) undef rfl (by kernel_rfl) (by kernel_rfl) (by kernel_rfl) (fun _ _ _ _ h => h) (HSx.out _ HFx.out.drew) (fun o ho => by cases ho; exact .inr ⟨by rfl, rfl⟩) ?_
                                    simp only [Act.put, List.setIfInBounds_toArray, List.set_cons_zero, List.set_cons_succ]
                                    refine takeH (i := 16) (d := some 158) undef rfl (by kernel_rfl) (by kernel_rfl) (by kernel_rfl) (fun _ _ _ _ h => h) (HSx.out _ HFx.out.drew) (fun o ho => by cases ho; exact .inr ⟨by rfl, rfl⟩) ?_
                                    simp only [Act.put, List.setIfInBounds_toArray, List.set_cons_zero, List.set_cons_succ]
                                    refine takeH (i := 17) (d := some 159) (.bool true) rfl (by kernel_rfl) (by kernel_rfl) (by kernel_rfl) (fun _ _ _ _ h => h) (HSx.out _ HFx.out.drew) (fun o ho => by cases ho; exact .inl ⟨by rfl, fun w hSw => by (obtain ⟨hs1, hs2, hs3, hs4⟩ := hSw; go_simp)⟩) ?_
                                    simp only [Act.put, List.setIfInBounds_toArray, List.set_cons_zero, List.set_cons_succ]
                                    refine takeH (i := 18) (d := some 160) (.bool true) rfl (by kernel_rfl) (by kernel_rfl) (by kernel_rfl) (fun _ _ _ _ h => h) (HSx.out _ HFx.out.drew) (fun o ho => by cases ho; exact .inl ⟨by rfl, fun w hSw => by (obtain ⟨hs1, hs2, hs3, hs4⟩ := hSw; go_simp)⟩) ?_
                                    simp only [Act.put, List.setIfInBounds_toArray, List.set_cons_zero, List.set_cons_succ]
                                    refine wpAnyH_done (by kernel_rfl) (NoPanic.normal ?_) _
                                    have HF2 := hid HFq.out.drew
                                    go_wp2_with fail
                                    exact ⟨⟨i + 1, some i, some c, by omega, by go_num, rfl, rfl, HL2.out, HN2.out, HF2.out⟩, by simp [intOf]; omega⟩
                                  | some d =>
                                    have hdl := HN.out.2.1
                                    obtain ⟨z2, z21, z22⟩ := HU.out.get d hdl
                                    have HSd : Hid (∀ W', Fr (fun _ => False) w W' → fourB W' bb (bo + d * 4) z2) := fun W' f => (z21.env (Env.of f)).all
                                    have hzd : z2.n = (l[d]?.getD default).n := by rw [z22.n, List.getElem?_eq_getElem hdl]; rfl
                                    have hd1 : (d : Int) < ((l.length : Nat) : Int) := by omega
                                    have hd0 : (0 : Int) ≤ (d : Int) := Int.natCast_nonneg _
                                    have hd2 : decide ((d : Int) < 0) = false := decide_eq_false (by omega)
                                    have hls : Op.bytesLess y.n z2.n = decide (y.n < z2.n) := less_eq _ _
                                    obtain ⟨lt2, hlt2⟩ : ∃ b, b = decide (y.n < z2.n) := ⟨_, rfl⟩
                                    rw [← hlt2] at hls
                                    have HYe : Hid (lt2 = true → Bst l (fun j => B j && !wtB l B (l[j]?.getD default)) (i + 1) (some i)) := fun h => HN.out.turn hil (by rw [HAt.out, hbi, hw]; rfl) (fun c e => by cases e; rw [← HYn.out, ← hzd]; exact of_decide_eq_true (hlt2.symm.trans h))
                                    have HNo : Hid (lt2 = false → Bst l (fun j => B j && !wtB l B (l[j]?.getD default)) (i + 1) (some d)) := fun h => HN.out.stay (by rw [← HYn.out, ← hzd]; exact of_decide_eq_false (hlt2.symm.trans h))
                                    obtain rfl : zv = (d : Int) := by have h : Value.int .i64 (d : Int) = .int .i64 zv := HZv.out; injection h with _ h2; exact h2.symm
                                    clear hw HN hlt2 hzd z21 z22 HZv
                                    go_wp2_with fail
                                    refine wp_region_noPanic ?_
                                    refine wp_region_held_drew (S := fun W' => fourB W' bb (bo + i * 4) y ∧ fourB W' bb (bo + d * 4) z2) (by kernel_rfl) ⟨HSx.out _ HFx.out.drew, HSd.out _ HFx.out.drew⟩ (fun _ => ?_)
                                    refine takeH (i := 0) (d := some 142) (.bool false) rfl (by kernel_rfl) (by kernel_rfl) (by kernel_rfl) (fun _ _ _ _ h => h) ⟨HSx.out _ HFx.out.drew, HSd.out _ HFx.out.drew⟩ (fun o ho => by cases ho; exact .inl ⟨by rfl, fun w hSw => by (obtain ⟨⟨hs1, _, _, _⟩, hs2, _, _, _⟩ := hSw; go_simp)⟩) ?_
                                    simp only [Act.put, List.setIfInBounds_toArray, List.set_cons_zero, List.set_cons_succ]
                                    refine takeH (i := 1) (d := some 143) (.bool true) rfl (by kernel_rfl) (by kernel_rfl) (by kernel_rfl) (fun _ _ _ _ h => h) ⟨HSx.out _ HFx.out.drew, HSd.out _ HFx.out.drew⟩ (fun o ho => by cases ho; exact .inl ⟨by rfl, fun w hSw => by (obtain ⟨⟨hs1, _, _, _⟩, hs2, _, _, _⟩ := hSw; go_simp)⟩) ?_
                                    simp only [Act.put, List.setIfInBounds_toArray, List.set_cons_zero, List.set_cons_succ]
                                    refine takeH (i := 2) (d := some 144) (.bool true) rfl (by kernel_rfl) (by kernel_rfl) (by kernel_rfl) (fun _ _ _ _ h => h) ⟨HSx.out _ HFx.out.drew, HSd.out _ HFx.out.drew⟩ (fun o ho => by cases ho; exact .inl ⟨by rfl, fun w hSw => by (obtain ⟨⟨hs1, _, _, _⟩, hs2, _, _, _⟩ := hSw; go_simp)⟩) ?_
                                    simp only [Act.put, List.setIfInBounds_toArray, List.set_cons_zero, List.set_cons_succ]
                                    refine takeH (i := 3) (d := some 145) (.int .i64 (d : Int)) rfl (by kernel_rfl) (by kernel_rfl) (by kernel_rfl) (fun _ _ _ _ h => h) ⟨HSx.out _ HFx.out.drew, HSd.out _ HFx.out.drew⟩ (fun o ho => by cases ho; exact .inl ⟨by rfl, fun w hSw => by (obtain ⟨⟨hs1, _, _, _⟩, hs2, _, _, _⟩ := hSw; go_simp)⟩) ?_
                                    simp only [Act.put, List.setIfInBounds_toArray, List.set_cons_zero, List.set_cons_succ]
                                    refine takeH (i := 4) (d := some 146) (.bool false) rfl (by kernel_rfl) (by kernel_rfl) (by kernel_rfl) (fun _ _ _ _ h => h) ⟨HSx.out _ HFx.out.drew, HSd.out _ HFx.out.drew⟩ (fun o ho => by cases ho; exact .inl ⟨by rfl, fun w hSw => by (obtain ⟨⟨hs1, _, _, _⟩, hs2, _, _, _⟩ := hSw; go_simp)⟩) ?_
                                    simp only [Act.put, List.setIfInBounds_toArray, List.set_cons_zero, List.set_cons_succ]
                                    refine takeH (i := 5) (d := some 147) (.bool false) rfl (by kernel_rfl) (by kernel_rfl) (by kernel_rfl) (fun _ _ _ _ h => h) ⟨HSx.out _ HFx.out.drew, HSd.out _ HFx.out.drew⟩ (fun o ho => by cases ho; exact .inl ⟨by rfl, fun w hSw => by (obtain ⟨⟨hs1, _, _, _⟩, hs2, _, _, _⟩ := hSw; go_simp)⟩) ?_
                                    simp only [Act.put, List.setIfInBounds_toArray, List.set_cons_zero, List.set_cons_succ]
                                    refine takeH (i := 6) (d := some 148) (.slice (some ⟨bb, bo, none⟩) l.length cap) rfl (by kernel_rfl) (by kernel_rfl) (by kernel_rfl) (fun _ _ _ _ h => h) ⟨HSx.out _ HFx.out.drew, HSd.out _ HFx.out.drew⟩ (fun o ho => by cases ho; exact .inl ⟨by rfl, fun w hSw => by (obtain ⟨⟨hs1, _, _, _⟩, hs2, _, _, _⟩ := hSw; go_simp)⟩) ?_
                                    simp only [Act.put, List.setIfInBounds_toArray, List.set_cons_zero, List.set_cons_succ]
                                    refine takeH (i := 7) (d := some 149) (.int .i64 (i : Int)) rfl (by kernel_rfl) (by kernel_rfl) (by kernel_rfl) (fun _ _ _ _ h => h) ⟨HSx.out _ HFx.out.drew, HSd.out _ HFx.out.drew⟩ (fun o ho => by cases ho; exact .inl ⟨by rfl, fun w hSw => by (obtain ⟨⟨hs1, _, _, _⟩, hs2, _, _, _⟩ := hSw; go_simp)⟩) ?_
                                    simp only [Act.put, List.setIfInBounds_toArray, List.set_cons_zero, List.set_cons_succ]
                                    refine takeH (i := 8) (d := some 150) (.pointer (some ⟨bb, bo + i * 4, none⟩)) rfl (by kernel_rfl) (by kernel_rfl) (by kernel_rfl) (fun _ _ _ _ h => h) ⟨HSx.out _ HFx.out.drew, HSd.out _ HFx.out.drew⟩ (fun o ho => by cases ho; exact .inl ⟨by rfl, fun w hSw => by (obtain ⟨⟨hs1, _, _, _⟩, hs2, _, _, _⟩ := hSw; go_simp)⟩) ?_
                                    simp only [Act.put, List.setIfInBounds_toArray, List.set_cons_zero, List.set_cons_succ]
                                    refine takeH (i := 9) (d := some 151) (.pointer (some ⟨bb, bo + i * 4, none⟩)) rfl (by kernel_rfl) (by kernel_rfl) (by kernel_rfl) (fun _ _ _ _ h => h) ⟨HSx.out _ HFx.out.drew, HSd.out _ HFx.out.drew⟩ (fun o ho => by cases ho; exact .inl ⟨by rfl, fun w hSw => by (obtain ⟨⟨hs1, _, _, _⟩, hs2, _, _, _⟩ := hSw; go_simp)⟩) ?_
                                    simp only [Act.put, List.setIfInBounds_toArray, List.set_cons_zero, List.set_cons_succ]
                                    refine takeH (i := 10) (d := some 152) (.string ⟨y.n.toArray⟩) rfl (by kernel_rfl) (by kernel_rfl) (by kernel_rfl) (fun _ _ _ _ h => h) ⟨HSx.out _ HFx.out.drew, HSd.out _ HFx.out.drew⟩ (fun o ho => by cases ho; exact .inl ⟨by rfl, fun w hSw => by (obtain ⟨⟨hs1, _, _, _⟩, hs2, _, _, _⟩ := hSw; go_simp)⟩) ?_
                                    simp only [Act.put, List.setIfInBounds_toArray, List.set_cons_zero, List.set_cons_succ]
                                    refine takeH (i := 11) (d := some 153) (.slice (some ⟨bb, bo, none⟩) l.length cap) rfl (by kernel_rfl) (by kernel_rfl) (by kernel_rfl) (fun _ _ _ _ h => h) ⟨HSx.out _ HFx.out.drew, HSd.out _ HFx.out.drew⟩ (fun o ho => by cases ho; exact .inl ⟨by rfl, fun w hSw => by (obtain ⟨⟨hs1, _, _, _⟩, hs2, _, _, _⟩ := hSw; go_simp)⟩) ?_
                                    simp only [Act.put, List.setIfInBounds_toArray, List.set_cons_zero, List.set_cons_succ]
                                    refine takeH (i := 12) (d := some 154) (.int .i64 (d : Int)) rfl (by kernel_rfl) (by kernel_rfl) (by kernel_rfl) (fun _ _ _ _ h => h) ⟨HSx.out _ HFx.out.drew, HSd.out _ HFx.out.drew⟩ (fun o ho => by cases ho; exact .inl ⟨by rfl, fun w hSw => by (obtain ⟨⟨hs1, _, _, _⟩, hs2, _, _, _⟩ := hSw; go_simp)⟩) ?_
                                    simp only [Act.put, List.setIfInBounds_toArray, List.set_cons_zero, List.set_cons_succ]
                                    refine takeH (i := 13) (d := some 155) (.pointer (some ⟨bb, bo + d * 4, none⟩)) rfl (by kernel_rfl) (by kernel_rfl) (by kernel_rfl) (fun _ _ _ _ h => h) ⟨HSx.out _ HFx.out.drew, HSd.out _ HFx.out.drew⟩ (fun o ho => by cases ho; exact .inl ⟨by rfl, fun w hSw => by (obtain ⟨⟨hs1, _, _, _⟩, hs2, _, _, _⟩ := hSw; go_simp)⟩) ?_
                                    simp only [Act.put, List.setIfInBounds_toArray, List.set_cons_zero, List.set_cons_succ]
                                    refine takeH (i := 14) (d := some 156) (.pointer (some ⟨bb, bo + d * 4, none⟩)) rfl (by kernel_rfl) (by kernel_rfl) (by kernel_rfl) (fun _ _ _ _ h => h) ⟨HSx.out _ HFx.out.drew, HSd.out _ HFx.out.drew⟩ (fun o ho => by cases ho; exact .inl ⟨by rfl, fun w hSw => by (obtain ⟨⟨hs1, _, _, _⟩, hs2, _, _, _⟩ := hSw; go_simp)⟩) ?_
                                    simp only [Act.put, List.setIfInBounds_toArray, List.set_cons_zero, List.set_cons_succ]
                                    refine takeH (i := 15) (d := some 157) (.string ⟨z2.n.toArray⟩) rfl (by kernel_rfl) (by kernel_rfl) (by kernel_rfl) (fun _ _ _ _ h => h) ⟨HSx.out _ HFx.out.drew, HSd.out _ HFx.out.drew⟩ (fun o ho => by cases ho; exact .inl ⟨by rfl, fun w hSw => by (obtain ⟨⟨hs1, _, _, _⟩, hs2, _, _, _⟩ := hSw; go_simp)⟩) ?_
                                    simp only [Act.put, List.setIfInBounds_toArray, List.set_cons_zero, List.set_cons_succ]
                                    refine takeH (i := 16) (d := some 158) (.bool lt2) rfl (by kernel_rfl) (by kernel_rfl) (by kernel_rfl) (fun _ _ _ _ h => h) ⟨HSx.out _ HFx.out.drew, HSd.out _ HFx.out.drew⟩ (fun o ho => by cases ho; exact .inl ⟨by rfl, fun w hSw => by (obtain ⟨⟨hs1, _, _, _⟩, hs2, _, _, _⟩ := hSw; go_simp)⟩) ?_
                                    simp only [Act.put, List.setIfInBounds_toArray, List.set_cons_zero, List.set_cons_succ]
                                    refine takeH (i := 17) (d := some 159) (.bool lt2) rfl (by kernel_rfl) (by kernel_rfl) (by kernel_rfl) (fun _ _ _ _ h => h) ⟨HSx.out _ HFx.out.drew, HSd.out _ HFx.out.drew⟩ (fun o ho => by cases ho; exact .inl ⟨by rfl, fun w hSw => by (obtain ⟨⟨hs1, _, _, _⟩, hs2, _, _, _⟩ := hSw; go_simp)⟩) ?_
                                    simp only [Act.put, List.setIfInBounds_toArray, List.set_cons_zero, List.set_cons_succ]
                                    refine takeH (i := 18) (d := some 160) (.bool lt2) rfl (by kernel_rfl) (by kernel_rfl) (by kernel_rfl) (fun _ _ _ _ h => h) ⟨HSx.out _ HFx.out.drew, HSd.out _ HFx.out.drew⟩ (fun o ho => by cases ho; exact .inl ⟨by rfl, fun w hSw => by (obtain ⟨⟨hs1, _, _, _⟩, hs2, _, _, _⟩ := hSw; go_simp)⟩) ?_
                                    simp only [Act.put, List.setIfInBounds_toArray, List.set_cons_zero, List.set_cons_succ]
                                    refine wpAnyH_done (by kernel_rfl) (NoPanic.normal ?_) _
                                    cases lt2 with
                                    | true =>
                                      have HF2 := hid HFq.out.drew
                                      go_wp2_with fail
                                      exact ⟨⟨i + 1, some i, some c, by omega, by go_num, rfl, rfl, HL2.out, (HYe.out rfl), HF2.out⟩, by simp [intOf]; omega⟩
                                    | false =>
                                      have HF2 := hid HFq.out.drew
                                      go_wp2_with fail
                                      exact ⟨⟨i + 1, some d, some c, by omega, by go_num, rfl, rfl, HL2.out, (HNo.out rfl), HF2.out⟩, by simp [intOf]; omega⟩
                        · have hi1 : ¬ ((i : Int) < ((l.length : Nat) : Int)) := by omega
                          obtain rfl : i = l.length := by omega
                          have HFw := hid (HFr.out.trans HF.out (fun _ h => h.elim))
                          cases bn with
                          | none =>
                            cases bl with
                            | none =>
                              exfalso
                              have h1 := lft_none HNd.out HL.out
                              have h2 := HM.out.1
                              have h3 := HM.out.2.2
                              have h4 := HXl.out
                              omega
                            | some c =>
                              have hcl := HL.out.2.1
                              obtain ⟨bb, bo, rfl⟩ := HU.out.some hcl
                              obtain ⟨z, z1, z2⟩ := HU.out.get c hcl
                              have hzn : z.n = (l[c]?.getD default).n := by rw [z2.n, List.getElem?_eq_getElem hcl]; rfl
                              have HR : Hid (ordF l = ([], z.n, 29)) := by
                                unfold Hid
                                rw [hzn]
                                refine HOrd.out.2 [] _ ?_
                                rw [← HRun.out]
                                exact run_end HNd.out HL.out HN.out (by have := HM.out.1; have := HM.out.2.1; omega)
                              obtain ⟨d0, _, _, _⟩ := (z1.env (Env.of HFw.out)).all
                              have hc1 : (c : Int) < ((l.length : Nat) : Int) := by omega
                              have hc0 : (0 : Int) ≤ (c : Int) := Int.natCast_nonneg _
                              have hn1 : decide ((-1 : Int) < 0) = true := by decide
                              clear z1 z2 hzn HL HN
                              generalize z.n = zn at *
                              simp only [ixV]
                              go_wp2_with fail
                              go_region
                              all_goals
                                have HF2 := hid HFw.out.drew
                                go_wp2_with fail
                                go_ret3
                                refine ⟨HF2.out, .slice none 0 0, [], ?_, ?_⟩
                                · rw [HR.out]; rfl
                                · rw [HR.out]; exact row_none _ _ _
                          | some d =>
                            have hdl := HN.out.2.1
                            obtain ⟨bb, bo, rfl⟩ := HU.out.some hdl
                            obtain ⟨z, z1, z2⟩ := HU.out.get d hdl
                            have hd1 : (d : Int) < ((l.length : Nat) : Int) := by omega
                            have hd0 : (0 : Int) ≤ (d : Int) := Int.natCast_nonneg _
                            have hd2 : decide ((d : Int) < 0) = false := decide_eq_false (by omega)
                            have HAt : Hid ((l[d]?.getD default) = l[d]) := by unfold Hid; rw [List.getElem?_eq_getElem hdl]; rfl
                            obtain ⟨f', hf1, hf2, hf3⟩ := run_go (out := out) (f := f) HNd.out HN.out (by have := HM.out.1; have := HM.out.2.1; omega)
                            have HGo := hid (And.intro (hf1.symm.trans HRun.out) (And.intro hf2 hf3))
                            have hBw := HF.out.blk HB.out (fun h => h)
                            have q0 := hBw.cell d
                            rw [boC_at _ hdl] at q0
                            have z0 := hBw.frozen d
                            have HB2 := hid (bo_put (B' := updB B d) hBw (v := false) (i := d) (fun q _ => rfl))
                            have HF2 : Hid (Fr (fun _ => False) w (wr.setCell ⟨lb, d, none⟩ (.bool false))) := HFw.out.setCell (p := ⟨lb, d, none⟩) (.inr hlbw) _
                            have HO2 : Hid ((wr.setCell ⟨lb, d, none⟩ (.bool false)).ownsRow (lb + 1) 32 4 (.slice oa X.length oc) X.length (flatU X)) := by
                              have h1 := own_fr HOwn.out HF.out (fun _ _ h => h)
                              exact own_fr h1 ((Fr.refl (fun k => k = lb) wr).setCell (p := ⟨lb, d, none⟩) (.inl rfl) _) (fun k hk e => by have := (own_lt h1 k hk).1; omega)
                            have hbs : lb + 1 ≤ (wr.setCell ⟨lb, d, none⟩ (.bool false)).heap.size := HB2.out.lt
                            obtain ⟨zl, hzl⟩ : ∃ z : Int, ixV bl = .int .i64 z := ⟨_, rfl⟩
                            rw [hzl]
                            clear hzl
                            clear hf1 hf2 hf3 hBw HL HN HRun HOwn HF HFw
                            have HSz : Hid (fourB (wr.setCell ⟨lb, d, none⟩ (.bool false)) bb (bo + d * 4) z) := (z1.env (Env.of HF2.out)).all
                            clear z1
                            simp only [ixV]
                            obtain ⟨k0, k1, k2, k3⟩ := HSz.out
                            have HZ2 := hid z2
                            clear z2
                            obtain ⟨n', s', ra', rl', rc', aa', al', ac'⟩ := z
                            simp only at k0 k1 k2 k3
                            have HOw := hid (HO2.out.alloc (.cells (Uv.cs ⟨n', s', ra', rl', rc', aa', al', ac'⟩).toArray 32))
                            have HBx := hid (uBlk (wr.setCell ⟨lb, d, none⟩ (.bool false)) ⟨n', s', ra', rl', rc', aa', al', ac'⟩)
                            have hsz : (wr.setCell ⟨lb, d, none⟩ (.bool false)).heap.size = wr.heap.size := by simp
                            rw [hsz] at HBx
                            clear hsz
                            have hbase2 : lb + 1 ≤ (uBox (wr.setCell ⟨lb, d, none⟩ (.bool false)) ⟨n', s', ra', rl', rc', aa', al', ac'⟩).heap.size := Nat.le_trans hbs (uFr (wr.setCell ⟨lb, d, none⟩ (.bool false)) ⟨n', s', ra', rl', rc', aa', al', ac'⟩).size
                            have HB5 := hid (HB2.out.alloc (.cells (Uv.cs ⟨n', s', ra', rl', rc', aa', al', ac'⟩).toArray 32))
                            have HF5 := hid (HF2.out.alloc (.cells (Uv.cs ⟨n', s', ra', rl', rc', aa', al', ac'⟩).toArray 32))
                            have hXb : X.length ≤ 1000 := by have := HXl.out; have := HM.out.2.2; omega
                            clear HO2 HB2 HF2 HB HFr HSz
                            simp only [uBox, Uv.cs] at *
                            go_wp2_with (at_builtin; refine Hid.out ?_)
                            refine wpList_app_U (by rfl) _ _ (by rfl) (lb + 1) _ X [⟨n', s', ra', rl', rc', aa', al', ac'⟩] (some ⟨wr.heap.size, 0, none⟩) 1 (by rfl) (by rfl) HOw.out (fun _ => ⟨wr.heap.size, 0, rfl, fun q u hq => by rw [Nat.zero_add, HBx.out.cell q]; simpa [flatU, Uv.cs] using hq⟩) hbase2 (by simp; omega) ?_
                            intro v' W' ho hg _
                            have HF6 := hid (HF5.out.grown hg (fun k hk => .inr (by have := (own_lt HOw.out k hk).1; omega)))
                            have HB6 := hid (HB5.out.of_eq (hg.block _ HB5.out.lt (fun e => by have := (own_lt HOw.out _ e.symm).1; omega)))
                            have HO6 := hid ho
                            clear ho hg HOw HBx HB5 HF5 hbase2 hbs k0 k1 k2 k3 q0 z0
                            go_wp2_with fail
                            go_roundg (lft l (updB B d)).length
                            case measure => have := HGo.out.2.2; have := HM.out.1; omega
                            case rel => exact ⟨updB B d, f', out ++ [l[d]?.getD default], X ++ [⟨n', s', ra', rl', rc', aa', al', ac'⟩], rfl, HGo.out.2.1, by have := HGo.out.2.2; have := HM.out.1; have := HM.out.2.2; simp; omega, HGo.out.1, HB6.out, HF6.out, HO6.out, by rw [HAt.out]; exact HRow.out.app (RowIs.one HZ2.out)⟩
                    · have hx1 : ¬ ((X.length : Nat) : Int) < ((l.length : Nat) : Int) := by omega
                      have HR : Hid (ordF l = (out, [], 0)) := by
                        have hz : (lft l B).length = 0 := by have := HM.out.1; have := HM.out.2.2; have := HXl.out; omega
                        refine HOrd.out.1 out ?_
                        rw [← HRun.out, List.eq_nil_of_length_eq_zero hz, runF_nil]
                      go_wp2_with fail
                      go_ret3
                      refine ⟨HFr.out, .slice oa X.length oc, X, ?_, ?_⟩
                      · rw [HR.out]; rfl
                      · rw [HR.out]; exact ⟨owns_down HOwn.out (by omega), HRow.out⟩
end Go.Proofs.YtcpeebkfnnkjnaaDoor.Tr
