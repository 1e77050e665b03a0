/- The contract of waiting. -/
import Derived.Test.YtcpeebkfnnkjnaaDoorUwt
namespace Go.Proofs.YtcpeebkfnnkjnaaDoor.Tr
open Go.RowKit Go.Maps

theorem mk_groups (w : World) (m : Nat) (hm : m ≤ 1000000) : (Instr.makeSlice 65 (.int .i64 (m : Int)) (.int .i64 (m : Int))).run Tryd.prog w = .ok (.slice (some ⟨w.heap.size, 0, none⟩) m m) (w.alloc (.cells (grC m (fun _ => 0)).toArray 68)) := by
  obtain ⟨i, hi⟩ := Option.isSome_iff_exists.1 (by kernel_rfl : (Tryd.prog.info? 68).isSome = true)
  have hz : (Tryd.prog.info? 68).bind (·.zero) = some (.int .u32 0) := by kernel_rfl
  have hs : (Tryd.prog.info? 68).map (·.size) = some 1 := by kernel_rfl
  have hb : (Tryd.prog.info? 68).map (·.bytes) = some 4 := by kernel_rfl
  rw [hi] at hz hs hb
  simp only [Option.bind_some, Option.map_some, Option.some.injEq] at hz hs hb
  have h := run_make (P := Tryd.prog) w 65 68 i (.int .u32 0) Tryd.underlying65 hi hz .i64 .i64 m m (by omega) (Int.le_refl _) (by rw [hb]; omega) (by omega)
  rw [h, hs]
  simp only [Int.toNat_natCast, Nat.mul_one]
  have e : madeCells (Value.int .u32 0).cells m = (grC m (fun _ => 0)).toArray := by
    apply Array.toList_inj.1
    have e2 := toList_madeCells_one (.int .u32 0) m
    refine Eq.trans e2 ?_
    simp only [grC]
    exact (List.eq_replicate_iff.2 ⟨by simp, fun b hb => by
      obtain ⟨_, _, h⟩ := List.mem_map.1 hb
      exact h.symm⟩).symm
  rw [e]
/-- What each unit waits for. -/
def wgF (R l : List Ut) (q : Nat) : Nat := mk R ((l[q]?.getD default).r ++ (l[q]?.getD default).a)
theorem upd_same (f : Nat → Nat) (a : Nat) : upd f a (f a) = f := by
  funext b; unfold upd; split <;> simp_all
theorem upd_upd (f : Nat → Nat) (a v v' : Nat) : upd (upd f a v) a v' = upd f a v' := by
  funext b; unfold upd; split <;> rfl
/-- What there is when i units are through, and of the next one the names xs. -/
def wgM (R l : List Ut) (i : Nat) (xs : List Nm) : Nat → Nat := upd (fun q => if q < i then wgF R l q else 0) i (mk R xs)
theorem wgM_zero (R l : List Ut) (i : Nat) : wgM R l i [] = fun q => if q < i then wgF R l q else 0 := by
  have : mk R [] = (fun q => if q < i then wgF R l q else 0) i := by simp [mk]
  unfold wgM
  rw [this, upd_same]
theorem wgM_end (R l : List Ut) (i : Nat) (hi : i < l.length) : wgM R l i (l[i].r ++ l[i].a) = wgM R l (i + 1) [] := by
  rw [wgM_zero]
  funext q
  unfold wgM upd
  by_cases h : q = i
  · subst h
    rw [if_pos rfl, if_pos (by omega)]
    unfold wgF
    rw [List.getElem?_eq_getElem hi]
    rfl
  · rw [if_neg h]
    simp only
    by_cases h2 : q < i
    · rw [if_pos h2, if_pos (by omega)]
    · rw [if_neg h2, if_neg (by omega)]
theorem wgM_at (R l : List Ut) (i : Nat) (xs : List Nm) : wgM R l i xs i = mk R xs := by simp [wgM, upd]
theorem wgM_next (R l : List Ut) (i : Nat) (xs : List Nm) (x : Nm) : wgM R l i (xs ++ [x]) = match fi R x with | some j => upd (wgM R l i xs) i (mk R xs ||| 2 ^ j) | none => wgM R l i xs := by
  unfold wgM
  rw [mk_snoc]
  cases fi R x with
  | none => rfl
  | some j => simp only; rw [upd_upd]

def dn (rs xs : List Nm) : Nat → List Nm
  | 0 => []
  | 1 => rs
  | _ => rs ++ xs
theorem or_pow (p a : Nat) (hp : p < 4294967296) (ha : a < 32) : bits BinOp.or IntKind.u32 (p : Int) (2 ^ a % 4294967296) = ((p ||| 2 ^ a : Nat) : Int) := by
  have h2 : 2 ^ a < 4294967296 := Nat.pow_lt_pow_right (a := 2) (n := 32) (by omega) ha
  have e : (2 : Int) ^ a % 4294967296 = ((2 ^ a : Nat) : Int) := by
    have e1 : (2 : Int) ^ a = ((2 ^ a : Nat) : Int) := by simp
    rw [e1]
    generalize 2 ^ a = k at h2 ⊢
    omega
  rw [e]
  exact u32_or_nat p (2 ^ a) hp (Nat.pow_lt_pow_right (a := 2) (n := 32) (by omega) ha)

set_option maxRecDepth 100000 in
set_option maxHeartbeats 4000000 in
theorem waiting_any (w0 w : World) (e0 : Env w0 w) (R l : List Ut) (ad : Option Addr) (cap m : Nat) (hU : Us w0 w l ad) (hl : l.length ≤ 24) (hR : R.length ≤ 24) (hP : Pm w m R) :
    Calls Tryd.prog 35 #[.slice ad l.length cap, .map (some m)] w fun e w' => e = .returned (.slice (some ⟨w.heap.size, 0, none⟩) l.length l.length) ∧ Blk w' w.heap.size 68 (grC l.length (wgF R l)) ∧ Fr (fun _ => False) w w' := by
  have hmk := mk_groups w l.length (by omega)
  have HU := hid hU
  have HP := hid hP
  have HE0 := hid e0
  have HRl : Hid (2 ^ R.length ≤ 16777216) := Nat.pow_le_pow_right (by omega) hR
  have HB0 := hid (Blk.new w 68 (grC l.length (fun _ => 0)))
  have HF0 := hid ((Fr.refl (fun _ => False) w).alloc (.cells (grC l.length (fun _ => 0)).toArray 68))
  generalize w.alloc (.cells (grC l.length (fun _ => 0)).toArray 68) = W1 at *
  clear hU hP e0
  go_enter Tryd.func35, Tryd.ntmps35
  go_wp2_with fail
  clear hmk
  go_loopw [19] (fun iv wr => ∃ i : Nat, i ≤ l.length ∧ iv = .int .i64 (i : Int) ∧ Blk wr w.heap.size 68 (grC l.length (wgM R l i [])) ∧ Fr (fun _ => False) w wr) (fun iv _ => l.length - (intOf iv).toNat)
  case atStart => exact ⟨0, Nat.zero_le _, rfl, by rw [wgM_zero]; simpa using HB0.out, HF0.out⟩
  case round =>
    obtain ⟨i, hi, rfl, hB, hF⟩ := hrel
    have HB := hid hB
    have HF := hid hF
    clear hB hF HB0 HF0
    by_cases hlt : i < l.length
    · have hi1 : (i : Int) < ((l.length : Nat) : Int) := by omega
      obtain ⟨bb, bo, rfl⟩ := HU.out.some hlt
      obtain ⟨y, y1, y2⟩ := HU.out.get i hlt
      obtain ⟨k0, k1, k2, k3⟩ := (y1.env (Env.of HF.out)).all
      have hrl := y2.rl
      have hal := y2.al
      have HSr := hid y2.r
      have HSa := hid y2.a
      have HRx := hid y2.ok.rx
      have HAx := hid y2.ok.ax
      have HLr : Hid (l[i].r.length ≤ 140737488351232) := y2.ok.r
      have HLa : Hid (l[i].a.length ≤ 140737488351232) := y2.ok.a
      have HEnd := hid (wgM_end R l i hlt)
      clear y1 y2
      generalize l[i].r = rs at *
      generalize l[i].a = xs at *
      obtain ⟨n, s, ra, rl, rc, aa, al, ac⟩ := y
      simp only at hrl hal HSr HSa
      subst hrl hal
      have hob : w.heap.size < wr.heap.size := HB.out.lt
      have HB2 : Hid (Blk ((wr.alloc (.cells (Uv.cs ⟨n, s, ra, rs.length, rc, aa, xs.length, ac⟩).toArray 32)).alloc (.cells #[.slice ra rs.length rc, .slice aa xs.length ac] 30)) w.heap.size 68 (grC l.length (wgM R l i []))) := (HB.out.alloc _).alloc _
      have HF2 : Hid (Fr (fun _ => False) w ((wr.alloc (.cells (Uv.cs ⟨n, s, ra, rs.length, rc, aa, xs.length, ac⟩).toArray 32)).alloc (.cells #[.slice ra rs.length rc, .slice aa xs.length ac] 30))) := (HF.out.alloc _).alloc _
      have HBs : Hid (Blk ((wr.alloc (.cells (Uv.cs ⟨n, s, ra, rs.length, rc, aa, xs.length, ac⟩).toArray 32)).alloc (.cells #[.slice ra rs.length rc, .slice aa xs.length ac] 30)) (wr.heap.size + 1) 30 [.slice ra rs.length rc, .slice aa xs.length ac]) := by
        have := Blk.new (wr.alloc (.cells (Uv.cs ⟨n, s, ra, rs.length, rc, aa, xs.length, ac⟩).toArray 32)) 30 [.slice ra rs.length rc, .slice aa xs.length ac]
        rw [World.size_alloc] at this
        exact this
      obtain ⟨wo, hwo⟩ : ∃ wo, wo = wr := ⟨_, rfl⟩
      subst hwo
      go_wp2_with fail
      simp only [Uv.cs] at HB2 HF2 HBs
      generalize (wo.alloc (.cells #[.string ⟨n.toArray⟩, .string ⟨s.toArray⟩, .slice ra rs.length rc, .slice aa xs.length ac] 32)).alloc (.cells #[.slice ra rs.length rc, .slice aa xs.length ac] 30) = W2 at *
      clear k0 k1 k2 k3
      go_loopw [30] (fun jv wr => ∃ j : Nat, j ≤ 2 ∧ jv = .int .i64 (j : Int) ∧ Blk wr w.heap.size 68 (grC l.length (wgM R l i (dn rs xs j))) ∧ Fr (fun k => k = w.heap.size) W2 wr) (fun jv _ => 2 - (intOf jv).toNat)
      case atStart => exact ⟨0, Nat.zero_le _, rfl, HB2.out, Fr.refl _ _⟩
      case round =>
        obtain ⟨j, hj, rfl, hB, hG⟩ := hrel
        have HBj := hid hB
        have HGj := hid hG
        clear hB hG
        by_cases hj2 : j < 2
        · have hj' : (j : Int) < 2 := by omega
          have hj0 : (0 : Int) ≤ (j : Int) := Int.natCast_nonneg _
          have hbs : Blk wr (wo.heap.size + 1) 30 [.slice ra rs.length rc, .slice aa xs.length ac] := HGj.out.blk HBs.out (by omega)
          have hfacts : ∃ (ns : List Nm) (aj : Option Addr) (cj : Nat), wr.cell? ⟨wo.heap.size + 1, j, none⟩ = some (.slice aj ns.length cj) ∧ Strs w0 aj ns ∧ (∀ x ∈ ns, x.length ≤ lim) ∧ ns.length ≤ 140737488351232 ∧ dn rs xs (j + 1) = dn rs xs j ++ ns := by
            rcases (by omega : j = 0 ∨ j = 1) with rfl | rfl
            · exact ⟨rs, ra, rc, hbs.cell 0, HSr.out, HRx.out, HLr.out, by simp [dn]⟩
            · exact ⟨xs, aa, ac, hbs.cell 1, HSa.out, HAx.out, HLa.out, by simp [dn]⟩
          obtain ⟨ns, aj, cj, kj, hS, hX, hnl, hdn⟩ := hfacts
          have HS := hid hS
          have HX := hid hX
          have HDn := hid hdn
          clear hbs hS hX hdn
          obtain ⟨wp, hwp⟩ : ∃ wp, wp = wr := ⟨_, rfl⟩
          subst hwp
          go_wp2_with fail
          clear kj
          go_loopw [36] (fun qv wr => ∃ q : Nat, q ≤ ns.length ∧ qv = .int .i64 (q : Int) ∧ Blk wr w.heap.size 68 (grC l.length (wgM R l i (dn rs xs j ++ ns.take q))) ∧ Fr (fun k => k = w.heap.size) W2 wr) (fun qv _ => ns.length - (intOf qv).toNat)
          case atStart => exact ⟨0, Nat.zero_le _, rfl, by simpa using HBj.out, HGj.out⟩
          case round =>
            obtain ⟨q, hq, rfl, hB, hG⟩ := hrel
            have HBq := hid hB
            have HGq := hid hG
            clear hB hG HBj HGj
            by_cases hql : q < ns.length
            · have hql' : (q : Int) < ((ns.length : Nat) : Int) := by omega
              have hFw : Fr (fun _ => False) w wr := HF2.out.trans HGq.out (fun k hk => .inr (by omega))
              obtain ⟨nb, no, rfl, kn⟩ := (HS.out.env (HE0.out.trans (Env.of hFw))).at q hql
              have hkey := keyS (HX.out ns[q] (List.getElem_mem hql))
              obtain ⟨nn, D, hnn, hM, hT⟩ := HP.out.fr hFw (fun h => h)
              have hTq := hT ns[q]
              have hTj := (hT ns[q]).has
              have HM := hid hM
              have q0 := HBq.out.cell i
              rw [grC_at _ hlt, wgM_at] at q0
              have z0 := HBq.out.frozen i
              have HNx := hid (wgM_next R l i (dn rs xs j ++ ns.take q) ns[q])
              have HTk : Hid (dn rs xs j ++ ns.take (q + 1) = dn rs xs j ++ ns.take q ++ [ns[q]]) := by
                unfold Hid
                rw [List.take_succ_eq_append_getElem hql, List.append_assoc]
              have hmb : mk R (dn rs xs j ++ ns.take q) < 4294967296 := by have h1 := mk_lt R (dn rs xs j ++ ns.take q); have h2 := HRl.out; omega
              clear hM hT hFw
              generalize ns[q] = nm at *
              cases hf : fi R nm with
              | none =>
                rw [hf] at hTj HNx
                simp only at HNx
                have HB3 : Hid (Blk wr w.heap.size 68 (grC l.length (wgM R l i (dn rs xs j ++ ns.take (q + 1))))) := by
                  unfold Hid; rw [HTk.out, HNx.out]; exact HBq.out
                clear hf HNx HTk q0 z0 hTq
                go_wp2_with (at_lookup; refine Hid.out ?_)
                refine wpList_lookup_own_ok_int _ rfl _ _ 47 rfl 9 3 .i64 lawS Tryd.underlying47 Tryd.underlying3 (zero3 _) m nn D rfl HM.out _ _ rfl hkey ?_
                intro c hat hwc
                rw [hTj]
                clear hat hwc HM hTj
                simp only [Option.isSome_none]
                go_wp2_with fail
                exact ⟨⟨q + 1, by omega, by go_num, HB3.out, HGq.out⟩, by simp [intOf]; omega⟩
              | some a =>
                rw [hf] at hTj HNx hTq
                simp only at HNx
                have hal : a < 24 := Nat.lt_of_lt_of_le (fi_lt hf) hR
                have ha0 : (0 : Int) ≤ (a : Int) := Int.natCast_nonneg _
                have ha1 : (a : Int) < 32 := by omega
                have HOr := hid (or_pow _ a hmb (by omega))
                generalize hpm : mk R (dn rs xs j ++ ns.take q) = pm at *
                clear hf
                go_wp2_with (at_lookup; refine Hid.out ?_)
                refine wpList_lookup_own_ok_int _ rfl _ _ 47 rfl 9 3 .i64 lawS Tryd.underlying47 Tryd.underlying3 (zero3 _) m nn D rfl HM.out _ _ rfl hkey ?_
                intro c hat hwc
                have hc := hTq.at hat
                subst hc
                rw [hTj]
                clear hat hwc HM hTj hTq
                simp only [Option.isSome_some]
                go_wp2_with fail
                go_region
                have HB3 : Hid (Blk (wr.setCell ⟨w.heap.size, i, none⟩ (.int .u32 (bits BinOp.or IntKind.u32 (pm : Int) (2 ^ a % 4294967296)))).drew w.heap.size 68 (grC l.length (wgM R l i (dn rs xs j ++ ns.take (q + 1))))) := by
                  have := (HBq.out.setCell i (.int .u32 (bits BinOp.or IntKind.u32 (pm : Int) (2 ^ a % 4294967296)))).drew
                  rw [HOr.out, grC_set] at this
                  unfold Hid
                  rw [HTk.out, HNx.out, HOr.out]
                  exact this
                have HG3 : Hid (Fr (fun k => k = w.heap.size) W2 (wr.setCell ⟨w.heap.size, i, none⟩ (.int .u32 (bits BinOp.or IntKind.u32 (pm : Int) (2 ^ a % 4294967296)))).drew) := (HGq.out.setCell (p := ⟨w.heap.size, i, none⟩) (.inl rfl) _).drew
                clear HNx HTk HOr q0 z0 hpm
                generalize (wr.setCell ⟨w.heap.size, i, none⟩ (.int .u32 (bits BinOp.or IntKind.u32 (pm : Int) (2 ^ a % 4294967296)))).drew = W4 at *
                go_wp2_with fail
                exact ⟨⟨q + 1, by omega, by go_num, HB3.out, HG3.out⟩, by simp [intOf]; omega⟩
            · have hql' : ¬ ((q : Int) < ((ns.length : Nat) : Int)) := by omega
              have HB3 : Hid (Blk wr w.heap.size 68 (grC l.length (wgM R l i (dn rs xs (j + 1))))) := by
                have := HBq.out
                rw [List.take_of_length_le (by omega), ← HDn.out] at this
                exact this
              go_wp2_with fail
              exact ⟨⟨j + 1, by omega, by go_num, HB3.out, HGq.out⟩, by simp [intOf]; omega⟩
        · have hj' : ¬ ((j : Int) < 2) := by omega
          obtain rfl : j = 2 := by omega
          have HB3 : Hid (Blk wr w.heap.size 68 (grC l.length (wgM R l (i + 1) []))) := by
            have := HBj.out
            simp only [dn] at this
            rw [HEnd.out] at this
            exact this
          have HF3 : Hid (Fr (fun _ => False) w wr) := HF2.out.trans HGj.out (fun k hk => .inr (by omega))
          go_wp2_with fail
          exact ⟨⟨i + 1, by omega, by go_num, HB3.out, HF3.out⟩, by simp [intOf]; omega⟩
    · have hi1 : ¬ ((i : Int) < ((l.length : Nat) : Int)) := by omega
      have HE : Hid (grC l.length (wgM R l i []) = grC l.length (wgF R l)) := by
        unfold Hid grC
        refine List.map_congr_left (fun q hq => ?_)
        rw [wgM_zero]
        have := List.mem_range.1 hq
        simp only
        rw [if_pos (by omega)]
      rw [HE.out] at HB
      go_wp2_with fail
      go_ret
      exact ⟨rfl, HB.out, HF.out⟩
end Go.Proofs.YtcpeebkfnnkjnaaDoor.Tr
