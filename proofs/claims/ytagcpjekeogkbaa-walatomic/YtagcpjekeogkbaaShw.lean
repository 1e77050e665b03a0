/- 'shown' answers true. -/
import Derived.Test.YtagcpjekeogkbaaMad
namespace Go.Proofs.Ytagcpjekeogkbaa.Wl
open Go.RowKit Dk

section
variable {P : Program} {ops : Array Oper} {Q : Exit → Act → World → Prop} {md : Region.Mode} {S : World → Prop}
/-- Operation number i is taken first: its value is v in every world that meets S. -/
theorem takeH {i : Nat} {d : Option Tmp} {fuel : Nat} {listed : Array Bool} {a : Act} {w : World} (v : Value) (hd : (ops[i]?).map (·.dst) = some d) (hs : Region.noSelect ops = true) (hf : Region.free md ops listed i = true)
    (hr : (Region.ready md ops listed).contains i = true) (hQ : ∀ (o : Oper) c a w, Q (.panic c) (a.put o.dst v) w → Q (.panic c) a w) (hS : S w) (hy : ∀ o, ops[i]? = some o → YieldsIf P ops S o v a)
    (h : wpAnyH P md ops Q S fuel (listed.setIfInBounds i true) (a.put d v) w) : wpAnyH P md ops Q S (fuel + 1) listed a w := by
  cases ho : ops[i]? with
  | none => simp [ho] at hd
  | some o =>
    have e : o.dst = d := by simpa [ho] using hd
    subst e
    exact wpAnyH_take ho hs hf hr (hQ o) (hy o ho) hS h
/-- Operation number i alone can come up. -/
theorem oneH {i : Nat} {fuel : Nat} {listed : Array Bool} {a : Act} {w : World} (hr : Region.ready md ops listed = [i])
    (h : ∀ o, ops[i]? = some o → ∀ K' : Act → World → Prop, Hid (∀ a w, S w → wpAnyH P md ops Q S fuel (listed.setIfInBounds i true) a w → K' a w) → if Region.wanted o (yielded ops a.tmps) = true then Oper.wp P o a w K' Q else K' (a.put o.dst undef) w)
    (hi : i < ops.size) : wpAnyH P md ops Q S (fuel + 1) listed a w := by
  have ho : ops[i]? = some ops[i] := Array.getElem?_eq_getElem hi
  exact wpAnyH_ready hr (by simp) (AllReadyH.cons ho (fun K' hK => h _ ho K' (fun a w hS hW => hK a w hS (fun _ => hW))) AllReadyH.nil)
end
theorem full0 : fullB 0 = zeros := by decide +kernel
theorem full_len (x : Int) : (fullB x).length = 128 := fullB_length x
def shL1 : Lg := { Lg.new 0 8 20 1 with st := [(9, fullB 1)] }
theorem sh_stage3 : (Lg.new 0 8 20 1).stageE 3 128 = 43 ∧ (Lg.new 0 8 20 1).stage 3 (fullB 1) = Lg.new 0 8 20 1 := by
  have e : (Lg.new 0 8 20 1).stageE 3 128 = 43 := by decide +kernel
  exact ⟨e, by simp [Lg.stage, full_len, e]⟩
theorem sh_stage9 : (Lg.new 0 8 20 1).stageE 9 128 = 0 ∧ (Lg.new 0 8 20 1).stage 9 (fullB 1) = shL1 := by
  have e : (Lg.new 0 8 20 1).stageE 9 128 = 0 := by decide +kernel
  exact ⟨e, by simp [Lg.stage, full_len, e]; rfl⟩

theorem sm_new (n m : Nat) (h : m < 1073741824) : Sm (Dsk.new n) m := ⟨by simpa [Dsk.new] using h, by simpa [Dsk.new] using h⟩
theorem new_n (n : Nat) : (Dsk.new n).n = n := rfl
theorem com_sm {D : Dsk} {L : Lg} {m : Nat} (hH : comH L = false) (a1 : (puts D L.f L.u L.p (allRows L.st)).2.2.2 = 0) (h : Sm D (m + 3 + cost L.st.length)) : Sm (comD D L) m := by
  have h1 : com0E D L = 0 := by simp [com0E, hH]
  have h2 : com0D D L = D := by simp [com0D, hH]
  have h3 : com0L D L = L := by simp [com0L, hH]
  obtain ⟨_, t2⟩ := com_tail (D := D) (L := L) h1 h2.symm h3.symm rfl
  rw [(t2 a1).2.1]
  exact setD_sm _ _ (puts_sm _ _ _ _ _ _ (by rw [allRows_length]; exact h))
structure ShF (D : Dsk) : Prop where
  calm : Calm D
  hn : D.n = 20
  sm : Sm D 4000
  s9 : sec D.N 9 = zeros
theorem sh_fmt : ShF (fmtD (Dsk.new 20) 0) ∧ fmtE (Dsk.new 20) 0 = 0 ∧ sec (fmtD (Dsk.new 20) 0).N 0 = ctl 1 0 beg := by
  obtain ⟨a1, a2, a3, a4⟩ := fmt_calm (new_calm 20) 0 (by rw [new_n]; omega)
  have b1 : (Dsk.new 20).writeE 0 128 = 0 := writeE_calm (new_calm 20) 0 (by rw [new_n]; omega)
  have e : fmtD (Dsk.new 20) 0 = ((Dsk.new 20).write 0 (ctl 1 0 beg)).flush := by simp [fmtD, b1]
  refine ⟨⟨a2, a3, ?_, by rw [a4 9 (by rw [new_n]; omega), if_neg (by omega), sec_new 20 9 (by omega)]⟩, a1, by rw [a4 0 (by rw [new_n]; omega), if_pos rfl]⟩
  rw [e]
  exact Sm.flush (Sm.write (sm_new _ _ (by omega)) _ _)
theorem sh_com {D : Dsk} (h : ShF D) (ok : shL1.Ok) : CommitE D shL1 = 0 ∧ Calm (CommitD D shL1) ∧ (CommitD D shL1).n = 20 ∧ sec (CommitD D shL1).N 9 = zeros ∧ (CommitL D shL1).u = 2 ∧ (CommitL D shL1).lg = [(9, fullB 1)] ∧ (CommitL D shL1).dead = false ∧ (CommitL D shL1).f = 0 ∧ (CommitL D shL1).n = 8 ∧ Sm (CommitD D shL1) 100 := by
  obtain ⟨a1, a2, a3, a4, a5⟩ := com_calm h.calm ok h.hn (fun q hq => by simp [shL1] at hq; rw [hq]; exact full_len 1) (by decide +kernel)
  have e1 : CommitE D shL1 = comE D shL1 := rfl
  have e2 : CommitD D shL1 = comD D shL1 := rfl
  have e3 : CommitL D shL1 = comL D shL1 := by
    have : CommitL D shL1 = (comL D shL1).noted (comE D shL1) := rfl
    rw [this, a1]
    rfl
  rw [e1, e2, e3, a5]
  refine ⟨a1, a2, by rw [a3, h.hn], by rw [a4 9 (by rw [h.hn]; omega) (.inr (by decide)), h.s9], by decide +kernel, rfl, rfl, rfl, rfl, ?_⟩
  obtain ⟨p1, _⟩ := puts_calm shL1.f (allRows shL1.st) D shL1.u shL1.p h.calm (by rw [allRows_length, h.hn]; decide +kernel) (rows_secs _ (fun q hq => by simp [shL1] at hq; rw [hq]; exact full_len 1))
  exact com_sm (by decide +kernel) p1 (h.sm.le (by decide +kernel))

set_option maxRecDepth 100000 in
set_option maxHeartbeats 4000000 in
theorem shown_any (G : Nat → Prop) (w : World) (hG : ∀ k, G k → k < w.heap.size) : Calls Try.prog 8 #[] w fun x w' => x = .returned (.bool true) ∧ Kp G w w' := by
  have HNew := hid (own_new G w hG 20 (by omega) (by omega))
  have HFull := fun W => hid (full_any W 1 (by omega) (by omega))
  go_enter Try.func8, Try.ntmps8
  go_wp2_with fail
  refine HNew.out.mono ?_
  rintro x w1 ⟨p, rfl, o1, k1⟩
  have HFo := hid (Format_ok o1 (sm_new _ _ (by omega)) 0 8 (by decide))
  rw [sh_fmt.2.1] at HFo
  have HK1 := hid k1
  clear HNew o1 k1
  go_wp2_with fail
  refine HFo.out.mono ?_
  rintro x w2 ⟨rfl, o2, k2⟩
  have HF := hid sh_fmt.1
  have Hc0 := sh_fmt.2.2
  generalize fmtD (Dsk.new 20) 0 = D1 at *
  have HOp := hid (Open_fresh o2 0 8 1 HF.out.calm.up (by rw [HF.out.hn]; decide) (by omega) Hc0)
  rw [HF.out.hn] at HOp
  have HK2 := hid (Kp.trans HK1.out k2)
  clear HFo o2 k2 HK1 Hc0
  go_wp2_with fail
  refine HOp.out.mono ?_
  rintro x w3 ⟨l, bl, bt, rfl, o3, k3, _⟩
  have HO3 := hid o3
  have HK3 := hid (Kp.trans HK2.out k3)
  clear HOp o3 k3 HK2
  go_wp2_with fail
  refine (HFull w3).out.mono ?_
  rintro x w4 ⟨rfl, rfl⟩
  have HS3 := hid (stage_any (HO3.out.alloc (.cells (bs (fullB 1)).toArray 5)) 3 (fullB 1) (some ⟨w3.heap.size, 0, none⟩) 128 (fun _ => ⟨w3.heap.size, 0, rfl, (Blk.new w3 5 (bs (fullB 1))).range 0 _ (by simp), by simp⟩) (by simp [Lg.new]))
  rw [full_len, sh_stage3.1, sh_stage3.2] at HS3
  have HK4 : Hid (Kp G w (w3.alloc (.cells (bs (fullB 1)).toArray 5))) := Kp.trans HK3.out (show Kp G _ _ from (Fr.refl _ _).alloc _)
  clear HO3 HK3
  go_wp2_with fail
  refine HS3.out.mono ?_
  rintro x w5 ⟨rfl, o5, k5⟩
  have HO5 := hid o5
  have HK5 := hid (Kp.trans HK4.out k5)
  clear HS3 o5 k5 HK4
  go_wp2_with fail
  refine (HFull w5).out.mono ?_
  rintro x w6 ⟨rfl, rfl⟩
  have HS9 := hid (stage_any (HO5.out.alloc (.cells (bs (fullB 1)).toArray 5)) 9 (fullB 1) (some ⟨w5.heap.size, 0, none⟩) 128 (fun _ => ⟨w5.heap.size, 0, rfl, (Blk.new w5 5 (bs (fullB 1))).range 0 _ (by simp), by simp⟩) (by simp [Lg.new]))
  rw [full_len, sh_stage9.1, sh_stage9.2] at HS9
  have HK6 : Hid (Kp G w (w5.alloc (.cells (bs (fullB 1)).toArray 5))) := Kp.trans HK5.out (show Kp G _ _ from (Fr.refl _ _).alloc _)
  clear HO5 HK5 HFull
  go_wp2_with fail
  refine HS9.out.mono ?_
  rintro x w7 ⟨rfl, o7, k7⟩
  have HCo := hid (Commit_any o7 (HF.out.sm.le (by omega)) (by simp [shL1, Lg.new]) (by simp [shL1]) (by decide +kernel))
  have HC := hid (sh_com HF.out o7.r.ok)
  have HK7 := hid (Kp.trans HK6.out k7)
  rw [HC.out.1] at HCo
  clear HS9 o7 k7 HK6
  go_wp2_with fail
  refine HCo.out.mono ?_
  rintro x w8 ⟨rfl, ⟨bl8, bt8, o8⟩, k8⟩
  have HO8 := hid o8
  have HK8 := hid (Kp.trans HK7.out k8)
  have HUs := hid (used_any o8.r)
  rw [HC.out.2.2.2.2.1] at HUs
  have HR8 := hid (own_read o8.d 9 HC.out.2.1.up (by rw [HC.out.2.2.1]; omega))
  rw [HC.out.2.2.2.1] at HR8
  clear HCo o8 k8 HK7
  go_wp2_with fail
  refine HUs.out.mono ?_
  rintro x w9 ⟨rfl, rfl⟩
  clear HUs
  go_wp2_with fail
  refine HR8.out.mono ?_
  rintro x w10 ⟨rfl, rfl⟩
  have HO10 := hid (HO8.out.more (.cells (bs zeros).toArray 79))
  have HB10 := hid (Blk.new w9 79 (bs zeros))
  have HK10 : Hid (Kp G w (w9.alloc (.cells (bs zeros).toArray 79))) := Kp.trans HK8.out (show Kp G _ _ from (Fr.refl _ _).alloc _)
  clear HR8 HK8 HO8
  generalize hD2 : CommitD D1 shL1 = D2 at *
  generalize hL2 : CommitL D1 shL1 = L2 at *
  clear hD2 hL2
  obtain ⟨-, hcal, hn2, -, hu2, hlg2, hdd2, hf2, hnn2, hsm2⟩ := HC.out
  have HHc := hid (hom_calm (L := L2) hcal HO10.out.r.ok HO10.out.n HO10.out.r.ml.2.1 HO10.out.r.ml.2.2)
  have HHo := hid (Home_any HO10.out (hsm2.le (by rw [hlg2]; simp)) (by rw [hlg2]; simp))
  have HHe : Hid (HomeE D2 L2 = 0 ∧ HomeD D2 L2 = HomD D2 L2 ∧ HomeL D2 L2 = L2.homed) := by
    have hu' : ¬ L2.u = 0 := by rw [hu2]; omega
    refine ⟨by simp [HomeE, hdd2, hu', HHc.out.1], by simp [HomeD, hdd2, hu'], ?_⟩
    simp only [HomeL, hdd2, hu', if_false, Bool.false_eq_true, HHc.out.1, HHc.out.2.2.2.2]
    simp [Lg.noted]
  rw [HHe.out.1] at HHo
  have Hs9 : Hid (sec (HomeD D2 L2).N 9 = fullB 1) := by
    unfold Hid
    rw [HHe.out.2.1, HHc.out.2.2.2.1 9 (by rw [hn2]; omega) (by rw [hf2]; omega), hlg2]
    rfl
  have Hn3 : Hid ((HomeD D2 L2).n = 20 ∧ (HomeD D2 L2).up = true ∧ (HomeL D2 L2).n = 8) := by
    unfold Hid
    rw [HHe.out.2.1, HHe.out.2.2]
    exact ⟨by rw [HHc.out.2.2.1, hn2], HHc.out.2.1.up, hnn2⟩
  clear HHc HHe hcal hn2 hu2 hlg2 hdd2 hf2 hnn2 hsm2 HC
  go_wp2_with fail
  refine HHo.out.mono ?_
  rintro x w11 ⟨rfl, ⟨bl11, o11⟩, k11⟩
  have HB11 := hid (Kp.blk k11 HB10.out (.inr rfl))
  have HK11 : Hid (Kp G w w11) := Kp.trans HK10.out (Kp.less k11 (fun _ hk => .inl hk))
  have HR11 := hid (own_read o11.d 9 Hn3.out.2.1 (by rw [Hn3.out.1]; omega))
  rw [Hs9.out] at HR11
  have HO11 := hid o11
  generalize HomeD D2 L2 = D3 at *
  generalize HomeL D2 L2 = L3 at *
  clear HHo o11 k11 HB10 HK10 HO10
  go_wp2_with fail
  refine HR11.out.mono ?_
  rintro x w12 ⟨rfl, rfl⟩
  have HO12 := hid (HO11.out.alloc (.cells (bs (fullB 1)).toArray 79)).drew
  have HX := hid (HB11.out.alloc (.cells (bs (fullB 1)).toArray 79)).drew
  have HY := hid (Blk.new w11 79 (bs (fullB 1))).drew
  have HK12 : Hid (Kp G w (w11.alloc (.cells (bs (fullB 1)).toArray 79)).drew) := Kp.trans HK11.out (show Kp G _ _ from ((Fr.refl _ _).alloc _).drew)
  have HLn := hid (len_any HO12.out.r)
  rw [Hn3.out.2.2] at HLn
  clear HR11 HK11 HB11 HO11
  generalize hgx : w9.heap.size = gx at *
  generalize hgy : w11.heap.size = gy at *
  have cX := conv_blk zeros HX.out 128 128 zeros_length
  have cY := conv_blk (fullB 1) HY.out 128 128 (full_len 1)
  have HHold : Hid (∀ w', Nw (w11.alloc (.cells (bs (fullB 1)).toArray 79)).drew w' → (convert 38 9 (.slice (some ⟨gx, 0, none⟩) 128 128)).run Try.prog w' = .ok (.string (strB zeros)) w' ∧ (convert 38 9 (.slice (some ⟨gy, 0, none⟩) 128 128)).run Try.prog w' = .ok (.string (strB (fullB 1))) w') := fun w' f => ⟨conv_blk zeros (Fr.blk f HX.out id) 128 128 zeros_length, conv_blk (fullB 1) (Fr.blk f HY.out id) 128 128 (full_len 1)⟩
  have HF0 := fun W => hid (full_any W 0 (by omega) (by omega))
  have HF1 := fun W => hid (full_any W 1 (by omega) (by omega))
  rw [full0] at HF0
  have hcn0 : ∀ W : World, (convert 38 9 (.slice (some ⟨W.heap.size, 0, none⟩) 128 128)).run Try.prog (W.alloc (.cells (bs zeros).toArray 5)) = .ok (.string (strB zeros)) (W.alloc (.cells (bs zeros).toArray 5)) := fun W => conv_blk zeros (Blk.new W 5 (bs zeros)) 128 128 zeros_length
  have hcn1 : ∀ W : World, (convert 38 9 (.slice (some ⟨W.heap.size, 0, none⟩) 128 128)).run Try.prog (W.alloc (.cells (bs (fullB 1)).toArray 5)) = .ok (.string (strB (fullB 1))) (W.alloc (.cells (bs (fullB 1)).toArray 5)) := fun W => conv_blk (fullB 1) (Blk.new W 5 (bs (fullB 1))) 128 128 (full_len 1)
  generalize strB zeros = S0 at *
  generalize strB (fullB 1) = S1 at *
  generalize w11.alloc (.cells (bs (fullB 1)).toArray 79) = Wb at *
  generalize hb0 : bs zeros = Z0 at HF0 hcn0 HX
  generalize hb1 : bs (fullB 1) = Z1 at HF1 hcn1 HY
  clear hgx hgy hb0 hb1 Hs9 Hn3 HX HY HO12 HF
  go_wp2_with fail
  have hcn2 : ∀ W : World, (convert 38 9 (.slice (some ⟨W.heap.size + 1, 0, none⟩) 128 128)).run Try.prog ((W.alloc (.cells Z0.toArray 5)).alloc (.cells Z1.toArray 5)) = .ok (.string S1) ((W.alloc (.cells Z0.toArray 5)).alloc (.cells Z1.toArray 5)) := fun W => by
    have := hcn1 (W.alloc (.cells Z0.toArray 5))
    rwa [World.size_alloc] at this
  refine wp_region_noPanic ?_
  refine wp_region_held_drew (S := fun w' => (convert 38 9 (.slice (some ⟨gx, 0, none⟩) 128 128)).run Try.prog w' = .ok (.string S0) w' ∧ (convert 38 9 (.slice (some ⟨gy, 0, none⟩) 128 128)).run Try.prog w' = .ok (.string S1) w') (by kernel_rfl) ⟨cX, cY⟩ (fun hHeld => ?_)
  refine takeH (i := 0) (d := some 54) (pv l) rfl (by kernel_rfl) (by kernel_rfl) (by kernel_rfl) (fun _ _ _ _ h => h) ⟨cX, cY⟩ (fun o ho => by cases ho; exact .inl ⟨by rfl, fun w hSw => by (obtain ⟨hs1, hs2⟩ := hSw; go_simp)⟩) ?_
  simp only [Act.put, List.setIfInBounds_toArray, List.set_cons_zero, List.set_cons_succ]
  refine oneH (i := 1) (by kernel_rfl) (fun o ho K' hK => ?_) (by decide)
  cases ho
  rw [if_pos (by rfl)]
  go_simp
  refine HLn.out.mono ?_
  rintro x w13 ⟨rfl, f13⟩
  have h13a := (HHold.out w13 f13).1
  have h13b := (HHold.out w13 f13).2
  have h14a := (HHold.out _ (Fr.alloc f13 (.cells Z0.toArray 5))).1
  have h14b := (HHold.out _ (Fr.alloc f13 (.cells Z0.toArray 5))).2
  have h15a := (HHold.out _ (Fr.alloc (Fr.alloc f13 (.cells Z0.toArray 5)) (.cells Z1.toArray 5))).1
  have h15b := (HHold.out _ (Fr.alloc (Fr.alloc f13 (.cells Z0.toArray 5)) (.cells Z1.toArray 5))).2
  have hn0 := hcn0 w13
  have hn2 := hcn2 w13
  have HF13 := hid f13
  have HFa := HF0 w13
  have HFb := HF1 (w13.alloc (.cells Z0.toArray 5))
  clear f13 hcn0 hcn1 hcn2 HF0 HF1 HHold HLn
  refine hK.out _ _ ⟨h13a, h13b⟩ ?_
  clear hK K'
  try simp only [Act.put, List.setIfInBounds_toArray, List.set_cons_zero, List.set_cons_succ]
  refine takeH (i := 2) (d := some 56) (.bool true) rfl (by kernel_rfl) (by kernel_rfl) (by kernel_rfl) (fun _ _ _ _ h => h) ⟨h13a, h13b⟩ (fun o ho => by cases ho; exact .inl ⟨by rfl, fun w hSw => by (obtain ⟨hs1, hs2⟩ := hSw; go_simp)⟩) ?_
  simp only [Act.put, List.setIfInBounds_toArray, List.set_cons_zero, List.set_cons_succ]
  refine takeH (i := 3) (d := some 57) (.bool true) rfl (by kernel_rfl) (by kernel_rfl) (by kernel_rfl) (fun _ _ _ _ h => h) ⟨h13a, h13b⟩ (fun o ho => by cases ho; exact .inl ⟨by rfl, fun w hSw => by (obtain ⟨hs1, hs2⟩ := hSw; go_simp)⟩) ?_
  simp only [Act.put, List.setIfInBounds_toArray, List.set_cons_zero, List.set_cons_succ]
  refine takeH (i := 4) (d := some 58) (.int .i64 43) rfl (by kernel_rfl) (by kernel_rfl) (by kernel_rfl) (fun _ _ _ _ h => h) ⟨h13a, h13b⟩ (fun o ho => by cases ho; exact .inl ⟨by rfl, fun w hSw => by (obtain ⟨hs1, hs2⟩ := hSw; go_simp)⟩) ?_
  simp only [Act.put, List.setIfInBounds_toArray, List.set_cons_zero, List.set_cons_succ]
  refine takeH (i := 5) (d := some 59) (.bool true) rfl (by kernel_rfl) (by kernel_rfl) (by kernel_rfl) (fun _ _ _ _ h => h) ⟨h13a, h13b⟩ (fun o ho => by cases ho; exact .inl ⟨by rfl, fun w hSw => by (obtain ⟨hs1, hs2⟩ := hSw; go_simp)⟩) ?_
  simp only [Act.put, List.setIfInBounds_toArray, List.set_cons_zero, List.set_cons_succ]
  refine takeH (i := 6) (d := some 60) (.bool true) rfl (by kernel_rfl) (by kernel_rfl) (by kernel_rfl) (fun _ _ _ _ h => h) ⟨h13a, h13b⟩ (fun o ho => by cases ho; exact .inl ⟨by rfl, fun w hSw => by (obtain ⟨hs1, hs2⟩ := hSw; go_simp)⟩) ?_
  simp only [Act.put, List.setIfInBounds_toArray, List.set_cons_zero, List.set_cons_succ]
  refine takeH (i := 7) (d := some 61) (.bool true) rfl (by kernel_rfl) (by kernel_rfl) (by kernel_rfl) (fun _ _ _ _ h => h) ⟨h13a, h13b⟩ (fun o ho => by cases ho; exact .inl ⟨by rfl, fun w hSw => by (obtain ⟨hs1, hs2⟩ := hSw; go_simp)⟩) ?_
  simp only [Act.put, List.setIfInBounds_toArray, List.set_cons_zero, List.set_cons_succ]
  refine takeH (i := 8) (d := some 62) (.int .i64 0) rfl (by kernel_rfl) (by kernel_rfl) (by kernel_rfl) (fun _ _ _ _ h => h) ⟨h13a, h13b⟩ (fun o ho => by cases ho; exact .inl ⟨by rfl, fun w hSw => by (obtain ⟨hs1, hs2⟩ := hSw; go_simp)⟩) ?_
  simp only [Act.put, List.setIfInBounds_toArray, List.set_cons_zero, List.set_cons_succ]
  refine takeH (i := 9) (d := some 63) (.bool true) rfl (by kernel_rfl) (by kernel_rfl) (by kernel_rfl) (fun _ _ _ _ h => h) ⟨h13a, h13b⟩ (fun o ho => by cases ho; exact .inl ⟨by rfl, fun w hSw => by (obtain ⟨hs1, hs2⟩ := hSw; go_simp)⟩) ?_
  simp only [Act.put, List.setIfInBounds_toArray, List.set_cons_zero, List.set_cons_succ]
  refine takeH (i := 10) (d := some 64) (.bool true) rfl (by kernel_rfl) (by kernel_rfl) (by kernel_rfl) (fun _ _ _ _ h => h) ⟨h13a, h13b⟩ (fun o ho => by cases ho; exact .inl ⟨by rfl, fun w hSw => by (obtain ⟨hs1, hs2⟩ := hSw; go_simp)⟩) ?_
  simp only [Act.put, List.setIfInBounds_toArray, List.set_cons_zero, List.set_cons_succ]
  refine takeH (i := 11) (d := some 65) (.bool true) rfl (by kernel_rfl) (by kernel_rfl) (by kernel_rfl) (fun _ _ _ _ h => h) ⟨h13a, h13b⟩ (fun o ho => by cases ho; exact .inl ⟨by rfl, fun w hSw => by (obtain ⟨hs1, hs2⟩ := hSw; go_simp)⟩) ?_
  simp only [Act.put, List.setIfInBounds_toArray, List.set_cons_zero, List.set_cons_succ]
  refine takeH (i := 12) (d := some 66) (.int .i64 0) rfl (by kernel_rfl) (by kernel_rfl) (by kernel_rfl) (fun _ _ _ _ h => h) ⟨h13a, h13b⟩ (fun o ho => by cases ho; exact .inl ⟨by rfl, fun w hSw => by (obtain ⟨hs1, hs2⟩ := hSw; go_simp)⟩) ?_
  simp only [Act.put, List.setIfInBounds_toArray, List.set_cons_zero, List.set_cons_succ]
  refine takeH (i := 13) (d := some 67) (.bool true) rfl (by kernel_rfl) (by kernel_rfl) (by kernel_rfl) (fun _ _ _ _ h => h) ⟨h13a, h13b⟩ (fun o ho => by cases ho; exact .inl ⟨by rfl, fun w hSw => by (obtain ⟨hs1, hs2⟩ := hSw; go_simp)⟩) ?_
  simp only [Act.put, List.setIfInBounds_toArray, List.set_cons_zero, List.set_cons_succ]
  refine takeH (i := 14) (d := some 68) (.bool true) rfl (by kernel_rfl) (by kernel_rfl) (by kernel_rfl) (fun _ _ _ _ h => h) ⟨h13a, h13b⟩ (fun o ho => by cases ho; exact .inl ⟨by rfl, fun w hSw => by (obtain ⟨hs1, hs2⟩ := hSw; go_simp)⟩) ?_
  simp only [Act.put, List.setIfInBounds_toArray, List.set_cons_zero, List.set_cons_succ]
  refine takeH (i := 15) (d := some 69) (.bool true) rfl (by kernel_rfl) (by kernel_rfl) (by kernel_rfl) (fun _ _ _ _ h => h) ⟨h13a, h13b⟩ (fun o ho => by cases ho; exact .inl ⟨by rfl, fun w hSw => by (obtain ⟨hs1, hs2⟩ := hSw; go_simp)⟩) ?_
  simp only [Act.put, List.setIfInBounds_toArray, List.set_cons_zero, List.set_cons_succ]
  refine takeH (i := 16) (d := some 70) (.int .i64 2) rfl (by kernel_rfl) (by kernel_rfl) (by kernel_rfl) (fun _ _ _ _ h => h) ⟨h13a, h13b⟩ (fun o ho => by cases ho; exact .inl ⟨by rfl, fun w hSw => by (obtain ⟨hs1, hs2⟩ := hSw; go_simp)⟩) ?_
  simp only [Act.put, List.setIfInBounds_toArray, List.set_cons_zero, List.set_cons_succ]
  refine takeH (i := 17) (d := some 71) (.bool true) rfl (by kernel_rfl) (by kernel_rfl) (by kernel_rfl) (fun _ _ _ _ h => h) ⟨h13a, h13b⟩ (fun o ho => by cases ho; exact .inl ⟨by rfl, fun w hSw => by (obtain ⟨hs1, hs2⟩ := hSw; go_simp)⟩) ?_
  simp only [Act.put, List.setIfInBounds_toArray, List.set_cons_zero, List.set_cons_succ]
  refine takeH (i := 18) (d := some 72) (.bool true) rfl (by kernel_rfl) (by kernel_rfl) (by kernel_rfl) (fun _ _ _ _ h => h) ⟨h13a, h13b⟩ (fun o ho => by cases ho; exact .inl ⟨by rfl, fun w hSw => by (obtain ⟨hs1, hs2⟩ := hSw; go_simp)⟩) ?_
  simp only [Act.put, List.setIfInBounds_toArray, List.set_cons_zero, List.set_cons_succ]
  refine takeH (i := 19) (d := some 73) (.bool true) rfl (by kernel_rfl) (by kernel_rfl) (by kernel_rfl) (fun _ _ _ _ h => h) ⟨h13a, h13b⟩ (fun o ho => by cases ho; exact .inl ⟨by rfl, fun w hSw => by (obtain ⟨hs1, hs2⟩ := hSw; go_simp)⟩) ?_
  simp only [Act.put, List.setIfInBounds_toArray, List.set_cons_zero, List.set_cons_succ]
  refine takeH (i := 20) (d := some 74) (.slice (some ⟨gx, 0, none⟩) 128 128) rfl (by kernel_rfl) (by kernel_rfl) (by kernel_rfl) (fun _ _ _ _ h => h) ⟨h13a, h13b⟩ (fun o ho => by cases ho; exact .inl ⟨by rfl, fun w hSw => by (obtain ⟨hs1, hs2⟩ := hSw; go_simp)⟩) ?_
  simp only [Act.put, List.setIfInBounds_toArray, List.set_cons_zero, List.set_cons_succ]
  refine takeH (i := 21) (d := some 75) (.string S0) rfl (by kernel_rfl) (by kernel_rfl) (by kernel_rfl) (fun _ _ _ _ h => h) ⟨h13a, h13b⟩ (fun o ho => by cases ho; exact .inl ⟨by rfl, fun w hSw => by (obtain ⟨hs1, hs2⟩ := hSw; go_simp)⟩) ?_
  simp only [Act.put, List.setIfInBounds_toArray, List.set_cons_zero, List.set_cons_succ]
  refine oneH (i := 22) (by kernel_rfl) (fun o ho K' hK => ?_) (by decide)
  cases ho
  rw [if_pos (by rfl)]
  go_simp
  refine HFa.out.mono ?_
  rintro x w14 ⟨rfl, rfl⟩
  refine hK.out _ _ ⟨h14a, h14b⟩ ?_
  clear hK K'
  try simp only [Act.put, List.setIfInBounds_toArray, List.set_cons_zero, List.set_cons_succ]
  refine oneH (i := 23) (by kernel_rfl) (fun o ho K' hK => ?_) (by decide)
  cases ho
  rw [if_pos (by rfl)]
  go_simp
  refine hK.out _ _ ⟨h14a, h14b⟩ ?_
  clear hK K'
  try simp only [Act.put, List.setIfInBounds_toArray, List.set_cons_zero, List.set_cons_succ]
  refine takeH (i := 24) (d := some 78) (.bool true) rfl (by kernel_rfl) (by kernel_rfl) (by kernel_rfl) (fun _ _ _ _ h => h) ⟨h14a, h14b⟩ (fun o ho => by cases ho; exact .inl ⟨by rfl, fun w hSw => by (obtain ⟨hs1, hs2⟩ := hSw; go_simp)⟩) ?_
  simp only [Act.put, List.setIfInBounds_toArray, List.set_cons_zero, List.set_cons_succ]
  refine takeH (i := 25) (d := some 79) (.bool true) rfl (by kernel_rfl) (by kernel_rfl) (by kernel_rfl) (fun _ _ _ _ h => h) ⟨h14a, h14b⟩ (fun o ho => by cases ho; exact .inl ⟨by rfl, fun w hSw => by (obtain ⟨hs1, hs2⟩ := hSw; go_simp)⟩) ?_
  simp only [Act.put, List.setIfInBounds_toArray, List.set_cons_zero, List.set_cons_succ]
  refine takeH (i := 26) (d := some 80) (.bool true) rfl (by kernel_rfl) (by kernel_rfl) (by kernel_rfl) (fun _ _ _ _ h => h) ⟨h14a, h14b⟩ (fun o ho => by cases ho; exact .inl ⟨by rfl, fun w hSw => by (obtain ⟨hs1, hs2⟩ := hSw; go_simp)⟩) ?_
  simp only [Act.put, List.setIfInBounds_toArray, List.set_cons_zero, List.set_cons_succ]
  refine takeH (i := 27) (d := some 81) (.int .i64 0) rfl (by kernel_rfl) (by kernel_rfl) (by kernel_rfl) (fun _ _ _ _ h => h) ⟨h14a, h14b⟩ (fun o ho => by cases ho; exact .inl ⟨by rfl, fun w hSw => by (obtain ⟨hs1, hs2⟩ := hSw; go_simp)⟩) ?_
  simp only [Act.put, List.setIfInBounds_toArray, List.set_cons_zero, List.set_cons_succ]
  refine takeH (i := 28) (d := some 82) (.bool true) rfl (by kernel_rfl) (by kernel_rfl) (by kernel_rfl) (fun _ _ _ _ h => h) ⟨h14a, h14b⟩ (fun o ho => by cases ho; exact .inl ⟨by rfl, fun w hSw => by (obtain ⟨hs1, hs2⟩ := hSw; go_simp)⟩) ?_
  simp only [Act.put, List.setIfInBounds_toArray, List.set_cons_zero, List.set_cons_succ]
  refine takeH (i := 29) (d := some 83) (.bool true) rfl (by kernel_rfl) (by kernel_rfl) (by kernel_rfl) (fun _ _ _ _ h => h) ⟨h14a, h14b⟩ (fun o ho => by cases ho; exact .inl ⟨by rfl, fun w hSw => by (obtain ⟨hs1, hs2⟩ := hSw; go_simp)⟩) ?_
  simp only [Act.put, List.setIfInBounds_toArray, List.set_cons_zero, List.set_cons_succ]
  refine takeH (i := 30) (d := some 84) (.bool true) rfl (by kernel_rfl) (by kernel_rfl) (by kernel_rfl) (fun _ _ _ _ h => h) ⟨h14a, h14b⟩ (fun o ho => by cases ho; exact .inl ⟨by rfl, fun w hSw => by (obtain ⟨hs1, hs2⟩ := hSw; go_simp)⟩) ?_
  simp only [Act.put, List.setIfInBounds_toArray, List.set_cons_zero, List.set_cons_succ]
  refine takeH (i := 31) (d := some 85) (.slice (some ⟨gy, 0, none⟩) 128 128) rfl (by kernel_rfl) (by kernel_rfl) (by kernel_rfl) (fun _ _ _ _ h => h) ⟨h14a, h14b⟩ (fun o ho => by cases ho; exact .inl ⟨by rfl, fun w hSw => by (obtain ⟨hs1, hs2⟩ := hSw; go_simp)⟩) ?_
  simp only [Act.put, List.setIfInBounds_toArray, List.set_cons_zero, List.set_cons_succ]
  refine takeH (i := 32) (d := some 86) (.string S1) rfl (by kernel_rfl) (by kernel_rfl) (by kernel_rfl) (fun _ _ _ _ h => h) ⟨h14a, h14b⟩ (fun o ho => by cases ho; exact .inl ⟨by rfl, fun w hSw => by (obtain ⟨hs1, hs2⟩ := hSw; go_simp)⟩) ?_
  simp only [Act.put, List.setIfInBounds_toArray, List.set_cons_zero, List.set_cons_succ]
  refine oneH (i := 33) (by kernel_rfl) (fun o ho K' hK => ?_) (by decide)
  cases ho
  rw [if_pos (by rfl)]
  go_simp
  refine HFb.out.mono ?_
  rintro x w15 ⟨rfl, rfl⟩
  refine hK.out _ _ ⟨h15a, h15b⟩ ?_
  clear hK K'
  try simp only [Act.put, List.setIfInBounds_toArray, List.set_cons_zero, List.set_cons_succ]
  refine oneH (i := 34) (by kernel_rfl) (fun o ho K' hK => ?_) (by decide)
  cases ho
  rw [if_pos (by rfl)]
  go_simp
  refine hK.out _ _ ⟨h15a, h15b⟩ ?_
  clear hK K'
  try simp only [Act.put, List.setIfInBounds_toArray, List.set_cons_zero, List.set_cons_succ]
  refine takeH (i := 35) (d := some 89) (.bool true) rfl (by kernel_rfl) (by kernel_rfl) (by kernel_rfl) (fun _ _ _ _ h => h) ⟨h15a, h15b⟩ (fun o ho => by cases ho; exact .inl ⟨by rfl, fun w hSw => by (obtain ⟨hs1, hs2⟩ := hSw; go_simp)⟩) ?_
  simp only [Act.put, List.setIfInBounds_toArray, List.set_cons_zero, List.set_cons_succ]
  refine takeH (i := 36) (d := some 90) (.bool true) rfl (by kernel_rfl) (by kernel_rfl) (by kernel_rfl) (fun _ _ _ _ h => h) ⟨h15a, h15b⟩ (fun o ho => by cases ho; exact .inl ⟨by rfl, fun w hSw => by (obtain ⟨hs1, hs2⟩ := hSw; go_simp)⟩) ?_
  simp only [Act.put, List.setIfInBounds_toArray, List.set_cons_zero, List.set_cons_succ]
  refine takeH (i := 37) (d := some 0) (.bool true) rfl (by kernel_rfl) (by kernel_rfl) (by kernel_rfl) (fun _ _ _ _ h => h) ⟨h15a, h15b⟩ (fun o ho => by cases ho; exact .inl ⟨by rfl, fun w hSw => by (obtain ⟨hs1, hs2⟩ := hSw; go_simp)⟩) ?_
  simp only [Act.put, List.setIfInBounds_toArray, List.set_cons_zero]
  refine wpAnyH_done (by kernel_rfl) (NoPanic.normal ?_) _
  go_wp2
  go_ret
  exact ⟨rfl, Kp.trans HK12.out (show Kp G _ _ from Nw.kp (Fr.alloc (Fr.alloc HF13.out _) _))⟩

end Go.Proofs.Ytagcpjekeogkbaa.Wl
