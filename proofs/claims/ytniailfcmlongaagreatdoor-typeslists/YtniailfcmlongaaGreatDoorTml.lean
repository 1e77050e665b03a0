/- The contracts of textOf, mergeLines. -/
import Derived.Test.YtniailfcmlongaaGreatDoorTme
namespace Go.Proofs.YtniailfcmlongaaGreatDoor.Tr
open Go.RowKit

/-- The cells of texts. -/
def strC (ns : List (List UInt8)) : List Value := ns.map fun s => .string ⟨s.toArray⟩
theorem infoS : (Tryz.prog.info? 9).map (fun i => (i.zero, i.size, i.bytes)) = some (some (.string ⟨#[]⟩), 1, 16) := by kernel_rfl
/-- 'append(lines, s)'. -/
theorem wpList_app_S {ops : Array Oper} {rest : List Oper} {o : Oper} {a : Act} {W : World} {Q : Exit → Act → World → Prop} (hgd : o.guard = none) (d s : Operand) (ho : o.op = .call { callee := .builtin .append, args := #[d, s], argTypes := #[23, 23] })
    (base : Nat) (v : Value) (ns : List (List UInt8)) (nm : List UInt8) (g cap : Nat) (hd : a.eval d = v) (hs : a.eval s = .slice (some ⟨g, 0, none⟩) 1 cap) (hown : W.ownsRow base 9 1 v ns.length (strC ns)) (hg : W.cell? ⟨g, 0, none⟩ = some (.string ⟨nm.toArray⟩)) (hb : base ≤ W.heap.size) (hl : ns.length ≤ 1000)
    (h : ∀ g' nc W', W'.ownsRow base 9 1 (.slice (some ⟨g', 0, none⟩) (ns.length + 1) nc) (ns ++ [nm]).length (strC (ns ++ [nm])) → W.grownBy W' v.ownBlock → wpList Tryz.prog ops Q rest (a.put o.dst (.slice (some ⟨g', 0, none⟩) (ns.length + 1) nc)) W') : wpList Tryz.prog ops Q (o :: rest) a W := by
  obtain ⟨i0, hi0, hz0, hz1, hz2⟩ := info_parts infoS
  refine wpList_append_lies W hgd d s 23 ho base 9 i0 _ 1 16 Tryz.underlying23 hi0 hz0 hz1 hz2 rfl (by omega) v ns.length (strC ns) hd hown ⟨g, 0, none⟩ 1 cap [.string ⟨nm.toArray⟩] hs rfl (fun j u hu => by
    cases j with
    | zero => simp only [List.getElem?_cons_zero, Option.some.injEq] at hu; subst hu; rw [Addr.add_mid]; exact hg
    | succ j => simp at hu) (by simp [Value.oneCell']) (by omega) (by unfold maxLen; omega) (by omega) hb _ rfl ?_
  intro g' cap' W' h1 h2 _ _
  refine h g' cap' W' ?_ h2
  rw [List.length_append]
  unfold strC
  rw [List.map_append]
  exact h1

set_option maxRecDepth 100000 in
set_option maxHeartbeats 1000000 in
theorem textOf_any (w : World) (t : List UInt8) : Calls Tryz.prog 76 #[.string ⟨t.toArray⟩] w fun e w' => e = .returned (vS t).v ∧ Fr (fun _ => False) w w' := by
  have HF := hid (vFr w (vS t))
  have hst := fun (W : World) (a : Addr) (m : Mode) (f : Nat) => run_store Tryz.prog W a (.float .f64 f) m rfl
  go_enter Tryz.func76, Tryz.ntmps76
  go_wp2
  exact bodyPost_ret (resV rfl rfl (vBlk w (vS t))) rfl ⟨rfl, HF.out⟩

/-- All texts, with a line feed between. -/
def linesOf (l : List Vt) : List UInt8 := Lib.join (l.map (·.t)) [10]
def mln (l : List Vt) : Vt ⊕ Int := if (linesOf l).length ≤ 1024 then .inl (.mk 4 0 0 (linesOf l) [] []) else .inr 20
theorem vin_text (w : World) (t : List UInt8) (h : t.length ≤ lim) : VIn w (.mk 4 0 0 t [] []) (vS t) := by
  rw [VIn]
  exact ⟨⟨rfl, rfl, rfl, rfl⟩, ⟨⟨by decide, by decide⟩, ⟨by decide, by decide⟩, h, by simp⟩, ⟨rfl, by simp, by simp, fun e => absurd rfl e⟩, ⟨rfl, by simp, by simp⟩, by rw [IIn]; trivial⟩

theorem join_any (w : World) (ns : List (List UInt8)) (g c : Nat) (B : Nat) (hO : w.ownsRow B 9 1 (.slice (some ⟨g, 0, none⟩) ns.length c) ns.length (strC ns)) (h0 : 0 < ns.length) (hl : ns.length ≤ 1000) (hlen : (Lib.join ns [10]).length ≤ 140737488355328) :
    Calls Tryz.prog 75 #[.slice (some ⟨g, 0, none⟩) ns.length c, .string ⟨#[10]⟩] w fun e w' => e = .returned (.string ⟨(Lib.join ns [10]).toArray⟩) ∧ Fr (fun _ => False) w w' := by
  obtain ⟨g', c', cur, hv, hb, hgl, hgc, hcap, ht⟩ := own_row hO h0
  simp only [Value.slice.injEq, Option.some.injEq, Addr.mk.injEq, and_true, true_and] at hv
  obtain ⟨rfl, rfl⟩ := hv
  have hm : (ns.map fun l => ByteArray.mk l.toArray).map (·.data.toList) = ns := by
    rw [List.map_map]
    exact (List.map_congr_left (fun a _ => by simp)).trans (List.map_id ns)
  have h := Tryz.strings_Join g 0 c (ns.map fun l => ByteArray.mk l.toArray) ⟨#[10]⟩ w (fun j x hx => by
    rw [cell_of_row w g (0 + j) _ _ (0, 0) hgc, Nat.zero_add]
    rw [List.getElem?_map] at hx
    have hj : j < ns.length := by
      rcases Nat.lt_or_ge j ns.length with h | h
      · exact h
      · rw [List.getElem?_eq_none h] at hx; cases hx
    rw [List.getElem?_eq_getElem hj] at hx
    simp only [Option.map_some, Option.some.injEq] at hx
    subst hx
    have h2 : (strC ns)[j]? = some (.string ⟨ns[j].toArray⟩) := by unfold strC; rw [List.getElem?_map, List.getElem?_eq_getElem hj]; rfl
    rw [← ht, List.getElem?_take, if_pos (by omega)] at h2
    simpa using h2) hgl (by simp; omega) (by simpa using hcap) (by rw [hm]; exact hlen)
  rw [hm, List.length_map] at h
  exact h.mono fun _ _ ⟨h1, h2⟩ => ⟨h1, h2.os, h2.tape, h2.output, h2.size, fun k hk _ => h2.block k hk⟩
theorem join_len (ns : List (List UInt8)) (h : ∀ s ∈ ns, s.length ≤ 1024) : (Lib.join ns [10]).length ≤ ns.length * 1025 := by
  cases ns with
  | nil => simp [Lib.join_nil]
  | cons a r =>
    rw [Lib.join_cons]
    have hr : (Lib.joinTail [10] r).length ≤ r.length * 1025 := by
      have h' : ∀ s ∈ r, s.length ≤ 1024 := fun s hs => h s (by simp [hs])
      clear h
      induction r with
      | nil => simp [Lib.joinTail]
      | cons b t ih =>
        have := ih (fun s hs => h' s (by simp [hs]))
        have hb := h' b (by simp)
        have e : Lib.joinTail [10] (b :: t) = 10 :: b ++ Lib.joinTail [10] t := by simp [Lib.joinTail]
        rw [e]
        simp only [List.length_append, List.length_cons]
        omega
    have ha := h a (by simp)
    simp only [List.length_append, List.length_cons]
    omega
theorem rt_text {v : Vt} (h : rtB v 32 = true) : v.t.length ≤ 1024 := by
  cases v with
  | mk k n f t ns its =>
    rw [rtB] at h
    show t.length ≤ 1024
    split at h
    · simp only [Bool.and_eq_true] at h
      have := h.2
      unfold bareB at this
      simp only [Bool.and_eq_true, decide_eq_true_eq] at this
      rw [this.1.1.2]; simp
    · split at h
      · simp only [Bool.and_eq_true] at h
        have := h.2
        unfold bareB at this
        simp only [Bool.and_eq_true, decide_eq_true_eq] at this
        rw [this.1.1.2]; simp
      · unfold rightS at h
        have hb : ∀ x : Vv, bareB x = true → x.t = [] := fun x hx => by
          unfold bareB at hx
          simp only [Bool.and_eq_true, decide_eq_true_eq] at hx
          exact hx.1.1.2
        simp only at h
        split at h
        · have := hb _ h; simp only at this; rw [this]; simp
        · split at h
          · simp only [Bool.and_eq_true] at h
            have := hb _ h.2; simp only at this; rw [this]; simp
          · split at h
            · have := hb _ h; simp only at this; rw [this]; simp
            · split at h
              · have := hb _ h; simp only at this; rw [this]; simp
              · split at h
                · simp only [Bool.and_eq_true, decide_eq_true_eq] at h
                  exact h.1
                · cases h

set_option maxRecDepth 100000 in
set_option maxHeartbeats 4000000 in
theorem mergeLines_any (w : World) (l : List Vt) (ad : Option Addr) (cap : Nat) (hI : IIn w l ad) (hne : 0 < l.length) (hlim : l.length ≤ 1000) (hR : ∀ u ∈ l, rtB u 32 = true) :
    Calls Tryz.prog 54 #[.slice ad l.length cap] w fun e w' => MPost w (mln l) e w' := by
  have hst := fun (W : World) (a : Addr) (m : Mode) (f : Nat) => run_store Tryz.prog W a (.float .f64 f) m rfl
  obtain ⟨bb, bo, rfl⟩ := hI.some (by intro e; rw [e] at hne; simp at hne)
  have HI := hid hI
  have HR := hid hR
  have HT : Hid (mln l = if (linesOf l).length ≤ 1024 then .inl (.mk 4 0 0 (linesOf l) [] []) else .inr 20) := rfl
  have HLn : Hid ((Lib.join (l.map (·.t)) [10]).length ≤ 1025000) := by
    have := join_len (l.map (·.t)) (fun s hs => by
      obtain ⟨u, hu, rfl⟩ := List.mem_map.1 hs
      exact rt_text (hR u hu))
    rw [List.length_map] at this
    show (Lib.join (l.map (·.t)) [10]).length ≤ 1025000
    omega
  have HF0 := hid (vFr w vZ)
  have HB0 := hid (vBlk w vZ)
  generalize mln l = T at *
  clear hI hR
  go_enter Tryz.func54, Tryz.ntmps54
  go_wp2_with fail
  go_loopw [4, 6, 10] (fun sv _ iv wr => ∃ (i : Nat) (ns : List (List UInt8)), i ≤ l.length ∧ iv = .int .i64 (i : Int) ∧ wr.ownsRow (w.heap.size + 1) 9 1 sv ns.length (strC ns) ∧ ns = (l.take i).map (·.t) ∧ Fr (fun _ => False) w wr ∧ Blk wr w.heap.size 26 vZ.cs) (fun _ _ iv _ => l.length - (intOf iv).toNat)
  case atStart => exact ⟨0, [], by omega, rfl, World.ownsRow_nil _ _ _ _, by simp, HF0.out, HB0.out⟩
  case round =>
    obtain ⟨i, ns, hi, rfl, hO, hN, hF, hB⟩ := hrel
    clear HF0 HB0
    have HO := hid hO
    have HN := hid hN
    have HF := hid hF
    have HB := hid hB
    have hnl : ns.length ≤ 1000 := by rw [hN]; simp; omega
    clear hO hN hF hB
    by_cases hlt : i < l.length
    · have hlt' : (i : Int) < ((l.length : Nat) : Int) := by omega
      obtain ⟨y, y1, y2⟩ := HI.out.get i hlt
      obtain ⟨k0, k1, k2, k3, k4, k5⟩ := (y1.env (Env.of HF.out)).six
      have HN2 : Hid (ns ++ [y.t] = (l.take (i + 1)).map (·.t)) := by
        unfold Hid
        rw [List.take_succ_eq_append_getElem hlt, List.map_append, ← HN.out, y2.parts.1.2.2.2]
        rfl
      have HFb := hid (HF.out.trans (vFr wr y) (fun _ h => h.elim))
      have HOb := hid (own_alloc (own_alloc HO.out (.cells #[.int .i64 y.k, .int .i64 y.n, .float .f64 y.f, .string ⟨y.t.toArray⟩, .slice y.na y.nl y.nc, .slice y.ia y.il y.ic] 26)) (.cells #[.string ⟨y.t.toArray⟩] 9))
      have HGb : Hid (((vBox wr y).alloc (.cells #[.string ⟨y.t.toArray⟩] 9)).cell? ⟨wr.heap.size + 1, 0, none⟩ = some (.string ⟨y.t.toArray⟩)) := by
        have := (Blk.new (vBox wr y) 9 [.string ⟨y.t.toArray⟩]).cell 0
        rw [World.size_alloc] at this
        exact this
      have HFc : Hid (Fr (fun _ => False) w ((vBox wr y).alloc (.cells #[.string ⟨y.t.toArray⟩] 9))) := HFb.out.alloc _
      have HBc : Hid (Blk ((vBox wr y).alloc (.cells #[.string ⟨y.t.toArray⟩] 9)) w.heap.size 26 vZ.cs) := (HB.out.alloc _).alloc _
      have hsz : w.heap.size + 1 ≤ ((vBox wr y).alloc (.cells #[.string ⟨y.t.toArray⟩] 9)).heap.size := by
        have := HF.out.size
        rw [World.size_alloc, World.size_alloc]; omega
      clear y1 y2 HN
      obtain ⟨k, n, f, t, na, nl, nc, ia, il, ic⟩ := y
      simp only at *
      go_wp2_with (at_builtin; refine Hid.out ?_)
      refine wpList_app_S (by rfl) _ _ (by rfl) (w.heap.size + 1) _ ns t _ _ (by rfl) (by rfl) HOb.out HGb.out hsz hnl ?_
      intro g' ic' W' ho hg
      have HO2 := hid ho
      have HF3 : Hid (Fr (fun _ => False) w W') := HFc.out.grown hg (fun k hk => .inr (by have := (own_lt HO.out k hk).1; omega))
      have HB3 : Hid (Blk W' w.heap.size 26 vZ.cs) := HBc.out.of_eq (hg.block _ HBc.out.lt (fun e => by have := (own_lt HO.out _ e.symm).1; omega))
      clear ho hg
      go_wp2_with fail
      exact ⟨⟨i + 1, _, by omega, by first | rfl | (congr 1), HO2.out, HN2.out, HF3.out, HB3.out⟩, by simp [intOf]; omega⟩
    · have hlt' : ¬ (i : Int) < ((l.length : Nat) : Int) := by omega
      have hN2 : ns = l.map (·.t) := by rw [HN.out, List.take_of_length_le (by omega)]
      have hnp : 0 < ns.length := by rw [hN2, List.length_map]; exact hne
      obtain ⟨g3, c3, cur3, hv3, hb3, hl3, hc3, hf3, ht3⟩ := own_row HO.out hnp
      subst hv3
      have HJ := hid (join_any wr ns g3 c3 _ HO.out hnp hnl (by rw [hN2]; have := HLn.out; omega))
      have HLj : Hid (Lib.join ns [10] = linesOf l) := by unfold Hid; rw [hN2]; rfl
      have hjl : (Lib.join ns [10]).length ≤ 1025000 := by rw [hN2]; exact HLn.out
      rw [HLj.out] at hjl
      rw [HLj.out] at HJ
      generalize linesOf l = s at *
      clear HO HN hc3 ht3 hN2 HLj HLn hst
      go_wp2_with fail
      refine HJ.out.mono ?_
      rintro e w2 ⟨rfl, f2⟩
      have HF2 := hid (HF.out.trans f2 (fun _ h => h.elim))
      have HB2 := hid (f2.blk HB.out (fun h => h))
      clear f2
      by_cases h1024 : 1024 < s.length
      · have h' : decide ((1024 : Int) < ((s.length : Nat) : Int)) = true := by simpa using (show (1024 : Int) < ((s.length : Nat) : Int) by omega)
        have HT2 : Hid (T = .inr 20) := by unfold Hid; rw [HT.out, if_neg (by omega)]
        clear h1024
        go_wp2_with (refine wpList_storeV vZ (by rfl) _ _ (by rfl) HB2.out (by rfl) (by rfl) ?_; intro w5 b5 f5)
        have HF5 : Hid (Fr (fun _ => False) w w5) := HF2.out.trans f5 (fun j hj => .inr (by omega))
        have HB5 := hid b5
        clear b5 f5
        go_wp2_with fail
        exact bodyPost_ret (resVE rfl rfl HB5.out) rfl ⟨HF5.out, .inl ⟨20, HT2.out, rfl⟩⟩
      · have h' : decide ((1024 : Int) < ((s.length : Nat) : Int)) = false := by simpa using (show ((s.length : Nat) : Int) ≤ 1024 by omega)
        have HT2 : Hid (T = .inl (.mk 4 0 0 s [] [])) := by unfold Hid; rw [HT.out, if_pos (by omega)]
        have HVs : Hid (∀ W, VIn W (.mk 4 0 0 s [] []) (vS s)) := fun W => vin_text W s (by unfold lim; omega)
        clear h1024
        go_wp2_with fail
        refine (textOf_any _ s).mono ?_
        rintro e w3 ⟨rfl, f3⟩
        have HF3 := hid (HF2.out.trans f3 (fun _ h => h.elim))
        have HB3 := hid (f3.blk HB2.out (fun h => h))
        clear f3
        go_wp2_with (refine wpList_storeV (vS s) (by rfl) _ _ (by rfl) HB3.out (by rfl) (by rfl) ?_; intro w5 b5 f5)
        have HF5 : Hid (Fr (fun _ => False) w w5) := HF3.out.trans f5 (fun j hj => .inr (by omega))
        have HB5 := hid b5
        clear b5 f5
        go_wp2_with fail
        exact bodyPost_ret (resVE rfl rfl HB5.out) rfl ⟨HF5.out, .inr ⟨_, _, HT2.out, rfl, HVs.out _⟩⟩
end Go.Proofs.YtniailfcmlongaaGreatDoor.Tr
