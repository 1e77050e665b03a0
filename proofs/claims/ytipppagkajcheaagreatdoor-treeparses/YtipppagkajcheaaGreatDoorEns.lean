/- The contract of entries, where a tree's bytes stand. -/
import Derived.Test.YtipppagkajcheaaGreatDoorEty
import Derived.Test.YtipppagkajcheaaGreatDoorCop
namespace Go.Proofs.YtipppagkajcheaaGreatDoor.Tr
open Go.RowKit

theorem owns_rd {w w' : World} {rb B n s : Nat} {t : TypeId} {v : Value} {xs ys : List Value} (h : w.ownsRow B t s v n xs) (hb : Blk w rb 54 ys) (ht : t ≠ 54) (f : Fr (fun k => k = rb) w w') : w'.ownsRow B t s v n xs := by
  refine owns_of_eq h (fun k hk => f.block k (h.lt k hk).2 (fun e => ?_))
  subst e
  have hb' : w.heap[k]? = some (.cells ys.toArray 54 (0, 0)) := hb
  rcases h.2 with ⟨rfl, _⟩ | ⟨g', cap', cur, rfl, _, hh, _⟩
  · cases hk
  · cases hk
    rw [hb'] at hh
    cases hh
    exact ht rfl
theorem cop_step {w wr W4 : World} {L : List Ent} {i rb : Nat} (hlt : i < L.length) {u : Value} {m : Mv} {ys : List Value} (hC : Cop w wr L i u) (hb : Blk wr rb 54 ys) (hwb : w.heap.size ≤ rb) (f4 : Fr (fun k => k = rb) wr W4) (hd : DOwn w.heap.size W4 L[i] m) :
    ∃ Z, W4.ownsRow w.heap.size 36 3 u i Z ∧ ∀ W5 v', W5.ownsRow w.heap.size 36 3 v' (i + 1) (Z ++ entC L[i] m) → W4.grownBy W5 u.ownBlock → Cop w W5 L (i + 1) v' := by
  obtain ⟨M, hM, ho, hdM⟩ := hC.own
  have ho4 : W4.ownsRow w.heap.size 36 3 u i (entsC (L.take i) M) := owns_rd ho hb (by decide) f4
  refine ⟨_, ho4, fun W5 v' ho5 g5 => ⟨(hC.f.trans f4 (fun k h => .inr (by omega))).grown g5 (fun k hk => .inr (ho4.lt k hk).1), M ++ [m], by simp [hM], ?_, fun j hj hl => ?_⟩⟩
  · rw [← entsC_snoc (L.take i) M L[i] m (by rw [hM, List.length_take]; omega), ← List.take_succ_eq_append_getElem hlt] at ho5
    exact ho5
  · by_cases hji : j < i
    · have e : (M ++ [m])[j] = M[j]'(by omega) := List.getElem_append_left (by omega)
      rw [e]
      have hdj : DOwn w.heap.size W4 L[j] (M[j]'(by omega)) := owns_rd (hdM j (by omega) hl) hb (by decide) f4
      exact hdj.tag g5 (Cop.tag ho4)
    · have hj' : j = i := by simp [hM] at hj; omega
      subst hj'
      have e : (M ++ [m])[j] = m := by
        rw [List.getElem_append_right (by omega)]; simp [hM]
      rw [e]
      exact hd.tag g5 (Cop.tag ho4)
theorem Cop.rd {w wr w' : World} {L : List Ent} {i rb : Nat} {v : Value} {ys : List Value} (h : Cop w wr L i v) (hb : Blk wr rb 54 ys) (hwb : w.heap.size ≤ rb) (f : Fr (fun k => k = rb) wr w') : Cop w w' L i v := by
  obtain ⟨M, hM, ho, hd⟩ := h.own
  exact ⟨h.f.trans f (fun k h => .inr (by omega)), M, hM, owns_rd ho hb (by decide) f, fun j hj hl => owns_rd (hd j hj hl) hb (by decide) f⟩
theorem Rd.grown {B : Nat} {W W' : World} {rb : Nat} {ad : Option Addr} {cap : Nat} {M : List UInt8} {r : Option Nat} (h : Rd B W rb ad cap M) (g : W.grownBy W' r) (hr : ∀ k, r = some k → B ≤ k ∧ k ≠ rb) : Rd B W' rb ad cap M := by
  refine ⟨h.blk.of_eq (g.block rb h.blk.lt (fun e => (hr rb e.symm).2 rfl)), h.cap, fun hM => ?_, h.low⟩
  obtain ⟨bb, bo, e, hrr⟩ := h.src hM
  have hlo := h.low ⟨bb, bo, none⟩ e
  obtain ⟨_, _, e', _, hlt⟩ := h.ne h.src hM
  rw [e] at e'
  cases e'
  refine ⟨bb, bo, e, fun j v hv => ?_⟩
  rw [World.cell?_of_block (w := W) (g.block bb hlt (fun e => by have h1 := (hr bb e.symm).1; simp at hlo; omega))]
  exact hrr j v hv
def endL : List UInt8 := [101, 110, 100, 10]
def restL (L : List Ent) (i : Nat) : List UInt8 := (L.drop i).flatMap entL ++ endL
theorem rest_step (L : List Ent) (i : Nat) (h : i < L.length) : restL L i = entL L[i] ++ restL L (i + 1) := by
  unfold restL
  rw [List.drop_eq_getElem_cons h, List.flatMap_cons, List.append_assoc]
theorem rest_end (L : List Ent) : restL L L.length = endL := by simp [restL]
theorem body_rest (L : List Ent) : bodyL L = [116, 114, 101, 101, 10] ++ restL L 0 := by simp [bodyL, restL, endL]
theorem rest_no (L : List Ent) (i : Nat) (h : i < L.length) : Lib.hasPrefix (restL L i) endL = false := by
  rw [rest_step L i h, entL]
  split <;> simp [Lib.hasPrefix, endL, List.isPrefixOf]
def lenOf : Value → Nat
  | .slice _ n _ => n
  | _ => 0


set_option maxRecDepth 100000 in
set_option maxHeartbeats 4000000 in
theorem entries_yes (w : World) (ad : Option Addr) (cap : Nat) (L : List Ent) (hs : Src w ad (bodyL L)) (hc : (bodyL L).length ≤ cap) (hlow : ∀ a, ad = some a → a.block < w.heap.size) (h24 : L.length ≤ 24) (hone : ∀ x ∈ L, oneB x = true) (hl : (bodyL L).length < 4294967281) (m : Int) (hm : w.cell? ⟨0, 0, none⟩ = some (.int .i64 m)) :
    Calls Tryz.prog 15 #[.slice ad (bodyL L).length cap] w fun e w' => ∃ v, e = .returned (.tuple #[v, .bool true]) ∧ Cop w w' L L.length v := by
  obtain ⟨iE, hiE, hzE0, hzE1, hzE2⟩ := info_parts infoE
  have HE := hid (And.intro hiE (And.intro hzE0 (And.intro hzE1 hzE2)))
  clear hiE hzE0 hzE1 hzE2
  have hlr : ∀ i, i ≤ L.length → (restL L i).length < 4294967281 := by
    intro i hi
    have e : (restL L 0).length ≤ (bodyL L).length := by rw [body_rest, List.length_append]; omega
    have e2 : (restL L i).length ≤ (restL L 0).length := by
      unfold restL
      rw [List.length_append, List.length_append, List.drop_zero]
      have h3 : L.flatMap entL = (L.take i).flatMap entL ++ (L.drop i).flatMap entL := by rw [← List.flatMap_append, List.take_append_drop]
      rw [h3, List.length_append]; omega
    omega
  have HW0 : Hid (Fr (fun _ => False) w (w.alloc (.cells #[.slice ad (bodyL L).length cap] 54))) := (Fr.refl _ w).alloc _
  have HR0 : Hid (Rd w.heap.size (w.alloc (.cells #[.slice ad (bodyL L).length cap] 54)) w.heap.size ad cap (bodyL L)) := ⟨Blk.new w 54 _, hc, hs.fr HW0.out, hlow⟩
  have HP0 := hid (pass_yes w.heap.size _ w.heap.size ad cap (bodyL L) 116 [114, 101, 101, 10] HR0.out (by rw [body_rest]; simp [Lib.hasPrefix, List.isPrefixOf]))
  have hd0 : (bodyL L).drop [(116 : UInt8), 114, 101, 101, 10].length = restL L 0 := by rw [body_rest]; rfl
  rw [hd0] at HP0
  have HM0 := hid (cell_fr HW0.out hm)
  have HZ := hid (HR0.out.one HM0.out)
  have HLr := hid hlr
  have HOne := hid hone
  clear hs hc hl hm hd0 hlr hone HR0
  generalize (bodyL L).length = bl at *
  go_enter Tryz.func15, Tryz.ntmps15
  go_wp2_with (go_at_call 27; refine HP0.out.mono ?_; rintro e w1 ⟨rfl, g1, hr1⟩; have HF1 : Hid (Fr (fun _ => False) w w1) := HW0.out.trans g1 (fun k h => .inr (by omega)); have HR1 := hid hr1; have HM1 := hid (cell_rd g1 HZ.out HM0.out); clear g1 hr1)
  clear HP0 HM0 HW0
  go_loopw [5] (fun lv wr => ∃ i : Nat, i ≤ L.length ∧ Cop w wr L i lv ∧ (∃ ad cap, Rd w.heap.size wr w.heap.size ad cap (restL L i)) ∧ wr.cell? ⟨0, 0, none⟩ = some (.int .i64 m)) (fun lv _ => L.length - lenOf lv)
  case atStart => exact ⟨0, Nat.zero_le _, ⟨HF1.out, [], rfl, World.ownsRow_nil _ _ _ _, fun j hj => absurd hj (by simp)⟩, HR1.out, HM1.out⟩
  case round =>
    obtain ⟨i, hi, hC, ⟨ad1, cap1, hr⟩, hml⟩ := hrel
    obtain ⟨M0, hM0, ho0, _⟩ := hC.own
    obtain ⟨va, vc, rfl⟩ := own_len ho0
    have HC := hid hC
    have HR := hid hr
    have HM := hid hml
    clear HF1 HR1 HM1 hC hr hml hM0 ho0
    have hi0 : (0 : Int) ≤ (i : Int) := Int.natCast_nonneg _
    by_cases hlt : i < L.length
    · have hi24 : (i : Int) < 24 := by omega
      have HPn := hid (pass_no w.heap.size wr w.heap.size ad1 cap1 (restL L i) endL HR.out (rest_no L i hlt))
      have HX := hid (HOne.out L[i] (List.getElem_mem hlt))
      have HRs := hid (rest_step L i hlt)
      have HLr1 := hid (HLr.out i hi)
      have HBr := hid HR.out.blk
      have HSt := hid (fun (W4 : World) (mm : Mv) (f4 : Fr (fun k => k = w.heap.size) wr W4) (hd : DOwn w.heap.size W4 L[i] mm) => cop_step hlt HC.out HBr.out (Nat.le_refl _) f4 hd)
      have hsz := HC.out.f.size
      have HEy := hid (fun (W : World) (a2 : Option Addr) (c2 : Nat) (hr : Rd w.heap.size W w.heap.size a2 c2 (restL L i)) (hmm : W.cell? ⟨0, 0, none⟩ = some (.int .i64 m)) => entry_yes w.heap.size W w.heap.size a2 c2 L[i] (restL L (i + 1)) (by rw [← HRs.out]; exact hr) HX.out (by rw [← HRs.out]; exact HLr1.out) m hmm)
      clear HX HRs HLr1 HOne HLr
      generalize L[i] = x at *
      generalize restL L i = r0 at *
      generalize hr1 : restL L (i + 1) = r1 at *
      have HRe := hid hr1
      clear hr1
      unfold endL at HPn
      go_wp2_with (first
        | (go_at_call 27; refine HPn.out.mono ?_; rintro e w2 ⟨rfl, g2, ad2, cap2, hr2⟩; have G2 := hid g2; have HR2 := hid hr2; have HM2 := hid (cell_rd g2 HZ.out HM.out); clear g2 hr2)
        | (go_at_call 28; refine (HEy.out _ ad2 cap2 HR2.out HM2.out).mono ?_; rintro e w3 ⟨da, dc, rfl, ho3, g3, ad3, cap3, hr3⟩; have O3 := hid ho3; have G3 := hid g3; have HR3 := hid hr3; have HM3 := hid (cell_rd g3 HZ.out HM2.out); clear ho3 g3 hr3; refine Hid.out ?_))
      refine hid ?_
      have HF4 : Hid (Fr (fun k => k = w.heap.size) wr ((w3.alloc (.cells #[.string ⟨x.path.toArray⟩, .int .i64 x.kind, .slice da x.data.length dc] 36)).alloc (.cells #[.string ⟨x.path.toArray⟩, .int .i64 x.kind, .slice da x.data.length dc] 36))) := ((G2.out.trans G3.out (fun _ h => .inl h)).alloc _).alloc _
      have hsz2 := G2.out.size
      have hsz3 := G3.out.size
      have HFa : Hid (Fr (fun _ => False) w3 ((w3.alloc (.cells #[.string ⟨x.path.toArray⟩, .int .i64 x.kind, .slice da x.data.length dc] 36)).alloc (.cells #[.string ⟨x.path.toArray⟩, .int .i64 x.kind, .slice da x.data.length dc] 36))) := ((Fr.refl _ w3).alloc _).alloc _
      have HD4 : Hid (DOwn w.heap.size ((w3.alloc (.cells #[.string ⟨x.path.toArray⟩, .int .i64 x.kind, .slice da x.data.length dc] 36)).alloc (.cells #[.string ⟨x.path.toArray⟩, .int .i64 x.kind, .slice da x.data.length dc] 36)) x (da, dc)) :=
        owns_base ((O3.out.alloc _).alloc _) (by omega)
      obtain ⟨Z, ho4, hend⟩ := HSt.out _ (da, dc) HF4.out HD4.out
      have HO4 := hid ho4
      have HEnd := hid hend
      have HR4 := hid (HR3.out.fr HFa.out)
      have HM4 := hid (cell_fr HFa.out HM3.out)
      have hne4 : ∀ k, (Value.slice va i vc).ownBlock = some k → w.heap.size ≤ k ∧ k ≠ w.heap.size := fun k hk => ⟨(ho4.lt k hk).1, fun e => by
        have hb' := HR4.out.blk
        unfold Blk at hb'
        rcases ho4.2 with ⟨h0, _⟩ | ⟨g', cap', cur, h0, _, hh, _⟩
        · rw [h0] at hk; cases hk
        · rw [h0] at hk
          have hg : g' = w.heap.size := (Option.some.inj (show some g' = some k from hk)).trans e
          rw [hg, hb'] at hh
          cases hh⟩
      have HNe := hid hne4
      have HN4 : Hid (∀ j u, (entC x (da, dc))[j]? = some u → ((w3.alloc (.cells #[.string ⟨x.path.toArray⟩, .int .i64 x.kind, .slice da x.data.length dc] 36)).alloc (.cells #[.string ⟨x.path.toArray⟩, .int .i64 x.kind, .slice da x.data.length dc] 36)).cell? ((⟨w3.heap.size + 1, 0, none⟩ : Addr).add j) = some u) := by
        intro j u hu
        have h2 := (Blk.new (w3.alloc (.cells #[.string ⟨x.path.toArray⟩, .int .i64 x.kind, .slice da x.data.length dc] 36)) 36 (entC x (da, dc))).cell j
        rw [World.size_alloc] at h2
        rw [Addr.add_mid, Nat.zero_add]
        exact h2.trans hu
      have HB4 : Hid (w.heap.size ≤ ((w3.alloc (.cells #[.string ⟨x.path.toArray⟩, .int .i64 x.kind, .slice da x.data.length dc] 36)).alloc (.cells #[.string ⟨x.path.toArray⟩, .int .i64 x.kind, .slice da x.data.length dc] 36)).heap.size) := by
        unfold Hid; simp; omega
      clear ho4 hend hne4 HF4 HD4 HFa HSt HEy HPn G2 G3 HR2 HM2 HR3 HM3 O3 HC HR HM HBr
      go_wp2_with (at_builtin; refine wpList_append_lies _ (by rfl) _ _ 24 (by rfl) w.heap.size 36 iE _ 3 48 Tryz.underlying24 HE.out.1 HE.out.2.1 HE.out.2.2.1 HE.out.2.2.2 rfl (by omega) (.slice va i vc) i Z (by rfl) HO4.out ⟨w3.heap.size + 1, 0, none⟩ 1 1 (entC x (da, dc)) (by rfl) (by rfl) HN4.out (by intro u hu; simp [entC] at hu; rcases hu with rfl | rfl | rfl <;> rfl) (by omega) (by unfold maxLen; omega) (by omega) HB4.out _ rfl ?_
                   intro g cap5 W5 hown5 hgrow _ _
                   have HC5 := hid (HEnd.out W5 _ hown5 hgrow)
                   have HR5 := hid (HR4.out.grown hgrow HNe.out)
                   have HM5 : Hid (W5.cell? ⟨0, 0, none⟩ = some (.int .i64 m)) := (by
                     have hlt := World.block_lt_of_cell? _ ⟨0, 0, none⟩ HM4.out
                     have h0 := hgrow.block 0 hlt (fun e => by have h1 := (HNe.out 0 e.symm).1; have h2 := HZ.out; omega)
                     unfold Hid
                     rw [World.cell?_of_block h0]
                     exact HM4.out)
                   clear hown5 hgrow)
      exact ⟨⟨i + 1, by omega, HC5.out, ⟨ad3, cap3, by rw [HRe.out]; exact HR5.out⟩, HM5.out⟩, by simp [lenOf]; omega⟩
    · obtain rfl : i = L.length := by omega
      by_cases h24' : L.length < 24
      · have hi24 : ((L.length : Nat) : Int) < 24 := by omega
        have HPy := hid (pass_yes w.heap.size wr w.heap.size ad1 cap1 (restL L L.length) 101 [110, 100, 10] HR.out (by rw [rest_end]; rfl))
        have HCr := hid (fun (W : World) (f : Fr (fun k => k = w.heap.size) wr W) => HC.out.rd HR.out.blk (Nat.le_refl _) f)
        clear HC HR HM HOne HLr
        go_wp2_with (go_at_call 27; refine HPy.out.mono ?_; rintro e w2 ⟨rfl, g2, _⟩; have HC2 := hid (HCr.out _ g2); clear g2)
        go_ret2
        exact ⟨_, rfl, HC2.out⟩
      · have hi24 : ¬ ((L.length : Nat) : Int) < 24 := by omega
        go_wp2
        go_ret2
        exact ⟨_, rfl, HC.out⟩

end Go.Proofs.YtipppagkajcheaaGreatDoor.Tr
