/- The contract of the document's user (none). -/
import Derived.Test.YtangnoicnogddaaRus
import Derived.Deep.CutBlock
import Derived.Deep.DeepCutAuto
namespace Go.Proofs.Ytangnoicnogddaa.Tr
open Go.RowKit

section
variable {E : Nat → Prop} {w : World} {rb : Nat} {s : St} {o : Ov} {pa : Option Addr} {pc : Nat} {XF : List Xv} {XR : List Uv}
set_option maxRecDepth 100000 in
set_option maxHeartbeats 8000000 in
theorem ruser_none (h : RI E w rb s o pa pc XF XR) (hs : s.ok) (n : Nm) (hn : nameB n = true) (hu0 : o.ua = none) :
    Calls Try.prog 30 #[.pointer (some ⟨rb, 0, none⟩), .string ⟨n.toArray⟩] w fun e w' => RPost E w rb (userF s n) e w' := by
  have HN := hid (rname_any w n)
  have HSt : Hid (∀ r, r = (s, 0) → ∀ W, Fr (fun _ => False) w W → RPost E w rb r (.returned (.int .i64 0)) W) := fun r hr W f => by subst hr; exact ⟨rfl, f.upO, _, _, _, _, _, h.grow f⟩
  have HBad : Hid (∀ r, r = (s, 70) → ∀ W, Fr (fun _ => False) w W → RPost E w rb r (.returned (.int .i64 70)) W) := fun r hr W f => by subst hr; exact ⟨rfl, f.upO, _, _, _, _, _, h.grow f⟩
  have HEnd := hid (fun (W : World) (f : Fr (fun _ => False) w W) (a : Option Addr) (m c B : Nat) (hB : w.heap.size ≤ B) (u' : List Nm) (ow : W.ownsRow B 9 1 (.slice a m c) u'.length (strC u')) => h.endU f ow hB)
  have hul := hs.ul
  have c1 := h.cells.2.1
  have HU := hid h.u.strs
  have hcu := h.cu
  have hsz := h.blk.lt
  clear hs
  rw [hn] at HN
  have HR : Hid (userF s n = if isAt s.u n then (s, 0) else if s.u.length = 16 then (s, 70) else ({ s with u := ins s.u (pos s.u n) n }, 0)) := by
    unfold Hid userF userOk; rw [hn]
    by_cases h1 : isAt s.u n <;> by_cases h2 : s.u.length = 16 <;> simp [h1, h2]
  generalize userF s n = r at *
  clear h hn
  obtain ⟨fs, us, rs, p⟩ := s
  obtain ⟨fa, fl, fc, ua, ul, uc, ra, rl, rc⟩ := o
  simp only at *
  subst hu0
  have hn0 : us.length = 0 := by
    cases us with
    | nil => rfl
    | cons x l => obtain ⟨_, _, e, _⟩ := HU.out (by simp); cases e
  have hul' : us.length ≤ 16 := hul
  clear hul
  have hcm : uc ≤ 9223372036854775807 := by have := hcu.2; unfold maxLen at this; omega
  have hcu1 := hcu.1
  clear hcu
  obtain ⟨q, hq⟩ : ∃ q, q = pos us n := ⟨_, rfl⟩
  have HP := hid hq.symm
  have hqn : q ≤ us.length := by rw [hq]; exact pos_le _ _
  have HQ : Hid (∀ h : q < us.length, ¬ us[q] < n) := fun h => by subst hq; exact pos_ge h
  clear hq
  go_enter Try.func30, Try.ntmps30
  go_upto_block 0 with (go_at_call 35; refine HN.out.mono ?_; rintro e w1 ⟨rfl, f1⟩; have c1 := cell_fr f1 c1; have F1 := hid f1; clear f1)
  go_cut [6] (fun iv wx => iv = .int .i64 (q : Int) ∧ wx = w1)
  case first =>
    go_wp2_with fail
    go_loopw [6] (fun iv wr => ∃ i : Nat, i ≤ q ∧ iv = .int .i64 (i : Int) ∧ w1 = wr) (fun iv _ => us.length - (intOf iv).toNat)
    case atStart => exact ⟨0, Nat.zero_le _, rfl, rfl⟩
    case round =>
      obtain ⟨i, hi, rfl, rfl⟩ := hrel
      have hi0 : (0 : Int) ≤ (i : Int) := Int.natCast_nonneg _
      by_cases hlt : i < q
      · have hil : i < us.length := by omega
        exfalso; omega
      · obtain rfl : i = q := by omega
        by_cases hil : i < us.length
        · exfalso; omega
        · have hi1 : ¬ (i : Int) < ((us.length : Nat) : Int) := by omega
          go_wp2
          go_meet
          exact ⟨rfl, rfl⟩
  case rest =>
    obtain ⟨rfl, hw⟩ := hcut
    obtain rfl : w1 = wc := hw.symm
    clear hw
    have hq0 : (0 : Int) ≤ (q : Int) := Int.natCast_nonneg _
    go_upto_region 7 with fail
    obtain ⟨b, hb⟩ : ∃ b, b = isAt us n := ⟨_, rfl⟩
    have HB := hid hb
    rw [← hb] at HR
    clear hb
    go_cut [52] (fun c wx => c = .bool b ∧ wx = w1)
    case first =>
      by_cases hil : q < us.length
      · exfalso; omega
      · have hi1 : ¬ (q : Int) < ((us.length : Nat) : Int) := by omega
        obtain rfl : b = false := by
          rw [HB.out]; unfold isAt; rw [HP.out, List.getElem?_eq_none (by omega)]; simp
        go_wp2
        go_meet
        exact ⟨rfl, rfl⟩
    case rest =>
      obtain ⟨rfl, hw⟩ := hcut
      obtain rfl : w1 = wc := hw.symm
      clear hw HQ
      cases b with
      | true =>
        obtain ⟨hk, _⟩ := isAt_get HB.out.symm
        exfalso; omega
      | false =>
        have HR := hid (HR.out.trans (by rw [if_neg (by simp)]))
        by_cases h16 : us.length = 16
        · exfalso; omega
        · have hz : (((us.length : Nat) : Int) == 16) = false := by simp; omega
          have HRr := hid (HR.out.trans (by rw [if_neg h16]))
          clear h16 HR
          have HN0 := hid hn0
          clear hn0
          go_wp2_with fail
          have hn0 := HN0.out
          have hqc : q ≤ uc := by omega
          have HSD : Hid (∀ W, Fr (fun _ => False) w1 W → Strs W none (us.drop q)) := by
            refine fun W f hne => absurd ?_ hne
            exact List.drop_eq_nil_of_le (by omega)
          have hq0 : (0 : Int) ≤ (q : Int) := Int.natCast_nonneg _
          have hq1 : (q : Int) ≤ ((us.length : Nat) : Int) := by omega
          have hq2 : (q : Int) ≤ (uc : Int) := by omega
          have hq3 : ((us.length : Nat) : Int) ≤ (uc : Int) := by omega
          have HCL : Hid (∀ W, Fr (fun _ => False) w1 W → W.cell? ⟨rb, 1, none⟩ = some (.slice none us.length uc)) := fun W f => cell_fr f c1
          obtain ⟨z, hz⟩ : ∃ z, z = w1.heap.size := ⟨_, rfl⟩
          have HZ := hid hz
          have hwz := hid F1.out.size
          have HFA : Hid (Fr (fun _ => False) w1 (w1.alloc (.cells #[] 9)).drew) := ((Fr.refl _ w1).alloc _).drew
          have HFB : Hid (Fr (fun _ => False) w1 ((w1.alloc (.cells #[] 9)).alloc (.cells #[.string ⟨n.toArray⟩] 9)).drew) := (((Fr.refl _ w1).alloc _).alloc _).drew
          have HFC : Hid (Fr (fun _ => False) w1 ((w1.alloc (.cells #[.string ⟨n.toArray⟩] 9)).alloc (.cells #[] 9)).drew) := (((Fr.refl _ w1).alloc _).alloc _).drew
          have HOA : Hid ((w1.alloc (.cells #[] 9)).drew.ownsRow w1.heap.size 9 1 (.slice (some ⟨w1.heap.size, 0, none⟩) 0 0) ([] : List Nm).length (strC [])) := own_empty w1 9 1
          have HOB : Hid (((w1.alloc (.cells #[] 9)).alloc (.cells #[.string ⟨n.toArray⟩] 9)).drew.ownsRow w1.heap.size 9 1 (.slice (some ⟨w1.heap.size, 0, none⟩) 0 0) ([] : List Nm).length (strC [])) := own_fr0 (own_empty w1 9 1) ((Fr.refl _ _).alloc _).drew
          have HOC : Hid (((w1.alloc (.cells #[.string ⟨n.toArray⟩] 9)).alloc (.cells #[] 9)).drew.ownsRow w1.heap.size 9 1 (.slice (some ⟨w1.heap.size + 1, 0, none⟩) 0 0) ([] : List Nm).length (strC [])) := by
            have := own_empty (w1.alloc (.cells #[.string ⟨n.toArray⟩] 9)) 9 1
            rw [World.size_alloc] at this
            exact own_down this (fun b hb => by have := obk hb; omega)
          have HNB : Hid (Blk ((w1.alloc (.cells #[] 9)).alloc (.cells #[.string ⟨n.toArray⟩] 9)).drew (w1.heap.size + 1) 9 [.string ⟨n.toArray⟩]) := by
            have := Blk.new (w1.alloc (.cells #[] 9)) 9 [.string ⟨n.toArray⟩]
            rw [World.size_alloc] at this
            exact this
          have HNC : Hid (Blk ((w1.alloc (.cells #[.string ⟨n.toArray⟩] 9)).alloc (.cells #[] 9)).drew w1.heap.size 9 [.string ⟨n.toArray⟩]) := (((Fr.refl (fun _ => False) _).alloc _).drew).blk (Blk.new w1 9 [.string ⟨n.toArray⟩]) (fun h => h)
          have hl1 : (us.take q).length = q := by rw [List.length_take]; omega
          have hl2 : (us.drop q).length = us.length - q := List.length_drop
          have he1 : (us.take q ++ [n]) ++ us.drop q = ins us q n := by rw [List.append_assoc]; rfl
          have HST : Hid (∀ W, Fr (fun _ => False) w1 W → Strs W none (us.take q)) := fun W f => ((HU.out.env (Env.of F1.out)).env (Env.of f)).take q
          have c1d := HCL.out _ ((Fr.refl (fun _ => False) w1).drew)
          have c1a : ∀ ob, (w1.alloc ob).cell? ⟨rb, 1, none⟩ = some (.slice none us.length uc) := fun ob => HCL.out _ ((Fr.refl (fun _ => False) w1).alloc ob)
          have c1e : ∀ ob, ((w1.alloc ob).drew).cell? ⟨rb, 1, none⟩ = some (.slice none us.length uc) := fun ob => HCL.out _ ((Fr.refl (fun _ => False) w1).alloc ob).drew
          have c1f : ∀ ob ob', ((w1.alloc ob).alloc ob').cell? ⟨rb, 1, none⟩ = some (.slice none us.length uc) := fun ob ob' => HCL.out _ (((Fr.refl (fun _ => False) w1).alloc ob).alloc ob')
          have c1g : ∀ ob ob', (((w1.alloc ob).alloc ob').drew).cell? ⟨rb, 1, none⟩ = some (.slice none us.length uc) := fun ob ob' => HCL.out _ (((Fr.refl (fun _ => False) w1).alloc ob).alloc ob').drew
          clear hn0
          go_region_law
            ((first
              | (refine step_app_S (by rfl) (.tmp 61) (.tmp 68) (by rfl) w1.heap.size (.slice (some ⟨w1.heap.size, 0, none⟩) 0 0) [] (us.take q) none uc (by rfl) (by rw [hl1]; rfl) HOA.out (HST.out _ HFA.out) HFA.out.size (by rw [hl1]; unfold lim16; simp; omega) ?_; intro v1 W1 o1 g1 b1; rw [List.nil_append] at o1; obtain ⟨a1, q1, hv1⟩ := own_len o1; obtain ⟨n1, hn1⟩ : ∃ n1, n1 = (us.take q).length := ⟨_, rfl⟩; rw [← hn1] at hv1; subst hv1; have O1 := hid o1; have G1 := hid (HFA.out.grown g1 (fun k hk => .inr (by have := obk hk; omega))); have c1b := HCL.out _ G1.out; have c1c : ∀ ob, (W1.alloc ob).cell? ⟨rb, 1, none⟩ = some (.slice none us.length uc) := fun ob => HCL.out _ (G1.out.alloc ob); clear o1 g1 b1 hn1)
              | (refine step_app_S (by rfl) (.tmp 61) (.tmp 68) (by rfl) w1.heap.size (.slice (some ⟨w1.heap.size, 0, none⟩) 0 0) [] (us.take q) none uc (by rfl) (by rw [hl1]; rfl) HOB.out (HST.out _ HFB.out) HFB.out.size (by rw [hl1]; unfold lim16; simp; omega) ?_; intro v1 W1 o1 g1 b1; rw [List.nil_append] at o1; obtain ⟨a1, q1, hv1⟩ := own_len o1; obtain ⟨n1, hn1⟩ : ∃ n1, n1 = (us.take q).length := ⟨_, rfl⟩; rw [← hn1] at hv1; subst hv1; have O1 := hid o1; have N1 := hid (strs_blk (((Fr.refl (fun k => k = w1.heap.size) _).grown g1 (fun k hk => .inl (by show k = w1.heap.size; have := obk hk; omega))).blk HNB.out (fun h => by have h' : w1.heap.size + 1 = w1.heap.size := h; omega))); have G1 := hid (HFB.out.grown g1 (fun k hk => .inr (by have := obk hk; omega))); have c1b := HCL.out _ G1.out; clear o1 g1 b1 hn1)
              | (refine step_app_S (by rfl) (.tmp 61) (.tmp 68) (by rfl) w1.heap.size (.slice (some ⟨w1.heap.size + 1, 0, none⟩) 0 0) [] (us.take q) none uc (by rfl) (by rw [hl1]; rfl) HOC.out (HST.out _ HFC.out) HFC.out.size (by rw [hl1]; unfold lim16; simp; omega) ?_; intro v1 W1 o1 g1 b1; rw [List.nil_append] at o1; obtain ⟨a1, q1, hv1⟩ := own_len o1; obtain ⟨n1, hn1⟩ : ∃ n1, n1 = (us.take q).length := ⟨_, rfl⟩; rw [← hn1] at hv1; subst hv1; have O1 := hid o1; have N1 := hid (strs_blk (((Fr.refl (fun k => k = w1.heap.size + 1) _).grown g1 (fun k hk => .inl (by show k = w1.heap.size + 1; have := obk hk; omega))).blk HNC.out (fun h => by have h' : w1.heap.size = w1.heap.size + 1 := h; omega))); have G1 := hid (HFC.out.grown g1 (fun k hk => .inr (by have := obk hk; omega))); have c1b := HCL.out _ G1.out; clear o1 g1 b1 hn1)
              | (refine step_app_S (by rfl) (.tmp 69) (.tmp 71) (by rfl) w1.heap.size (.slice a1 n1 q1) (us.take q) [n] _ 1 (by rfl) (by rfl) O1.out N1.out G1.out.size (by rw [hl1]; unfold lim16; simp; omega) ?_; intro v2 W2 o2 g2 b2; obtain ⟨a2, q2, hv2⟩ := own_len o2; obtain ⟨n2, hn2⟩ : ∃ n2, n2 = (us.take q ++ [n]).length := ⟨_, rfl⟩; rw [← hn2] at hv2; subst hv2; have O2 := hid o2; have G2 := hid (G1.out.grown g2 (fun k hk => .inr (own_lt O1.out k hk).1)); have c1h := HCL.out _ G2.out; clear o2 g2 b2 hn2)
              | (refine step_app_S (by rfl) (.tmp 69) (.tmp 71) (by rfl) w1.heap.size (.slice a1 n1 q1) (us.take q) [n] (some ⟨W1.heap.size, 0, none⟩) 1 (by rfl) (by rfl) (own_fr0 O1.out ((Fr.refl _ _).alloc (.cells #[.string ⟨n.toArray⟩] 9))) (strs_blk (Blk.new W1 9 [.string ⟨n.toArray⟩])) (G1.out.alloc _).size (by rw [hl1]; unfold lim16; simp; omega) ?_; intro v2 W2 o2 g2 b2; obtain ⟨a2, q2, hv2⟩ := own_len o2; obtain ⟨n2, hn2⟩ : ∃ n2, n2 = (us.take q ++ [n]).length := ⟨_, rfl⟩; rw [← hn2] at hv2; subst hv2; have O2 := hid o2; have G2 := hid ((G1.out.alloc (.cells #[.string ⟨n.toArray⟩] 9)).grown g2 (fun k hk => .inr (own_lt O1.out k hk).1)); have c1h := HCL.out _ G2.out; clear o2 g2 b2 hn2)
              | (refine step_app_S (by rfl) (.tmp 72) (.tmp 79) (by rfl) w1.heap.size (.slice a2 n2 q2) (us.take q ++ [n]) (us.drop q) none (uc - q) (by rfl) (by rw [hl2]; rfl) O2.out (HSD.out _ G2.out) G2.out.size (by rw [hl2, List.length_append, hl1]; unfold lim16; simp; omega) ?_; intro v3 W3 o3 g3 b3; rw [he1] at o3; obtain ⟨a3, q3, hv3⟩ := own_len o3; obtain ⟨n3, hn3⟩ : ∃ n3, n3 = (ins us q n).length := ⟨_, rfl⟩; rw [← hn3] at hv3; subst hv3; have G3 := hid (G2.out.grown g3 (fun k hk => .inr (own_lt O2.out k hk).1)); obtain ⟨cc, zz, ff, xx⟩ := HEnd.out _ (F1.out.trans G3.out (fun _ h => h.elim)) _ _ _ _ hwz.out _ o3; have FF := hid ff; have XX := hid xx; clear o3 g3 b3 ff xx hn3)))
          all_goals
            go_wp2_with fail
            go_ret
            rw [HRr.out, HP.out]
            exact ⟨rfl, FF.out, XX.out⟩
end
end Go.Proofs.Ytangnoicnogddaa.Tr
