/- The walk of the law TreeBack. -/
import Derived.Test.YtipppagkajcheaaGreatDoorPsy
import Derived.Test.YtipppagkajcheaaGreatDoorShw
namespace Go.Proofs.YtipppagkajcheaaGreatDoor.Tr
open Go.RowKit

theorem own_cap {W : World} {B n cap : Nat} {ad : Option Addr} {xs : List Value} {t : TypeId} (h : W.ownsRow B t 1 (.slice ad n cap) n xs) : n ≤ cap := by
  rcases h.2 with ⟨h0, h1⟩ | ⟨g, cap', cur, h0, _, _, hn, _⟩
  · cases h0; exact Nat.le_refl _
  · cases h0; exact hn
theorem right_parts {L : List Ent} (h : rightB L = true) : L.length ≤ 24 ∧ (∀ x ∈ L, oneB x = true) ∧ (bodyL L).length < 4294967281 ∧ bytesL L = bodyL L := by
  have h0 := h
  unfold rightB at h
  rw [Bool.and_eq_true, decide_eq_true_eq] at h
  have ho := rightR_one [] L h.2
  have hf := flat_length L ho
  refine ⟨h.1, ho, ?_, by unfold bytesL; rw [if_pos h0]⟩
  unfold bodyL
  rw [List.length_append, List.length_append]
  simp only [List.length_cons, List.length_nil]
  omega

set_option maxRecDepth 100000 in
set_option maxHeartbeats 4000000 in
theorem tbk_walk (w : World) (ad bd : Option Addr) (A B : List Ent) (ca cb : Nat) (hA : Ents w ad A) (hB : Ents w bd B) (hca : A.length ≤ ca) (hcb : B.length ≤ cb) (hn : A.length ≤ 140737488351232) (hT : Tab w) (m : Int) (hm : w.cell? ⟨0, 0, none⟩ = some (.int .i64 m)) :
    Calls Tryz.prog 4 #[.slice ad A.length ca, .slice bd B.length cb] w fun e w' => e = .returned (.bool true) ∧ Fr (fun _ => False) w w' := by
  have HA := hid hA
  have HB := hid hB
  have HT := hid hT
  have HM := hid hm
  have HSh := hid (shown_any w hT)
  clear hA hB hT hm
  go_enter Tryz.func4, Tryz.ntmps4
  go_wp2_with (first
    | (go_at_call 5; refine HSh.out.mono ?_; rintro e w1 ⟨rfl, f1⟩; have F1 := hid f1; clear f1)
    | (go_at_call 10; refine (bytes_any _ ad A ca (HA.out.fr F1.out) hca (HT.out.fr F1.out)).mono ?_; rintro e w2 ⟨v2, rfl, ho2, f2⟩; obtain ⟨xa, xc, rfl⟩ := own_len ho2; have O2 := hid ho2; have F2 := hid (F1.out.trans f2 (fun _ h => h.elim)); clear ho2 f2; refine Hid.out ?_))
  refine hid ?_
  clear HSh
  go_wp2_with (go_at_call 10; refine (bytes_any _ bd B cb (HB.out.fr F2.out) hcb (HT.out.fr F2.out)).mono ?_; rintro e w3 ⟨v3, rfl, ho3, f3⟩; obtain ⟨ya, yc, rfl⟩ := own_len ho3; have O3 := hid ho3; have O2' := hid (owns_of_eq O2.out (fun k hk => f3.block k (O2.out.lt k hk).2 (fun h => h))); have F3 := hid (F2.out.trans f3 (fun _ h => h.elim)); clear ho3 f3; refine Hid.out ?_)
  refine hid ?_
  clear O2
  go_wp2_with (go_at_call 11; refine (right_any _ ad A ca (HA.out.fr F3.out) hca).mono ?_; rintro e w4 ⟨rfl, f4⟩; have O34 := hid (owns_of_eq O3.out (fun k hk => f4.block k (O3.out.lt k hk).2 (fun h => h))); have O24 := hid (owns_of_eq O2'.out (fun k hk => f4.block k (O2'.out.lt k hk).2 (fun h => h))); have F4 := hid (F3.out.trans f4 (fun _ h => h.elim)); clear f4; refine Hid.out ?_)
  refine hid ?_
  clear O3 O2'
  go_wp2_with (go_at_call 11; refine (right_any _ bd B cb (HB.out.fr F4.out) hcb).mono ?_; rintro e w5 ⟨rfl, f5⟩; have O35 := hid (owns_of_eq O34.out (fun k hk => f5.block k (O34.out.lt k hk).2 (fun h => h))); have O25 := hid (owns_of_eq O24.out (fun k hk => f5.block k (O24.out.lt k hk).2 (fun h => h))); have F5 := hid (F4.out.trans f5 (fun _ h => h.elim)); clear f5; refine Hid.out ?_)
  refine hid ?_
  clear O34 O24
  cases hra : rightB A with
  | false =>
    have hxl : bytesL A = [] := by unfold bytesL; rw [hra]; rfl
    rw [hxl]
    cases hrb : rightB B with
    | false =>
      have hyl : bytesL B = [] := by unfold bytesL; rw [hrb]; rfl
      rw [hyl]
      go_wp2
      go_ret
      exact ⟨rfl, F5.out⟩
    | true =>
      generalize bytesL B = y at *
      go_wp2
      go_ret
      exact ⟨rfl, F5.out⟩
  | true =>
    cases hrb : rightB B with
    | false =>
      have hyl : bytesL B = [] := by unfold bytesL; rw [hrb]; rfl
      rw [hyl]
      generalize bytesL A = x at *
      go_wp2
      go_ret
      exact ⟨rfl, F5.out⟩
    | true =>
      obtain ⟨a1, a2, a3, a4⟩ := right_parts hra
      obtain ⟨_, _, _, b4⟩ := right_parts hrb
      rw [a4] at O25 ⊢
      rw [b4] at O35 ⊢
      have HPs := hid (parse_yes w5 xa xc A (src_own O25.out) (own_cap O25.out) (fun a ha => by
        rcases O25.out.2 with ⟨h0, _⟩ | ⟨g, cap', cur, h0, _, hg, _⟩
        · first | (cases h0; done) | (cases h0; cases ha)
        · cases h0; cases ha
          exact (Array.getElem?_eq_some_iff.1 hg).1) hra a1 a2 a3 m (cell_fr F5.out HM.out) (HT.out.fr F5.out))
      have HInj : Hid ((bodyL A == bodyL B) = decide (A = B)) := by
        unfold Hid
        by_cases e : A = B
        · subst e; simp
        · rw [decide_eq_false e]
          exact beq_eq_false_iff_ne.2 (fun h => e (body_inj A B hra hrb h))
      clear a2 a3 a4 b4
      generalize bodyL A = x at *
      generalize bodyL B = y at *
      go_wp2_with (go_at_call 7; refine HPs.out.mono ?_; rintro e w6 ⟨la, lc, rfl, hE6, f6⟩; have E6 := hid hE6; have F6 := hid (F5.out.trans f6 (fun _ h => h.elim)); have X6 := hid ((src_own O25.out).fr f6); have Y6 := hid ((src_own O35.out).fr f6); clear hE6 f6; refine Hid.out ?_)
      refine hid ?_
      clear HPs O25 O35
      go_wp2_with (go_at_call 8; refine (same_any _ la ad A A lc ca E6.out (HA.out.fr F6.out) hn).mono ?_; rintro e w7 ⟨rfl, n7, rfl⟩; rw [decide_eq_true (rfl : A = A)]; have F7 := hid (F6.out.drewN n7); have X7 := hid (X6.out.fr ((Fr.refl _ w6).drewN n7)); have Y7 := hid (Y6.out.fr ((Fr.refl _ w6).drewN n7)); refine Hid.out ?_)
      refine hid ?_
      generalize w6.drewN n7 = w7 at *
      clear X6 Y6 E6
      go_wp2_with (go_at_call 8; refine (same_any _ ad bd A B ca cb (HA.out.fr F7.out) (HB.out.fr F7.out) hn).mono ?_; rintro e w8 ⟨rfl, n8, rfl⟩; have F8 := hid (F7.out.drewN n8); have X8 := hid (X7.out.fr ((Fr.refl _ w7).drewN n8)); have Y8 := hid (Y7.out.fr ((Fr.refl _ w7).drewN n8)); refine Hid.out ?_)
      refine hid ?_
      generalize w7.drewN n8 = w8 at *
      clear X7 Y7
      have hcx := conv_bytes X8.out xc
      have hcy := conv_bytes Y8.out yc
      rw [← HInj.out]
      cases hxy : (x == y) with
      | true =>
        clear HInj
        go_wp2
        go_ret
        exact ⟨rfl, F8.out⟩
      | false =>
        clear HInj
        go_wp2
        go_ret
        exact ⟨rfl, F8.out⟩

end Go.Proofs.YtipppagkajcheaaGreatDoor.Tr
