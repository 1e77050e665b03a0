/- The walk of the law TreeParses. -/
import Derived.Test.YtipppagkajcheaaGreatDoorPsx
import Derived.Test.YtipppagkajcheaaGreatDoorRps
import Derived.Test.YtipppagkajcheaaGreatDoorSpl
import Derived.Test.YtipppagkajcheaaGreatDoorShw
import Derived.Test.YtipppagkajcheaaGreatDoorSam
namespace Go.Proofs.YtipppagkajcheaaGreatDoor.Tr
open Go.RowKit

theorem right_parts2 {L : List Ent} (h : rightB L = true) : L.length ≤ 24 ∧ (∀ x ∈ L, oneB x = true) ∧ (bodyL L).length < 4294967281 := by
  unfold rightB at h
  rw [Bool.and_eq_true, decide_eq_true_eq] at h
  have ho := rightR_one [] L h.2
  have hf := flat_length L ho
  refine ⟨h.1, ho, ?_⟩
  unfold bodyL
  rw [List.length_append, List.length_append]
  simp only [List.length_cons, List.length_nil]
  omega
theorem own_cap2 {W : World} {B n cap : Nat} {ad : Option Addr} {xs : List Value} {t : TypeId} (h : W.ownsRow B t 1 (.slice ad n cap) n xs) : n ≤ cap := by
  rcases h.2 with ⟨h0, h1⟩ | ⟨g, cap', cur, h0, _, _, hn, _⟩
  · cases h0; exact Nat.le_refl _
  · cases h0; exact hn
/-- What the program answers, in one form: the list, and the error's number. -/
def TpA (b : List UInt8) : List Ent × Int := match parseB b with
  | some t => (t, 0)
  | none => ([], 63)
theorem tparse_any (w : World) (ad : Option Addr) (cap : Nat) (b : List UInt8) (hs : Src w ad b) (hc : b.length ≤ cap) (hz : ad = none → cap = 0) (hlow : ∀ a, ad = some a → a.block < w.heap.size) (hl : b.length ≤ 140737488351232) (hE : Erc w) (hT : Tab w) (m : Int) (hm : w.cell? ⟨0, 0, none⟩ = some (.int .i64 m)) :
    Calls Tryz.prog 7 #[.slice ad b.length cap] w fun e w' => ∃ v, e = .returned (.tuple #[v, .int .i64 (TpA b).2]) ∧ Cop w w' (TpA b).1 (TpA b).1.length v := by
  cases hp : parseB b with
  | none =>
    have e : TpA b = ([], 63) := by unfold TpA; rw [hp]
    rw [e]
    exact (parse_no w ad cap b hs hc hz hlow hl hE hT hp).mono (fun e w' h => ⟨_, h.1, Cop.none h.2⟩)
  | some t =>
    have e : TpA b = (t, 0) := by unfold TpA; rw [hp]
    rw [e]
    obtain ⟨hr, hb⟩ := parse_some b t hp
    subst hb
    obtain ⟨h1, h2, h3⟩ := right_parts2 hr
    exact parse_own w ad cap t hs hc hlow hr h1 h2 h3 m hm hT
theorem rp_form {w : World} {b : List UInt8} {e : Ending} {w' : World} (h : RpPost w b e w') : ∃ wa wc, e = .returned (.tuple #[.slice wa (TpA b).1.length wc, .bool ((TpA b).2 == 0)]) ∧ (TpA b).1.length ≤ wc ∧ Ents w' wa (TpA b).1 ∧ Fr (fun _ => False) w w' := by
  obtain ⟨f, ⟨t, hp, wa, wc, he, hc, hE⟩ | ⟨hp, he⟩⟩ := h
  · have e : TpA b = (t, 0) := by unfold TpA; rw [hp]
    rw [e]
    exact ⟨wa, wc, he, hc, hE, f⟩
  · have e : TpA b = ([], 63) := by unfold TpA; rw [hp]
    rw [e]
    exact ⟨none, 0, he, Nat.le_refl _, Ents.nil _ _, f⟩

set_option maxRecDepth 100000 in
set_option maxHeartbeats 4000000 in
theorem tps_walk (w : World) (ad : Option Addr) (b : List UInt8) (cap : Nat) (hs : Src w ad b) (hz : ad = none → cap = 0) (hc : b.length ≤ cap) (hl : b.length ≤ 140737488351232) (hT : Tab w) (m : Int) (hm : w.cell? ⟨0, 0, none⟩ = some (.int .i64 m)) (hE : Erc w) :
    Calls Tryz.prog 3 #[.slice ad b.length cap] w fun e w' => e = .returned (.bool true) ∧ Fr (fun _ => False) w w' := by
  obtain ⟨A, ε, hA⟩ : ∃ A ε, TpA b = (A, ε) := ⟨_, _, rfl⟩
  have hok : (A.length ≤ 24 ∧ ∀ x ∈ A, oneB x = true) ∧ (ε = 0 ∨ ε = 63) := by
    unfold TpA at hA
    cases hp : parseB b with
    | none => rw [hp] at hA; cases hA; exact ⟨⟨by simp, fun x hx => by cases hx⟩, .inr rfl⟩
    | some t =>
      rw [hp] at hA
      cases hA
      obtain ⟨hr, _⟩ := parse_some b _ hp
      obtain ⟨h1, h2, _⟩ := right_parts2 hr
      exact ⟨⟨h1, h2⟩, .inl rfl⟩
  have HSh := hid (shown_any w hT)
  have HRp := hid (fun (W : World) (f : Fr (fun _ => False) w W) => (rparse_any W ad b cap (hs.fr f) hz hc hl).mono (fun e w' h => rp_form h))
  have HTp := hid (fun (W : World) (da : Option Addr) (dc : Nat) (h1 : Src W da b) (h2 : b.length ≤ dc) (h3 : da = none → dc = 0) (h4 : ∀ a, da = some a → a.block < W.heap.size) (f : Fr (fun _ => False) w W) => tparse_any W da dc b h1 h2 h3 h4 hl (hE.fr f) (hT.fr f) m (cell_fr f hm))
  rw [hA] at HRp HTp
  simp only at HRp HTp
  have HS := hid hs
  have HOne := hid hok.1.2
  have hA24 := hok.1.1
  have hep : ∃ okb : Bool, (ε == 0) = okb ∧ ((ε = 0 ∧ okb = true) ∨ (ε = 63 ∧ okb = false)) := by
    rcases hok.2 with rfl | rfl
    · exact ⟨true, rfl, .inl ⟨rfl, rfl⟩⟩
    · exact ⟨false, rfl, .inr ⟨rfl, rfl⟩⟩
  obtain ⟨okb, hob, hep⟩ := hep
  rw [hob] at HRp
  have HEps := hid hep
  clear hs hz hT hm hE hok hA hob hep
  go_enter Tryz.func3, Tryz.ntmps3
  go_wp2_with (go_at_call 5; refine HSh.out.mono ?_; rintro e w1 ⟨rfl, f1⟩; have F1 := hid f1; clear f1; refine Hid.out ?_)
  refine hid ?_
  clear HSh
  have HO0 := hid (Ob.new F1.out [] (by simp))
  go_wp2_with (at_builtin; refine Hid.out ?_)
  refine hid ?_
  refine wpList_append_ob (by rfl) _ _ 22 (by rfl) (.slice ad b.length cap) b (by rfl) (by rfl) HO0.out (srcBytes (HS.out.fr HO0.out.f) cap) (by simp; omega) ?_
  intro v1 W1 hO1
  obtain ⟨ua, uc, rfl⟩ := own_len hO1.own
  have HO1 := hid (hO1.fr ((Fr.refl _ W1).alloc (.cells #[.int .u8 101] 5)))
  have HSp : Hid (Go.Src Tryz.prog 1 22 (.slice (some ⟨W1.heap.size, 0, none⟩) 1 1) [(101 : UInt8)].length (bs [101]) (W1.alloc (.cells #[.int .u8 101] 5))) := srcBytes (src_new W1 101) 1
  clear hO1 HO0
  go_wp2_with (at_builtin; refine Hid.out ?_)
  refine hid ?_
  refine wpList_append_ob (by rfl) _ _ 22 (by rfl) (.slice (some ⟨W1.heap.size, 0, none⟩) 1 1) [101] (by rfl) (by rfl) HO1.out HSp.out (by simp; omega) ?_
  intro v2 W2 hO2
  rw [List.nil_append] at hO2
  obtain ⟨oa, oc, rfl⟩ := own_len hO2.own
  have hol : (b ++ [101]).length = b.length + 1 := by simp
  have hocl := own_cap2 hO2.own
  obtain ⟨og, oc', hov, hog1, hog2⟩ := World.ownsRow.form hO2.own (by simp)
  cases hov
  have HO2 := hid hO2
  clear hO2 HO1 HSp F1
  go_wp2_with (go_at_call 6; refine (HRp.out _ HO2.out.f).mono ?_; rintro e w3 ⟨wa, wc, rfl, hwc, hEn, f3⟩; have F3 := hid f3; have HEn := hid hEn; clear f3 hEn; refine Hid.out ?_)
  refine hid ?_
  clear HRp
  have HB := hid (one_bounds HOne.out)
  have HDl : Hid (∀ x ∈ A, x.data.length ≤ 140737488351232) := fun x hx => (HB.out x hx).2.1
  have HOg : Hid (og < W2.heap.size) := by
    rcases HO2.out.own.2 with ⟨h0, _⟩ | ⟨g, cap', cur, h0, _, hg, _⟩
    · cases h0
    · cases h0; exact (Array.getElem?_eq_some_iff.1 hg).1
  have HCat : Hid ((ByteArray.mk b.toArray) ++ (ByteArray.mk #[101]) = ⟨(b ++ [101]).toArray⟩) := str_cat b [101]
  go_wp2_with fail
  go_loopw [7] (fun iv wr => ∃ t : Nat, t ≤ 2 ∧ iv = .int .i64 (t : Int) ∧ Fr (fun _ => False) w3 wr) (fun iv _ => 2 - (intOf iv).toNat)
  case atStart => exact ⟨0, by omega, rfl, Fr.refl _ _⟩
  case round =>
    obtain ⟨t, ht, rfl, hF⟩ := hrel
    have HF := hid hF
    clear hF
    by_cases ht2 : t < 2
    · have ht2' : (t : Int) < 2 := by omega
      have HFo : Hid (Fr (fun _ => False) W2 wr) := F3.out.trans HF.out (fun _ h => h.elim)
      have HFw : Hid (Fr (fun _ => False) w wr) := HO2.out.f.trans HFo.out (fun _ h => h.elim)
      have HSo := hid ((src_own HO2.out.own).fr HFo.out)
      have hoc1 : ((b.length : Nat) : Int) ≤ ((oc : Nat) : Int) := by omega
      have hb0 : (0 : Int) ≤ ((b.length : Nat) : Int) := Int.natCast_nonneg _
      have HTq := hid (HTp.out wr (some ⟨og, 0, none⟩) oc (by have := HSo.out.take' b.length; rw [List.take_left] at this; exact this) (by omega) (fun h => by cases h) (fun a ha => by cases ha; exact Nat.lt_of_lt_of_le HOg.out HFo.out.size) HFw.out)
      have HSb := hid (HS.out.fr HFw.out)
      have HEr := hid (HEn.out.fr HF.out)
      clear HTp HO2 HOg
      rcases HEps.out with ⟨rfl, rfl⟩ | ⟨rfl, rfl⟩
      all_goals
        go_wp2_with (go_at_call 7; refine HTq.out.mono ?_; rintro e w4 ⟨v4, rfl, hC4⟩; obtain ⟨la, lc, rfl, hlc, hE4⟩ := hC4.ents HB.out; have C4 := hid hC4; have E4 := hid hE4; clear hC4 hE4; refine Hid.out ?_)
        refine hid ?_
        clear HTq
        go_wp2_with (go_at_call 8; refine (same_any _ la wa A A lc wc E4.out (HEr.out.fr C4.out.f) (by omega)).mono ?_; rintro e w5 ⟨rfl, n5, rfl⟩; rw [decide_eq_true (rfl : A = A)]; refine Hid.out ?_)
        refine hid ?_
        have C5 := hid (C4.out.fr ((Fr.refl _ w4).drewN n5))
        generalize w4.drewN n5 = w5 at *
        have hco := conv_bytes (HSo.out.fr C5.out.f) oc
        have hcb := conv_bytes (HSb.out.fr C5.out.f) cap
        have HSl := hid (spoil_any wr w5 A (.slice la A.length lc) C5.out (by omega) HDl.out)
        have hcat := HCat.out
        have hsz : ¬ 9223372036854775807 < b.length + 1 := by omega
        rw [hol] at hco
        clear E4 C4 HEr
        go_wp2_with (go_at_call 9; refine HSl.out.mono ?_; rintro e w6 ⟨rfl, f6⟩; have F6 : Hid (Fr (fun _ => False) w3 w6) := HF.out.trans f6 (fun _ h => h.elim); clear f6)
        exact ⟨⟨t + 1, by omega, by go_num, F6.out⟩, by simp [intOf]; omega⟩
    · have ht2' : ¬ (t : Int) < 2 := by omega
      have HFw : Hid (Fr (fun _ => False) w wr) := HO2.out.f.trans (F3.out.trans HF.out (fun _ h => h.elim)) (fun _ h => h.elim)
      go_wp2
      go_ret
      exact ⟨rfl, HFw.out⟩

end Go.Proofs.YtipppagkajcheaaGreatDoor.Tr
