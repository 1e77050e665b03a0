/- The walk of SumTexts. -/
import Derived.Test.YtlgpojdkcbjkkaaShown
namespace Go.Proofs.Ytlgpojdkcbjkkaa.Sm
open Go.RowKit

theorem Fr.tr {a b c : World} (h : Fr (fun _ => False) a b) (k : Fr (fun _ => False) b c) : Fr (fun _ => False) a c := h.trans k (fun _ h => h.elim)

theorem text_keep (l : List UInt8) : ((ByteArray.mk l.toArray).toList == (ByteArray.mk l.toArray).toList) = true := beq_self_eq_true _

set_option maxRecDepth 100000 in
set_option maxHeartbeats 1000000 in
theorem texts_walk (w : World) (s : Nat) (hs : s < 18446744073709551616) (t : List UInt8) (hl : t.length ≤ 140737488355328) :
    Calls Try.prog 4 #[.int .u64 (s : Int), .string ⟨t.toArray⟩] w fun e w' => e = .returned (.bool true) ∧ Fr (fun _ => False) w w' := by
  have HPL : Hid (∀ w, Calls Try.prog 12 #[.string ⟨(low s 16).toArray⟩] w fun e w' => e = .returned (tup (some s)) ∧ w' = w) := fun w => by
    have := parse_any w (low s 16)
    rwa [parsed_low s hs] at this
  have HP := hid (fun w => parse_any w t)
  have HR := hid (fun w => rparse_any w t hl)
  cases hp : parsed t with
  | none =>
    simp only [hp] at HP HR
    clear hp
    go_enter Try.func4, Try.ntmps4
    go_wp2_with fail
    refine (shown_any w).mono ?_
    rintro e w1 ⟨rfl, f1⟩
    have F1 := hid f1
    clear f1
    go_wp2_with fail
    refine (HP.out w1).mono ?_
    rintro e w2 ⟨rfl, rfl⟩
    unfold tup
    go_wp2_with fail
    refine (HR.out w2).mono ?_
    rintro e w3 ⟨rfl, f3⟩
    have F3 := hid (F1.out.tr f3)
    clear f3 F1
    unfold tup
    go_wp2_with fail
    refine (text_any w3 s hs).mono ?_
    rintro e w4 ⟨rfl, f4⟩
    have F4 := hid (F3.out.tr f4)
    clear f4 F3
    go_wp2_with fail
    refine (HPL.out w4).mono ?_
    rintro e w5 ⟨rfl, rfl⟩
    unfold tup
    go_wp2_with fail
    refine (text_any w5 s hs).mono ?_
    rintro e w6 ⟨rfl, f6⟩
    have F6 := hid (F4.out.tr f6)
    clear f6 F4
    go_wp2_with fail
    refine (rtext_any w6 s hs).mono ?_
    rintro e w7 ⟨rfl, rfl⟩
    go_wp2
    go_ret
    exact ⟨by simp, F6.out⟩
  | some r =>
    obtain ⟨hr, hrt⟩ := low_parsed hp
    have HT := hid (fun w => text_any w r hr)
    simp only [hp] at HP HR
    simp only [hrt] at HT
    clear hp hrt
    go_enter Try.func4, Try.ntmps4
    go_wp2_with fail
    refine (shown_any w).mono ?_
    rintro e w1 ⟨rfl, f1⟩
    have F1 := hid f1
    clear f1
    go_wp2_with fail
    refine (HP.out w1).mono ?_
    rintro e w2 ⟨rfl, rfl⟩
    unfold tup
    go_wp2_with fail
    refine (HR.out w2).mono ?_
    rintro e w3 ⟨rfl, f3⟩
    have F3 := hid (F1.out.tr f3)
    clear f3 F1
    unfold tup
    go_wp2_with fail
    refine (text_any w3 s hs).mono ?_
    rintro e w4 ⟨rfl, f4⟩
    have F4 := hid (F3.out.tr f4)
    clear f4 F3
    go_wp2_with fail
    refine (HPL.out w4).mono ?_
    rintro e w5 ⟨rfl, rfl⟩
    unfold tup
    go_wp2_with fail
    refine (text_any w5 s hs).mono ?_
    rintro e w6 ⟨rfl, f6⟩
    have F6 := hid (F4.out.tr f6)
    clear f6 F4
    go_wp2_with fail
    refine (rtext_any w6 s hs).mono ?_
    rintro e w7 ⟨rfl, rfl⟩
    go_wp2_with fail
    refine (HT.out w7).mono ?_
    rintro e w8 ⟨rfl, f8⟩
    have F8 := hid (F6.out.tr f8)
    clear f8 F6
    go_wp2
    go_ret
    exact ⟨by simp, F8.out⟩

end Go.Proofs.Ytlgpojdkcbjkkaa.Sm
