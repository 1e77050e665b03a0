/- The contracts of Digest, the program's and the document's. -/
import Derived.Test.YtipppagkajcheaaDoorCop
import Derived.Test.YtipppagkajcheaaDoorSUp
namespace Go.Proofs.YtipppagkajcheaaDoor.Tr
open Go.RowKit

/-- A tree's name. -/
def digL (L : List Ent) : List UInt8 := low (upd beg (bytesL L)) 16
theorem bytesL_len (L : List Ent) : (bytesL L).length ≤ 53000 := by
  unfold bytesL
  split
  · rename_i h
    obtain ⟨h1, h2⟩ := right_one L h
    have := flat_length L h2
    unfold bodyL
    rw [List.length_append, List.length_append]
    have e1 : [(116 : UInt8), 114, 101, 101, 10].length = 5 := rfl
    have e2 : [(101 : UInt8), 110, 100, 10].length = 4 := rfl
    omega
  · simp

set_option maxRecDepth 100000 in
set_option maxHeartbeats 1000000 in
theorem digest_any (w : World) (ad : Option Addr) (L : List Ent) (cap : Nat) (hL : Ents w ad L) (hc : L.length ≤ cap) (hT : Tab w) :
    Calls Tryd.prog 10 #[.slice ad L.length cap] w fun e w' => e = .returned (.string ⟨(digL L).toArray⟩) ∧ Fr (fun _ => False) w w' := by
  have HB := hid (bytes_any w ad L cap hL hc hT)
  have hbl := bytesL_len L
  unfold digL
  generalize bytesL L = b at *
  clear hL hT
  go_enter Tryd.func10, Tryd.ntmps10
  go_wp2_with (first
    | (go_at_call 9; refine HB.out.mono ?_; rintro e w1 ⟨v1, rfl, ho1, f1⟩; obtain ⟨va, vc, rfl⟩ := own_len ho1; have F1 := hid f1; have S1 := hid (src_own ho1); clear f1 ho1)
    | (go_at_call 26; refine (sum_any _ va b vc (by omega) S1.out).mono ?_; rintro e w2 ⟨rfl, rfl⟩)
    | (go_at_call 25; refine (text_any _ (upd beg b) (upd_lt _ _ beg_lt)).mono ?_; rintro e w3 ⟨rfl, f3⟩; have F3 := hid (F1.out.trans f3 (fun _ h => h.elim)); clear f3))
  go_ret
  exact ⟨rfl, F3.out⟩

set_option maxRecDepth 100000 in
set_option maxHeartbeats 1000000 in
theorem rdigest_any (w : World) (ad : Option Addr) (L : List Ent) (cap : Nat) (hL : Ents w ad L) :
    Calls Tryd.prog 14 #[.slice ad L.length cap] w fun e w' => e = .returned (.string ⟨(digL L).toArray⟩) ∧ Fr (fun _ => False) w w' := by
  have HB := hid (rbytes_any w ad L cap hL)
  have hbl := bytesL_len L
  unfold digL
  generalize bytesL L = b at *
  clear hL
  go_enter Tryd.func14, Tryd.ntmps14
  go_wp2_with (first
    | (go_at_call 12; refine HB.out.mono ?_; rintro e w1 ⟨v1, rfl, ho1, f1⟩; obtain ⟨va, vc, rfl⟩ := own_len ho1; have F1 := hid f1; have S1 := hid (src_own ho1); clear f1 ho1)
    | (go_at_call 30; refine (rsum_any _ va b vc (by omega) S1.out).mono ?_; rintro e w2 ⟨rfl, rfl⟩)
    | (go_at_call 29; refine (rtext_any _ (upd beg b) (upd_lt _ _ beg_lt)).mono ?_; rintro e w3 ⟨rfl, rfl⟩))
  go_ret
  exact ⟨rfl, F1.out⟩

end Go.Proofs.YtipppagkajcheaaDoor.Tr
