/- The contract of Parse, where a tree's bytes stand. -/
import Derived.Test.YtipppagkajcheaaGreatDoorEns
import Derived.Test.YtipppagkajcheaaGreatDoorLya
namespace Go.Proofs.YtipppagkajcheaaGreatDoor.Tr
open Go.RowKit

theorem one_bounds {L : List Ent} (h : ∀ x ∈ L, oneB x = true) : ∀ x ∈ L, x.path.length ≤ 140737488351232 ∧ x.data.length ≤ 140737488351232 ∧ -9223372036854775808 ≤ x.kind ∧ x.kind ≤ 9223372036854775807 := fun x hx => by
  obtain ⟨h1, h2, h3⟩ := path_bound x (h x hx)
  refine ⟨by omega, by omega, ?_, ?_⟩ <;> rcases h3 with h3 | h3 <;> omega
theorem equal_yes (w : World) (a b : Option Addr) (l : List UInt8) (ca cb : Nat) (ha : Src w a l) (hb : Src w b l) : Calls Tryz.prog 16 #[.slice a l.length ca, .slice b l.length cb] w fun e w' => e = .returned (.bool true) ∧ w' = w :=
  (Tryz.bytes_Equal_all a b l.length ca l.length cb (ints l) (ints l) w (ints_len l) (ints_len l) ha.bytesIn hb.bytesIn).mono (fun e w' hh => ⟨by rw [hh.1]; simp, hh.2⟩)

set_option maxRecDepth 100000 in
set_option maxHeartbeats 4000000 in
theorem parse_yes (w : World) (ad : Option Addr) (cap : Nat) (L : List Ent) (hs : Src w ad (bodyL L)) (hc : (bodyL L).length ≤ cap) (hlow : ∀ a, ad = some a → a.block < w.heap.size) (hr : rightB L = true) (h24 : L.length ≤ 24) (hone : ∀ x ∈ L, oneB x = true) (hl : (bodyL L).length < 4294967281) (m : Int) (hm : w.cell? ⟨0, 0, none⟩ = some (.int .i64 m)) (hT : Tab w) :
    Calls Tryz.prog 7 #[.slice ad (bodyL L).length cap] w fun e w' => ∃ la lc, e = .returned (.tuple #[.slice la L.length lc, .int .i64 0]) ∧ Ents w' la L ∧ Fr (fun _ => False) w w' := by
  have HEn := hid (entries_yes w ad cap L hs hc hlow h24 hone hl m hm)
  have HB := hid (one_bounds hone)
  have HT := hid hT
  have HS := hid hs
  have HBy := hid (fun (W : World) (la : Option Addr) (lc : Nat) (hE : Ents W la L) (hlc : L.length ≤ lc) (hT : Tab W) => bytes_any W la L lc hE hlc hT)
  have hby : bytesL L = bodyL L := by unfold bytesL; rw [if_pos hr]
  rw [hby] at HBy
  clear hs hc hlow hr hone hl hm hT hby
  generalize bodyL L = b at *
  go_enter Tryz.func7, Tryz.ntmps7
  go_wp2_with (first
    | (go_at_call 15; refine HEn.out.mono ?_; rintro e w1 ⟨v1, rfl, hC⟩; obtain ⟨la, lc, rfl, hlc, hE⟩ := hC.ents HB.out; have F1 := hid hC.f; have E1 := hid hE; clear hC hE)
    | (go_at_call 10; refine (HBy.out _ la lc E1.out hlc (HT.out.fr F1.out)).mono ?_; rintro e w2 ⟨v2, rfl, ho2, f2⟩; obtain ⟨va2, vc2, rfl⟩ := own_len ho2; have S2 := hid (src_own ho2); have F2 := hid (F1.out.trans f2 (fun _ h => h.elim)); have E2 := hid (E1.out.fr f2); clear ho2 f2)
    | (go_at_call 16; refine (equal_yes _ va2 ad b vc2 cap S2.out (HS.out.fr F2.out)).mono ?_; rintro e w3 ⟨rfl, rfl⟩))
  go_ret2
  exact ⟨la, lc, rfl, E2.out, F2.out⟩

end Go.Proofs.YtipppagkajcheaaGreatDoor.Tr
