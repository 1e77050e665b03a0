/- The contract of Parse over any bytes: the tree whose bytes they are, in memory of its own, or none. -/
import Derived.Test.YtipppagkajcheaaGreatDoorEnx
import Derived.Test.YtipppagkajcheaaGreatDoorPsy
namespace Go.Proofs.YtipppagkajcheaaGreatDoor.Tr
open Go.RowKit

theorem equal_any (w : World) (a b : Option Addr) (l m : List UInt8) (ca cb : Nat) (ha : Src w a l) (hb : Src w b m) : Calls Tryz.prog 16 #[.slice a l.length ca, .slice b m.length cb] w fun e w' => e = .returned (.bool (l == m)) ∧ w' = w :=
  (Tryz.bytes_Equal_all a b l.length ca m.length cb (ints l) (ints m) w (ints_len l) (ints_len m) ha.bytesIn hb.bytesIn).mono (fun e w' hh => ⟨by rw [hh.1, bytesOf_ints, bytesOf_ints], hh.2⟩)

set_option maxRecDepth 100000 in
set_option maxHeartbeats 4000000 in
theorem parse_own (w : World) (ad : Option Addr) (cap : Nat) (L : List Ent) (hs : Src w ad (bodyL L)) (hc : (bodyL L).length ≤ cap) (hlow : ∀ a, ad = some a → a.block < w.heap.size) (hr : rightB L = true) (h24 : L.length ≤ 24) (hone : ∀ x ∈ L, oneB x = true) (hl : (bodyL L).length < 4294967281) (m : Int) (hm : w.cell? ⟨0, 0, none⟩ = some (.int .i64 m)) (hT : Tab w) :
    Calls Tryz.prog 7 #[.slice ad (bodyL L).length cap] w fun e w' => ∃ v, e = .returned (.tuple #[v, .int .i64 0]) ∧ Cop w w' L L.length v := by
  have HEn := hid (entries_yes w ad cap L hs hc hlow h24 hone hl m hm)
  have HB := hid (one_bounds hone)
  have HT := hid hT
  have HS := hid hs
  have HBy := hid (fun (W : World) (la : Option Addr) (lc : Nat) (hE : Ents W la L) (hlc : L.length ≤ lc) (hT : Tab W) => bytes_any W la L lc hE hlc hT)
  have hby : bytesL L = bodyL L := by unfold bytesL; rw [if_pos hr]
  rw [hby] at HBy
  clear hs hc hlow hr hone hl hm hT hby
  generalize bodyL L = b at *
  go_enter Tryz.func7, Tryz.ntmps7
  go_wp2_with (first
    | (go_at_call 15; refine HEn.out.mono ?_; rintro e w1 ⟨v1, rfl, hC⟩; obtain ⟨la, lc, rfl, hlc, hE⟩ := hC.ents HB.out; have F1 := hid hC.f; have E1 := hid hE; have C1 := hid hC; clear hC hE)
    | (go_at_call 10; refine (HBy.out _ la lc E1.out hlc (HT.out.fr F1.out)).mono ?_; rintro e w2 ⟨v2, rfl, ho2, f2⟩; obtain ⟨va2, vc2, rfl⟩ := own_len ho2; have S2 := hid (src_own ho2); have F2 := hid (F1.out.trans f2 (fun _ h => h.elim)); have C2 := hid (C1.out.fr f2); clear ho2 f2)
    | (go_at_call 16; refine (equal_yes _ va2 ad b vc2 cap S2.out (HS.out.fr F2.out)).mono ?_; rintro e w3 ⟨rfl, rfl⟩))
  go_ret2
  exact ⟨_, rfl, C2.out⟩

theorem bytes_ne {b : List UInt8} (hp : parseB b = none) {L : List Ent} (hne : b ≠ []) : (bytesL L == b) = false := by
  apply beq_eq_false_iff_ne.2
  unfold bytesL
  split
  · rename_i h; exact parse_none b hp L h
  · exact fun h => hne h.symm

set_option maxRecDepth 100000 in
set_option maxHeartbeats 4000000 in
theorem parse_no (w : World) (ad : Option Addr) (cap : Nat) (b : List UInt8) (hs : Src w ad b) (hc : b.length ≤ cap) (hz : ad = none → cap = 0) (hlow : ∀ a, ad = some a → a.block < w.heap.size) (hl : b.length ≤ 140737488351232) (hE : Erc w) (hT : Tab w) (hp : parseB b = none) :
    Calls Tryz.prog 7 #[.slice ad b.length cap] w fun e w' => e = .returned (.tuple #[.slice none 0 0, .int .i64 63]) ∧ Fr (fun _ => False) w w' := by
  have HEn := hid (entries_any w ad cap b hs hc hz hlow hl hE)
  have HT := hid hT
  have HS := hid hs
  have HP := hid (fun (L : List Ent) (hne : b ≠ []) => bytes_ne hp (L := L) hne)
  have HL := hid hl
  clear hs hc hlow hl hT hz hE hp
  go_enter Tryz.func7, Tryz.ntmps7
  go_wp2_with (go_at_call 15; refine HEn.out.mono ?_; rintro e w1 ⟨L, v1, ok, rfl, hC, h24, hbd, hok⟩; obtain ⟨la, lc, rfl, hlc, hE⟩ := hC.ents (fun x hx => (by obtain ⟨h1, h2, h3, h4⟩ := hbd x hx; have := HL.out; exact ⟨by omega, by omega, by omega, by omega⟩)); have F1 := hid hC.f; have E1 := hid hE; have HOk := hid hok; clear hC hE hbd hok; refine Hid.out ?_)
  refine hid ?_
  clear HEn
  cases ok with
  | false =>
    go_wp2
    go_ret2
    exact ⟨rfl, F1.out⟩
  | true =>
  have hq := HP.out L (fun h => by have := HOk.out h; cases this)
  have HBy := hid (bytes_any w1 la L lc E1.out hlc (HT.out.fr F1.out))
  clear HOk HP
  generalize bytesL L = bl at *
  go_wp2_with (first
    | (go_at_call 10; refine HBy.out.mono ?_; rintro e w2 ⟨v2, rfl, ho2, f2⟩; obtain ⟨va2, vc2, rfl⟩ := own_len ho2; have S2 := hid (src_own ho2); have F2 := hid (F1.out.trans f2 (fun _ h => h.elim)); clear ho2 f2)
    | (go_at_call 16; refine (equal_any _ va2 ad bl b vc2 cap S2.out (HS.out.fr F2.out)).mono ?_; rintro e w3 ⟨rfl, rfl⟩; rw [hq]))
  go_ret2
  exact ⟨rfl, F2.out⟩

end Go.Proofs.YtipppagkajcheaaGreatDoor.Tr
