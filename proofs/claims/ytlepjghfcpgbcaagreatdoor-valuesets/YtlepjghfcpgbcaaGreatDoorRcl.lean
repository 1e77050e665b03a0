/- The contracts of joinLists, and of Reckon over two lists. -/
import Derived.Test.YtlepjghfcpgbcaaGreatDoorCct
namespace Go.Proofs.YtlepjghfcpgbcaaGreatDoor.Tr
open Go.RowKit

theorem vin_of_own {w : World} {B : Nat} {v : Value} {X : List Vv} {its : List Vt} (h : w.ownsRow B 26 6 v its.length (flatV X)) (hX : X.length = its.length) (hv : ∀ i (h : i < its.length) (h' : i < X.length), VIn w its[i] X[i]) (hlim : its.length ≤ 256) : ∃ ia ic, v = .slice ia its.length ic ∧ VIn w (.mk 5 0 0 [] [] its) ⟨5, 0, 0, [], none, 0, 0, ia, its.length, ic⟩ := by
  have hl : its.length ≤ lim := by unfold lim; omega
  have hk : I64 5 ∧ I64 0 := ⟨⟨by omega, by omega⟩, ⟨by omega, by omega⟩⟩
  rcases h.2 with ⟨rfl, h0⟩ | ⟨g, cap, cur, rfl, _, hg, hc, _, hs, ht⟩
  · have hn : its = [] := List.eq_nil_of_length_eq_zero h0
    subst hn
    refine ⟨none, 0, rfl, ?_⟩
    rw [VIn]
    exact ⟨⟨rfl, rfl, rfl, rfl⟩, ⟨hk.1, hk.2, by simp, by simp⟩, ⟨rfl, by simp, by simp, fun h => absurd rfl h⟩, ⟨rfl, by simp, by simp⟩, by rw [IIn]; trivial⟩
  · refine ⟨some ⟨g, 0, none⟩, cap, rfl, ?_⟩
    rw [VIn]
    refine ⟨⟨rfl, rfl, rfl, rfl⟩, ⟨hk.1, hk.2, by simp, by simp⟩, ⟨rfl, by simp, by simp, fun h => absurd rfl h⟩, ⟨rfl, hc, hl⟩, IIn_mk its X hX (fun q u hq => ?_) hv⟩
    rw [cell_of_row w g (0 + q) _ _ (0, 0) hg]
    have hq' : q < (flatV X).length := (List.getElem?_eq_some_iff.1 hq).1
    rw [flatV_len, hX] at hq'
    rw [← ht, List.getElem?_take, if_pos hq'] at hq
    simpa using hq

/-- Where the cells of a row of values lie. -/
def SrcV (w : World) (ad : Option Addr) (X : List Vv) : Prop := X ≠ [] → ∃ bb bo, ad = some ⟨bb, bo, none⟩ ∧ ∀ q u, (flatV X)[q]? = some u → w.cell? ⟨bb, bo + q, none⟩ = some u
theorem SrcV.env {w W : World} {ad : Option Addr} {X : List Vv} (h : SrcV w ad X) (e : Env w W) : SrcV W ad X := fun hx => by
  obtain ⟨bb, bo, e1, e2⟩ := h hx
  exact ⟨bb, bo, e1, fun q u hu => e.cell (e2 q u hu)⟩
def CatPost (w : World) (X Y : List Vv) (e : Ending) (w' : World) : Prop :=
  Fr (fun _ => False) w w' ∧ ((256 < X.length + Y.length ∧ e = .returned (.tuple #[vZ.v, .int .i64 20])) ∨ (X.length + Y.length ≤ 256 ∧ ∃ ia ic, e = .returned (.tuple #[(Vv.mk 5 0 0 [] none 0 0 ia (X.length + Y.length) ic).v, .int .i64 0]) ∧ w'.ownsRow w.heap.size 26 6 (.slice ia (X.length + Y.length) ic) (X.length + Y.length) (flatV (X ++ Y))))
/-- A row of the call's own stands where another block was changed. -/
theorem own_keep {w w' : World} {b B : Nat} {e : TypeId} {z : Nat} {v : Value} {n : Nat} {xs : List Value} (h : w.ownsRow B e z v n xs) (hb : b < B) (f : Fr (· = b) w w') : w'.ownsRow B e z v n xs :=
  owns_of_eq h fun k hk => by
    rcases h.2 with ⟨h0, _⟩ | ⟨g, cap, cur, h0, hB, hg, _⟩
    · rw [h0] at hk; cases hk
    · rw [h0] at hk
      simp only [Value.ownBlock, Option.some.injEq] at hk
      subst hk
      refine f.block _ ?_ (by omega)
      rcases Nat.lt_or_ge g w.heap.size with h | h
      · exact h
      · rw [Array.getElem?_eq_none h] at hg; cases hg
theorem own_down {w : World} {B B' : Nat} {e : TypeId} {z : Nat} {v : Value} {n : Nat} {xs : List Value} (h : w.ownsRow B e z v n xs) (hb : B' ≤ B) : w.ownsRow B' e z v n xs := by
  refine ⟨h.1, ?_⟩
  rcases h.2 with h0 | ⟨g, cap, cur, h0, hB, hr⟩
  · exact .inl h0
  · exact .inr ⟨g, cap, cur, h0, by omega, hr⟩

set_option maxRecDepth 100000 in
set_option maxHeartbeats 2000000 in
theorem joinLists_any (w : World) (X Y : List Vv) (ad bd : Option Addr) (ca cb : Nat) (hX : SrcV w ad X) (hY : SrcV w bd Y) (hl : X.length ≤ 256) (hm : Y.length ≤ 256) : Calls Tryz.prog 64 #[.slice ad X.length ca, .slice bd Y.length cb] w (CatPost w X Y) := by
  have HB := hid (vBlk w vZ)
  have HF := hid (vFr w vZ)
  by_cases h : 256 < X.length + Y.length
  · have h' : ((X.length : Nat) : Int) + ((Y.length : Nat) : Int) > 256 := by omega
    clear hX hY
    go_enter Tryz.func64, Tryz.ntmps64
    go_wp2_with (refine wpList_storeV vZ (by rfl) _ _ (by rfl) HB.out (by rfl) (by rfl) ?_; intro w1 b1 f1; have HB1 := hid b1; have HF1 := hid (HF.out.trans f1 (fun i hi => .inr (by omega))); clear b1 f1)
    exact bodyPost_ret (resVE rfl rfl HB1.out) rfl ⟨HF1.out, .inl ⟨h, rfl⟩⟩
  · have h' : ¬ (((X.length : Nat) : Int) + ((Y.length : Nat) : Int) > 256) := by omega
    have HX := hid hX
    have HY := hid hY
    clear hX hY
    have HC := hid (fun W q c h1 h2 h3 h4 => concat_any W q c X Y ad bd ca cb h1 h2 h3 h4 (by omega))
    go_enter Tryz.func64, Tryz.ntmps64
    go_wp2_with fail
    have hb2 := Blk.new (vBox w vZ) 24 [.slice ad X.length ca, .slice bd Y.length cb]
    rw [World.size_alloc] at hb2
    have hf2 : Fr (fun _ => False) w ((vBox w vZ).alloc (.cells #[.slice ad X.length ca, .slice bd Y.length cb] 24)) := HF.out.alloc _
    refine (HC.out _ _ _ (hb2.cell 0) (hb2.cell 1) (HX.out.env (Env.of hf2)) (HY.out.env (Env.of hf2))).mono ?_
    rintro e w3 ⟨v, rfl, ho, f3⟩
    have hf3 : Fr (fun _ => False) w w3 := hf2.trans f3 (fun _ h => h.elim)
    have hb3 : Blk w3 w.heap.size 26 vZ.cs := f3.blk (HB.out.alloc _) (fun h => h)
    have ho' := own_down (B' := w.heap.size + 1) ho (by rw [World.size_alloc, World.size_alloc]; omega)
    obtain ⟨ia, ic, rfl⟩ := own_len ho'
    have HB3 := hid hb3
    have HF3 := hid hf3
    have HO3 := hid ho'
    clear hb2 hf2 f3 hf3 hb3 ho ho' HX HY HC HB HF
    generalize hn : X.length + Y.length = n at *
    have HN := hid hn
    clear hn
    go_wp2_with (refine wpList_storeV ⟨5, 0, 0, [], none, 0, 0, ia, n, ic⟩ (by rfl) _ _ (by rfl) HB3.out (by rfl) (by rfl) ?_; intro w4 b4 f4; have HB4 := hid b4; have HF4 := hid (HF3.out.trans f4 (fun i hi => .inr (by omega))); have HF5 := hid f4; clear b4 f4)
    have ho4 := own_down (B' := w.heap.size) (own_keep HO3.out (by omega) HF5.out) (by omega)
    refine bodyPost_ret (resVE rfl rfl HB4.out) rfl ⟨HF4.out, .inr ⟨by rw [HN.out]; omega, ia, ic, by rw [HN.out]; rfl, ?_⟩⟩
    rw [HN.out, flatV_app]
    exact ho4

set_option maxRecDepth 100000 in
set_option maxHeartbeats 1000000 in
theorem isSign_cat (w : World) : Calls Tryz.prog 63 #[.string ⟨#[43, 43]⟩] w fun e w' => e = .returned (.bool true) ∧ w = w' := by
  go_enter Tryz.func63, Tryz.ntmps63
  go_wp2
  go_ret
  exact ⟨rfl, rfl⟩

set_option maxRecDepth 100000 in
set_option maxHeartbeats 4000000 in
theorem reckon_cat (w : World) (x y : Vv) (X Y : List Vv) (hx : RightOf w x true) (hy : RightOf w y true) (h5 : x.k = 5) (h5' : y.k = 5) (hxl : x.il = X.length) (hyl : y.il = Y.length) (hX : SrcV w x.ia X) (hY : SrcV w y.ia Y) (hl : X.length ≤ 256) (hm : Y.length ≤ 256) : Calls Tryz.prog 31 #[.string ⟨#[43, 43]⟩, x.v, y.v] w (CatPost w X Y) := by
  have HB := hid (three_blk w x y vZ)
  have HF := hid (three_fr w x y vZ)
  have HS := hid (fun W => isSign_cat W)
  have HRa := hid hx
  have HRb := hid hy
  have HA := hid (fun W => areBoth_any W 5 x y)
  have HJ : Hid (∀ W, Env w W → Calls Tryz.prog 64 #[.slice x.ia X.length x.ic, .slice y.ia Y.length y.ic] W (CatPost W X Y)) := fun W e => joinLists_any W X Y _ _ _ _ (hX.env e) (hY.env e) hl hm
  clear hx hy hX hY
  unfold RightOf at HRa HRb
  obtain ⟨k, n, f, t, na, nl, nc, ia, il, ic⟩ := x
  obtain ⟨k', n', f', t', na', nl', nc', ia', il', ic'⟩ := y
  simp only at h5 h5' hxl hyl
  subst h5 h5' hxl hyl
  simp only [Vv.v] at *
  go_enter Tryz.func31, Tryz.ntmps31
  go_wp2_with fail
  refine (HS.out _).mono ?_
  rintro e w1 ⟨rfl, rfl⟩
  go_wp2_with fail
  refine (HRa.out _ (Env.of HF.out)).mono ?_
  rintro e w1 ⟨rfl, f1⟩
  have HB1 := hid (And.intro (f1.blk HB.out.1 (fun h => h)) (And.intro (f1.blk HB.out.2.1 (fun h => h)) (f1.blk HB.out.2.2 (fun h => h))))
  have HF1 := hid (HF.out.trans f1 (fun _ h => h.elim))
  clear f1 HB HF HRa HS
  obtain ⟨d0, d1, d2, d3, d4, d5⟩ := HB1.out.2.1.six
  go_wp2_with fail
  refine (HRb.out _ (Env.of HF1.out)).mono ?_
  rintro e w2 ⟨rfl, f2⟩
  have HB2 := hid (And.intro (f2.blk HB1.out.1 (fun h => h)) (And.intro (f2.blk HB1.out.2.1 (fun h => h)) (f2.blk HB1.out.2.2 (fun h => h))))
  have HF2 := hid (HF1.out.trans f2 (fun _ h => h.elim))
  clear f2 HB1 HF1 HRb d0 d1 d2 d3 d4 d5
  obtain ⟨c0, c1, c2, c3, c4, c5⟩ := HB2.out.1.six
  obtain ⟨d0, d1, d2, d3, d4, d5⟩ := HB2.out.2.1.six
  go_wp2_with fail
  refine (HA.out _).mono ?_
  rintro e w3 ⟨rfl, f3⟩
  have HB3 := hid (And.intro (f3.blk HB2.out.1 (fun h => h)) (And.intro (f3.blk HB2.out.2.1 (fun h => h)) (f3.blk HB2.out.2.2 (fun h => h))))
  have HF3 := hid (HF2.out.trans f3 (fun _ h => h.elim))
  clear f3 HB2 HF2 HA c0 c1 c2 c3 c4 c5 d0 d1 d2 d3 d4 d5
  obtain ⟨c0, c1, c2, c3, c4, c5⟩ := HB3.out.1.six
  obtain ⟨d0, d1, d2, d3, d4, d5⟩ := HB3.out.2.1.six
  go_wp2_with fail
  refine (HJ.out _ (Env.of HF3.out)).mono ?_
  rintro e w4 ⟨f4, ⟨hgt, rfl⟩ | ⟨hle, ja, jc, rfl, ho⟩⟩
  · have HB4 := hid (f4.blk HB3.out.2.2 (fun h => h))
    have HF4 := hid (HF3.out.trans f4 (fun _ h => h.elim))
    clear f4 HB3 HF3 HJ c0 c1 c2 c3 c4 c5 d0 d1 d2 d3 d4 d5
    go_wp2_with (refine wpList_storeV vZ (by rfl) _ _ (by rfl) HB4.out (by rfl) (by rfl) ?_; intro w5 b5 f5)
    have HF5 := hid (HF4.out.trans f5 (fun i hi => .inr (by omega)))
    have HB5 := hid b5
    clear f5 b5 HB4 HF4
    go_wp2_with fail
    exact bodyPost_ret (resVE rfl rfl HB5.out) rfl ⟨HF5.out, .inl ⟨hgt, rfl⟩⟩
  · have HB4 := hid (f4.blk HB3.out.2.2 (fun h => h))
    have HF4 := hid (HF3.out.trans f4 (fun _ h => h.elim))
    have HO := hid (own_down (B' := w.heap.size + 1 + 1 + 1) ho (by have := HB3.out.2.2.lt; omega))
    clear f4 HB3 HF3 HJ c0 c1 c2 c3 c4 c5 d0 d1 d2 d3 d4 d5 ho
    generalize hn : X.length + Y.length = m at *
    have HN := hid hn
    clear hn
    go_wp2_with (refine wpList_storeV ⟨5, 0, 0, [], none, 0, 0, ja, m, jc⟩ (by rfl) _ _ (by rfl) HB4.out (by rfl) (by rfl) ?_; intro w5 b5 f5)
    have HF5 := hid (HF4.out.trans f5 (fun i hi => .inr (by omega)))
    have HB5 := hid b5
    have HO5 := hid (own_down (B' := w.heap.size) (own_keep HO.out (by omega) f5) (by omega))
    clear f5 b5 HB4 HF4 HO
    go_wp2_with fail
    exact bodyPost_ret (resVE rfl rfl HB5.out) rfl ⟨HF5.out, .inr ⟨by rw [HN.out]; omega, ja, jc, by rw [HN.out]; rfl, by rw [HN.out]; exact HO5.out⟩⟩
end Go.Proofs.YtlepjghfcpgbcaaGreatDoor.Tr
