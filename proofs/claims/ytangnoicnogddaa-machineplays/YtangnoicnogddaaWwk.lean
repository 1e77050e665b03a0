/- The contract of wreck: the walk. -/
import Derived.Test.YtangnoicnogddaaWwr
namespace Go.Proofs.Ytangnoicnogddaa.Tr
open Go.RowKit

theorem WrF.alloc {O : Nat → Prop} {W : World} {ad : Option Addr} {n i : Nat} (h : WrF O W ad n i) (ob : Obj) : WrF O (W.alloc ob) ad n i := fun hn => by
  obtain ⟨g', cur, e, hO, hB, hl, hm⟩ := h hn
  refine ⟨g', cur, e, hO, hB.alloc ob, hl, fun m h1 h2 => ?_⟩
  obtain ⟨da, dl, dc, hc, hw, hd⟩ := hm m h1 h2
  exact ⟨da, dl, dc, hc, hw.alloc ob, hd⟩
theorem WrR.alloc {O : Nat → Prop} {W : World} {ad : Option Addr} {n i : Nat} (h : WrR O W ad n i) (ob : Obj) : WrR O (W.alloc ob) ad n i := fun hn => by
  obtain ⟨g', cur, e, hO, hB, hl, hm⟩ := h hn
  refine ⟨g', cur, e, hO, hB.alloc ob, hl, fun m h1 h2 => ?_⟩
  obtain ⟨y, hc, hw, hw2, hd⟩ := hm m h1 h2
  exact ⟨y, hc, hw.alloc ob, hw2.alloc ob, hd⟩
theorem Wre.spoil {O O' : Nat → Prop} {w W W' : World} {b : Nat} {o : Ov} {i j : Nat} (h : Wre O w W b o i j) (hO' : ∀ k, O' k → O k ∧ ∃ c, Blk W k 9 c) (hb : ¬ O b) (hbl : b < W.heap.size) (f : Fr O' W W') (kp : ∀ (O2 : Nat → Prop) t ad n, Wr O2 W t ad n → Wr O2 W' t ad n) : Wre O w W' b o i j := by
  have hk : ∀ {g : Nat} {t : TypeId} {c : List Value}, Blk W g t c → t ≠ 9 → Blk W' g t c := fun hB ht => hB.of_eq (f.block _ hB.lt (fun h => by obtain ⟨_, c, hc⟩ := hO' _ h; exact ht (blk_ty hB hc)))
  refine ⟨h.f.trans f (fun _ h => .inl (hO' _ h).1), h.blk.of_eq (f.block _ hbl (fun e => hb (hO' _ e).1)), fun hn => ?_, kp _ _ _ _ h.us, fun hn => ?_⟩
  · obtain ⟨g', cur, e, hO, hB, hl, hm⟩ := h.fs hn
    refine ⟨g', cur, e, hO, hk hB (by decide), hl, fun m h1 h2 => ?_⟩
    obtain ⟨da, dl, dc, hc, hw, hd⟩ := hm m h1 h2
    exact ⟨da, dl, dc, hc, kp _ _ _ _ hw, hd⟩
  · obtain ⟨g', cur, e, hO, hB, hl, hm⟩ := h.rs hn
    refine ⟨g', cur, e, hO, hk hB (by decide), hl, fun m h1 h2 => ?_⟩
    obtain ⟨y, hc, hw, hw2, hd⟩ := hm m h1 h2
    exact ⟨y, hc, kp _ _ _ _ hw, kp _ _ _ _ hw2, hd⟩
/-- The file whose data are being written over. -/
def InF (O : Nat → Prop) (W : World) (g i : Nat) (da : Option Addr) (dl dc : Nat) : Prop := (∃ c, Blk W g 39 c ∧ c[i * 3 + 2]? = some (.slice da dl dc)) ∧ Wr O W 5 da dl
theorem InF.set {O : Nat → Prop} {W : World} {g i : Nat} {da : Option Addr} {dl dc : Nat} (h : InF O W g i da dl dc) {gd : Nat} {cd : List Value} (hB : Blk W gd 5 cd) (q : Nat) (v : Value) : InF O (W.setCell ⟨gd, q, none⟩ v) g i da dl dc := by
  obtain ⟨⟨c, h1, h2⟩, h3⟩ := h
  exact ⟨⟨c, h1.setCell_ne (fun e => by subst e; exact absurd (blk_ty h1 hB) (by decide)) _, h2⟩, h3.set _ _ _⟩
set_option maxRecDepth 100000 in
set_option maxHeartbeats 8000000 in
theorem wreck_any (O : Nat → Prop) (w : World) (o : Ov) (hf : WrF O w o.fa o.fl 0) (hu : Wr O w 9 o.ua o.ul) (hr : WrR O w o.ra o.rl 0) (hO : ∀ k, O k → k < w.heap.size) (l1 : o.fl ≤ 140737488351232) (l2 : o.ul ≤ 140737488351232) (l3 : o.rl ≤ 140737488351232) :
    Calls Try.prog 16 #[o.v] w fun e w' => e = .returned (.tuple #[]) ∧ Fr O w w' := by
  have HS : Hid (Wre O w (w.alloc (.cells o.cs.toArray 33)) w.heap.size o 0 0) := ⟨(Fr.refl _ w).alloc _, Blk.new w _ o.cs, hf.alloc _, hu.alloc _, hr.alloc _⟩
  have HN : Hid (¬ O w.heap.size) := fun h => Nat.lt_irrefl _ (hO _ h)
  have HOs := hid hO
  have b0 := HS.out.blk.cell 0
  clear hf hu hr hO
  obtain ⟨fa, fl, fc, ua, ul, uc, ra, rl, rc⟩ := o
  simp only at l1 l2 l3
  simp only [Ov.v, Ov.cs, List.getElem?_cons_zero] at *
  go_enter Try.func16, Try.ntmps16
  go_wp2_with fail
  clear b0
  go_loopw [2, 3] (fun iv _ wr => ∃ i : Nat, i ≤ fl ∧ iv = .int .i64 (i : Int) ∧ Hid (Wre O w wr w.heap.size ⟨fa, fl, fc, ua, ul, uc, ra, rl, rc⟩ i 0)) (fun iv _ _ => fl - (intOf iv).toNat)
  case atStart => exact ⟨0, Nat.zero_le _, rfl, HS.out⟩
  case round =>
    obtain ⟨i, hi, rfl, HI⟩ := hrel
    have b0 := HI.out.blk.cell 0
    have b1 := HI.out.blk.cell 1
    simp only [List.getElem?_cons_zero, List.getElem?_cons_succ] at b0 b1
    have hi0 : (0 : Int) ≤ (i : Int) := Int.natCast_nonneg _
    clear HS
    rename World => w1
    by_cases hlt : i < fl
    · have hi1 : (i : Int) < ((fl : Nat) : Int) := by omega
      obtain ⟨g, cur, e, hOg, hB, hl, hm⟩ := HI.out.fs (by simp only; omega)
      obtain ⟨da, dl, dc, hc, hw, hdl⟩ := hm i (Nat.le_refl _) hlt
      simp only at e hl
      subst e
      have HOg := hid hOg
      have HIn : Hid (InF O w1 g i da dl dc) := ⟨⟨cur, hB, hc⟩, hw⟩
      clear hB hm hw hOg hc hl cur
      go_wp2_with fail
      go_loopw [3] (fun kv wr => ∃ k : Nat, k ≤ dl ∧ kv = .int .i64 (k : Int) ∧ Hid (Wre O w wr w.heap.size ⟨some ⟨g, 0, none⟩, fl, fc, ua, ul, uc, ra, rl, rc⟩ i 0) ∧ Hid (InF O wr g i da dl dc)) (fun kv _ => dl - (intOf kv).toNat)
      case atStart => exact ⟨0, Nat.zero_le _, rfl, HI, HIn⟩
      case round =>
        obtain ⟨k, hk, rfl, HK, HKn⟩ := hrel
        clear HI HIn b0 b1
        rename World => w2
        have b0 := HK.out.blk.cell 0
        have b1 := HK.out.blk.cell 1
        simp only [List.getElem?_cons_zero, List.getElem?_cons_succ] at b0 b1
        obtain ⟨⟨c, hB, hc⟩, hw⟩ := HKn.out
        have hlen := (List.getElem?_eq_some_iff.1 hc).1
        have y2 := (hB.cell (i * 3 + 2)).trans hc
        have hk0 : (0 : Int) ≤ (k : Int) := Int.natCast_nonneg _
        by_cases hlt2 : k < dl
        · have hk1 : (k : Int) < ((dl : Nat) : Int) := by omega
          obtain ⟨gd, cd, e, hOd, hBd, hld⟩ := hw (by omega)
          subst e
          have x0 := (hBd.cell k).trans (List.getElem?_eq_getElem (show k < cd.length by omega))
          have z0 := hBd.frozen k
          have HK2 := hid (HK.out.other hOd HN.out hBd (by decide) (by decide) k (.int .u8 2))
          have HK3 := hid (HKn.out.set hBd k (.int .u8 2))
          clear hB hBd hw
          go_wp2
          exact ⟨⟨k + 1, by omega, by go_num, HK2, HK3⟩, by simp [intOf]; omega⟩
        · have hk1 : ¬ (k : Int) < ((dl : Nat) : Int) := by omega
          have y0 := (hB.cell (i * 3)).trans (List.getElem?_eq_getElem (show i * 3 < c.length by omega))
          have y1 := (hB.cell (i * 3 + 1)).trans (List.getElem?_eq_getElem (show i * 3 + 1 < c.length by omega))
          have z0 := hB.frozen (i * 3)
          have z1 := hB.frozen (i * 3 + 1)
          have z2 := hB.frozen (i * 3 + 2)
          have HK2 := hid (HK.out.file HOg.out HN.out hB rfl hlt (.string ⟨#[]⟩) (.int .i64 0) (.slice none 0 0))
          clear hB hw
          go_wp2
          exact ⟨⟨i + 1, by omega, by go_num, HK2⟩, by simp [intOf]; omega⟩
    · have hi1 : ¬ (i : Int) < ((fl : Nat) : Int) := by omega
      clear hlt hi0
      go_wp2_with fail
      clear b0 b1
      go_loopw [4] (fun iv wr => ∃ j : Nat, j ≤ ul ∧ iv = .int .i64 (j : Int) ∧ Hid (Wre O w wr w.heap.size ⟨fa, fl, fc, ua, ul, uc, ra, rl, rc⟩ i 0)) (fun iv _ => ul - (intOf iv).toNat)
      case atStart => exact ⟨0, Nat.zero_le _, rfl, HI⟩
      case round =>
        obtain ⟨j, hj, rfl, HJ⟩ := hrel
        clear HI
        rename World => w2
        have b1 := HJ.out.blk.cell 1
        have b2 := HJ.out.blk.cell 2
        simp only [List.getElem?_cons_zero, List.getElem?_cons_succ] at b1 b2
        have hj0 : (0 : Int) ≤ (j : Int) := Int.natCast_nonneg _
        by_cases hlt : j < ul
        · have hj1 : (j : Int) < ((ul : Nat) : Int) := by omega
          obtain ⟨g, cur, e, hOg, hB, hl⟩ := HJ.out.us (by simp only; omega)
          simp only at e hl
          subst e
          have y0 := (hB.cell j).trans (List.getElem?_eq_getElem (show j < cur.length by omega))
          have z0 := hB.frozen j
          have HJ2 := hid (HJ.out.other hOg HN.out hB (by decide) (by decide) j (.string ⟨#[33]⟩))
          clear hB
          go_wp2
          exact ⟨⟨j + 1, by omega, by go_num, HJ2⟩, by simp [intOf]; omega⟩
        · have hj1 : ¬ (j : Int) < ((ul : Nat) : Int) := by omega
          clear hlt hj0
          go_wp2_with fail
          clear b1 b2
          go_loopw [5] (fun iv wr => ∃ l : Nat, l ≤ rl ∧ iv = .int .i64 (l : Int) ∧ Hid (Wre O w wr w.heap.size ⟨fa, fl, fc, ua, ul, uc, ra, rl, rc⟩ i l)) (fun iv _ => rl - (intOf iv).toNat)
          case atStart => exact ⟨0, Nat.zero_le _, rfl, HJ⟩
          case round =>
            obtain ⟨l, hl, rfl, HK⟩ := hrel
            clear HJ
            rename World => w3
            have b2 := HK.out.blk.cell 2
            simp only [List.getElem?_cons_zero, List.getElem?_cons_succ] at b2
            have hl0 : (0 : Int) ≤ (l : Int) := Int.natCast_nonneg _
            by_cases hlt : l < rl
            · have hl1 : (l : Int) < ((rl : Nat) : Int) := by omega
              obtain ⟨g, cur, e, hOg, hB, hln, hm⟩ := HK.out.rs (by simp only; omega)
              obtain ⟨y, hc, hw, hw2, hd1, hd2⟩ := hm l (Nat.le_refl _) hlt
              simp only at e hln
              subst e
              obtain ⟨yn, ys, yra, yrl, yrc, yaa, yal, yac⟩ := y
              simp only at hw hw2 hd1 hd2
              have y0 := (hB.cell (l * 4)).trans (hc 0 _ rfl)
              have y1 := (hB.cell (l * 4 + 1)).trans (hc 1 _ rfl)
              have y2 := (hB.cell (l * 4 + 2)).trans (hc 2 _ rfl)
              have y3 := (hB.cell (l * 4 + 3)).trans (hc 3 _ rfl)
              have hlen : l * 4 + 3 < cur.length := by omega
              have hup : ∀ {ad : Option Addr} {n : Nat}, Wr O w3 9 ad n → Wr (fun k => O k ∧ ∃ c, Blk w3 k 9 c) w3 9 ad n := fun h hn => by
                obtain ⟨g, c, e, hO, hB, hl⟩ := h hn
                exact ⟨g, c, e, ⟨hO, c, hB⟩, hB, hl⟩
              have hszb : w.heap.size < w3.heap.size := HK.out.blk.lt
              have HSp := hid (spoil_any (fun k => O k ∧ ∃ c, Blk w3 k 9 c) w3 ⟨0, [], xZ, ⟨yn, ys, yra, yrl, yrc, yaa, yal, yac⟩⟩ ⟨fun h => absurd h (by simp [xZ]), hup hw, hup hw2⟩ (fun k hk => by have := HOs.out k hk.1; omega) (by simp [xZ]) hd1 hd2)
              have HTl : Hid (∀ w5, Fr (fun k => O k ∧ ∃ c, Blk w3 k 9 c) w3 w5 → (∀ (O2 : Nat → Prop) t ad n, Wr O2 w3 t ad n → Wr O2 w5 t ad n) →
                  Wre O w w5 w.heap.size ⟨fa, fl, fc, ua, ul, uc, some ⟨g, 0, none⟩, rl, rc⟩ i l ∧ Blk w5 g 41 cur) := fun w5 f kp =>
                ⟨HK.out.spoil (fun k hk => hk) HN.out hszb f kp, hB.of_eq (f.block g hB.lt (fun h => by obtain ⟨_, c, hc⟩ := h; exact absurd (blk_ty hB hc) (by decide)))⟩
              have HOg := hid hOg
              simp only [Zv.v, Zv.cs, xZ] at HSp
              clear hm hw hw2 hc hB hup hOg
              go_wp2_with (go_at_call 12; refine HSp.out.mono ?_; rintro e w5 ⟨rfl, f5, kp5⟩; obtain ⟨m5, hB5⟩ := HTl.out w5 f5 kp5; have HK5 := hid m5; have b25 := m5.blk.cell 2; simp only [List.getElem?_cons_zero, List.getElem?_cons_succ] at b25; have v0 := (hB5.cell (l * 4)).trans (List.getElem?_eq_getElem (show l * 4 < cur.length by omega)); have v1 := (hB5.cell (l * 4 + 1)).trans (List.getElem?_eq_getElem (show l * 4 + 1 < cur.length by omega)); have v2 := (hB5.cell (l * 4 + 2)).trans (List.getElem?_eq_getElem (show l * 4 + 2 < cur.length by omega)); have v3 := (hB5.cell (l * 4 + 3)).trans (List.getElem?_eq_getElem hlen); have u0 := hB5.frozen (l * 4); have u1 := hB5.frozen (l * 4 + 1); have u2 := hB5.frozen (l * 4 + 2); have u3 := hB5.frozen (l * 4 + 3); have HK6 := hid (m5.unit HOg.out HN.out hB5 rfl hlt (.string ⟨#[]⟩) (.string ⟨#[]⟩) (.slice none 0 0) (.slice none 0 0)); clear m5 hB5 f5 kp5)
              exact ⟨⟨l + 1, by omega, by go_num, HK6⟩, by simp [intOf]; omega⟩
            · have hl1 : ¬ (l : Int) < ((rl : Nat) : Int) := by omega
              go_wp2
              go_end0
              exact ⟨rfl, HK.out.f⟩
end Go.Proofs.Ytangnoicnogddaa.Tr
