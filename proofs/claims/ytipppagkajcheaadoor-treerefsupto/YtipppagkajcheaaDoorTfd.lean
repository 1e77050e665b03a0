/- The walk of the law TreeFinds. -/
import Derived.Test.YtipppagkajcheaaDoorTby
import Derived.Test.YtipppagkajcheaaDoorFnd
import Derived.Test.YtipppagkajcheaaDoorSmt
import Derived.Test.YtipppagkajcheaaDoorRrf
namespace Go.Proofs.YtipppagkajcheaaDoor.Tr
open Go.RowKit

def noE : Ent := ⟨[], 0, []⟩
def gE (o : Option Ent) : Ent := o.getD noE
theorem noE_V (w : World) : EntV w noE none 0 := ⟨fun h => absurd rfl h, by simp [noE], by simp [noE], by simp [noE], by simp [noE], by simp [noE]⟩
theorem find_none_step (L : List Ent) (p : List UInt8) (i : Nat) (hi : i < L.length) (h : findB (L.take i) p = none) : findB (L.take (i + 1)) p = if L[i].path = p then some L[i] else none := by
  unfold findB at h ⊢
  rw [List.take_succ_eq_append_getElem hi, List.find?_append, h]
  by_cases e : L[i].path = p
  · simp [e]
  · simp [e]
theorem find_some_all (L : List Ent) (p : List UInt8) (i : Nat) (h : (findB (L.take i) p).isSome = true) : findB (L.take i) p = findB L p := by
  have e : L = L.take i ++ L.drop i := (List.take_append_drop i L).symm
  have e2 : findB L p = (findB (L.take i) p).or (findB (L.drop i) p) := by
    unfold findB
    rw [← List.find?_append, List.take_append_drop]
  rw [e2]
  cases hf : findB (L.take i) p with
  | none => rw [hf] at h; cases h
  | some x => rfl
theorem findPost {w : World} {L : List Ent} {p : List UInt8} {e : Ending} {w' : World} (h : FindPost w L p e w') : ∃ da dc, e = .returned (.tuple #[entV (gE (findB L p)) da dc, .bool (findB L p).isSome]) ∧ w'.ownsRow w.heap.size 5 1 (.slice da (gE (findB L p)).data.length dc) (gE (findB L p)).data.length (bs (gE (findB L p)).data) ∧ Fr (fun _ => False) w w' := by
  obtain ⟨da, dc, f, hm⟩ := h
  cases hf : findB L p with
  | none =>
    rw [hf] at hm
    exact ⟨none, 0, hm, World.ownsRow_nil _ _ _ _, f⟩
  | some x =>
    rw [hf] at hm
    exact ⟨da, dc, hm.1, hm.2, f⟩
theorem find_mem {L : List Ent} {p : List UInt8} {x : Ent} (h : findB L p = some x) : x ∈ L := List.mem_of_find?_eq_some h
theorem gE_b {L : List Ent} {p : List UInt8} (hb : ∀ x ∈ L, x.path.length ≤ 140737488351232 ∧ x.data.length ≤ 140737488351232 ∧ -9223372036854775808 ≤ x.kind ∧ x.kind ≤ 9223372036854775807) :
    (gE (findB L p)).path.length ≤ 140737488351232 ∧ (gE (findB L p)).data.length ≤ 140737488351232 ∧ -9223372036854775808 ≤ (gE (findB L p)).kind ∧ (gE (findB L p)).kind ≤ 9223372036854775807 := by
  cases hf : findB L p with
  | none => simp [gE, noE]
  | some x => exact hb x (find_mem hf)
theorem own_cap {W : World} {B n cap : Nat} {ad : Option Addr} {xs : List Value} {t : TypeId} (h : W.ownsRow B t 1 (.slice ad n cap) n xs) : n ≤ cap := by
  rcases h.2 with ⟨h0, h1⟩ | ⟨g, cap', cur, h0, _, _, hn, _⟩
  · cases h0; exact Nat.le_refl _
  · cases h0; exact hn
/-- The block of a row of bytes is none of another type. -/
theorem own_ne {W : World} {B n b : Nat} {v : Value} {xs ys : List Value} {t t' : TypeId} {s : Nat} (h : W.ownsRow B t s v n xs) (hb : Blk W b t' ys) (ht : t ≠ t') : ∀ g, v.ownBlock = some g → b ≠ g := by
  intro g hg e
  rw [e] at hb
  have hb' : W.heap[g]? = some (.cells ys.toArray t' (0, 0)) := hb
  rcases h.2 with ⟨rfl, _⟩ | ⟨g', cap', cur, rfl, _, hh, _⟩
  · cases hg
  · cases hg
    rw [hb'] at hh
    cases hh
    exact ht rfl

/-- In mid-way: what was found, and what is sought for. -/
structure FdS (w2 wr : World) (X Y : Nat) (y : Ent) (da : Option Addr) (dc : Nat) (z : Ent) (ea : Option Addr) (ec : Nat) : Prop where
  fr : Fr (fun _ => False) w2 wr
  bx : Blk wr X 31 [.string ⟨y.path.toArray⟩, .int .i64 y.kind, .slice da y.data.length dc]
  bz : Blk wr Y 31 [.string ⟨z.path.toArray⟩, .int .i64 z.kind, .slice ea z.data.length ec]
  own : wr.ownsRow w2.heap.size 5 1 (.slice da y.data.length dc) y.data.length (bs y.data)
  ev : EntV w2 z ea ec
theorem FdS.go {w2 wr wd : World} {X Y : Nat} {y : Ent} {da : Option Addr} {dc : Nat} {z : Ent} {ea : Option Addr} {ec : Nat} (h : FdS w2 wr X Y y da dc z ea ec) (f : Fr (fun _ => False) wr wd) : FdS w2 wd X Y y da dc z ea ec :=
  ⟨h.fr.trans f (fun _ h => h.elim), f.blk h.bx (fun h => h), f.blk h.bz (fun h => h), owns_of_eq h.own (fun k hk => f.block k (h.own.lt k hk).2 (fun h => h)), h.ev⟩

set_option maxRecDepth 100000 in
set_option maxHeartbeats 4000000 in
theorem tfd_walk (w : World) (ad : Option Addr) (L : List Ent) (cap : Nat) (p : List UInt8) (hL : Ents w ad L) (hn : L.length * 48 ≤ 140737488351232) (hT : Tab w) (hbk : bulkD L ≤ 8796093022206)
    (hb : ∀ x ∈ L, x.path.length ≤ 140737488351232 ∧ x.data.length ≤ 140737488351232 ∧ -9223372036854775808 ≤ x.kind ∧ x.kind ≤ 9223372036854775807) :
    Calls Tryd.prog 4 #[.slice ad L.length cap, .string ⟨p.toArray⟩] w fun e w' => e = .returned (.bool true) ∧ Fr (fun _ => False) w w' := by
  have HL := hid hL
  have HBd := hid hb
  have HSh := hid (shown_any w hT)
  have HG := hid (gE_b (p := p) hb)
  have HRl := hid (refsB_len L L.length (Nat.le_refl _))
  rw [List.take_length] at HRl
  clear hL hT hb
  go_enter Tryd.func4, Tryd.ntmps4
  go_wp2_with (first
    | (go_at_call 6; refine HSh.out.mono ?_; rintro e w1 ⟨rfl, f1⟩; have F1 := hid f1; clear f1)
    | (go_at_call 7; refine (copied_any _ ad L cap (HL.out.fr F1.out) hn).mono ?_; rintro e w2 ⟨v2, rfl, hC⟩; obtain ⟨oa, oc, rfl, hoc, hoE⟩ := hC.ents HBd.out; have F2 := hid (F1.out.trans hC.f (fun _ h => h.elim)); have E2 := hid hoE; clear hC hoE)
    | (go_at_call 15; refine (find_any _ oa L oc p E2.out (by omega)).mono ?_; intro e w3 hP; obtain ⟨da, dc, rfl, ho3, f3⟩ := findPost hP; have O3 := hid ho3; have F3 := hid f3; clear hP ho3 f3; refine Hid.out ?_))
  refine hid ?_
  have HE2 := hid (HL.out.fr F2.out)
  clear HSh F1 HBd HL
  have HFx : Hid (findB (L.take L.length) p = findB L p) := by unfold Hid; rw [List.take_length]
  have HFs := hid (find_some_all L p)
  generalize hy : gE (findB L p) = y at *
  generalize hbb : (findB L p).isSome = b at *
  have HY := hid hy
  have HBb := hid hbb
  clear hy hbb
  have hyl := HG.out.2.1
  have HX1 := hid (Blk.new w3 31 [.string ⟨y.path.toArray⟩, .int .i64 y.kind, .slice da y.data.length dc])
  have HS0 : Hid (FdS w2 ((w3.alloc (.cells #[.string ⟨y.path.toArray⟩, .int .i64 y.kind, .slice da y.data.length dc] 31)).alloc (.cells #[.string ⟨#[]⟩, .int .i64 0, .slice none 0 0] 31)) w3.heap.size (w3.heap.size + 1) y da dc noE none 0) :=
    ⟨(F3.out.alloc _).alloc _, HX1.out.alloc _, by have h := Blk.new (w3.alloc (.cells #[.string ⟨y.path.toArray⟩, .int .i64 y.kind, .slice da y.data.length dc] 31)) 31 [.string ⟨#[]⟩, .int .i64 0, .slice none 0 0]; rw [World.size_alloc] at h; exact h, (O3.out.alloc _).alloc _, noE_V _⟩
  have hx0 : w2.heap.size ≤ w3.heap.size := F3.out.size
  clear HX1 O3
  go_wp2_with fail
  generalize (w3.alloc (.cells #[.string ⟨y.path.toArray⟩, .int .i64 y.kind, .slice da y.data.length dc] 31)).alloc (.cells #[.string ⟨#[]⟩, .int .i64 0, .slice none 0 0] 31) = w4 at *
  clear F3
  generalize w3.heap.size = X at *
  go_loopw [10, 11] (fun bv iv wr => ∃ (i : Nat) (ea : Option Addr) (ec : Nat), i ≤ L.length ∧ iv = .int .i64 (i : Int) ∧ bv = .bool (findB (L.take i) p).isSome ∧ FdS w2 wr X (X + 1) y da dc (gE (findB (L.take i) p)) ea ec) (fun _ iv _ => L.length - (intOf iv).toNat)
  case atStart => exact ⟨0, none, 0, Nat.zero_le _, rfl, rfl, HS0.out⟩
  case round =>
    obtain ⟨i, ea, ec, hi, rfl, rfl, hS⟩ := hrel
    have HS := hid hS
    clear hS HS0
    have hi0 : (0 : Int) ≤ (i : Int) := Int.natCast_nonneg _
    have hex : (i < L.length ∧ findB (L.take i) p = none) ∨ (findB (L.take i) p = findB L p ∧ (i < L.length → (findB (L.take i) p).isSome = true)) := by
      cases hf : findB (L.take i) p with
      | none =>
        by_cases hlt : i < L.length
        · exact .inl ⟨hlt, rfl⟩
        · obtain rfl : i = L.length := by omega
          rw [List.take_length] at hf
          exact .inr ⟨hf.symm, fun h => absurd h hlt⟩
      | some x => exact .inr ⟨by rw [← HFs.out i (by rw [hf]; rfl), hf], fun _ => rfl⟩
    rcases hex with ⟨hlt, hno⟩ | ⟨hall, hstop⟩
    · have hi1 : (i : Int) < ((L.length : Nat) : Int) := by omega
      have HN := hid (find_none_step L p i hlt hno)
      rw [hno] at HS ⊢
      obtain ⟨bb, bo, fa, fc, rfl, c0', c1', c2', hv⟩ := HE2.out.at i hlt
      have c0 := cell_fr HS.out.fr c0'
      have c1 := cell_fr HS.out.fr c1'
      have c2 := cell_fr HS.out.fr c2'
      have HV := hid hv
      have z0 := HS.out.bz.cell 0
      have z1 := HS.out.bz.cell 1
      have z2 := HS.out.bz.cell 2
      have zf0 := HS.out.bz.frozen 0
      have zf1 := HS.out.bz.frozen 1
      have zf2 := HS.out.bz.frozen 2
      simp only [List.getElem?_cons_zero, List.getElem?_cons_succ] at z0 z1 z2
      clear hv c0' c1' c2' HE2 E2 hno HFx HFs
      generalize L[i] = x at *
      by_cases hp : x.path = p
      · subst hp
        rw [if_pos rfl] at HN
        have HB' := hid (((HS.out.bz.setCell 0 (.string ⟨x.path.toArray⟩)).setCell 1 (.int .i64 x.kind)).setCell 2 (.slice fa x.data.length fc))
        have HF' : Hid (Fr (fun _ => False) w2 (((wr.setCell ⟨X + 1, 0, none⟩ (.string ⟨x.path.toArray⟩)).setCell ⟨X + 1, 1, none⟩ (.int .i64 x.kind)).setCell ⟨X + 1, 2, none⟩ (.slice fa x.data.length fc))) :=
          ((HS.out.fr.setCell (.inr (by simp; omega)) _).setCell (.inr (by simp; omega)) _).setCell (.inr (by simp; omega)) _
        have HX' : Hid (Blk (((wr.setCell ⟨X + 1, 0, none⟩ (.string ⟨x.path.toArray⟩)).setCell ⟨X + 1, 1, none⟩ (.int .i64 x.kind)).setCell ⟨X + 1, 2, none⟩ (.slice fa x.data.length fc)) X 31 [.string ⟨y.path.toArray⟩, .int .i64 y.kind, .slice da y.data.length dc]) :=
          ((HS.out.bx.setCell_ne (by simp) _).setCell_ne (by simp) _).setCell_ne (by simp) _
        have hne := own_ne HS.out.own HS.out.bz (by decide)
        have HO' : Hid ((((wr.setCell ⟨X + 1, 0, none⟩ (.string ⟨x.path.toArray⟩)).setCell ⟨X + 1, 1, none⟩ (.int .i64 x.kind)).setCell ⟨X + 1, 2, none⟩ (.slice fa x.data.length fc)).ownsRow w2.heap.size 5 1 (.slice da y.data.length dc) y.data.length (bs y.data)) := by
          refine owns_of_eq HS.out.own (fun k hk => ?_)
          have hk1 := hne k hk
          rw [Below.heap_setCell _ _ _ k (fun e => hk1 e.symm), Below.heap_setCell _ _ _ k (fun e => hk1 e.symm), Below.heap_setCell _ _ _ k (fun e => hk1 e.symm)]
        clear hne
        go_wp2
        refine ⟨⟨i + 1, fa, fc, by omega, by go_num, by rw [HN.out]; rfl, ?_⟩, by simp [intOf]; omega⟩
        rw [HN.out]
        exact ⟨HF'.out, HX'.out, HB'.out, HO'.out, HV.out⟩
      · rw [if_neg hp] at HN
        have hpe : (x.path == p) = false := by simpa using hp
        clear hp
        go_wp2
        refine ⟨⟨i + 1, ea, ec, by omega, by go_num, by rw [HN.out], ?_⟩, by simp [intOf]; omega⟩
        rw [HN.out]
        exact HS.out
    · rw [hall] at HS hstop ⊢
      rw [HY.out] at HS
      rw [HBb.out] at hstop ⊢
      clear HBb HY HFs HFx hall
      have x0 := HS.out.bx.cell 0
      have x1 := HS.out.bx.cell 1
      have x2 := HS.out.bx.cell 2
      have z0 := (HS.out.bz.alloc (.cells #[.string ⟨y.path.toArray⟩, .int .i64 y.kind, .slice da y.data.length dc] 31)).cell 0
      have z1 := (HS.out.bz.alloc (.cells #[.string ⟨y.path.toArray⟩, .int .i64 y.kind, .slice da y.data.length dc] 31)).cell 1
      have z2 := (HS.out.bz.alloc (.cells #[.string ⟨y.path.toArray⟩, .int .i64 y.kind, .slice da y.data.length dc] 31)).cell 2
      simp only [List.getElem?_cons_zero, List.getElem?_cons_succ] at x0 x1 x2 z0 z1 z2
      have HFy : Hid (Fr (fun _ => False) wr ((wr.alloc (.cells #[.string ⟨y.path.toArray⟩, .int .i64 y.kind, .slice da y.data.length dc] 31)).alloc (.cells #[.string ⟨y.path.toArray⟩, .int .i64 y.kind, .slice ea y.data.length ec] 31))) := ((Fr.refl _ wr).alloc _).alloc _
      have HV1 : Hid (EntV wr y da dc) := ⟨src_own HS.out.own, own_cap HS.out.own, HG.out.2.1, HG.out.1, HG.out.2.2.1, HG.out.2.2.2⟩
      have HA1 := hid (ents_one ((Blk.new wr 31 [.string ⟨y.path.toArray⟩, .int .i64 y.kind, .slice da y.data.length dc]).alloc (.cells #[.string ⟨y.path.toArray⟩, .int .i64 y.kind, .slice ea y.data.length ec] 31)) (HV1.out.fr HFy.out))
      have HA2 := hid (ents_one (Blk.new (wr.alloc (.cells #[.string ⟨y.path.toArray⟩, .int .i64 y.kind, .slice da y.data.length dc] 31)) 31 [.string ⟨y.path.toArray⟩, .int .i64 y.kind, .slice ea y.data.length ec]) ((HS.out.ev.fr HS.out.fr).fr HFy.out))
      rw [World.size_alloc] at HA2
      have HSm := hid (same_any _ _ _ [y] [y] 1 1 HA1.out HA2.out (by simp))
      rw [decide_eq_true (rfl : [y] = [y])] at HSm
      clear HA1 HA2 HV1
      have hbb : (b == b) = true := by simp
      have hfork : ((i : Int) < ((L.length : Nat) : Int) ∧ b = true) ∨ ¬ (i : Int) < ((L.length : Nat) : Int) := by
        by_cases hlt : i < L.length
        · exact .inl ⟨by omega, hstop hlt⟩
        · exact .inr (by omega)
      clear hstop
      rcases hfork with ⟨hi1, rfl⟩ | hi1
      all_goals
        go_wp2_with (go_at_call 11; refine HSm.out.mono ?_; rintro e w6 ⟨rfl, n6, rfl⟩; refine Hid.out ?_)
        refine hid ?_
        have HS6 := hid (HS.out.go (HFy.out.drewN n6))
        clear HSm HFy x0 x1 x2 z0 z1 z2 HS
        generalize World.drewN _ n6 = w6 at *
        go_wp2_with fail
        go_loopw [13] (fun iv wr => ∃ (j : Nat) (c : List UInt8), j ≤ y.data.length ∧ iv = .int .i64 (j : Int) ∧ wr.ownsRow w2.heap.size 5 1 (.slice da y.data.length dc) y.data.length (bs c) ∧ Blk wr X 31 [.string ⟨y.path.toArray⟩, .int .i64 y.kind, .slice da y.data.length dc] ∧ Fr (fun _ => False) w2 wr) (fun iv _ => y.data.length - (intOf iv).toNat)
        case atStart => exact ⟨0, y.data, Nat.zero_le _, rfl, HS6.out.own, HS6.out.bx, HS6.out.fr⟩
        case round =>
          clear HS6
          obtain ⟨j, c, hj, rfl, hO, hB, hF⟩ := hrel
          have HF := hid hF
          have HB := hid hB
          have x2 := hB.cell 2
          simp only [List.getElem?_cons_zero, List.getElem?_cons_succ] at x2
          by_cases hjl : j < y.data.length
          · have hj1 : (j : Int) < ((y.data.length : Nat) : Int) := by omega
            have hj0 : (0 : Int) ≤ (j : Int) := Int.natCast_nonneg _
            have hne := own_ne hO hB (by decide)
            obtain ⟨g, cap', hv, hg1, _⟩ := World.ownsRow.form hO (by omega)
            cases hv
            have hgx := hne g rfl
            obtain ⟨hO', ⟨v0, hc0⟩, hfz⟩ := owns_set hO j hjl 3
            have HO' := hid hO'
            have HF' : Hid (Fr (fun _ => False) w2 (wr.setCell ⟨g, j, none⟩ (.int .u8 3))) := hF.setCell (.inr hg1) _
            have HB' : Hid (Blk (wr.setCell ⟨g, j, none⟩ (.int .u8 3)) X 31 _) := hB.setCell_ne hgx _
            clear hO hF hO' hB hne hgx
            go_wp2
            exact ⟨⟨j + 1, _, by omega, by go_num, HO'.out, HB'.out, HF'.out⟩, by simp [intOf]; omega⟩
          · obtain rfl : j = y.data.length := by omega
            have hjn : ¬ ((y.data.length : Nat) : Int) < ((y.data.length : Nat) : Int) := by omega
            clear hO hF hB HB
            have HSa := hid (same_any wr oa ad L L oc cap (E2.out.fr HF.out) (HE2.out.fr HF.out) (by omega))
            rw [decide_eq_true (rfl : L = L)] at HSa
            have HR1 := hid (fun (W : World) (f : Fr (fun _ => False) w2 W) => refs_any W oa L oc (E2.out.fr f) hbk (by omega))
            have HR2 := hid (fun (W : World) (f : Fr (fun _ => False) w2 W) => rrefs_any W ad L cap (HE2.out.fr f) hbk (by omega))
            have hrl : (refsB L).length ≤ 140737488351232 := by have := HRl.out; omega
            clear HRl E2 HE2
            generalize refsB L = R at *
            go_wp2_with (first
              | (go_at_call 11; refine HSa.out.mono ?_; rintro e w8 ⟨rfl, n8, rfl⟩; have F8 := hid (HF.out.drewN n8); generalize World.drewN wr n8 = w8 at *)
              | (go_at_call 17; refine (HR1.out _ F8.out).mono ?_; rintro e w9 ⟨v9, rfl, ho9, f9⟩; obtain ⟨va9, vc9, rfl⟩ := own_len ho9; have O9 := hid ho9; have F9 := hid (F8.out.trans f9 (fun _ h => h.elim)); clear ho9 f9)
              | (go_at_call 18; refine (HR2.out _ F9.out).mono ?_; rintro e w10 ⟨v10, rfl, ho10, f10⟩; obtain ⟨va10, vc10, rfl⟩ := own_len ho10; have S9 := hid ((sts_own O9.out).fr f10); have S10 := hid (sts_own ho10); have F10 := hid (F9.out.trans f10 (fun _ h => h.elim)); clear ho10 f10)
              | (go_at_call 16; refine (smt_any _ va9 va10 R R vc9 vc10 S9.out S10.out hrl).mono ?_; rintro e w11 ⟨rfl, n11, rfl⟩; rw [decide_eq_true (rfl : R = R)]; have F11 := hid (F10.out.drewN n11); generalize World.drewN w10 n11 = w11 at *))
            go_ret
            exact ⟨rfl, F2.out.trans F11.out (fun _ h => h.elim)⟩

end Go.Proofs.YtipppagkajcheaaDoor.Tr
