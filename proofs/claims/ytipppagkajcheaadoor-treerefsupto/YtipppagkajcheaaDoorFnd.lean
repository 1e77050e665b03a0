/- The contracts of Clone, Find and SameTexts. -/
import Derived.Test.YtipppagkajcheaaDoorCop
namespace Go.Proofs.YtipppagkajcheaaDoor.Tr
open Go.RowKit

theorem clone_any (w : World) (ad : Option Addr) (b : List UInt8) (cap : Nat) (hs : Src w ad b) (hl : b.length ≤ 140737488355328) :
    Calls Tryd.prog 31 #[.slice ad b.length cap] w fun e w' => ∃ v, e = .returned v ∧ w'.ownsRow w.heap.size 5 1 v b.length (bs b) ∧ Fr (fun _ => False) w w' := by
  have eb : (ints b).map (Value.int .u8) = bs b := by simp [ints, bs, bv]
  cases ad with
  | none =>
    by_cases hb : b = []
    · subst hb
      refine (Tryd.bytes_Clone_nil 0 cap w).mono (fun e w' h => ?_)
      obtain ⟨rfl, rfl⟩ := h
      exact ⟨_, rfl, World.ownsRow_nil _ _ _ _, Fr.refl _ _⟩
    · obtain ⟨_, _, e, _⟩ := hs hb
      cases e
  | some a =>
    refine (Tryd.bytes_Clone_at a b.length cap (ints b) w (ints_len b) hl (fun i hi => ?_)).mono (fun e w' h => ?_)
    · obtain ⟨bb, bo, e, hc⟩ := hs.at i hi
      cases e
      rw [Addr.add_mid, ints_at b i hi]
      exact hc
    · obtain ⟨v', h1, h2, _, h4⟩ := h
      rw [eb] at h2
      exact ⟨v', h1, h2, fr_below h4⟩

/-- The first entry with a path. -/
def findB (L : List Ent) (p : List UInt8) : Option Ent := L.find? (fun x => x.path == p)
theorem find_hit (L : List Ent) (p : List UInt8) (i : Nat) (h : i < L.length) (hn : ∀ j (hj : j < i), L[j].path ≠ p) (e : L[i].path = p) : findB L p = some L[i] := by
  unfold findB
  rw [List.find?_eq_some_iff_getElem]
  exact ⟨by simpa using e, i, h, rfl, fun j hj => by simpa using hn j hj⟩
theorem find_miss (L : List Ent) (p : List UInt8) (hn : ∀ j (hj : j < L.length), L[j].path ≠ p) : findB L p = none := by
  unfold findB
  rw [List.find?_eq_none]
  intro x hx
  obtain ⟨j, hj, rfl⟩ := List.getElem_of_mem hx
  simpa using hn j hj
def FindPost (w : World) (L : List Ent) (p : List UInt8) (e : Ending) (w' : World) : Prop :=
  ∃ (da : Option Addr) (dc : Nat), Fr (fun _ => False) w w' ∧ match findB L p with
    | some x => e = .returned (.tuple #[entV x da dc, .bool true]) ∧ w'.ownsRow w.heap.size 5 1 (.slice da x.data.length dc) x.data.length (bs x.data)
    | none => e = .returned (.tuple #[.agg #[.string ⟨#[]⟩, .int .i64 0, .slice none 0 0], .bool false])

theorem resultsE {fn : Func} {t1 t2 : Tmp} (h : fn.results = #[.cell t1 31, .tmp t2]) {tmps : Array Value} {W : World} {b1 : Nat} {a0 a1 a2 v2 : Value} {x1 : TypeId} (ha : tmps.getD t1 undef = .pointer (some ⟨b1, 0, none⟩)) (ha2 : tmps.getD t2 undef = v2) (hb : Blk W b1 x1 [a0, a1, a2]) :
    (results fn tmps).run Tryd.prog W = .ok (.tuple #[.agg #[a0, a1, a2], v2]) W := by
  have ha' : tmps[t1]?.getD undef = .pointer (some ⟨b1, 0, none⟩) := by simpa using ha
  have ha2' : tmps[t2]?.getD undef = v2 := by simpa using ha2
  have hc := hb.cell 0
  have hc1 := hb.cell 1
  have hc2 := hb.cell 2
  simp only [List.getElem?_cons_zero, List.getElem?_cons_succ] at hc hc1 hc2
  have hu := Tryd.underlying31
  simp [results, h, ha', ha2', asAddr, loadVar, isAgg, run_underlying hu, go_sem, hc, hc1, hc2, loadCells, loadCellsFrom, Addr.add]

set_option maxRecDepth 100000 in
set_option maxHeartbeats 1000000 in
theorem find_any (w : World) (ad : Option Addr) (L : List Ent) (cap : Nat) (p : List UInt8) (hL : Ents w ad L) (hn : L.length ≤ 140737488351232) :
    Calls Tryd.prog 15 #[.slice ad L.length cap, .string ⟨p.toArray⟩] w (FindPost w L p) := by
  have HL := hid hL
  clear hL
  have HB0 : Hid (Blk (w.alloc (.cells #[.string ⟨#[]⟩, .int .i64 0, .slice none 0 0] 31)) w.heap.size 31 [.string ⟨#[]⟩, .int .i64 0, .slice none 0 0]) := Blk.new w _ _
  have HF0 : Hid (Fr (fun _ => False) w (w.alloc (.cells #[.string ⟨#[]⟩, .int .i64 0, .slice none 0 0] 31))) := (Fr.refl _ w).alloc _
  go_enter Tryd.func15, Tryd.ntmps15
  go_wp2_with fail
  go_loopw [10] (fun iv wr => ∃ i : Nat, i ≤ L.length ∧ iv = .int .i64 (i : Int) ∧ (∀ j (hj : j < i) (hl : j < L.length), L[j].path ≠ p) ∧ Fr (fun _ => False) w wr ∧ Blk wr w.heap.size 31 [.string ⟨#[]⟩, .int .i64 0, .slice none 0 0]) (fun iv _ => L.length - (intOf iv).toNat)
  case atStart => exact ⟨0, Nat.zero_le _, rfl, fun j hj => absurd hj (by omega), HF0.out, HB0.out⟩
  case round =>
    obtain ⟨i, hi, rfl, hno, hF, hB⟩ := hrel
    have HNo := hid hno
    have HF := hid hF
    have HB := hid hB
    clear hno hF HB0 HF0
    by_cases hlt : i < L.length
    · have hi1 : (i : Int) < ((L.length : Nat) : Int) := by omega
      have hi0 : (0 : Int) ≤ (i : Int) := Int.natCast_nonneg _
      obtain ⟨bb, bo, da, dc, rfl, c0', c1', c2', hv⟩ := HL.out.at i hlt
      have c0 := cell_fr HF.out c0'
      have c1 := cell_fr HF.out c1'
      have c2 := cell_fr HF.out c2'
      have HV := hid hv
      by_cases hp : L[i].path = p
      · have HFd := hid (find_hit L p i hlt (fun j hj => HNo.out j hj (by omega)) hp)
        have hdl := hv.len
        clear c0' c1' c2' hv hB
        generalize L[i] = x at *
        subst hp
        have HBr : Hid (Blk (wr.alloc (.cells #[.string ⟨x.path.toArray⟩, .int .i64 x.kind, .slice da x.data.length dc] 31)) w.heap.size 31 [.string ⟨#[]⟩, .int .i64 0, .slice none 0 0]) := HB.out.alloc _
        have HBx : Hid (Blk (wr.alloc (.cells #[.string ⟨x.path.toArray⟩, .int .i64 x.kind, .slice da x.data.length dc] 31)) wr.heap.size 31 [.string ⟨x.path.toArray⟩, .int .i64 x.kind, .slice da x.data.length dc]) := Blk.new wr _ _
        have HF1 : Hid (Fr (fun _ => False) w (wr.alloc (.cells #[.string ⟨x.path.toArray⟩, .int .i64 x.kind, .slice da x.data.length dc] 31))) := HF.out.alloc _
        have HCl := hid (clone_any _ da x.data dc (HV.out.src.fr HF1.out) (by omega))
        go_wp2_with (go_at_call 31; refine HCl.out.mono ?_; rintro e w1 ⟨v1, rfl, ho1, f1⟩; obtain ⟨va1, vc1, rfl⟩ := own_len ho1; refine Hid.out ?_)
        refine hid ?_
        have hx1 := f1.blk HBx.out (fun h => h)
        have hr1 := f1.blk HBr.out (fun h => h)
        have hne : wr.heap.size ≠ w.heap.size := by have := HB.out.lt; omega
        have e0 := hx1.cell 0
        have e1 := hx1.cell 1
        have e2 := hx1.cell 2
        have ef := hx1.frozen 2
        have r0 := hr1.cell 0
        have r1 := hr1.cell 1
        have r2 := hr1.cell 2
        have rf0 := hr1.frozen 0
        have rf1 := hr1.frozen 1
        have rf2 := hr1.frozen 2
        simp only [List.getElem?_cons_zero, List.getElem?_cons_succ] at e0 e1 e2 r0 r1 r2
        have HO1 := hid ho1
        have HFw := hid (HF1.out.trans f1 (fun _ h => h.elim))
        have HBr1 := hid hr1
        clear ho1 f1 hx1 hr1 HCl HBx HBr HL HNo HV HB
        have HRb := hid (((((HBr1.out.setCell_ne (a := ⟨wr.heap.size, 2, none⟩) (fun e => hne e.symm) (.slice va1 x.data.length vc1)).setCell 0 (.string ⟨x.path.toArray⟩)).setCell 1 (.int .i64 x.kind)).setCell 2 (.slice va1 x.data.length vc1)))
        have hle : w.heap.size ≤ wr.heap.size := HF.out.size
        have HFz : Hid (Fr (fun _ => False) w ((((w1.setCell ⟨wr.heap.size, 2, none⟩ (.slice va1 x.data.length vc1)).setCell ⟨w.heap.size, 0, none⟩ (.string ⟨x.path.toArray⟩)).setCell ⟨w.heap.size, 1, none⟩ (.int .i64 x.kind)).setCell ⟨w.heap.size, 2, none⟩ (.slice va1 x.data.length vc1))) :=
          (((HFw.out.setCell (.inr hle) _).setCell (.inr (Nat.le_refl _)) _).setCell (.inr (Nat.le_refl _)) _).setCell (.inr (Nat.le_refl _)) _
        have hs1 : (wr.alloc (.cells #[.string ⟨x.path.toArray⟩, .int .i64 x.kind, .slice da x.data.length dc] 31)).heap.size = wr.heap.size + 1 := by simp
        have HOz : Hid (((((w1.setCell ⟨wr.heap.size, 2, none⟩ (.slice va1 x.data.length vc1)).setCell ⟨w.heap.size, 0, none⟩ (.string ⟨x.path.toArray⟩)).setCell ⟨w.heap.size, 1, none⟩ (.int .i64 x.kind)).setCell ⟨w.heap.size, 2, none⟩ (.slice va1 x.data.length vc1)).ownsRow w.heap.size 5 1 (.slice va1 x.data.length vc1) x.data.length (bs x.data)) := by
          refine owns_of_eq (owns_base HO1.out (by omega)) (fun k hk => ?_)
          have hk1 := (HO1.out.lt k hk).1
          rw [Below.heap_setCell _ _ _ k (by simp; omega), Below.heap_setCell _ _ _ k (by simp; omega), Below.heap_setCell _ _ _ k (by simp; omega), Below.heap_setCell _ _ _ k (by simp; omega)]
        go_wp2_with fail
        refine bodyPost_ret (resultsE rfl rfl rfl HRb.out) rfl ⟨va1, vc1, HFz.out, ?_⟩
        rw [HFd.out]
        exact ⟨rfl, HOz.out⟩
      · have HNo' : Hid (∀ j (hj : j < i + 1) (hl : j < L.length), L[j].path ≠ p) := fun j hj hl => by
          rcases Nat.lt_or_ge j i with h | h
          · exact HNo.out j h hl
          · have e : j = i := by omega
            subst e; exact hp
        have hpe : (L[i].path == p) = false := by simpa using hp
        have HB' : Hid (∀ o, Blk (wr.alloc o) w.heap.size 31 [.string ⟨#[]⟩, .int .i64 0, .slice none 0 0]) := fun o => hB.alloc o
        have HF' : Hid (∀ o, Fr (fun _ => False) w (wr.alloc o)) := fun o => HF.out.alloc o
        clear c0' c1' c2' hv hB HNo HV hp
        generalize L[i] = x at *
        go_wp2
        exact ⟨⟨i + 1, by omega, by go_num, HNo'.out, HF'.out _, HB'.out _⟩, by simp [intOf]; omega⟩
    · obtain rfl : i = L.length := by omega
      have hkn : ¬ ((L.length : Nat) : Int) < ((L.length : Nat) : Int) := by omega
      have HFd := hid (find_miss L p (fun j hj => HNo.out j hj hj))
      have r0 := hB.cell 0
      have r1 := hB.cell 1
      have r2 := hB.cell 2
      have rf0 := hB.frozen 0
      have rf1 := hB.frozen 1
      have rf2 := hB.frozen 2
      simp only [List.getElem?_cons_zero, List.getElem?_cons_succ] at r0 r1 r2
      have HRb := hid (((HB.out.setCell 0 (.string ⟨#[]⟩)).setCell 1 (.int .i64 0)).setCell 2 (.slice none 0 0))
      have HFz : Hid (Fr (fun _ => False) w (((wr.setCell ⟨w.heap.size, 0, none⟩ (.string ⟨#[]⟩)).setCell ⟨w.heap.size, 1, none⟩ (.int .i64 0)).setCell ⟨w.heap.size, 2, none⟩ (.slice none 0 0))) :=
        ((HF.out.setCell (.inr (Nat.le_refl _)) _).setCell (.inr (Nat.le_refl _)) _).setCell (.inr (Nat.le_refl _)) _
      clear hB
      go_wp2_with fail
      refine bodyPost_ret (resultsE rfl rfl rfl HRb.out) rfl ⟨none, 0, HFz.out, ?_⟩
      rw [HFd.out]
      rfl

end Go.Proofs.YtipppagkajcheaaDoor.Tr
