/- The contract of the statements' fault, over a fault. -/
import Derived.Test.YtionmohglmbklaaGreatDoorAsf
import Derived.Test.YtionmohglmbklaaGreatDoorAll
namespace Go.Proofs.YtionmohglmbklaaGreatDoor.Tr
open Go.RowKit

theorem as_blk {w : World} {tb : Nat} (e : Addr) (hb : Blk w tb 75 [.pointer none]) (hg : w.cell? ⟨1, 0, none⟩ = some (.iface 122 (.agg #[hdl 28]))) (hG : 1 < w.heap.size) :
    Calls Tryz.prog 40 #[.iface 75 (.pointer (some e)), .iface 77 (.pointer (some ⟨tb, 0, none⟩))] w fun ev w' => ev = .returned (.bool true) ∧ Blk w' tb 75 [.pointer (some e)] ∧ Fr (· = tb) w w' := by
  refine (as_fault e ⟨tb, 0, none⟩ (.pointer none) w hg hG (hb.cell 0) (hb.frozen 0) hb.lt).mono ?_
  rintro ev w' ⟨rfl, rfl⟩
  refine ⟨rfl, ((((hb.alloc _).alloc _).alloc _).alloc _).setCell 0 _, (((((Fr.refl (· = tb) w).alloc _).alloc _).alloc _).alloc _).setCell (p := ⟨tb, 0, none⟩) (.inl rfl) _⟩

theorem resultsF {fn : Func} {t1 : Tmp} (h : fn.results = #[.cell t1 33]) {tmps : Array Value} {W : World} {b1 : Nat} {a0 a1 : Value} {x1 : TypeId} (ha : tmps.getD t1 undef = .pointer (some ⟨b1, 0, none⟩)) (hb : Blk W b1 x1 [a0, a1]) :
    (results fn tmps).run Tryz.prog W = .ok (.agg #[a0, a1]) W := by
  have ha' : tmps[t1]?.getD undef = .pointer (some ⟨b1, 0, none⟩) := by simpa using ha
  have hc := hb.cell 0
  have hc1 := hb.cell 1
  simp only [List.getElem?_cons_zero, List.getElem?_cons_succ] at hc hc1
  have hu := Tryz.underlying33
  simp [results, h, ha', asAddr, loadVar, isAgg, run_underlying hu, go_sem, hc, hc1, loadCells, loadCellsFrom, Addr.add]

/-- The handle of 'error' lies where the library keeps it. -/
def Hnl (w : World) : Prop := w.cell? ⟨1, 0, none⟩ = some (.iface 122 (.agg #[hdl 28])) ∧ 1 < w.heap.size

set_option maxRecDepth 100000 in
set_option maxHeartbeats 2000000 in
theorem fault_hit {w : World} {fb k : Nat} {e : Int} (hF : Flt w fb k e) (hH : Hnl w) : Calls Tryz.prog 21 #[fltV fb] w fun r w' => r = .returned (.agg #[.int .i64 (k : Int), .int .i64 e]) ∧ Fr (fun _ => False) w w' := by
  have HB1 := hid (Blk.new w 33 [.int .i64 0, .int .i64 0])
  have HB1' : Hid (Blk ((w.alloc (.cells #[.int .i64 0, .int .i64 0] 33)).alloc (.cells #[.pointer none] 75)) w.heap.size 33 [.int .i64 0, .int .i64 0]) := HB1.out.alloc _
  have HB2 : Hid (Blk ((w.alloc (.cells #[.int .i64 0, .int .i64 0] 33)).alloc (.cells #[.pointer none] 75)) (w.heap.size + 1) 75 [.pointer none]) := by
    have := Blk.new (w.alloc (.cells #[.int .i64 0, .int .i64 0] 33)) 75 [.pointer none]
    rw [World.size_alloc] at this
    exact this
  have HFl : Hid (Flt ((w.alloc (.cells #[.int .i64 0, .int .i64 0] 33)).alloc (.cells #[.pointer none] 75)) fb k e) := Blk.alloc (Blk.alloc hF _) _
  have HFr := hid (((Fr.refl (fun _ => False) w).alloc (.cells #[.int .i64 0, .int .i64 0] 33)).alloc (.cells #[.pointer none] 75))
  have hfl := hF.lt
  have HH : Hid (Hnl ((w.alloc (.cells #[.int .i64 0, .int .i64 0] 33)).alloc (.cells #[.pointer none] 75))) := by
    refine ⟨?_, by rw [World.size_alloc, World.size_alloc]; have := hH.2; omega⟩
    have h1 := hH.2
    rw [World.cell?_alloc_lt _ _ _ (by simp; omega), World.cell?_alloc_lt _ _ _ h1]
    exact hH.1
  clear hF hH HB1
  generalize hn : w.heap.size = n at *
  go_enter Tryz.func21, Tryz.ntmps21
  go_wp2_with fail
  generalize hW : (w.alloc (.cells #[.int .i64 0, .int .i64 0] 33)).alloc (.cells #[.pointer none] 75) = W at *
  clear hW
  refine (as_blk ⟨fb, 0, none⟩ HB2.out HH.out.1 HH.out.2).mono ?_
  rintro ev w2 ⟨rfl, b2, f2⟩
  have c0 := b2.cell 0
  simp only [List.getElem?_cons_zero] at c0
  have q2 := f2.blk HFl.out (by omega)
  have d0 := q2.cell 0
  have d1 := q2.cell 1
  simp only [List.getElem?_cons_zero, List.getElem?_cons_succ] at d0 d1
  have b1 := f2.blk HB1'.out (by omega)
  have k0 := b1.cell 0
  have k1 := b1.cell 1
  have z0 := b1.frozen 0
  have z1 := b1.frozen 1
  simp only [List.getElem?_cons_zero, List.getElem?_cons_succ] at k0 k1
  have HB9 : Hid (Blk ((w2.setCell ⟨n, 0, none⟩ (.int .i64 (k : Int))).setCell ⟨n, 1, none⟩ (.int .i64 e)) n 33 [.int .i64 (k : Int), .int .i64 e]) := (b1.setCell 0 _).setCell 1 _
  have HF9 : Hid (Fr (fun _ => False) w ((w2.setCell ⟨n, 0, none⟩ (.int .i64 (k : Int))).setCell ⟨n, 1, none⟩ (.int .i64 e))) := ((HFr.out.trans f2 (fun i hi => .inr (by omega))).setCell (p := ⟨n, 0, none⟩) (.inr (by simp; omega)) _).setCell (p := ⟨n, 1, none⟩) (.inr (by simp; omega)) _
  clear f2 b2 q2 b1 HB2 HB1' HFl HH HFr
  go_wp2_with fail
  exact bodyPost_ret (resultsF rfl rfl HB9.out) rfl ⟨rfl, HF9.out⟩

end Go.Proofs.YtionmohglmbklaaGreatDoor.Tr
