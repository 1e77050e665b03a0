
/- What a control says: controlOf; emptied. -/
import Derived.Test.YtehoiahgkbnjdaaGreatCtl
namespace Go.Proofs.YtehoiahgkbnjdaaGreat.Wl
open Go.RowKit Dk

/-- The number that stands in s at o, in len bytes. -/
def fld (s : Sec) (o len : Nat) : Nat := num ((s.drop o).take len)
theorem fld_lt (s : Sec) (o len : Nat) : fld s o len < 2 ^ (8 * len) := by
  refine Nat.lt_of_lt_of_le (num_lt _) (Nat.pow_le_pow_right (by omega) ?_)
  rw [List.length_take]
  omega
theorem num_at {w : World} {b : Nat} {t : TypeId} {s : Sec} (o len cap : Nat) (hb : Blk w b t (bs s)) (hs : s.length = 128) (ho : o + len ≤ 128) (hl : len ≤ 8) :
    Calls Tryz.prog 67 #[.slice (some ⟨b, o, none⟩) len cap] w fun e w' => e = .returned (.int .u64 (fld s o len : Nat)) ∧ w' = w := by
  have e : ((s.drop o).take len).length = len := by rw [List.length_take, List.length_drop]; omega
  have h := number_any w b o cap ((s.drop o).take len) (by omega) (hb.range o _ (by rw [bs_length, e]; exact bs_part s o len))
  rw [e] at h
  exact h

def ctlE (s : Sec) : Nat := fld s 8 8
def ctlU (s : Sec) : Nat := fld s 16 2
def ctlP (s : Sec) : Nat := fld s 18 8
/-- s is a control. -/
def isCtl (s : Sec) : Bool := ctl (ctlE s) (ctlU s) (ctlP s) == s
theorem neq66 (W : World) (a b : Sec) (ha : a.length = 128) (hb : b.length = 128) : (binOp .neq 81 (arrV a) (arrV b)).run Tryz.prog W = .ok (.bool (!(a == b))) W := by
  unfold arrV
  rw [run_neq_struct]
  have h := run_equalIn_bytes (P := Tryz.prog) W 9998 81 5 128 Tryz.underlying81 Tryz.underlying5 (fun w => by kernel_rfl) a b ha hb
  have e : (Op.equalIn 10000 81 (.agg (bs a).toArray) (.agg (bs b).toArray)).run Tryz.prog W = .ok (a == b) W := h
  rw [e]
  rfl

theorem results61t {fn : Func} {p u : Tmp} (h : fn.results = #[.cell p 86, .tmp u]) {a : Act} {W : World} {b : Nat} {t : TypeId} {x y z : Value} (ha : a.tmps.getD p undef = .pointer (some ⟨b, 0, none⟩)) (hb : Blk W b t [x, y, z]) :
    (results fn a.tmps).run Tryz.prog W = .ok (.tuple #[.agg #[x, y, z], a.tmps.getD u undef]) W := by
  rw [results_cell_tmp h a.tmps Tryz.prog W, ha]
  have e := run_loadVar_mid (P := Tryz.prog) W b 0 86 [x, y, z] _ (hb.range 0 _ (by simp)) Tryz.underlying86 rfl (by kernel_rfl)
  simp [asAddr, e, Result.andThen]

def CtlPost (s : Sec) (w : World) (e : Ending) (w' : World) : Prop :=
  e = .returned (if isCtl s then .tuple #[cV (ctlE s) (ctlU s) (ctlP s), .bool true] else .tuple #[cV 0 0 0, .bool false]) ∧ Nw w w'

set_option maxRecDepth 100000 in
set_option maxHeartbeats 400000 in
theorem controlOf_any (w : World) (s : Sec) (hs : s.length = 128) : Calls Tryz.prog 43 #[arrV s] w (CtlPost s w) := by
  have HSl := hid hs
  unfold arrV
  obtain ⟨W0, hW0⟩ : ∃ W, (w.alloc (.cells (bs s).toArray 81)).alloc (.cells #[.int .u64 0, .int .i64 0, .int .u64 0] 86) = W := ⟨_, rfl⟩
  have B1 : Blk W0 w.heap.size 81 (bs s) := by rw [← hW0]; exact (Blk.new w 81 _).alloc _
  have hsz : W0.heap.size = w.heap.size + 1 + 1 := by rw [← hW0]; simp
  have F0 : Nw w W0 := by rw [← hW0]; exact ((Fr.refl _ w).alloc _).alloc _
  have B2 : Blk W0 (w.heap.size + 1) 86 [.int .u64 0, .int .i64 0, .int .u64 0] := by
    rw [← hW0]
    have := Blk.new (w.alloc (.cells (bs s).toArray 81)) 86 [.int .u64 0, .int .i64 0, .int .u64 0]
    simpa using this
  have HB1 := hid B1
  have HB2 := hid B2
  have HF0 := hid F0
  clear B1 B2 F0 hs
  go_enter Tryz.func43, Tryz.ntmps43
  go_wp2_with fail
  have hwu : IntKind.i64.wrap ((fld s 16 2 : Nat) : Int) = ((fld s 16 2 : Nat) : Int) := by
    have := fld_lt s 16 2
    simp [IntKind.wrap, IntKind.bits, IntKind.signed]; omega
  clear hW0
  go_region_held3 (fun w' => Blk w' w.heap.size 81 (bs s))
    (first
      | exact HB1.out
      | exact HB1.out.drew
      | exact Blk.alloc (by assumption) _
      | exact HB1.out.drew.alloc _
      | exact (HB1.out.drew.alloc _).setCell_ne (by simp; omega) _)
    ((go_at_call 67; refine (num_at _ _ _ (by assumption) HSl.out (by omega) (by omega)).mono ?_; rintro x w2 ⟨rfl, rfl⟩))
  all_goals
    have B4 : Blk (W0.alloc (.cells #[.int .u64 ((fld s 8 8 : Nat) : Int), .int .i64 ((fld s 16 2 : Nat) : Int), .int .u64 ((fld s 18 8 : Nat) : Int)] 86)).drew (w.heap.size + 1 + 1) 86 [.int .u64 ((fld s 8 8 : Nat) : Int), .int .i64 ((fld s 16 2 : Nat) : Int), .int .u64 ((fld s 18 8 : Nat) : Int)] := by
      have := Blk.new W0 86 [.int .u64 ((fld s 8 8 : Nat) : Int), .int .i64 ((fld s 16 2 : Nat) : Int), .int .u64 ((fld s 18 8 : Nat) : Int)]
      rw [hsz] at this
      exact this.drew
    have B1 := (HB1.out.alloc (.cells #[.int .u64 ((fld s 8 8 : Nat) : Int), .int .i64 ((fld s 16 2 : Nat) : Int), .int .u64 ((fld s 18 8 : Nat) : Int)] 86)).drew
    have B2 := (HB2.out.alloc (.cells #[.int .u64 ((fld s 8 8 : Nat) : Int), .int .i64 ((fld s 16 2 : Nat) : Int), .int .u64 ((fld s 18 8 : Nat) : Int)] 86)).drew
    have F1 := (HF0.out.alloc (.cells #[.int .u64 ((fld s 8 8 : Nat) : Int), .int .i64 ((fld s 16 2 : Nat) : Int), .int .u64 ((fld s 18 8 : Nat) : Int)] 86)).drew
    generalize (W0.alloc (.cells #[.int .u64 ((fld s 8 8 : Nat) : Int), .int .i64 ((fld s 16 2 : Nat) : Int), .int .u64 ((fld s 18 8 : Nat) : Int)] 86)).drew = W1 at *
    have HC := hid (sector_any W1.drew (fld s 8 8) (fld s 16 2) (fld s 18 8) (by have := fld_lt s 16 2; omega))
    have HLc := hid (ctl_length (fld s 8 8) (fld s 16 2) (fld s 18 8))
    have HP : Hid (∀ w', CtlPost s w (.returned (if (ctl (fld s 8 8) (fld s 16 2) (fld s 18 8) == s) = true then .tuple #[cV (fld s 8 8) (fld s 16 2) (fld s 18 8), .bool true] else .tuple #[cV 0 0 0, .bool false])) w' ↔ Nw w w') := fun w' => ⟨fun h => h.2, fun h => ⟨rfl, h⟩⟩
    have HB1' := hid B1
    have HB2' := hid B2
    have HF1 := hid F1
    have HB4 := hid B4
    clear HB1 HB2 HF0 B1 B2 F1 B4 hwu
    generalize ctl (fld s 8 8) (fld s 16 2) (fld s 18 8) = c at *
    generalize fld s 8 8 = x8 at *
    generalize fld s 16 2 = x16 at *
    generalize fld s 18 8 = x18 at *
    have hu66 := Tryz.underlying81
    have hu61 := Tryz.underlying86
    have hl66 : (bs s).length = 128 := by rw [bs_length]; exact HSl.out
    have hi66 : (Tryz.prog.info? 81).map (·.size) = some (bs s).length := by rw [size66, hl66]
    have hi61 : (Tryz.prog.info? 86).map (·.size) = some 3 := by kernel_rfl
    have hneq : ∀ W, (binOp .neq 81 (.agg (bs c).toArray) (.agg (bs s).toArray)).run Tryz.prog W = .ok (.bool (!(c == s))) W := fun W => neq66 W c s HLc.out HSl.out
    have HC' : Hid (Calls Tryz.prog 63 #[.agg #[.int .u64 (x8 : Int), .int .i64 (x16 : Int), .int .u64 (x18 : Int)]] W1.drew fun x w' => x = .returned (.agg (bs c).toArray) ∧ Nw W1.drew w') := HC
    clear HC
    go_wp2_with fail
    go_region_held3 (fun w' => w'.rangeAt w.heap.size 0 (bs s) ∧ w'.cell? ⟨w.heap.size + 1 + 1, 0, none⟩ = some (.int .u64 (x8 : Int)) ∧ w'.cell? ⟨w.heap.size + 1 + 1, 1, none⟩ = some (.int .i64 (x16 : Int)) ∧ w'.cell? ⟨w.heap.size + 1 + 1, 2, none⟩ = some (.int .u64 (x18 : Int)))
      (first
        | exact ⟨HB1'.out.drew.range 0 _ (by simp), HB4.out.drew.cell 0, HB4.out.drew.cell 1, HB4.out.drew.cell 2⟩
        | exact ⟨(Fr.blk f2 HB1'.out.drew id).range 0 _ (by simp), (Fr.blk f2 HB4.out.drew id).cell 0, (Fr.blk f2 HB4.out.drew id).cell 1, (Fr.blk f2 HB4.out.drew id).cell 2⟩)
      ((go_at_call 63; refine HC'.out.mono ?_; rintro x w2 ⟨rfl, f2⟩))
    have HBs := hid (Fr.blk f2 HB1'.out.drew id)
    have B2 := Fr.blk f2 HB2'.out.drew id
    have B4 := Fr.blk f2 HB4.out.drew id
    have HF2 := hid (Fr.trans HF1.out (Fr.trans ((Fr.refl (fun _ => False) W1).drew) f2 (fun _ h => h.elim)) (fun _ h => h.elim))
    clear f2 HC' hneq HB1' HB2' HB4 HF1
    have d0 := B2.cell 0
    have d1 := B2.cell 1
    have d2 := B2.cell 2
    have z0 := B2.frozen 0
    have z1 := B2.frozen 1
    have z2 := B2.frozen 2
    have c0 := B4.cell 0
    have c1 := B4.cell 1
    have c2 := B4.cell 2
    have HB2 := hid B2
    clear B2 B4
    generalize (c == s) = q at *
    cases q
    · go_wp2
      refine bodyPost_ret (results61t rfl rfl (((HB2.out.setCell 0 _).setCell 1 _).setCell 2 _)) rfl ?_
      exact (HP.out _).2 (((HF2.out.setCell (.inr (by simp)) _).setCell (.inr (by simp)) _).setCell (.inr (by simp)) _)
    · go_wp2
      refine bodyPost_ret (results61t rfl rfl (((HB2.out.setCell 0 _).setCell 1 _).setCell 2 _)) rfl ?_
      exact (HP.out _).2 (((HF2.out.setCell (.inr (by simp)) _).setCell (.inr (by simp)) _).setCell (.inr (by simp)) _)

end Go.Proofs.YtehoiahgkbnjdaaGreat.Wl
