
/- The control's sector. -/
import Derived.Test.YtehoiahgkbnjdaaGreatUpd
import Derived.Stop.BytesEq
import Derived.Lib.LazyBuf
namespace Go.Proofs.YtehoiahgkbnjdaaGreat.Wl
open Go.RowKit Dk

abbrev Nw (w w' : World) : Prop := Fr (fun _ => False) w w'
def zeros : Sec := List.replicate 128 0
theorem size66 : (Tryz.prog.info? 81).map (·.size) = some 128 := by kernel_rfl
theorem zero66 : ∀ w, (zeroValue 81).run Tryz.prog w = .ok (.agg (bs zeros).toArray) w := (zero_of_info (n := 128) (by kernel_rfl)).1
theorem zeros_length : zeros.length = 128 := by simp [zeros]


/-- What is filled from the front. -/
def pad (A : Sec) : Sec := A ++ List.replicate (128 - A.length) 0
theorem pad_length (A : Sec) (h : A.length ≤ 128) : (pad A).length = 128 := by simp [pad]; omega
theorem splice_pad (A v : Sec) (o : Nat) (ho : o = A.length) (h : A.length + v.length ≤ 128) : splice (pad A) o v = pad (A ++ v) := by
  subst ho
  unfold splice pad
  rw [List.take_left, List.drop_append, List.drop_eq_nil_of_le (by omega), List.nil_append, List.drop_replicate, List.length_append]
  have e : 128 - A.length - (A.length + v.length - A.length) = 128 - (A.length + v.length) := by omega
  rw [e, List.append_assoc]
theorem pad_nil : pad [] = zeros := rfl
theorem pad_take (A : Sec) (n : Nat) (h : n = A.length) : (pad A).take n = A := by subst h; simp [pad]

theorem bs_take_pad (A : Sec) : (bs (pad A)).take A.length = bs A := by
  have e : (bs (pad A)).take A.length = bs ((pad A).take A.length) := by simp [bs, List.map_take]
  rw [e, pad_take A _ rfl]

def mark : Sec := [98, 111, 111, 116, 106, 97, 99, 107]
def ctl1 (e u p : Nat) : Sec := mark ++ le 8 e ++ le 2 u ++ le 8 p
/-- The control's bytes. -/
def ctl (e u p : Nat) : Sec := pad (ctl1 e u p ++ le 8 (upd beg (ctl1 e u p)))
theorem ctl1_length (e u p : Nat) : (ctl1 e u p).length = 26 := by simp [ctl1, mark, le_length]
theorem ctl_length (e u p : Nat) : (ctl e u p).length = 128 := pad_length _ (by simp [ctl1_length, le_length])
theorem ctl_of {e u p U : Nat} {A0 v1 v2 v3 A v4 : Sec} (h0 : mark = A0) (h1 : le 8 e = v1) (h2 : le 2 u = v2) (h3 : le 8 p = v3) (hA : A0 ++ v1 ++ v2 ++ v3 = A) (hU : upd beg A = U) (h4 : le 8 U = v4) : ctl e u p = pad (A ++ v4) := by
  subst h0 h1 h2 h3 hA hU h4
  rfl
def cV (e u p : Nat) : Value := .agg #[.int .u64 (e : Int), .int .i64 (u : Int), .int .u64 (p : Int)]

/-- A sector in a block of its own. -/
theorem load66 {W : World} {b : Nat} {t : TypeId} {s : Sec} (hb : Blk W b t (bs s)) (hl : s.length = 128) : (Instr.loadAt 81 (.pointer (some ⟨b, 0, none⟩))).run Tryz.prog W = .ok (arrV s) W :=
  run_loadAt_mid W b 0 81 (bs s) _ (hb.range 0 _ (by simp)) Tryz.underlying81 rfl (by rw [size66, bs_length, hl])
theorem store66 {W : World} {b : Nat} {t : TypeId} {s s' : Sec} (hb : Blk W b t (bs s)) (hl : s.length = 128) (hl' : s'.length = 128) : (Instr.storeAt 81 (.pointer (some ⟨b, 0, none⟩)) (arrV s')).run Tryz.prog W = .ok () (W.setCells b 0 (bs s')) := by
  have h := run_storeAt_mid (P := Tryz.prog) W b 0 81 (bs s').toArray (by rw [List.size_toArray, bs_length, hl']; exact hb.there 0 128 (by rw [bs_length, hl]; omega)) (by rw [size66, List.size_toArray, bs_length, hl']) (all_oneCell_toArray (bs_one s'))
  simpa [arrV] using h
theorem wpList_store66 {ops : Array Oper} {rest : List Oper} {op : Oper} {a : Act} {W : World} {Q : Exit → Act → World → Prop} (hgd : op.guard = none) (x y : Operand) (ho : op.op = .store 81 x y) {b : Nat} {t : TypeId} {s s' : Sec} (hb : Blk W b t (bs s)) (hl : s.length = 128) (hl' : s'.length = 128)
    (hx : a.eval x = .pointer (some ⟨b, 0, none⟩)) (hy : a.eval y = .agg (bs s').toArray) (h : wpList Tryz.prog ops Q rest (a.put op.dst undef) (W.setCells b 0 (bs s'))) : wpList Tryz.prog ops Q (op :: rest) a W :=
  wpList_plain hgd fun K hK => by
    have hs := store66 hb hl hl'
    unfold arrV at hs
    unfold Oper.wp execOp
    simp only [ho, hx, hy, hs, Sem.run_bind, Sem.run_pure, Result.andThen_ok]
    exact hK _ _ h
theorem Blk.all {W : World} {b : Nat} {t : TypeId} {s s' : Sec} (hb : Blk W b t (bs s)) (hl : s.length = 128) (hl' : s'.length = 128) : Blk (W.setCells b 0 (bs s')) b t (bs s') := by
  have h := hb.setCells (bs s') 0 (by rw [bs_length, bs_length]; omega)
  have e : splice (bs s) 0 (bs s') = bs s' := by
    unfold splice
    rw [List.drop_eq_nil_of_le (by rw [bs_length, bs_length]; omega)]
    simp
  rwa [e] at h
theorem results66 {fn : Func} {t : Tmp} (h : fn.results = #[.cell t 81]) {a : Act} {W : World} {b : Nat} {t' : TypeId} {s : Sec} (ha : a.tmps.getD t undef = .pointer (some ⟨b, 0, none⟩)) (hb : Blk W b t' (bs s)) (hl : s.length = 128) :
    (results fn a.tmps).run Tryz.prog W = .ok (arrV s) W :=
  results_cell_row h a.tmps W b t' (bs s).toArray (0, 0) _ ha hb Tryz.underlying81 rfl (by rw [size66]; simp [bs_length, hl])

structure CSt (w W : World) (e u p : Nat) (A : Sec) : Prop where
  b1 : Blk W w.heap.size 86 [.int .u64 (e : Int), .int .i64 (u : Int), .int .u64 (p : Int)]
  b2 : Blk W (w.heap.size + 1) 81 (bs zeros)
  b3 : Blk W (w.heap.size + 1 + 1) 81 (bs (pad A))
  fr : Nw w W
theorem CSt.put {w W : World} {e u p : Nat} {A : Sec} (h : CSt w W e u p A) (v : Sec) (o : Nat) (ho : o = A.length) (hl : A.length + v.length ≤ 128) : CSt w (W.setCells (w.heap.size + 1 + 1) o (bs v)) e u p (A ++ v) where
  b1 := h.b1.setCells_ne (by omega) _ _
  b2 := h.b2.setCells_ne (by omega) _ _
  b3 := by
    have := h.b3.setCells (bs v) o (by rw [bs_length, bs_length, pad_length _ (by omega)]; omega)
    rwa [bs_splice, splice_pad A v o ho hl] at this
  fr := h.fr.setCells (.inr (by omega)) _ _
theorem CSt.drew {w W : World} {e u p : Nat} {A : Sec} (h : CSt w W e u p A) : CSt w W.drew e u p A := ⟨h.b1, h.b2, h.b3, h.fr.drew⟩
theorem CSt.drewN {w W : World} {e u p : Nat} {A : Sec} (h : CSt w W e u p A) (n : Nat) : CSt w (W.drewN n) e u p A := ⟨h.b1, h.b2, h.b3, h.fr.drewN n⟩
theorem CSt.there {w W : World} {e u p : Nat} {A : Sec} (h : CSt w W e u p A) (o n : Nat) (hA : A.length ≤ 128) (ho : o + n ≤ 128) : W.there (w.heap.size + 1 + 1) o n := h.b3.there o n (by rw [bs_length, pad_length _ hA]; exact ho)
theorem CSt.new (w : World) (e u p : Nat) : CSt w (((w.alloc (.cells #[.int .u64 (e : Int), .int .i64 (u : Int), .int .u64 (p : Int)] 86)).alloc (.cells (bs zeros).toArray 81)).alloc (.cells (bs zeros).toArray 81)) e u p [] where
  b1 := ((Blk.new w 86 _).alloc _).alloc _
  b2 := by
    have := (Blk.new (w.alloc (.cells #[.int .u64 (e : Int), .int .i64 (u : Int), .int .u64 (p : Int)] 86)) 81 (bs zeros)).alloc (.cells (bs zeros).toArray 81)
    simpa using this
  b3 := by
    have := Blk.new ((w.alloc (.cells #[.int .u64 (e : Int), .int .i64 (u : Int), .int .u64 (p : Int)] 86)).alloc (.cells (bs zeros).toArray 81)) 81 (bs zeros)
    rw [pad_nil]
    simpa using this
  fr := (((Fr.refl _ w).alloc _).alloc _).alloc _

set_option maxRecDepth 100000 in
set_option maxHeartbeats 300000 in
theorem sector_any (w : World) (e u p : Nat) (hu : u < 65536) :
    Calls Tryz.prog 63 #[cV e u p] w fun x w' => x = .returned (arrV (ctl e u p)) ∧ Nw w w' := by
  have hz := zero66
  have S0 := CSt.new w e u p
  obtain ⟨W0, hW0⟩ : ∃ W, ((w.alloc (.cells #[.int .u64 (e : Int), .int .i64 (u : Int), .int .u64 (p : Int)] 86)).alloc (.cells (bs zeros).toArray 81)).alloc (.cells (bs zeros).toArray 81) = W := ⟨_, rfl⟩
  rw [hW0] at S0
  have hcp : (Builtin.copy_ #[49, 9] 3 #[.slice (some ⟨w.heap.size + 1 + 1, 0, none⟩) 128 128, .string { data := #[98, 111, 111, 116, 106, 97, 99, 107] }]).run Tryz.prog W0 = .ok (goInt 8) (W0.setCells (w.heap.size + 1 + 1) 0 (bs mark)) := by
    have ht := S0.there 0 8 (by simp) (by omega)
    exact run_copy_string W0 49 9 3 5 (w.heap.size + 1 + 1) 0 128 128 { data := #[98, 111, 111, 116, 106, 97, 99, 107] } Tryz.underlying49 (fun w => by kernel_rfl) (by decide) (fun j hj => (ht j hj).1) (fun j hj => (ht j hj).2)
  have HS1 := hid (S0.put mark 0 rfl (by simp [mark]))
  clear S0
  go_enter Tryz.func63, Tryz.ntmps63
  unfold cV
  go_wp2_with fail
  clear hcp hW0 hz
  generalize W0.setCells (w.heap.size + 1 + 1) 0 (bs mark) = W1 at *
  have HL0 := hid (show mark.length = 8 from rfl)
  generalize hA0 : mark = A0 at HS1 HL0
  have HA0 := hid hA0
  clear hA0
  have n1 : w.heap.size ≠ w.heap.size + 1 + 1 := by omega
  -- the epoch
  have c1 : W1.drew.cell? ⟨w.heap.size, 0, none⟩ = some (.int .u64 (e : Int)) := HS1.out.b1.cell 0
  have HC1 := hid (put_any W1.drew (w.heap.size + 1 + 1) 8 8 120 e (by omega) (HS1.out.drew.there 8 8 (by rw [List.nil_append, HL0.out]; omega) (by omega)))
  have HS2 := hid (HS1.out.drew.put (le 8 e) 8 (by rw [List.nil_append, HL0.out]) (by rw [List.nil_append, HL0.out, le_length]; omega))
  have HL1 := hid (le_length 8 e)
  rw [List.nil_append] at HS2
  clear HS1
  generalize hv1 : le 8 e = v1 at HC1 HS2 HL1
  have Hv1 := hid hv1
  clear hv1
  go_region_held3 (fun w' => w'.cell? ⟨w.heap.size, 0, none⟩ = some (.int .u64 (e : Int)))
    (first
      | (rw [World.cell?_setCells_out _ _ _ _ _ (fun e _ => absurd e n1)]; exact c1)
      | exact c1)
    ((go_at_call 86; refine HC1.out.mono ?_; rintro x w2 ⟨rfl, rfl⟩))
  clear c1 HC1
  generalize W1.drew.setCells (w.heap.size + 1 + 1) 8 (bs v1) = W2 at *
  go_wp2_with fail
  -- what is used
  have hwu : IntKind.u64.wrap (u : Int) = (u : Int) := by simp [IntKind.wrap, IntKind.bits, IntKind.signed]; omega
  have c2 : W2.drew.cell? ⟨w.heap.size, 1, none⟩ = some (.int .i64 (u : Int)) := HS2.out.b1.cell 1
  have HC2 := hid (put_any W2.drew (w.heap.size + 1 + 1) 16 2 112 u (by omega) (HS2.out.drew.there 16 2 (by rw [List.length_append, HL0.out, HL1.out]; omega) (by omega)))
  have HS3 := hid (HS2.out.drew.put (le 2 u) 16 (by rw [List.length_append, HL0.out, HL1.out]) (by rw [List.length_append, HL0.out, HL1.out, le_length]; omega))
  have HL2 := hid (le_length 2 u)
  clear HS2
  generalize hv2 : le 2 u = v2 at HC2 HS3 HL2
  have Hv2 := hid hv2
  clear hv2
  go_region_held3 (fun w' => w'.cell? ⟨w.heap.size, 1, none⟩ = some (.int .i64 (u : Int)))
    (first
      | (rw [World.cell?_setCells_out _ _ _ _ _ (fun e _ => absurd e n1)]; exact c2)
      | exact c2)
    ((go_at_call 86; refine HC2.out.mono ?_; rintro x w2 ⟨rfl, rfl⟩))
  clear c2 HC2
  generalize W2.drew.setCells (w.heap.size + 1 + 1) 16 (bs v2) = W3 at *
  go_wp2_with fail
  -- the places' sum
  have c3 : W3.drew.cell? ⟨w.heap.size, 2, none⟩ = some (.int .u64 (p : Int)) := HS3.out.b1.cell 2
  have HC3 := hid (put_any W3.drew (w.heap.size + 1 + 1) 18 8 110 p (by omega) (HS3.out.drew.there 18 8 (by rw [List.length_append, List.length_append, HL0.out, HL1.out, HL2.out]; omega) (by omega)))
  have HS4 := hid (HS3.out.drew.put (le 8 p) 18 (by rw [List.length_append, List.length_append, HL0.out, HL1.out, HL2.out]) (by rw [List.length_append, List.length_append, HL0.out, HL1.out, HL2.out, le_length]; omega))
  have HL3 := hid (le_length 8 p)
  clear HS3
  generalize hv3 : le 8 p = v3 at HC3 HS4 HL3
  have Hv3 := hid hv3
  clear hv3
  go_region_held3 (fun w' => w'.cell? ⟨w.heap.size, 2, none⟩ = some (.int .u64 (p : Int)))
    (first
      | (rw [World.cell?_setCells_out _ _ _ _ _ (fun e _ => absurd e n1)]; exact c3)
      | exact c3)
    ((go_at_call 86; refine HC3.out.mono ?_; rintro x w2 ⟨rfl, rfl⟩))
  clear c3 HC3
  generalize W3.drew.setCells (w.heap.size + 1 + 1) 18 (bs v3) = W4 at *
  go_wp2_with fail
  -- its own sum
  have HLA : Hid ((A0 ++ v1 ++ v2 ++ v3).length = 26) := by unfold Hid; rw [List.length_append, List.length_append, List.length_append, HL0.out, HL1.out, HL2.out, HL3.out]
  generalize hA : A0 ++ v1 ++ v2 ++ v3 = A at HS4 HLA
  have HA := hid hA
  clear hA
  have HU := hid (sum_any W4.drew (some ⟨w.heap.size + 1 + 1, 0, none⟩) A 128 (by rw [HLA.out]; omega) (Src.of (HS4.out.b3.range 0 _ (by rw [List.drop_zero, bs_length]; exact bs_take_pad A))))
  have HV := hid (upd_lt beg A beg_lt)
  rw [HLA.out] at HU
  generalize hU : upd beg A = U at HU HV
  have HUe := hid hU
  clear hU
  have HC4 := hid (put_any W4.drew (w.heap.size + 1 + 1) 26 8 102 U (by omega) (HS4.out.drew.there 26 8 (by rw [HLA.out]; omega) (by omega)))
  have HS5 := hid (HS4.out.drew.put (le 8 U) 26 HLA.out.symm (by rw [HLA.out, le_length]; omega))
  have HL4 := hid (le_length 8 U)
  clear HS4
  generalize hv4 : le 8 U = v4 at HC4 HS5 HL4
  have Hv4 := hid hv4
  clear hv4
  go_region_held3 (fun _ => True) (exact trivial)
    (first
      | (go_at_call 68; refine HU.out.mono ?_; rintro x w2 ⟨rfl, rfl⟩)
      | (go_at_call 86; refine HC4.out.mono ?_; rintro x w2 ⟨rfl, rfl⟩))
  clear HU HC4
  have HL5 : Hid ((A ++ v4).length ≤ 128) := by unfold Hid; rw [List.length_append, HLA.out, HL4.out]; omega
  generalize W4.drew.setCells (w.heap.size + 1 + 1) 26 (bs v4) = W5 at *
  have HB2 := hid HS5.out.b2
  have HB3 := hid HS5.out.b3
  have HF5 := hid HS5.out.fr
  have HL6 := hid (pad_length _ HL5.out)
  have HE := hid (ctl_of HA0.out Hv1.out Hv2.out Hv3.out HA.out HUe.out Hv4.out)
  generalize pad (A ++ v4) = c at HB3 HL6 HE
  clear HS5 HA0 Hv1 Hv2 Hv3 HA HUe Hv4 HL0 HL1 HL2 HL3 HL4 HL5 HLA HV
  go_wp2_with (first
    | (refine wpList_load_mid (by rfl) 81 _ (by rfl) (w.heap.size + 1 + 1) 0 (by rfl) (bs c) _ (HB3.out.range 0 _ (by simp)) Tryz.underlying81 rfl (by rw [size66, bs_length, HL6.out]) ?_)
    | (refine wpList_store66 (by rfl) _ _ (by rfl) HB2.out zeros_length HL6.out (by rfl) (by rfl) ?_))
  exact bodyPost_ret (results66 rfl rfl (Blk.all HB2.out zeros_length HL6.out) HL6.out) rfl ⟨by rw [HE.out], HF5.out.setCells (.inr (by omega)) _ _⟩

end Go.Proofs.YtehoiahgkbnjdaaGreat.Wl
