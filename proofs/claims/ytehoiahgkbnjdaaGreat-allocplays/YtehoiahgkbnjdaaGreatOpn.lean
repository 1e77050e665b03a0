
/- Commit; Format; Open of a log of which nothing is used. -/
import Derived.Test.YtehoiahgkbnjdaaGreatCom
namespace Go.Proofs.YtehoiahgkbnjdaaGreat.Wl
open Go.RowKit Dk

def CommitE (D : Dsk) (L : Lg) : Int := if L.dead then 40 else if L.st = [] then 0 else comE D L
def CommitD (D : Dsk) (L : Lg) : Dsk := if L.dead then D else if L.st = [] then D else comD D L
def CommitL (D : Dsk) (L : Lg) : Lg := if L.dead then L else if L.st = [] then L else (comL D L).noted (comE D L)

set_option maxRecDepth 100000 in
set_option maxHeartbeats 4000000 in
theorem Commit_any {G : Nat → Prop} {w : World} {l p bl bt : Nat} {D : Dsk} {L : Lg} (h : OwnL G w l p bl bt D L) (hD : Sm D 3000) (hm : L.lg.length < 1024) (hs2 : L.st.length < 1024) (hcost : cost L.st.length ≤ L.n - 1) :
    Calls Tryz.prog 20 #[pv l] w fun x w' => x = .returned (.int .i64 (CommitE D L)) ∧ (∃ bl' bt', OwnL G w' l p bl' bt' (CommitD D L) (CommitL D L)) ∧ Kp G w w' := by
  have c9 : w.cell? ⟨l, 9, none⟩ = some (.bool L.dead) := by simpa [Lg.cells] using h.r.hl.cell 9
  have c8 : w.cell? ⟨l, 8, none⟩ = some (.map (some bt)) := by simpa [Lg.cells] using h.r.hl.cell 8
  have hlen := len57 h.r.mt
  have HC := hid (fun hs : L.st ≠ [] => commit_any h hD hm hs hs2 hcost)
  have H0 := hid h
  clear h hD
  by_cases hd : L.dead = true
  · have HE : Hid (CommitE D L = 40 ∧ CommitD D L = D ∧ CommitL D L = L) := by simp [Hid, CommitE, CommitD, CommitL, hd]
    rw [hd] at c9
    go_enter Tryz.func20, Tryz.ntmps20
    go_wp2
    go_ret
    exact ⟨by rw [HE.out.1]; rfl, ⟨bl, bt, by rw [HE.out.2.1, HE.out.2.2]; exact H0.out⟩, Fr.refl _ w⟩
  · have hd' : L.dead = false := by simpa using hd
    rw [hd'] at c9
    by_cases hs : L.st = []
    · have HE : Hid (CommitE D L = 0 ∧ CommitD D L = D ∧ CommitL D L = L) := by simp [Hid, CommitE, CommitD, CommitL, hs, hd']
      have hl0 : L.st.length = 0 := by rw [hs]; rfl
      rw [hl0] at hlen
      go_enter Tryz.func20, Tryz.ntmps20
      go_wp2
      go_ret
      exact ⟨by rw [HE.out.1]; rfl, ⟨bl, bt, by rw [HE.out.2.1, HE.out.2.2]; exact H0.out⟩, Fr.refl _ w⟩
    · have HE : Hid (CommitE D L = comE D L ∧ CommitD D L = comD D L ∧ CommitL D L = (comL D L).noted (comE D L)) := by simp [Hid, CommitE, CommitD, CommitL, hs, hd']
      have hub : ((L.st.length : Int) == 0) = false := by
        have : L.st.length ≠ 0 := fun e => hs (List.length_eq_zero_iff.1 e)
        simpa using this
      have HC2 := hid (HC.out hs)
      clear HC
      go_enter Tryz.func20, Tryz.ntmps20
      go_wp2_with fail
      refine HC2.out.mono ?_
      rintro x w1 ⟨rfl, ⟨bl1, bt1, o1⟩, k1⟩
      have HK1 := hid k1
      have HN := hid (noted_any o1 (comE D L))
      clear HC2 k1 o1 c9 c8
      generalize comE D L = E at *
      go_wp2_with fail
      refine HN.out.mono ?_
      rintro x w2 ⟨rfl, o2, k2⟩
      have HK2 := hid (Kp.trans HK1.out k2)
      have HO2 := hid o2
      clear HN o2 k2
      go_wp2
      go_ret
      exact ⟨by rw [HE.out.1]; rfl, ⟨bl1, bt1, by rw [HE.out.2.1, HE.out.2.2]; exact HO2.out⟩, HK2.out⟩

theorem results66t {fn : Func} {p u : Tmp} (h : fn.results = #[.cell p 81, .tmp u]) {a : Act} {W : World} {b : Nat} {t : TypeId} {s : Sec} (ha : a.tmps.getD p undef = .pointer (some ⟨b, 0, none⟩)) (hb : Blk W b t (bs s)) (hl : s.length = 128) :
    (results fn a.tmps).run Tryz.prog W = .ok (.tuple #[arrV s, a.tmps.getD u undef]) W := by
  rw [results_cell_tmp h a.tmps Tryz.prog W, ha]
  have e := run_loadVar_mid (P := Tryz.prog) W b 0 81 (bs s) _ (hb.range 0 _ (by simp)) Tryz.underlying81 rfl (by rw [size66, bs_length, hl])
  simp [asAddr, e, Result.andThen, arrV]

set_option maxRecDepth 100000 in
set_option maxHeartbeats 4000000 in
theorem readSector_ok {G : Nat → Prop} {w : World} {p : Nat} {D : Dsk} (h : Dk.Own G w p D) (i : Nat) (hu : D.up = true) (hi : i < D.n) :
    Calls Tryz.prog 42 #[pv p, .int .i64 (i : Int)] w fun x w' => x = .returned (.tuple #[arrV (sec D.N i), .int .i64 0]) ∧ Nw w w' := by
  have hz := zero66
  have hn := h.ok.lN
  have Hsl : Hid ((sec D.N i).length = 128) := sec_length _ _ _ hn hi
  have HR := hid (own_read ((h.alloc (.cells (bs zeros).toArray 81)).alloc (.cells (bs zeros).toArray 81)) i hu hi)
  generalize hW1 : ((w.alloc (.cells (bs zeros).toArray 81)).alloc (.cells (bs zeros).toArray 81)).alloc (.cells (bs (sec D.N i)).toArray 117) = W1 at HR
  have B4 : Blk W1 w.heap.size 81 (bs zeros) := by rw [← hW1]; exact ((Blk.new w 81 _).alloc _).alloc _
  have B6 : Blk W1 (w.heap.size + 1) 81 (bs zeros) := by
    rw [← hW1]
    have := (Blk.new (w.alloc (.cells (bs zeros).toArray 81)) 81 (bs zeros)).alloc (.cells (bs (sec D.N i)).toArray 117)
    rwa [World.size_alloc] at this
  have B7 : Blk W1 (w.heap.size + 1 + 1) 117 (bs (sec D.N i)) := by
    rw [← hW1]
    have := Blk.new ((w.alloc (.cells (bs zeros).toArray 81)).alloc (.cells (bs zeros).toArray 81)) 117 (bs (sec D.N i))
    rwa [World.size_alloc, World.size_alloc] at this
  have F1 : Nw w W1 := by rw [← hW1]; exact (((Fr.refl _ w).alloc _).alloc _).alloc _
  generalize sec D.N i = s at *
  have hlz : (bs zeros).length = 128 := by rw [bs_length, zeros_length]
  have hls : (bs s).length = 128 := by rw [bs_length, Hsl.out]
  have ht := B6.there 0 128 (by omega)
  have hcp := run_copy_cells (P := Tryz.prog) W1 49 49 3 5 (w.heap.size + 1) 0 128 128 ⟨w.heap.size + 1 + 1, 0, none⟩ 128 128 (bs s) Tryz.underlying49 info5 (by rw [hls]; rfl) (fun j v hv => by
    rw [Addr.add_mid]
    exact (B7.range 0 _ (by simp)) j v hv) (fun j hj => (ht j (by omega)).1) (fun j hj => (ht j (by omega)).2) (bs_one s)
  rw [hls] at hcp
  have HB6 := hid (Blk.all B6 zeros_length Hsl.out)
  have HB4 := hid (B4.setCells_ne (by omega : w.heap.size ≠ w.heap.size + 1) 0 (bs s))
  have HF := hid (F1.setCells (b := w.heap.size + 1) (.inr (by omega)) 0 (bs s))
  simp only [World.size_alloc] at HR
  clear h B4 B6 B7 F1 ht hW1 hn
  go_enter Tryz.func42, Tryz.ntmps42
  go_wp2_with fail
  refine HR.out.mono ?_
  rintro x w1 ⟨rfl, rfl⟩
  clear HR
  generalize w1.setCells (w.heap.size + 1) 0 (bs s) = W2 at *
  go_wp2_with (first
    | (refine wpList_load_mid (by rfl) 81 _ (by rfl) (w.heap.size + 1) 0 (by rfl) (bs s) _ (HB6.out.range 0 _ (by simp)) Tryz.underlying81 rfl (by rw [size66, bs_length, Hsl.out]) ?_)
    | (refine wpList_store66 (by rfl) _ _ (by rfl) HB4.out zeros_length Hsl.out (by rfl) (by rfl) ?_))
  exact bodyPost_ret (results66t rfl rfl (Blk.all HB4.out zeros_length Hsl.out) Hsl.out) rfl ⟨rfl, HF.out.setCells (.inr (by omega)) _ _⟩

/-! ### Format -/
def fmtE (D : Dsk) (f : Nat) : Int := if D.writeE (f : Int) 128 ≠ 0 then D.writeE (f : Int) 128 else (D.write (f : Int) (ctl 1 0 beg)).flushE
def fmtD (D : Dsk) (f : Nat) : Dsk := if D.writeE (f : Int) 128 ≠ 0 then D.write (f : Int) (ctl 1 0 beg) else (D.write (f : Int) (ctl 1 0 beg)).flush

set_option maxRecDepth 100000 in
set_option maxHeartbeats 4000000 in
theorem Format_ok {G : Nat → Prop} {w : World} {p : Nat} {D : Dsk} (h : Dk.Own G w p D) (hD : Sm D 2) (f n : Nat) (hmb : mayBe (f : Int) (n : Int) (D.n : Int) = true) :
    Calls Tryz.prog 31 #[pv p, .int .i64 (f : Int), .int .i64 (n : Int)] w fun x w' => x = .returned (.int .i64 (fmtE D f)) ∧ Dk.Own G w' p (fmtD D f) ∧ Kp G w w' := by
  have hz := zero66
  have HL := hid (own_size h)
  have HM := hid (mayBe_any w (f : Int) (n : Int) D.n h.ok.n2)
  rw [hmb] at HM
  have H0 := hid h
  have HEm := fun W => hid (emptied_any W 1)
  have HSec := fun W => hid (sector_any W 1 0 beg (by omega))
  have Hlen := hid (ctl_length 1 0 beg)
  have HE1 : Hid (D.writeE (f : Int) 128 ≠ 0 → fmtE D f = D.writeE (f : Int) 128 ∧ fmtD D f = D.write (f : Int) (ctl 1 0 beg)) := fun hh => by simp [fmtE, fmtD, hh]
  have HE2 : Hid (D.writeE (f : Int) 128 = 0 → fmtE D f = (D.write (f : Int) (ctl 1 0 beg)).flushE ∧ fmtD D f = (D.write (f : Int) (ctl 1 0 beg)).flush) := fun hh => by simp [fmtE, fmtD, hh]
  have HS2 : Hid (Sm (D.write (f : Int) (ctl 1 0 beg)) 1) := hD.write _ _
  have HS := hid hD
  clear h hD hmb
  unfold rgV at HM
  unfold cV at HSec HEm
  generalize ctl 1 0 beg = s at *
  generalize fmtE D f = FE at *
  generalize fmtD D f = FD at *
  go_enter Tryz.func31, Tryz.ntmps31
  go_wp2_with fail
  refine HL.out.mono ?_
  rintro x w1 ⟨rfl, rfl⟩
  clear HL
  go_wp2_with fail
  refine HM.out.mono ?_
  rintro x w2 ⟨rfl, f2⟩
  have HF2 := hid f2
  clear HM f2
  go_wp2_with fail
  refine (HEm w2).out.mono ?_
  rintro x w3 ⟨rfl, f3⟩
  have HF3 := hid (Nw.tr HF2.out f3)
  clear f3 HF2 HEm
  go_wp2_with fail
  refine (HSec w3).out.mono ?_
  rintro x w4 ⟨rfl, f4⟩
  have HF4 := hid (Nw.tr HF3.out f4)
  clear f4 HF3 HSec
  have HO4 := hid ((own_nw H0.out HF4.out).more (.cells (bs s).toArray 81))
  have HW := hid (own_write HO4.out (by have := HS.out.1; omega) (by have := HS.out.2; omega) (f : Int) s (some ⟨w4.heap.size, 0, none⟩) 128 (fun _ => ⟨w4.heap.size, 0, rfl, (Blk.new w4 81 (bs s)).range 0 _ (by simp), .inr rfl⟩))
  rw [Hlen.out] at HW
  have HK4 : Hid (Kp G w1 (w4.alloc (.cells (bs s).toArray 81))) := (show Nw w1 _ from HF4.out.alloc _).kp
  unfold arrV
  generalize D.writeE (f : Int) 128 = we at *
  generalize D.write (f : Int) s = D2 at *
  go_wp2_with (first | (refine store66n (by rfl) _ _ (by rfl) s Hlen.out zs66 (by rfl) (by rfl) ?_))
  refine HW.out.mono ?_
  rintro x w5 ⟨rfl, o5, k5⟩
  have HO5 := hid (o5.less (G' := G) (fun _ hk => .inl hk))
  have HK5 : Hid (Kp G w1 w5) := Kp.trans HK4.out (Kp.less k5 (fun _ hk => .inl hk))
  clear HW o5 k5 HO4 HK4
  by_cases hw : we = 0
  · subst hw
    have HE := hid (HE2.out (by trivial))
    have HFl := hid (own_flush HO5.out (by have := HS2.out.1; omega) (by have := HS2.out.2; omega))
    clear HE1 HE2
    go_wp2_with fail
    refine HFl.out.mono ?_
    rintro x w6 ⟨rfl, o6, k6⟩
    have HO6 := hid o6
    have HK6 := hid (Kp.trans HK5.out k6)
    clear HFl o6 k6
    go_wp2
    go_ret
    exact ⟨by rw [HE.out.1]; rfl, by rw [HE.out.2]; exact HO6.out, HK6.out⟩
  · have hb : (we != 0) = true := by simpa using hw
    have HE := hid (HE1.out hw)
    clear HE1 HE2
    go_wp2
    go_ret
    exact ⟨by rw [HE.out.1]; rfl, by rw [HE.out.2]; exact HO5.out, HK5.out⟩

/-! ### Nothing is used -/
set_option maxRecDepth 100000 in
set_option maxHeartbeats 400000 in
theorem takeRows_nil (w : World) (l : Nat) (ad : Option Addr) (cap : Nat) : Calls Tryz.prog 71 #[pv l, .slice ad 0 cap] w fun x w' => x = .returned (.bool true) ∧ w' = w := by
  go_enter Tryz.func71, Tryz.ntmps71
  go_wp2_with fail
  go_loopw [1] (fun v wr => v = .slice ad 0 cap ∧ wr = w) (fun _ _ => 0)
  case atStart => exact ⟨rfl, rfl⟩
  case round =>
    obtain ⟨rfl, rfl⟩ := hrel
    go_wp2
    go_ret
    exact ⟨rfl, rfl⟩

theorem info66 : (Tryz.prog.info? 81).map (fun i => (i.zero, i.size, i.bytes)) = some (some (.agg (bs zeros).toArray), 128, 128) := by kernel_rfl

set_option maxRecDepth 100000 in
set_option maxHeartbeats 1000000 in
theorem load_zero {w : World} {l p bl bt : Nat} {L : Lg} (h : LRep w l p bl bt L) (hu : L.u = 0) (hp : L.p = beg) : Calls Tryz.prog 45 #[pv l] w fun x w' => x = .returned (.int .i64 0) ∧ Nw w w' := by
  have c5 : w.cell? ⟨l, 5, none⟩ = some (.int .i64 0) := by simpa [Lg.cells, hu] using h.hl.cell 5
  obtain ⟨i0, hi0, hz0, hz1, hz2⟩ := info_parts info66
  have hmk := run_make (P := Tryz.prog) w 109 81 i0 _ Tryz.underlying109 hi0 hz0 .i64 .i64 0 0 (by omega) (by omega) (by omega) (by omega)
  have HS := hid (sum_any (w.alloc (.cells (madeCells (bs zeros).toArray 0) 81)) none [] 0 (by simp) (Src.nil _ _))
  have HTk := hid (takeRows_nil (w.alloc (.cells (madeCells (bs zeros).toArray 0) 81)) l (some ⟨w.heap.size, 0, none⟩) 0)
  have c6 : (w.alloc (.cells (madeCells (bs zeros).toArray 0) 81)).cell? ⟨l, 6, none⟩ = some (.int .u64 (beg : Int)) := by simpa [Lg.cells, hp] using (h.hl.alloc _).cell 6
  have HB : Hid ((upd beg [] : Nat) = beg) := rfl
  rw [HB.out] at HS
  have HF : Hid (Nw w (w.alloc (.cells (madeCells (bs zeros).toArray 0) 81))) := (Fr.refl _ w).alloc _
  generalize beg = B at *
  clear h
  go_enter Tryz.func45, Tryz.ntmps45
  go_wp2_with fail
  refine HS.out.mono ?_
  rintro x w1 ⟨rfl, rfl⟩
  clear HS hmk c5
  go_wp2_with fail
  go_loopw [4, 17] (fun v i wr => v = .int .u64 (B : Int) ∧ i = .int .i64 0 ∧ wr = w.alloc (.cells (madeCells (bs zeros).toArray 0) 81)) (fun _ _ _ => 0)
  case atStart => exact ⟨rfl, rfl, rfl⟩
  case round =>
    obtain ⟨rfl, rfl, rfl⟩ := hrel
    go_wp2_with fail
    refine HTk.out.mono ?_
    rintro x w2 ⟨rfl, rfl⟩
    go_wp2
    go_ret
    exact ⟨rfl, HF.out⟩

/-! ### The control's own words -/
theorem fld_app (A v Z : Sec) (o len : Nat) (ho : o = A.length) (hl : len = v.length) : fld (A ++ v ++ Z) o len = num v := by
  subst ho hl
  simp [fld, List.append_assoc]
theorem ctl_eq (e u p : Nat) : ctl e u p = mark ++ le 8 e ++ le 2 u ++ le 8 p ++ (le 8 (upd beg (ctl1 e u p)) ++ List.replicate (128 - (ctl1 e u p ++ le 8 (upd beg (ctl1 e u p))).length) 0) := by
  unfold ctl pad
  rw [List.append_assoc]
  rfl
theorem ctlE_ctl (e u p : Nat) (h : e < 18446744073709551616) : ctlE (ctl e u p) = e := by
  unfold ctlE
  rw [ctl_eq]
  generalize le 8 (upd beg (ctl1 e u p)) ++ List.replicate (128 - (ctl1 e u p ++ le 8 (upd beg (ctl1 e u p))).length) 0 = Z
  have e1 : mark ++ le 8 e ++ le 2 u ++ le 8 p ++ Z = mark ++ le 8 e ++ (le 2 u ++ le 8 p ++ Z) := by simp
  rw [e1, fld_app mark (le 8 e) _ 8 8 rfl (le_length _ _).symm, num_le 8 e (by omega)]
theorem ctlU_ctl (e u p : Nat) (h : u < 65536) : ctlU (ctl e u p) = u := by
  unfold ctlU
  rw [ctl_eq]
  generalize le 8 (upd beg (ctl1 e u p)) ++ List.replicate (128 - (ctl1 e u p ++ le 8 (upd beg (ctl1 e u p))).length) 0 = Z
  have e1 : mark ++ le 8 e ++ le 2 u ++ le 8 p ++ Z = (mark ++ le 8 e) ++ le 2 u ++ (le 8 p ++ Z) := by simp
  rw [e1, fld_app (mark ++ le 8 e) (le 2 u) _ 16 2 (by simp [mark, le_length]) (le_length _ _).symm, num_le 2 u (by omega)]
theorem ctlP_ctl (e u p : Nat) (h : p < 18446744073709551616) : ctlP (ctl e u p) = p := by
  unfold ctlP
  rw [ctl_eq]
  generalize le 8 (upd beg (ctl1 e u p)) ++ List.replicate (128 - (ctl1 e u p ++ le 8 (upd beg (ctl1 e u p))).length) 0 = Z
  rw [fld_app (mark ++ le 8 e ++ le 2 u) (le 8 p) _ 18 8 (by simp [mark, le_length]) (le_length _ _).symm, num_le 8 p (by omega)]
theorem isCtl_ctl (e u p : Nat) (he : e < 18446744073709551616) (hu : u < 65536) (hp : p < 18446744073709551616) : isCtl (ctl e u p) = true := by
  unfold isCtl
  rw [ctlE_ctl e u p he, ctlU_ctl e u p hu, ctlP_ctl e u p hp]
  simp

def Lg.new (f n z e : Nat) : Lg := { f := f, n := n, z := z, e := e, u := 0, p := beg, lg := [], st := [], dead := false }
def OpenPost (G : Nat → Prop) (w : World) (p : Nat) (D : Dsk) (L : Lg) (x : Ending) (w' : World) : Prop :=
  ∃ l bl bt, x = .returned (.tuple #[pv l, .int .i64 0]) ∧ OwnL G w' l p bl bt D L ∧ Kp G w w' ∧ w.heap.size ≤ l

/-- A log in new blocks. -/
theorem own_log {G : Nat → Prop} {W : World} {p : Nat} {D : Dsk} {L : Lg} (h : Dk.Own G W p D) (ok : L.Ok) (hz : D.n = L.z) (hl : L.lg = []) (ht : L.st = []) :
    OwnL G (((W.alloc (.map #[] 0)).alloc (.map #[] 0)).alloc (.cells (L.cells p W.heap.size (W.heap.size + 1)).toArray 91)) (W.heap.size + 1 + 1) p W.heap.size (W.heap.size + 1) D L := by
  have hs1 : (W.alloc (.map #[] 0)).heap.size = W.heap.size + 1 := by simp
  have hs2 : ((W.alloc (.map #[] 0)).alloc (.map #[] 0)).heap.size = W.heap.size + 1 + 1 := by simp
  have m1 : MpT (((W.alloc (.map #[] 0)).alloc (.map #[] 0)).alloc (.cells (L.cells p W.heap.size (W.heap.size + 1)).toArray 91)) W.heap.size [] := ((Mp.made W Tryz.prog 3).alloc _).alloc _
  have m2 : MpT (((W.alloc (.map #[] 0)).alloc (.map #[] 0)).alloc (.cells (L.cells p W.heap.size (W.heap.size + 1)).toArray 91)) (W.heap.size + 1) [] := by
    have := (Mp.made (W.alloc (.map #[] 0)) Tryz.prog 3).alloc (.cells (L.cells p W.heap.size (W.heap.size + 1)).toArray 91)
    rwa [hs1] at this
  have b3 : Blk (((W.alloc (.map #[] 0)).alloc (.map #[] 0)).alloc (.cells (L.cells p W.heap.size (W.heap.size + 1)).toArray 91)) (W.heap.size + 1 + 1) 91 (L.cells p W.heap.size (W.heap.size + 1)) := by
    have := Blk.new ((W.alloc (.map #[] 0)).alloc (.map #[] 0)) 91 (L.cells p W.heap.size (W.heap.size + 1))
    rwa [hs2] at this
  refine ⟨⟨b3, by rw [hl]; exact m1, by rw [ht]; exact m2, by omega, by omega, by omega, ok⟩, ?_, fun k hk => ?_, hz⟩
  · refine (((h.more (.map #[] 0)).more (.map #[] 0)).more (.cells (L.cells p W.heap.size (W.heap.size + 1)).toArray 91)).less (fun k hk => ?_)
    rcases hk with hk | hk | hk | hk
    · exact .inl (.inl (.inl hk))
    · exact .inr (by rw [hs2]; exact hk)
    · exact .inl (.inl (.inr hk))
    · exact .inl (.inr (by rw [hs1]; exact hk))
  · obtain ⟨_, _, _, _, f⟩ := h
    have := (f k hk).1
    omega

set_option maxRecDepth 100000 in
set_option maxHeartbeats 4000000 in
theorem Open_fresh {G : Nat → Prop} {w : World} {p : Nat} {D : Dsk} (h : Dk.Own G w p D) (f n e : Nat) (hup : D.up = true) (hmb : mayBe (f : Int) (n : Int) (D.n : Int) = true) (he : e < 18446744073709551616) (hc : sec D.N f = ctl e 0 beg) :
    Calls Tryz.prog 13 #[pv p, .int .i64 (f : Int), .int .i64 (n : Int)] w (OpenPost G w p D (Lg.new f n D.n e)) := by
  have hmb' := hmb
  simp only [mayBe, Bool.and_eq_true, decide_eq_true_eq] at hmb'
  have hn1 : 4 ≤ n ∧ n ≤ 255 ∧ f + n ≤ D.n := by omega
  have HOk : Hid ((Lg.new f n D.n e).Ok) := ⟨hn1.1, hn1.2.1, hn1.2.2, h.ok.n2, he, Nat.zero_le _, beg_lt, by simp [Lg.new], by simp [Lg.new]⟩
  have hz := zero66
  have hmm := @run_makeMap Tryz.prog
  have HL := hid (own_size h)
  have HF1 : Hid (Nw w (w.alloc (.cells #[.int .i64 (f : Int), .int .i64 (n : Int), .int .i64 (D.n : Int)] 79))) := (Fr.refl _ w).alloc _
  have HM := hid (mayBe_any (w.alloc (.cells #[.int .i64 (f : Int), .int .i64 (n : Int), .int .i64 (D.n : Int)] 79)) (f : Int) (n : Int) D.n h.ok.n2)
  rw [hmb] at HM
  have HB8 := hid (Blk.new w 79 [.int .i64 (f : Int), .int .i64 (n : Int), .int .i64 (D.n : Int)])
  have H0 := hid h
  have HRd := hid (fun W (fW : Nw w W) => readSector_ok (own_nw h fW) f hup (by omega))
  rw [hc] at HRd
  have HCt := hid (fun W => controlOf_any W (ctl e 0 beg) (ctl_length e 0 beg))
  have HCp : Hid (∀ W x w', CtlPost (ctl e 0 beg) W x w' → x = .returned (.tuple #[cV e 0 beg, .bool true]) ∧ Nw W w') := fun W x w' hp => by
    obtain ⟨hx, hf⟩ := hp
    rw [isCtl_ctl e 0 beg he (by omega) beg_lt, if_pos rfl, ctlE_ctl e 0 beg he, ctlU_ctl e 0 beg (by omega), ctlP_ctl e 0 beg beg_lt] at hx
    exact ⟨hx, hf⟩
  have Hlen := hid (ctl_length e 0 beg)
  have HRm := hid (fun W => room_any W f n D.n (by omega) hn1.2.1)
  have Hn1 := hid hn1
  unfold rgV at HM HRm
  unfold cV at HCp
  generalize ctl e 0 beg = s at *
  clear h hmb hmb' hc hn1
  go_enter Tryz.func13, Tryz.ntmps13
  go_wp2_with fail
  refine HL.out.mono ?_
  rintro x w1 ⟨rfl, rfl⟩
  clear HL
  go_wp2_with fail
  refine HM.out.mono ?_
  rintro x w2 ⟨rfl, f2⟩
  have HF2 := hid (Nw.tr HF1.out f2)
  have HB82 := hid (Fr.blk f2 HB8.out id)
  clear HM HF1 HB8 f2
  go_wp2_with fail
  refine (HRd.out w2 HF2.out).mono ?_
  rintro x w3 ⟨rfl, f3⟩
  have HF3 := hid ((Nw.tr HF2.out f3).alloc (.cells (bs s).toArray 81))
  have HB83 := hid ((Fr.blk f3 HB82.out id).alloc (.cells (bs s).toArray 81))
  have HB9 := hid (Blk.new w3 81 (bs s))
  clear HRd HF2 HB82 f3
  unfold arrV at HCt ⊢
  go_wp2_with (first
    | (refine store66n (by rfl) _ _ (by rfl) s Hlen.out zs66 (by rfl) (by rfl) ?_)
    | (refine wpList_load_mid (by rfl) 81 _ (by rfl) w3.heap.size 0 (by rfl) (bs s) _ (HB9.out.range 0 _ (by simp)) Tryz.underlying81 rfl (by rw [size66, bs_length, Hlen.out]) ?_))
  refine (HCt.out _).mono ?_
  intro x w4 hpost
  obtain ⟨rfl, f4⟩ := HCp.out _ _ _ hpost
  have HF4 := hid (Nw.tr HF3.out f4)
  have HB84 := hid (Fr.blk f4 HB83.out id)
  clear HCt HCp hpost f4 HF3 HB83 HB9
  go_wp2_with fail
  have hB85 := (HB84.out.alloc (.cells #[.int .u64 (e : Int), .int .i64 0, .int .u64 (beg : Int)] 86)).drew
  have hB11 := (Blk.new w4 86 [.int .u64 (e : Int), .int .i64 0, .int .u64 (beg : Int)]).drew
  have a0 : (w4.alloc (.cells #[.int .u64 (e : Int), .int .i64 0, .int .u64 (beg : Int)] 86)).drew.cell? ⟨w1.heap.size, 0, none⟩ = some (.int .i64 (f : Int)) := hB85.cell 0
  have a1 : (w4.alloc (.cells #[.int .u64 (e : Int), .int .i64 0, .int .u64 (beg : Int)] 86)).drew.cell? ⟨w1.heap.size, 1, none⟩ = some (.int .i64 (n : Int)) := hB85.cell 1
  have a2 : (w4.alloc (.cells #[.int .u64 (e : Int), .int .i64 0, .int .u64 (beg : Int)] 86)).drew.cell? ⟨w1.heap.size, 2, none⟩ = some (.int .i64 (D.n : Int)) := hB85.cell 2
  have a3 : (w4.alloc (.cells #[.int .u64 (e : Int), .int .i64 0, .int .u64 (beg : Int)] 86)).drew.cell? ⟨w4.heap.size, 1, none⟩ = some (.int .i64 0) := hB11.cell 1
  have HR := hid (HRm.out (w4.alloc (.cells #[.int .u64 (e : Int), .int .i64 0, .int .u64 (beg : Int)] 86)).drew)
  have HF5 : Hid (Nw w1 (w4.alloc (.cells #[.int .u64 (e : Int), .int .i64 0, .int .u64 (beg : Int)] 86)).drew) := (HF4.out.alloc _).drew
  have HB85 := hid hB85
  have HB11 := hid hB11
  have HHold : Hid (∀ w5, Nw (w4.alloc (.cells #[.int .u64 (e : Int), .int .i64 0, .int .u64 (beg : Int)] 86)).drew w5 → w5.cell? ⟨w1.heap.size, 0, none⟩ = some (.int .i64 (f : Int)) ∧ w5.cell? ⟨w1.heap.size, 1, none⟩ = some (.int .i64 (n : Int)) ∧ w5.cell? ⟨w1.heap.size, 2, none⟩ = some (.int .i64 (D.n : Int)) ∧ w5.cell? ⟨w4.heap.size, 1, none⟩ = some (.int .i64 0)) := fun w5 f5 => ⟨(Fr.blk f5 hB85 id).cell 0, (Fr.blk f5 hB85 id).cell 1, (Fr.blk f5 hB85 id).cell 2, (Fr.blk f5 hB11 id).cell 1⟩
  have hnn : ¬ ((n - 1 : Nat) : Int) < 0 := by omega
  clear HRm HB84 HF4 hB85 hB11
  go_region_held3 (fun w' => w'.cell? ⟨w1.heap.size, 0, none⟩ = some (.int .i64 (f : Int)) ∧ w'.cell? ⟨w1.heap.size, 1, none⟩ = some (.int .i64 (n : Int)) ∧ w'.cell? ⟨w1.heap.size, 2, none⟩ = some (.int .i64 (D.n : Int)) ∧ w'.cell? ⟨w4.heap.size, 1, none⟩ = some (.int .i64 0))
    (first
      | exact ⟨a0, a1, a2, a3⟩
      | exact HHold.out _ f5)
    ((go_at_call 44; refine HR.out.mono ?_; rintro x w5 ⟨rfl, f5⟩))
  have HB86 := Fr.blk f5 HB85.out id
  have HB12 := Fr.blk f5 HB11.out id
  have HF6 := hid (Nw.tr HF5.out f5)
  have d0 := HB86.cell 0
  have d1 := HB86.cell 1
  have d2 := HB86.cell 2
  have g0 := HB12.cell 0
  have g1 := HB12.cell 1
  have g2 := HB12.cell 2
  simp only [List.getElem?_cons_zero, List.getElem?_cons_succ] at d0 d1 d2 g0 g1 g2
  have HO6 := hid (own_log (own_nw H0.out HF6.out) HOk.out (by rfl) rfl rfl)
  have HLd := hid (load_zero HO6.out.r rfl rfl)
  have HK6 : Hid (Kp G w1 (((w5.alloc (.map #[] 0)).alloc (.map #[] 0)).alloc (.cells ((Lg.new f n D.n e).cells p w5.heap.size (w5.heap.size + 1)).toArray 91))) := (show Nw w1 _ from ((HF6.out.alloc _).alloc _).alloc _).kp
  have Hsz : Hid (w1.heap.size ≤ w5.heap.size) := HF6.out.size
  have Hcells : Hid (((Lg.new f n D.n e).cells p w5.heap.size (w5.heap.size + 1)).toArray = #[pv p, .int .i64 (f : Int), .int .i64 (n : Int), .int .i64 (D.n : Int), .int .u64 (e : Int), .int .i64 0, .int .u64 (beg : Int), .map (some w5.heap.size), .map (some (w5.heap.size + 1)), .bool false]) := rfl
  rw [Hcells.out] at HO6 HLd HK6
  clear HB86 HB12 HF5 HB85 HB11 HHold HR f5 a0 a1 a2 a3 Hcells
  go_wp2_with fail
  refine HLd.out.mono ?_
  rintro x w7 ⟨rfl, f7⟩
  have HF7 := hid f7
  clear f7 HLd
  go_wp2
  go_ret2
  exact ⟨w5.heap.size + 1 + 1, w5.heap.size, w5.heap.size + 1, rfl, HO6.out.nw HF7.out, Kp.trans HK6.out HF7.out.kp, by have := Hsz.out; omega⟩

end Go.Proofs.YtehoiahgkbnjdaaGreat.Wl
