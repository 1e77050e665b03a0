/- AllocOnce: the walk. -/
import Derived.Test.YtehoiahgkbnjdaaGreatOn2M
namespace Go.Proofs.YtehoiahgkbnjdaaGreat.Al
open Go.RowKit Go.Shelf Dk Wl

section
variable {P : Program} {ops : Array Oper} {Q : Exit → Act → World → Prop} {md : Region.Mode} {S : World → Prop}
/-- Operation number i is taken first: its value is v in every world that meets S. -/
theorem takeH {i : Nat} {d : Option Tmp} {fuel : Nat} {listed : Array Bool} {a : Act} {w : World} (v : Value) (hd : (ops[i]?).map (·.dst) = some d) (hs : Region.noSelect ops = true) (hf : Region.free md ops listed i = true)
    (hr : (Region.ready md ops listed).contains i = true) (hQ : ∀ (o : Oper) c a w, Q (.panic c) (a.put o.dst v) w → Q (.panic c) a w) (hS : S w) (hy : ∀ o, ops[i]? = some o → YieldsIf P ops S o v a)
    (h : wpAnyH P md ops Q S fuel (listed.setIfInBounds i true) (a.put d v) w) : wpAnyH P md ops Q S (fuel + 1) listed a w := by
  cases ho : ops[i]? with
  | none => simp [ho] at hd
  | some o =>
    have e : o.dst = d := by simpa [ho] using hd
    subst e
    exact wpAnyH_take ho hs hf hr (hQ o) (hy o ho) hS h
/-- Operation number i alone can come up. -/
theorem oneH {i : Nat} {fuel : Nat} {listed : Array Bool} {a : Act} {w : World} (hr : Region.ready md ops listed = [i])
    (h : ∀ o, ops[i]? = some o → ∀ K' : Act → World → Prop, Hid (∀ a w, S w → wpAnyH P md ops Q S fuel (listed.setIfInBounds i true) a w → K' a w) → if Region.wanted o (yielded ops a.tmps) = true then Oper.wp P o a w K' Q else K' (a.put o.dst undef) w)
    (hi : i < ops.size) : wpAnyH P md ops Q S (fuel + 1) listed a w := by
  have ho : ops[i]? = some ops[i] := Array.getElem?_eq_getElem hi
  exact wpAnyH_ready hr (by simp) (AllReadyH.cons ho (fun K' hK => h _ ho K' (fun a w hS hW => hK a w hS (fun _ => hW))) AllReadyH.nil)
end
theorem make48 (w : World) (m : Nat) (hm : m ≤ 1024) : (Instr.makeSlice 48 (.int .i64 (m : Int)) (.int .i64 (m : Int))).run Tryz.prog w = .ok (.slice (some ⟨w.heap.size, 0, none⟩) m m) (w.alloc (.cells (List.replicate m (Value.bool false)).toArray 4)) := by
  obtain ⟨i, hi⟩ := Option.isSome_iff_exists.1 (by kernel_rfl : (Tryz.prog.info? 4).isSome = true)
  have hz : (Tryz.prog.info? 4).bind (·.zero) = some (.bool false) := by kernel_rfl
  have hs : (Tryz.prog.info? 4).map (·.size) = some 1 := by kernel_rfl
  have hb : (Tryz.prog.info? 4).map (·.bytes) = some 1 := by kernel_rfl
  rw [hi] at hz hs hb
  simp only [Option.bind_some, Option.map_some, Option.some.injEq] at hz hs hb
  have h := run_make (P := Tryz.prog) w 48 4 i (.bool false) Tryz.underlying48 hi hz .i64 .i64 m m (by omega) (Int.le_refl _) (by rw [hb]; omega) (by omega)
  rw [h, hs]
  simp only [Int.toNat_natCast, Nat.mul_one]
  have e : madeCells (Value.bool false).cells m = (List.replicate m (Value.bool false)).toArray := by
    apply Array.toList_inj.1
    exact toList_madeCells_one (.bool false) m
  rw [e]
theorem make49 (w : World) : (Instr.makeSlice 49 (.int .i64 128) (.int .i64 128)).run Tryz.prog w = .ok (.slice (some ⟨w.heap.size, 0, none⟩) 128 128) (w.alloc (.cells (bs zeros).toArray 5)) := by
  obtain ⟨i, hi⟩ := Option.isSome_iff_exists.1 (by kernel_rfl : (Tryz.prog.info? 5).isSome = true)
  have hz : (Tryz.prog.info? 5).bind (·.zero) = some (.int .u8 0) := by kernel_rfl
  have hs : (Tryz.prog.info? 5).map (·.size) = some 1 := by kernel_rfl
  have hb : (Tryz.prog.info? 5).map (·.bytes) = some 1 := by kernel_rfl
  rw [hi] at hz hs hb
  simp only [Option.bind_some, Option.map_some, Option.some.injEq] at hz hs hb
  have h := run_make (P := Tryz.prog) w 49 5 i (.int .u8 0) Tryz.underlying49 hi hz .i64 .i64 128 128 (by omega) (Int.le_refl _) (by rw [hb]; omega) (by omega)
  rw [h, hs]
  have e : madeCells (Value.int .u8 0).cells 128 = (bs zeros).toArray := by
    apply Array.toList_inj.1
    refine (toList_madeCells_one (.int .u8 0) 128).trans ?_
    show _ = bs (List.replicate 128 0)
    simp only [bs, List.map_replicate]
    rfl
  show Result.ok _ (w.alloc (.cells (madeCells (Value.int .u8 0).cells 128) 5)) = _
  rw [e]
  rfl
def dirtB (c : UInt8) (k : Nat) : Sec := List.replicate k c ++ List.replicate (128 - k) 0
theorem dirtB_set (c : UInt8) (k : Nat) (hk : k < 128) : (bs (dirtB c k)).set k (.int .u8 (c.toNat : Int)) = bs (dirtB c (k + 1)) := by
  have e : (dirtB c k).set k c = dirtB c (k + 1) := by
    unfold dirtB
    obtain ⟨m, hm⟩ : ∃ m, 128 - k = m + 1 := ⟨127 - k, by omega⟩
    rw [hm, show 128 - (k + 1) = m by omega, List.set_append, if_neg (by simp), List.length_replicate, Nat.sub_self, List.replicate_succ, List.set_cons_zero, List.replicate_succ', List.append_assoc]
    rfl
  rw [← e]
  simp only [bs, List.map_set]
  rfl
theorem dirtB_zero (c : UInt8) : dirtB c 0 = zeros := by simp only [dirtB, zeros]; rfl
theorem dirtB_all (c : UInt8) : dirtB c 128 = List.replicate 128 c := by unfold dirtB; rw [Nat.sub_self]; exact List.append_nil _

/-- In mid-way of making what is written. -/
structure OnD (G : Nat → Prop) (w wr : World) (l p sp yb gb db n : Nat) (c : UInt8) (bl bt : Nat) (D : Dsk) (L : Lg) (k : Nat) : Prop where
  o : OwnL (OnG G sp yb gb db) wr l p bl bt D L
  s : Spc (OnG G sp yb gb db) wr sp l (lay n)
  y : Blk wr yb 38 (lay n).cells
  g : Blk wr gb 4 (gv n zeros)
  d : Blk wr db 5 (bs (dirtB c k))
  kp : Kp G w wr
theorem OnD.next {G : Nat → Prop} {w wr : World} {l p sp yb gb db n : Nat} {c : UInt8} {bl bt : Nat} {D : Dsk} {L : Lg} {k : Nat} (h : OnD G w wr l p sp yb gb db n c bl bt D L k) (hk : k < 128) (hw : w.heap.size ≤ db) (h1 : yb ≠ db) (h2 : gb ≠ db) (h3 : sp ≠ db) :
    OnD G w (wr.setCell ⟨db, k, none⟩ (.int .u8 (c.toNat : Int))) l p sp yb gb db n c bl bt D L (k + 1) :=
  ⟨h.o.pokeG (.inr (.inr (.inr (.inr rfl)))) _ _, ⟨h.s.b.setCell_ne (a := ⟨db, k, none⟩) h3 _, h.s.g⟩, h.y.setCell_ne (a := ⟨db, k, none⟩) h1 _, h.g.setCell_ne (a := ⟨db, k, none⟩) h2 _,
    (by have := h.d.setCell k (.int .u8 (c.toNat : Int)); rwa [dirtB_set c k hk] at this), Fr.setCell h.kp (p := ⟨db, k, none⟩) (.inr hw) _⟩

def ArgInts (G : Nat → Prop) (w : World) (ad : Option Addr) (len : Nat) : Prop := ∀ k, k < len → ∃ lb lo, ∃ x : Int, ad = some ⟨lb, lo, none⟩ ∧ w.cell? ⟨lb, lo + k, none⟩ = some (.int .i64 x) ∧ (-9223372036854775808 ≤ x ∧ x ≤ 9223372036854775807) ∧ G lb ∧ lb < w.heap.size

set_option maxRecDepth 100000 in
set_option maxHeartbeats 20000000 in
theorem once_walk (G : Nat → Prop) (w : World) (hG : ∀ k, G k → k < w.heap.size) (a : Int) (h0 : -9223372036854775808 ≤ a) (h1 : a ≤ 9223372036854775807) (c : UInt8) (ad : Option Addr) (len cap : Nat) (hA : ArgInts G w ad len) :
    Calls Tryz.prog 4 #[.int .i64 a, .int .u8 (c.toNat : Int), .slice ad len cap] w fun x w' => x = .returned (.bool true) ∧ Kp G w w' := by
  have HSh := hid (shown_al G w hG)
  have HSz := hid (fun W => size_any W a h0 h1)
  have hsb := size_b a
  have HHG := hid hG
  have HA := hid hA
  clear h0 h1 hG hA
  generalize sizeN a = n at *
  have HM := hid (fun W (hW : ∀ k, G k → k < W.heap.size) => made_al G W hW n (by omega) (by omega))
  have Hn : Hid (64 ≤ n ∧ n ≤ 1024) := by unfold Hid; omega
  have Hn2 : Hid (n ≤ 203) := by unfold Hid; omega
  have hm48 := fun W => make48 W n (by omega)
  have hm49 := make49
  clear hsb
  go_enter Tryz.func4, Tryz.ntmps4
  go_wp2_with fail
  refine HSh.out.mono ?_
  rintro x w1 ⟨rfl, k1⟩
  have HK1 := hid k1
  clear HSh k1
  go_wp2_with fail
  refine (HSz.out _).mono ?_
  rintro x w2 ⟨rfl, rfl⟩
  have HM2 := hid (HM.out w2 (fun k hk => Nat.lt_of_lt_of_le (HHG.out k hk) HK1.out.size))
  clear HSz HM HHG
  go_wp2_with fail
  refine HM2.out.mono ?_
  rintro x w3 ⟨p, l, sp, bl, bt, D, L, rfl, o3, b3, hsp, k3, a3, t3⟩
  have HS3 : Hid (Spc (fun k => G k ∨ k = sp) w3 sp l (lay n)) := ⟨b3, .inr rfl⟩
  have HO3 := hid o3
  have HK3 := hid (Kp.trans HK1.out k3)
  have HA3 := hid a3
  have HT3 := hid t3
  have HL := hid (Layout_ok HS3.out)
  clear HM2 o3 b3 hsp k3 a3 t3 HK1
  unfold Ly.v Ly.cells at HL
  go_wp2_with fail
  refine HL.out.mono ?_
  rintro x w4 ⟨rfl, f4⟩
  have HF4 := hid f4
  clear HL f4
  have HD0 : Hid (OnD G w (((w4.alloc (.cells #[.int .i64 ((lay n).s : Int), .int .i64 ((lay n).lg : Int), .int .i64 ((lay n).ll : Int), .int .i64 ((lay n).mp : Int), .int .i64 ((lay n).nd : Int), .int .i64 ((lay n).tb : Int), .int .i64 ((lay n).no : Int), .int .i64 ((lay n).da : Int)] 38)).alloc (.cells (Array.replicate n (Value.bool false)) 4)).alloc (.cells (bs zeros).toArray 5)) l p sp w4.heap.size (w4.heap.size + 1) (w4.heap.size + 1 + 1) n c bl bt D L 0) := by
    rw [← List.toArray_replicate]
    have oo := (((HO3.out.nw HF4.out).more (.cells (lay n).cells.toArray 38)).more (.cells (List.replicate n (Value.bool false)).toArray 4)).more (.cells (bs zeros).toArray 5)
    have by4 := ((Blk.new w4 38 (lay n).cells).alloc (.cells (List.replicate n (Value.bool false)).toArray 4)).alloc (.cells (bs zeros).toArray 5)
    have bg4 := (Blk.new1 w4 (.cells (lay n).cells.toArray 38) 4 (List.replicate n (Value.bool false))).alloc (.cells (bs zeros).toArray 5)
    have bd4 := Blk.new1 (w4.alloc (.cells (lay n).cells.toArray 38)) (.cells (List.replicate n (Value.bool false)).toArray 4) 5 (bs zeros)
    have hsz : (w4.alloc (.cells (lay n).cells.toArray 38)).heap.size = w4.heap.size + 1 := by simp
    have hsz2 : ((w4.alloc (.cells (lay n).cells.toArray 38)).alloc (.cells (List.replicate n (Value.bool false)).toArray 4)).heap.size = w4.heap.size + 1 + 1 := by simp
    rw [hsz] at bd4
    rw [hsz, hsz2] at oo
    have sb := (((HS3.out.b.of_eq (HF4.out.block _ HS3.out.b.lt id)).alloc (.cells (lay n).cells.toArray 38)).alloc (.cells (List.replicate n (Value.bool false)).toArray 4)).alloc (.cells (bs zeros).toArray 5)
    refine ⟨oo.less (fun k hk => ?_), ⟨sb, .inr (.inl rfl)⟩, by4, by rw [gv_zeros]; exact bg4, by rw [dirtB_zero]; exact bd4, ?_⟩
    · rcases hk with hk | hk | hk | hk | hk
      · exact .inl (.inl (.inl (.inl hk)))
      · exact .inl (.inl (.inl (.inr hk)))
      · exact .inl (.inl (.inr hk))
      · exact .inl (.inr hk)
      · exact .inr hk
    · exact Kp.trans HK3.out (Nw.kp (show Nw w3 _ from ((HF4.out.alloc _).alloc _).alloc _))
  have Hlt : Hid (sp < w4.heap.size ∧ w.heap.size ≤ w4.heap.size) := ⟨Nat.lt_of_lt_of_le HS3.out.b.lt HF4.out.size, Nat.le_trans HK3.out.size HF4.out.size⟩
  clear HS3 HO3 HK3 HF4
  go_wp2_with fail
  generalize (((w4.alloc (.cells #[.int .i64 ((lay n).s : Int), .int .i64 ((lay n).lg : Int), .int .i64 ((lay n).ll : Int), .int .i64 ((lay n).mp : Int), .int .i64 ((lay n).nd : Int), .int .i64 ((lay n).tb : Int), .int .i64 ((lay n).no : Int), .int .i64 ((lay n).da : Int)] 38)).alloc (.cells (Array.replicate n (Value.bool false)) 4)).alloc (.cells (bs zeros).toArray 5)) = w5 at *
  generalize w4.heap.size = yb at *
  clear w4
  go_loopw [14] (fun i wr => ∃ k : Nat, k ≤ 128 ∧ i = .int .i64 (k : Int) ∧ OnD G w wr l p sp yb (yb + 1) (yb + 1 + 1) n c bl bt D L k) (fun i _ => 128 - (intOf i).toNat)
  case atStart => exact ⟨0, Nat.zero_le _, rfl, HD0.out⟩
  case round =>
    obtain ⟨k, hk128, rfl, hM⟩ := hrel
    have HM := hid hM
    clear hM HD0
    by_cases hlt : k < 128
    · have hk1 : (k : Int) < 128 := by omega
      have hk0 : (0 : Int) ≤ (k : Int) := Int.natCast_nonneg _
      have hc0 : wr.cell? ⟨yb + 1 + 1, k, none⟩ = some (.int .u8 ((dirtB c k).getD k 0).toNat) := by
        rw [HM.out.d.cell]
        have : k < (dirtB c k).length := by simp [dirtB]; omega
        simp [bs, bv, this]
      have hz0 := HM.out.d.frozen k
      have HN := hid (HM.out.next hlt (by have := Hlt.out; omega) (by omega) (by omega) (by have := Hlt.out; omega))
      clear HM
      go_wp2
      exact ⟨⟨k + 1, by omega, by go_num, HN.out⟩, by simp [intOf]; omega⟩
    · obtain rfl : k = 128 := by omega
      have HO0 : Hid (On G w wr l p sp yb (yb + 1) (yb + 1 + 1) n 60000 c bl bt (T0 n) D L zeros) := by
        have h := HM.out
        have hc := gv_le n zeros
        have hn := Hn2.out
        refine ⟨h.o, h.s, { HA3.out with sm := HA3.out.sm.le (by omega) }, ?_, zeros_length, .inl HT3.out, h.y, h.g, by rw [← dirtB_all]; exact h.d, h.kp⟩
        rw [HT3.out]
        have hlay := lay_b n Hn.out.1 Hn.out.2
        show (match get (st3 n) (lay n).mp with | some s => s | none => zeros) = zeros
        simp [st3, Wl.get, show ¬ 0 = (lay n).mp by omega]
      have HBk := hid (Blocks_pl HO0.out.o HO0.out.s HO0.out.a Hn.out.1 Hn.out.2 zeros HO0.out.b)
      rw [frees_zeros] at HBk
      obtain ⟨N, hN⟩ : ∃ N, n - (lay n).da = N := ⟨_, rfl⟩
      rw [hN] at HBk
      have HNn : Hid (N = n - (lay n).da ∧ 0 < N ∧ (lay n).da < n) := by
        have hlay := lay_b n Hn.out.1 Hn.out.2
        unfold Hid; omega
      clear HM HA3 HT3 hN hm48
      generalize wr = w6 at *
      clear wr
      go_wp2_with fail
      refine HBk.out.mono ?_
      rintro x w7 ⟨rfl, o7, k7⟩
      have HE0 : Hid (OnE G w w7 l p sp yb (yb + 1) (yb + 1 + 1) n 60000 c) := ⟨_, _, _, _, _, _, HO0.out.past o7 k7⟩
      clear HBk HO0 o7 k7
      go_wp2_with fail
      go_loopw [17] (fun i wr => ∃ t : Nat, t ≤ 2 ∧ i = .int .i64 (t : Int) ∧ OnE G w wr l p sp yb (yb + 1) (yb + 1 + 1) n (20000 * (3 - t)) c) (fun i _ => 2 - (intOf i).toNat)
      case atStart => exact ⟨0, Nat.zero_le _, rfl, HE0.out⟩
      case round =>
        obtain ⟨t, ht2, rfl, hM⟩ := hrel
        have HM := hid hM
        clear hM HE0
        by_cases hlt : t < 2
        · have ht1 : (t : Int) < 2 := by omega
          have HMm : Hid (3000 ≤ 20000 * (3 - t)) := by unfold Hid; omega
          generalize hMM : 20000 * (3 - t) = M at *
          have HMM := hid hMM
          clear hMM
          generalize wr = w8 at *
          clear wr
          go_wp2_with fail
          go_loopw [] (fun wr => OnE G w wr l p sp yb (yb + 1) (yb + 1 + 1) n M c) (fun wr => cntF (yb + 1) wr)
          case atStart => exact HM.out
          case round =>
            obtain ⟨bl1, bt1, T, D1, L1, B, hM1⟩ := hrel
            have HM1 := hid hM1
            clear hM1 HM
            rcases Block_pl HM1.out.o HM1.out.s HM1.out.a Hn.out.1 Hn.out.2 B HM1.out.b HM1.out.lb with ⟨hall, hC⟩ | ⟨j, j1, j2, hbit, hC⟩
            · have HC := hid hC
              have HMp := hid (fun W o1 k1 => HM1.out.past (w1 := W) o1 k1)
              have Hfr : Hid (frees B (n - (lay n).da) 0 = 0) := frees_none B _ 0 (fun i _ hi => by
                have := hall ((lay n).da + i) (by omega) (by omega)
                rwa [Nat.add_sub_cancel_left] at this)
              clear hC hall HM1
              generalize wr = wq at *
              clear wr
              go_wp2_with fail
              refine HC.out.mono ?_
              rintro x w9 ⟨rfl, o9, k9⟩
              have HO9 := hid (HMp.out w9 o9 k9)
              have HBk := hid (Blocks_pl HO9.out.o HO9.out.s HO9.out.a Hn.out.1 Hn.out.2 B HO9.out.b)
              rw [Hfr.out] at HBk
              clear HC o9 k9 HMp Hfr
              go_wp2_with fail
              refine HBk.out.mono ?_
              rintro x w10 ⟨rfl, o10, k10⟩
              have HE10 : Hid (OnE G w w10 l p sp yb (yb + 1) (yb + 1 + 1) n M c) := ⟨_, _, _, _, _, _, HO9.out.past o10 k10⟩
              clear HBk o10 k10 HO9
              go_wp2_with fail
              go_loopw [24] (fun i wr => ∃ k : Nat, k ≤ len ∧ k ≤ 10 ∧ i = .int .i64 (k : Int) ∧ OnE G w wr l p sp yb (yb + 1) (yb + 1 + 1) n (M - 600 * k) c) (fun i _ => 10 - (intOf i).toNat)
              case atStart => exact ⟨0, Nat.zero_le _, Nat.zero_le _, rfl, HE10.out⟩
              case round =>
                obtain ⟨k, hk, hk10, rfl, hM2⟩ := hrel
                have HM2 := hid hM2
                clear hM2 HE10
                by_cases hgo : k < len ∧ k < 10 ∧ t = 0
                · have hk1 : (k : Int) < (len : Int) := by omega
                  have hk2 : (k : Int) < 10 := by omega
                  have hk0 : (0 : Int) ≤ (k : Int) := Int.natCast_nonneg _
                  obtain rfl : t = 0 := hgo.2.2
                  obtain ⟨b1, b2, T3, D3, L3, B3, h3⟩ := HM2.out
                  obtain ⟨lb, lo, x, rfl, hx, hxb, hg, hlb⟩ := HA.out k hgo.1
                  have cx : wr.cell? ⟨lb, lo + k, none⟩ = some (.int .i64 x) := by
                    have := h3.kp.block lb hlb (fun hn => hn hg)
                    simp only [World.cell?, this] at hx ⊢
                    exact hx
                  obtain ⟨q, hq⟩ : ∃ q : Nat, (q : Int) = (if x < 0 then -(x + 1) else x) := by
                    split
                    · exact ⟨(-(x + 1)).toNat, by omega⟩
                    · exact ⟨x.toNat, by omega⟩
                  obtain ⟨r, hr⟩ : ∃ r, q % N = r := ⟨_, rfl⟩
                  have hNN := HNn.out
                  have hrN : r < N := by rw [← hr]; exact Nat.mod_lt _ hNN.2.1
                  have hn0 : ((N : Int) == 0) = false := by simp; omega
                  have hn1 : ¬ (N : Int) = 0 := by omega
                  have hn3 : ¬ (N : Int) = -1 := by omega
                  have Hr1 : Hid ((q : Int).tmod (N : Int) = (r : Int)) := by unfold Hid; rw [← hr]; rfl
                  obtain ⟨kk, hkk⟩ : ∃ kk, (lay n).da + r = kk := ⟨_, rfl⟩
                  have Hsum : Hid (wrap64 (((lay n).da : Int) + (r : Int)) = (kk : Int)) := by
                    have := Hn.out.2
                    unfold Hid wrap64; omega
                  have Hkk : Hid ((lay n).da ≤ kk ∧ kk < n) := by unfold Hid; omega
                  have hkk0 : (0 : Int) ≤ (kk : Int) := Int.natCast_nonneg _
                  have hkk1 : (kk : Int) < (n : Int) := by have := Hkk.out; omega
                  have cy : wr.cell? ⟨yb, 7, none⟩ = some (.int .i64 ((lay n).da : Int)) := h3.y.cell 7
                  have HHs := hid (fun m => Has_ai (h3.o.nw ((Fr.refl _ wr).drewN m)) (h3.s.kp (show Kp (OnG G sp yb (yb + 1) (yb + 1 + 1)) wr (wr.drewN m) from (Fr.refl _ wr).drewN m)) h3.a Hn.out.1 Hn.out.2 (kk : Int))
                  rw [h3.b] at HHs
                  have Hhb : Hid (hasB n B3 (kk : Int) = bitOf B3 (kk - (lay n).da)) := by
                    unfold Hid hasB
                    have := Hkk.out
                    rw [if_pos (by omega), show ((kk : Int) - ((lay n).da : Int)).toNat = kk - (lay n).da by omega]
                  rw [Hhb.out] at HHs
                  have HO3 := hid h3
                  have Hgl := hid (gv_length n B3)
                  have Hm6 : Hid (M - 600 * (k + 1) + 600 ≤ M - 600 * k) := by have := HMM.out; unfold Hid; omega
                  clear hx hg hlb h3 HM2 hr hkk hNN hrN Hhb
                  cases hbit : bitOf B3 (kk - (lay n).da) with
                  | false =>
                    rw [hbit] at HHs
                    have HFr := hid (fun W o1 k1 => Free_not (w := W) o1 ((HO3.out.past (w1 := W) o1 k1).s) HO3.out.a Hn.out.1 Hn.out.2 kk Hkk.out.1 Hkk.out.2 B3 HO3.out.b hbit)
                    have HNx := hid (fun W o1 k1 => (HO3.out.past (w1 := W) o1 k1).keep kk Hkk.out.2 hbit (by have := Hlt.out; omega) (by omega) (by omega) (by have := Hlt.out; omega))
                    by_cases hx0 : x < 0
                    · rw [if_pos hx0] at hq
                      obtain rfl : x = -(q : Int) - 1 := by omega
                      have Harg : Hid (wrap64 (((lay n).da : Int) + (wrap64 (-wrap64 (-(q : Int)))).tmod (N : Int)) = (kk : Int)) := by
                        have e1 : wrap64 (-(q : Int)) = -(q : Int) := by unfold wrap64; omega
                        have e2 : wrap64 (q : Int) = (q : Int) := by unfold wrap64; omega
                        unfold Hid
                        rw [e1, Int.neg_neg, e2, Hr1.out, Hsum.out]
                      clear hq hxb
                      go_wp2_with fail
                      go_quiet (fail)
                      go_wp2_with fail
                      rw [Harg.out]
                      refine (HHs.out _).mono ?_
                      rintro y w11 ⟨rfl, o11, k11'⟩
                      have k11 := Kp.trans (show Kp (OnG G sp yb (yb + 1) (yb + 1 + 1)) wr (wr.drewN _) from (Fr.refl _ wr).drewN _) k11'
                      clear k11'
                      have HF11 := hid (HFr.out w11 o11 k11)
                      have HK11 := hid k11
                      clear HHs HFr o11 k11
                      go_wp2_with fail
                      refine HF11.out.mono ?_
                      rintro y w12 ⟨rfl, o12, k12⟩
                      have kk12 := Kp.trans HK11.out k12
                      have HOn := hid (HNx.out w12 o12 kk12)
                      have cg : w12.cell? ⟨yb + 1, kk, none⟩ = some (.bool (decide ((lay n).da ≤ kk) && bitOf B3 (kk - (lay n).da))) := by
                        rw [(Kp.blk kk12 HO3.out.g (.inr (.inr (.inr (.inl rfl))))).cell]; exact gv_get n B3 kk Hkk.out.2
                      have zg := (Kp.blk kk12 HO3.out.g (.inr (.inr (.inr (.inl rfl))))).frozen kk
                      clear HF11 HK11 o12 k12 kk12 HNx HO3
                      generalize (decide ((lay n).da ≤ kk) && bitOf B3 (kk - (lay n).da)) = old at *
                      go_wp2
                      exact ⟨⟨_, _, _, _, _, _, _, _, _, _, _, _, _, _, _, _, _, _, _, _, _, _, _, _, _, _, _, _, _, _, _, _, _, _, _, _, _, _, _, _, _, _, _, _, _, _, _, _, _, _, _, _, _, _, _, _, _, _, _, ⟨k + 1, by omega, by omega, by go_num, ⟨_, _, _, _, _, _, HOn.out.less (by have := Hm6.out; omega)⟩⟩, rfl⟩, by simp [intOf]; omega⟩
                    · rw [if_neg hx0] at hq
                      obtain rfl : (q : Int) = x := hq
                      have Harg : Hid (wrap64 (((lay n).da : Int) + (q : Int) % (N : Int)) = (kk : Int)) := by
                        unfold Hid
                        have e : (q : Int) % (N : Int) = (q : Int).tmod (N : Int) := rfl
                        rw [e, Hr1.out, Hsum.out]
                      clear hxb
                      go_wp2_with fail
                      go_quiet (fail)
                      go_wp2_with fail
                      rw [Harg.out]
                      refine (HHs.out _).mono ?_
                      rintro y w11 ⟨rfl, o11, k11'⟩
                      have k11 := Kp.trans (show Kp (OnG G sp yb (yb + 1) (yb + 1 + 1)) wr (wr.drewN _) from (Fr.refl _ wr).drewN _) k11'
                      clear k11'
                      have HF11 := hid (HFr.out w11 o11 k11)
                      have HK11 := hid k11
                      clear HHs HFr o11 k11
                      go_wp2_with fail
                      refine HF11.out.mono ?_
                      rintro y w12 ⟨rfl, o12, k12⟩
                      have kk12 := Kp.trans HK11.out k12
                      have HOn := hid (HNx.out w12 o12 kk12)
                      have cg : w12.cell? ⟨yb + 1, kk, none⟩ = some (.bool (decide ((lay n).da ≤ kk) && bitOf B3 (kk - (lay n).da))) := by
                        rw [(Kp.blk kk12 HO3.out.g (.inr (.inr (.inr (.inl rfl))))).cell]; exact gv_get n B3 kk Hkk.out.2
                      have zg := (Kp.blk kk12 HO3.out.g (.inr (.inr (.inr (.inl rfl))))).frozen kk
                      clear HF11 HK11 o12 k12 kk12 HNx HO3
                      generalize (decide ((lay n).da ≤ kk) && bitOf B3 (kk - (lay n).da)) = old at *
                      go_wp2
                      exact ⟨⟨_, _, _, _, _, _, _, _, _, _, _, _, _, _, _, _, _, _, _, _, _, _, _, _, _, _, _, _, _, _, _, _, _, _, _, _, _, _, _, _, _, _, _, _, _, _, _, _, _, _, _, _, _, _, _, _, _, _, _, ⟨k + 1, by omega, by omega, by go_num, ⟨_, _, _, _, _, _, HOn.out.less (by have := Hm6.out; omega)⟩⟩, rfl⟩, by simp [intOf]; omega⟩
                  | true =>
                    rw [hbit] at HHs
                    have HFr := hid (fun W o1 k1 => Free_pl (w := W) o1 ((HO3.out.past (w1 := W) o1 k1).s) HO3.out.a Hn.out.1 Hn.out.2 kk Hkk.out.1 Hkk.out.2 B3 HO3.out.b HO3.out.lb hbit (by have := HO3.out.len; have := lay_ll n Hn.out.2; unfold cost; omega))
                    have HNx := hid (fun W L' o1 k1 a1 hst => HO3.out.free (w1 := W) (L' := L') (M' := M - 600 * (k + 1)) o1 k1 a1 kk Hkk.out.1 Hkk.out.2 Hn.out.2 hbit hst Hm6.out (by have := Hlt.out; omega) (by omega) (by omega) (by have := Hlt.out; omega))
                    by_cases hx0 : x < 0
                    · rw [if_pos hx0] at hq
                      obtain rfl : x = -(q : Int) - 1 := by omega
                      have Harg : Hid (wrap64 (((lay n).da : Int) + (wrap64 (-wrap64 (-(q : Int)))).tmod (N : Int)) = (kk : Int)) := by
                        have e1 : wrap64 (-(q : Int)) = -(q : Int) := by unfold wrap64; omega
                        have e2 : wrap64 (q : Int) = (q : Int) := by unfold wrap64; omega
                        unfold Hid
                        rw [e1, Int.neg_neg, e2, Hr1.out, Hsum.out]
                      clear hq hxb
                      go_wp2_with fail
                      go_quiet (fail)
                      go_wp2_with fail
                      rw [Harg.out]
                      refine (HHs.out _).mono ?_
                      rintro y w11 ⟨rfl, o11, k11'⟩
                      have k11 := Kp.trans (show Kp (OnG G sp yb (yb + 1) (yb + 1 + 1)) wr (wr.drewN _) from (Fr.refl _ wr).drewN _) k11'
                      clear k11'
                      obtain ⟨L11, c11, a11, t11⟩ := HFr.out w11 o11 k11
                      have HF11 := hid c11
                      have HA11 := hid a11
                      have HT11 := hid t11
                      have HK11 := hid k11
                      clear HHs HFr o11 k11 c11 a11 t11
                      go_wp2_with fail
                      refine HF11.out.mono ?_
                      rintro y w12 ⟨rfl, o12, k12⟩
                      have kk12 := Kp.trans HK11.out k12
                      have HOn := hid (HNx.out w12 L11 o12 kk12 HA11.out HT11.out)
                      have cg : w12.cell? ⟨yb + 1, kk, none⟩ = some (.bool (decide ((lay n).da ≤ kk) && bitOf B3 (kk - (lay n).da))) := by
                        rw [(Kp.blk kk12 HO3.out.g (.inr (.inr (.inr (.inl rfl))))).cell]; exact gv_get n B3 kk Hkk.out.2
                      have zg := (Kp.blk kk12 HO3.out.g (.inr (.inr (.inr (.inl rfl))))).frozen kk
                      clear HF11 HK11 o12 k12 kk12 HNx HO3 HA11 HT11
                      generalize (decide ((lay n).da ≤ kk) && bitOf B3 (kk - (lay n).da)) = old at *
                      go_wp2
                      exact ⟨⟨_, _, _, _, _, _, _, _, _, _, _, _, _, _, _, _, _, _, _, _, _, _, _, _, _, _, _, _, _, _, _, _, _, _, _, _, _, _, _, _, _, _, _, _, _, _, _, _, _, _, _, _, _, _, _, _, _, _, _, ⟨k + 1, by omega, by omega, by go_num, ⟨_, _, _, _, _, _, HOn.out⟩⟩, rfl⟩, by simp [intOf]; omega⟩
                    · rw [if_neg hx0] at hq
                      obtain rfl : (q : Int) = x := hq
                      have Harg : Hid (wrap64 (((lay n).da : Int) + (q : Int) % (N : Int)) = (kk : Int)) := by
                        unfold Hid
                        have e : (q : Int) % (N : Int) = (q : Int).tmod (N : Int) := rfl
                        rw [e, Hr1.out, Hsum.out]
                      clear hxb
                      go_wp2_with fail
                      go_quiet (fail)
                      go_wp2_with fail
                      rw [Harg.out]
                      refine (HHs.out _).mono ?_
                      rintro y w11 ⟨rfl, o11, k11'⟩
                      have k11 := Kp.trans (show Kp (OnG G sp yb (yb + 1) (yb + 1 + 1)) wr (wr.drewN _) from (Fr.refl _ wr).drewN _) k11'
                      clear k11'
                      obtain ⟨L11, c11, a11, t11⟩ := HFr.out w11 o11 k11
                      have HF11 := hid c11
                      have HA11 := hid a11
                      have HT11 := hid t11
                      have HK11 := hid k11
                      clear HHs HFr o11 k11 c11 a11 t11
                      go_wp2_with fail
                      refine HF11.out.mono ?_
                      rintro y w12 ⟨rfl, o12, k12⟩
                      have kk12 := Kp.trans HK11.out k12
                      have HOn := hid (HNx.out w12 L11 o12 kk12 HA11.out HT11.out)
                      have cg : w12.cell? ⟨yb + 1, kk, none⟩ = some (.bool (decide ((lay n).da ≤ kk) && bitOf B3 (kk - (lay n).da))) := by
                        rw [(Kp.blk kk12 HO3.out.g (.inr (.inr (.inr (.inl rfl))))).cell]; exact gv_get n B3 kk Hkk.out.2
                      have zg := (Kp.blk kk12 HO3.out.g (.inr (.inr (.inr (.inl rfl))))).frozen kk
                      clear HF11 HK11 o12 k12 kk12 HNx HO3 HA11 HT11
                      generalize (decide ((lay n).da ≤ kk) && bitOf B3 (kk - (lay n).da)) = old at *
                      go_wp2
                      exact ⟨⟨_, _, _, _, _, _, _, _, _, _, _, _, _, _, _, _, _, _, _, _, _, _, _, _, _, _, _, _, _, _, _, _, _, _, _, _, _, _, _, _, _, _, _, _, _, _, _, _, _, _, _, _, _, _, _, _, _, _, _, ⟨k + 1, by omega, by omega, by go_num, ⟨_, _, _, _, _, _, HOn.out⟩⟩, rfl⟩, by simp [intOf]; omega⟩
                · have hcase : ((k : Int) < (len : Int) ∧ (k : Int) < 10 ∧ ((t : Int) == 0) = false) ∨ ((k : Int) < (len : Int) ∧ ¬ (k : Int) < 10) ∨ ¬ (k : Int) < (len : Int) := by
                    by_cases g1 : k < len
                    · by_cases g2 : k < 10
                      · refine .inl ⟨by omega, by omega, ?_⟩
                        have : ¬ (t : Int) = 0 := by omega
                        simpa using this
                      · exact .inr (.inl ⟨by omega, by omega⟩)
                    · exact .inr (.inr (by omega))
                  have HEn : Hid (OnE G w wr l p sp yb (yb + 1) (yb + 1 + 1) n (20000 * (3 - (t + 1))) c) := by
                    obtain ⟨b1, b2, b3, b4, b5, b6, h⟩ := HM2.out
                    exact ⟨b1, b2, b3, b4, b5, b6, h.less (by have := HMM.out; omega)⟩
                  clear HM2 hgo
                  rcases hcase with ⟨g1, g2, g3⟩ | ⟨g1, g2⟩ | g1
                  all_goals
                    go_wp2
                    exact ⟨⟨t + 1, by omega, by go_num, HEn.out⟩, by simp [intOf]; omega⟩
            · obtain ⟨L2, hC2, a2, t2⟩ := hC (by have := HM1.out.len; have := lay_ll n Hn.out.2; unfold cost; omega)
              have HC2 := hid hC2
              have HSt := hid (fun W o1 k1 => HM1.out.gave (w1 := W) o1 k1 a2 j1 j2 Hn.out.1 Hn.out.2 hbit t2 (by have := Hlt.out; omega) (by omega) (by omega) (by have := Hlt.out; omega))
              have Hcw : Hid (cntF (yb + 1) wr = (gv n (flipB B (j - (lay n).da))).countP isF + 1) := by
                unfold Hid
                rw [cntF_blk HM1.out.g, gv_cnt n B HM1.out.lb j j1 j2 Hn.out.2 hbit]
              have HY := hid HM1.out.y
              have HGb := hid HM1.out.g
              have Hj := hid (show (lay n).da ≤ j ∧ j < n from ⟨j1, j2⟩)
              have hj0 : (0 : Int) ≤ (j : Int) := Int.natCast_nonneg _
              have hj1 : ¬ (j : Int) < ((lay n).da : Int) := by omega
              have hj2 : ¬ (j : Int) ≥ (n : Int) := by omega
              have hj3 : (j : Int) < (n : Int) := by omega
              have Hgj : Hid ((gv n B)[j]? = some (.bool false)) := by unfold Hid; rw [gv_get n B j j2, hbit]; simp
              clear hC hC2 a2 t2 j1 j2
              go_wp2_with fail
              refine HC2.out.mono ?_
              rintro x w9 ⟨rfl, o9, k9⟩
              have cy : w9.cell? ⟨yb, 7, none⟩ = some (.int .i64 ((lay n).da : Int)) := (Kp.blk k9 HY.out (.inr (.inr (.inl rfl)))).cell 7
              have cg : w9.cell? ⟨yb + 1, j, none⟩ = some (.bool false) := by rw [(Kp.blk k9 HGb.out (.inr (.inr (.inr (.inl rfl))))).cell]; exact Hgj.out
              have zg := (Kp.blk k9 HGb.out (.inr (.inr (.inr (.inl rfl))))).frozen j
              have HS9 := hid (HSt.out w9 o9 k9)
              clear HC2 o9 k9 HSt HM1 HY HGb Hgj
              have HRd := hid (HS9.out.read Hn.out.1 Hn.out.2)
              go_wp2_with fail
              refine HRd.out.mono ?_
              rintro x w10 ⟨g, tg, rfl, bg, hgg, f10⟩
              have HS10 := hid (HS9.out.more f10 g hgg bg.lt)
              have HBg := hid bg
              have Hcv : Hid (∀ W, Blk W g tg (bs zeros) → (convert 49 9 (.slice (some ⟨g, 0, none⟩) 128 128)).run Tryz.prog W = .ok (.string (strB zeros)) W) := fun W b => conv_blk zeros b 128 128 zeros_length
              have hcv0 : (convert 49 9 (.slice (some ⟨g, 0, none⟩) 128 128)).run Tryz.prog w10.drew = .ok (.string (strB zeros)) w10.drew := Hcv.out _ HBg.out.drew
              have hcv1 : (convert 49 9 (.slice (some ⟨g, 0, none⟩) 128 128)).run Tryz.prog (w10.alloc (.cells (bs zeros).toArray 5)).drew = .ok (.string (strB zeros)) (w10.alloc (.cells (bs zeros).toArray 5)).drew := Hcv.out _ (HBg.out.alloc _).drew
              have hcn : (convert 49 9 (.slice (some ⟨w10.heap.size, 0, none⟩) 128 128)).run Tryz.prog (w10.alloc (.cells (bs zeros).toArray 5)).drew = .ok (.string (strB zeros)) (w10.alloc (.cells (bs zeros).toArray 5)).drew := conv_blk zeros (Blk.new w10 5 (bs zeros)).drew 128 128 zeros_length
              have HS11 : Hid (OnS (fun k => G k ∨ k = g) w (w10.alloc (.cells (bs zeros).toArray 5)).drew l p sp yb (yb + 1) (yb + 1 + 1) n M c bl1 bt1 T D1 L2 _ j) := HS10.out.past (((Fr.refl _ w10).alloc _).drew)
              have HStg := hid (HS11.out.stage Hn.out.1 Hn.out.2)
              have Hcg : Hid (∀ W, Kp (OnG (fun k => G k ∨ k = g) sp yb (yb + 1) (yb + 1 + 1)) (w10.alloc (.cells (bs zeros).toArray 5)).drew W → (convert 49 9 (.slice (some ⟨g, 0, none⟩) 128 128)).run Tryz.prog W = .ok (.string (strB zeros)) W) := fun W k => Hcv.out _ (Kp.blk k (HBg.out.alloc _).drew (.inl (.inr rfl)))
              have Hcc : Hid (∀ W W', Kp (OnG (fun k => G k ∨ k = g) sp yb (yb + 1) (yb + 1 + 1)) (w10.alloc (.cells (bs zeros).toArray 5)).drew W → Kp (OnG (fun k => G k ∨ k = g) sp yb (yb + 1) (yb + 1 + 1)) W W' → (convert 49 9 (.slice (some ⟨g, 0, none⟩) 128 128)).run Tryz.prog W' = .ok (.string (strB zeros)) W') := fun W W' k k' => Hcv.out _ (Kp.blk (Kp.trans k k') (HBg.out.alloc _).drew (.inl (.inr rfl)))
              clear HRd bg hgg f10 HS9 cy cg zg HBg HS10 Hcv
              generalize strB zeros = SZ at *
              go_wp2_with fail
              refine wp_region_noPanic ?_
              refine wp_region_held_drew (S := fun w' => (convert 49 9 (.slice (some ⟨g, 0, none⟩) 128 128)).run Tryz.prog w' = .ok (.string SZ) w') (by kernel_rfl) hcv0 (fun hHeld => ?_)
              refine takeH (i := 0) (d := some 103) (.int .i64 0) rfl (by kernel_rfl) (by kernel_rfl) (by kernel_rfl) (fun _ _ _ _ h => h) hcv0 (fun o ho => by cases ho; exact .inl ⟨by rfl, fun w hSw => by go_simp⟩) ?_
              simp only [Act.put, List.setIfInBounds_toArray, List.set_cons_zero, List.set_cons_succ]
              refine takeH (i := 1) (d := some 104) (.bool false) rfl (by kernel_rfl) (by kernel_rfl) (by kernel_rfl) (fun _ _ _ _ h => h) hcv0 (fun o ho => by cases ho; exact .inl ⟨by rfl, fun w hSw => by go_simp⟩) ?_
              simp only [Act.put, List.setIfInBounds_toArray, List.set_cons_zero, List.set_cons_succ]
              refine takeH (i := 2) (d := some 105) (.bool false) rfl (by kernel_rfl) (by kernel_rfl) (by kernel_rfl) (fun _ _ _ _ h => h) hcv0 (fun o ho => by cases ho; exact .inl ⟨by rfl, fun w hSw => by go_simp⟩) ?_
              simp only [Act.put, List.setIfInBounds_toArray, List.set_cons_zero, List.set_cons_succ]
              refine takeH (i := 3) (d := some 106) (.slice (some ⟨g, 0, none⟩) 128 128) rfl (by kernel_rfl) (by kernel_rfl) (by kernel_rfl) (fun _ _ _ _ h => h) hcv0 (fun o ho => by cases ho; exact .inl ⟨by rfl, fun w hSw => by go_simp⟩) ?_
              simp only [Act.put, List.setIfInBounds_toArray, List.set_cons_zero, List.set_cons_succ]
              refine takeH (i := 4) (d := some 107) (.string SZ) rfl (by kernel_rfl) (by kernel_rfl) (by kernel_rfl) (fun _ _ _ _ h => h) hcv0 (fun o ho => by cases ho; exact .inl ⟨by rfl, fun w hSw => by go_simp⟩) ?_
              simp only [Act.put, List.setIfInBounds_toArray, List.set_cons_zero, List.set_cons_succ]
              refine oneH (i := 5) (by kernel_rfl) (fun o ho K' hK => ?_) (by decide)
              cases ho
              rw [if_pos (by rfl)]
              go_simp
              refine hK.out _ _ hcv1 ?_
              clear hK K'
              try simp only [Act.put, List.setIfInBounds_toArray, List.set_cons_zero, List.set_cons_succ]
              refine oneH (i := 6) (by kernel_rfl) (fun o ho K' hK => ?_) (by decide)
              cases ho
              rw [if_pos (by rfl)]
              go_simp
              refine hK.out _ _ hcv1 ?_
              clear hK K'
              try simp only [Act.put, List.setIfInBounds_toArray, List.set_cons_zero, List.set_cons_succ]
              refine takeH (i := 7) (d := some 110) (.bool false) rfl (by kernel_rfl) (by kernel_rfl) (by kernel_rfl) (fun _ _ _ _ h => h) hcv1 (fun o ho => by cases ho; exact .inl ⟨by rfl, fun w hSw => by go_simp⟩) ?_
              simp only [Act.put, List.setIfInBounds_toArray, List.set_cons_zero, List.set_cons_succ]
              refine takeH (i := 8) (d := some 111) (.bool false) rfl (by kernel_rfl) (by kernel_rfl) (by kernel_rfl) (fun _ _ _ _ h => h) hcv1 (fun o ho => by cases ho; exact .inl ⟨by rfl, fun w hSw => by go_simp⟩) ?_
              simp only [Act.put, List.setIfInBounds_toArray, List.set_cons_zero, List.set_cons_succ]
              refine takeH (i := 9) (d := some 112) (.bool false) rfl (by kernel_rfl) (by kernel_rfl) (by kernel_rfl) (fun _ _ _ _ h => h) hcv1 (fun o ho => by cases ho; exact .inl ⟨by rfl, fun w hSw => by go_simp⟩) ?_
              simp only [Act.put, List.setIfInBounds_toArray, List.set_cons_zero, List.set_cons_succ]
              refine takeH (i := 10) (d := some 113) (pv l) rfl (by kernel_rfl) (by kernel_rfl) (by kernel_rfl) (fun _ _ _ _ h => h) hcv1 (fun o ho => by cases ho; exact .inl ⟨by rfl, fun w hSw => by go_simp⟩) ?_
              simp only [Act.put, List.setIfInBounds_toArray, List.set_cons_zero, List.set_cons_succ]
              refine takeH (i := 11) (d := some 114) (.int .i64 (j : Int)) rfl (by kernel_rfl) (by kernel_rfl) (by kernel_rfl) (fun _ _ _ _ h => h) hcv1 (fun o ho => by cases ho; exact .inl ⟨by rfl, fun w hSw => by go_simp⟩) ?_
              simp only [Act.put, List.setIfInBounds_toArray, List.set_cons_zero, List.set_cons_succ]
              refine takeH (i := 12) (d := some 115) (.slice (some ⟨yb + 1 + 1, 0, none⟩) 128 128) rfl (by kernel_rfl) (by kernel_rfl) (by kernel_rfl) (fun _ _ _ _ h => h) hcv1 (fun o ho => by cases ho; exact .inl ⟨by rfl, fun w hSw => by go_simp⟩) ?_
              simp only [Act.put, List.setIfInBounds_toArray, List.set_cons_zero, List.set_cons_succ]
              refine oneH (i := 13) (by kernel_rfl) (fun o ho K' hK => ?_) (by decide)
              cases ho
              rw [if_pos (by rfl)]
              go_simp
              refine HStg.out.mono ?_
              rintro x w12 ⟨rfl, o12, k12⟩
              have hcv2 := Hcg.out w12 k12
              have HKk := hid k12
              have HCo := hid (HS11.out.commit o12 k12 Hn.out.1 Hn.out.2 HMm.out)
              clear o12 k12
              refine hK.out _ _ hcv2 ?_
              clear hK K'
              try simp only [Act.put, List.setIfInBounds_toArray, List.set_cons_zero, List.set_cons_succ]
              refine takeH (i := 14) (d := some 117) (.bool false) rfl (by kernel_rfl) (by kernel_rfl) (by kernel_rfl) (fun _ _ _ _ h => h) hcv2 (fun o ho => by cases ho; exact .inl ⟨by rfl, fun w hSw => by go_simp⟩) ?_
              simp only [Act.put, List.setIfInBounds_toArray, List.set_cons_zero, List.set_cons_succ]
              refine takeH (i := 15) (d := some 118) (.bool false) rfl (by kernel_rfl) (by kernel_rfl) (by kernel_rfl) (fun _ _ _ _ h => h) hcv2 (fun o ho => by cases ho; exact .inl ⟨by rfl, fun w hSw => by go_simp⟩) ?_
              simp only [Act.put, List.setIfInBounds_toArray, List.set_cons_zero, List.set_cons_succ]
              refine takeH (i := 16) (d := some 119) (.bool false) rfl (by kernel_rfl) (by kernel_rfl) (by kernel_rfl) (fun _ _ _ _ h => h) hcv2 (fun o ho => by cases ho; exact .inl ⟨by rfl, fun w hSw => by go_simp⟩) ?_
              simp only [Act.put, List.setIfInBounds_toArray, List.set_cons_zero, List.set_cons_succ]
              refine takeH (i := 17) (d := some 120) (pv l) rfl (by kernel_rfl) (by kernel_rfl) (by kernel_rfl) (fun _ _ _ _ h => h) hcv2 (fun o ho => by cases ho; exact .inl ⟨by rfl, fun w hSw => by go_simp⟩) ?_
              simp only [Act.put, List.setIfInBounds_toArray, List.set_cons_zero, List.set_cons_succ]
              refine oneH (i := 18) (by kernel_rfl) (fun o ho K' hK => ?_) (by decide)
              cases ho
              rw [if_pos (by rfl)]
              go_simp
              refine HCo.out.mono ?_
              rintro x w13 ⟨rfl, ⟨bl13, bt13, T13, D13, L13, on13⟩, k13⟩
              have hcv3 := Hcc.out w12 w13 HKk.out k13
              have HOn := hid on13.lessG
              clear on13 k13
              refine hK.out _ _ hcv3 ?_
              clear hK K'
              try simp only [Act.put, List.setIfInBounds_toArray, List.set_cons_zero, List.set_cons_succ]
              refine takeH (i := 19) (d := some 122) (.bool false) rfl (by kernel_rfl) (by kernel_rfl) (by kernel_rfl) (fun _ _ _ _ h => h) hcv3 (fun o ho => by cases ho; exact .inl ⟨by rfl, fun w hSw => by go_simp⟩) ?_
              simp only [Act.put, List.setIfInBounds_toArray, List.set_cons_zero, List.set_cons_succ]
              refine takeH (i := 20) (d := some 123) (.bool false) rfl (by kernel_rfl) (by kernel_rfl) (by kernel_rfl) (fun _ _ _ _ h => h) hcv3 (fun o ho => by cases ho; exact .inl ⟨by rfl, fun w hSw => by go_simp⟩) ?_
              simp only [Act.put, List.setIfInBounds_toArray, List.set_cons_zero, List.set_cons_succ]
              refine wpAnyH_done (by kernel_rfl) (NoPanic.normal ?_) _
              go_wp2
              exact ⟨⟨_, _, _, _, _, _, HOn.out⟩, by rw [Hcw.out, cntF_blk HOn.out.g]; omega⟩
        · obtain rfl : t = 2 := by omega
          obtain ⟨b1, b2, b3, b4, b5, b6, h⟩ := HM.out
          have cy : wr.cell? ⟨yb, 7, none⟩ = some (.int .i64 ((lay n).da : Int)) := h.y.cell 7
          have HK := hid h.kp
          have hN := HNn.out
          have hsub : IntKind.i64.wrap ((n : Int) - ((lay n).da : Int)) = (N : Int) := by
            have := Hn.out.2
            simp [IntKind.wrap, IntKind.bits, IntKind.signed]; omega
          clear HM h hN
          go_wp2
          go_ret
          exact ⟨by simp, HK.out⟩

end Go.Proofs.YtehoiahgkbnjdaaGreat.Al
