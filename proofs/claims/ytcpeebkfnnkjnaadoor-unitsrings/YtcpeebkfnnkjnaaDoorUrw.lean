/- UnitsRings, walked. -/
import Derived.Test.YtcpeebkfnnkjnaaDoorUsh
import Derived.Test.YtcpeebkfnnkjnaaDoorUrp
import Derived.Deep.DeepCutAuto
namespace Go.Proofs.YtcpeebkfnnkjnaaDoor.Tr
open Go.RowKit Go.Maps

def I64 (z : Int) : Prop := -9223372036854775808 ≤ z ∧ z ≤ 9223372036854775807

theorem conv1 : ∃ f : World → Nat → Result Value, ∀ (W : World) (b : Nat), (convert 38 9 (.slice (some ⟨b, 0, none⟩) 1 1)).run Tryd.prog W = match W.cell? ⟨b, 0, none⟩ with
    | some (.int .u8 z) => .ok (.string ⟨#[UInt8.ofNat z.toNat]⟩) W
    | _ => f W b := by
  refine ⟨fun W b => (convert 38 9 (.slice (some ⟨b, 0, none⟩) 1 1)).run Tryd.prog W, fun W b => ?_⟩
  split
  · rename_i z hc
    rw [run_convert_bytes_string W 38 9 5 (some ⟨b, 0, none⟩) 1 1 Tryd.underlying38 Tryd.underlying5 Tryd.underlying9]
    rw [run_bytesToString W ⟨b, 0, none⟩ 1 1 [z] (run_loadCells_list (P := Tryd.prog) W ⟨b, 0, none⟩ [.int .u8 z] (fun j v hj => by
      obtain rfl : j = 0 := by
        have := (List.getElem?_eq_some_iff.1 hj).1
        simpa using this
      simp at hj
      subst hj
      simpa [Addr.add] using hc))]
    rfl
  · rfl

theorem al_fr (w : World) (a b c d : Obj) : Fr (fun _ => False) w ((((w.alloc a).alloc b).alloc c).alloc d).drew := ((((Fr.refl _ w).alloc a).alloc b).alloc c).alloc d |>.drew
theorem al0 (w : World) (t : TypeId) (xs : Array Value) (b c d : Obj) : Blk ((((w.alloc (.cells xs t)).alloc b).alloc c).alloc d).drew w.heap.size t xs.toList := (((Blk.new w t xs.toList).alloc b).alloc c).alloc d
theorem al1 (w : World) (t : TypeId) (xs : Array Value) (a c d : Obj) : Blk ((((w.alloc a).alloc (.cells xs t)).alloc c).alloc d).drew (w.heap.size + 1) t xs.toList := by
  have := ((Blk.new (w.alloc a) t xs.toList).alloc c).alloc d
  rw [World.size_alloc] at this
  exact this
theorem al2 (w : World) (t : TypeId) (xs : Array Value) (a b d : Obj) : Blk ((((w.alloc a).alloc b).alloc (.cells xs t)).alloc d).drew (w.heap.size + 1 + 1) t xs.toList := by
  have := (Blk.new ((w.alloc a).alloc b) t xs.toList).alloc d
  rw [World.size_alloc, World.size_alloc] at this
  exact this
theorem al3 (w : World) (t : TypeId) (xs : Array Value) (a b c : Obj) : Blk ((((w.alloc a).alloc b).alloc c).alloc (.cells xs t)).drew (w.heap.size + 1 + 1 + 1) t xs.toList := by
  have := Blk.new (((w.alloc a).alloc b).alloc c) t xs.toList
  rw [World.size_alloc, World.size_alloc, World.size_alloc] at this
  exact this
theorem bl0 {w : World} {t : TypeId} {xs : Array Value} {b c d : Obj} {k : Nat} (h : k = w.heap.size) : Blk ((((w.alloc (.cells xs t)).alloc b).alloc c).alloc d).drew k t xs.toList := by subst h; exact al0 w t xs b c d
theorem bl1 {w : World} {t : TypeId} {xs : Array Value} {b c d : Obj} {k : Nat} (h : k = w.heap.size + 1) : Blk ((((w.alloc b).alloc (.cells xs t)).alloc c).alloc d).drew k t xs.toList := by subst h; exact al1 w t xs b c d
theorem bl2 {w : World} {t : TypeId} {xs : Array Value} {b c d : Obj} {k : Nat} (h : k = w.heap.size + 2) : Blk ((((w.alloc b).alloc c).alloc (.cells xs t)).alloc d).drew k t xs.toList := by subst h; exact al2 w t xs b c d
theorem bl3 {w : World} {t : TypeId} {xs : Array Value} {b c d : Obj} {k : Nat} (h : k = w.heap.size + 3) : Blk ((((w.alloc b).alloc c).alloc d).alloc (.cells xs t)).drew k t xs.toList := by subst h; exact al3 w t xs b c d
/-- A unit of a ring, in a block of its own. -/
def RU (wr W : World) (ub g : Nat) (a b : Nm) : Prop := Fr (fun _ => False) wr W ∧ wr.heap.size ≤ ub ∧ wr.heap.size ≤ g ∧ Blk W ub 32 [.string ⟨a.toArray⟩, .string ⟨#[]⟩, .slice none 0 0, .slice (some ⟨g, 0, none⟩) 1 1] ∧ Blk W g 9 [.string ⟨b.toArray⟩]
theorem cat1 (x y : UInt8) : (ByteArray.mk #[x] ++ ByteArray.mk #[y]) = ⟨#[x, y]⟩ := by
  apply ByteArray.ext
  rfl
theorem nmR_bytes (i : Nat) : (⟨(nmR i).toArray⟩ : ByteArray) = ByteArray.mk #[114] ++ ByteArray.mk #[97 + UInt8.ofNat i] := by rw [cat1]; rfl
theorem nmA_bytes (i : Nat) : (⟨(nmA i).toArray⟩ : ByteArray) = ByteArray.mk #[97] ++ ByteArray.mk #[97 + UInt8.ofNat i] := by rw [cat1]; rfl
theorem ru_mk {wr W : World} {ub g i q : Nat} (hf : Fr (fun _ => False) wr W) (hB : Blk W ub 32 [.string (ByteArray.mk #[114] ++ ByteArray.mk #[97 + UInt8.ofNat i]), .string ⟨#[]⟩, .slice none 0 0, .slice (some ⟨g, 0, none⟩) 1 1]) (hG : Blk W g 9 [.string (ByteArray.mk #[114] ++ ByteArray.mk #[97 + UInt8.ofNat q])]) (h1 : wr.heap.size ≤ ub) (h2 : wr.heap.size ≤ g) : RU wr W ub g (nmR i) (nmR q) := by
  rw [← nmR_bytes] at hB hG
  exact ⟨hf, h1, h2, hB, hG⟩
theorem ring_ok (n i : Nat) (cut : Bool) : (ringU n cut i).ok := by
  unfold ringU
  split
  · exact ok_small (by simp [nmR])
  · exact ok_small (by simp [nmR])
theorem oth_ok (i : Nat) : (othU i).ok := ok_small (by simp [othU, nmA])

theorem ring_next (n i : Nat) (cut : Bool) : (List.range (i + 1)).map (ringU n cut) = (List.range i).map (ringU n cut) ++ [ringU n cut i] := by
  rw [List.range_succ, List.map_append]; rfl
theorem oth_next (L : List Ut) (i : Nat) : L ++ (List.range (i + 1)).map othU = (L ++ (List.range i).map othU) ++ [othU i] := by
  rw [List.range_succ, List.map_append, List.append_assoc]; rfl
theorem lw_none (W : World) (B : Nat) (ad : Option Addr) : Lw W B ad 0 := fun h => by omega
theorem lw_one {W : World} {B g : Nat} {x : Value} (h : Blk W g 9 [x]) (hb : B ≤ g) : Lw W B (some ⟨g, 0, none⟩) 1 := fun _ => ⟨g, _, rfl, hb, h, by simp⟩

set_option maxRecDepth 100000 in
set_option maxHeartbeats 8000000 in
theorem unitsRings_walk (w : World) (lo hi : Int) (cut : Bool) (hlo : I64 lo) (hhi : I64 hi) (hT : TabAt 1 Lib.deBruijn32tab w) :
    Calls Tryd.prog 7 #[.int .i64 lo, .int .i64 hi, .bool cut] w fun e w' => e = .returned (.bool true) ∧ Fr (fun _ => False) w w' := by
  have HS := hid (shown_any w hT)
  have HT := hid hT
  have hlo0 : -9223372036854775808 ≤ lo := hlo.1
  have hlo1 : lo ≤ 9223372036854775807 := hlo.2
  have hhi0 : -9223372036854775808 ≤ hi := hhi.1
  have hhi1 : hi ≤ 9223372036854775807 := hhi.2
  clear hT hlo hhi
  go_enter Tryd.func7, Tryd.ntmps7
  go_wp2_with fail
  refine HS.out.mono ?_
  rintro e w1 ⟨rfl, f1⟩
  have HF1 := hid f1
  clear f1 HS
  go_upto_if 19 with fail
  go_cut [0] (fun a' wx => ∃ A0 : Nat, A0 ≤ 9223372036854775807 ∧ a' = .int .i64 (A0 : Int) ∧ wx = w1)
  case first =>
    by_cases ha : lo < 0
    · go_wp2_with fail
      all_goals go_meet
      exact ⟨(-(lo + 1)).toNat, by omega, by congr 1; omega, rfl⟩
    · have hda : decide (lo < 0) = false := by simpa using ha
      go_wp2_with fail
      all_goals go_meet
      exact ⟨lo.toNat, by omega, by congr 1; omega, rfl⟩
  case rest =>
    obtain ⟨A0, hA0, rfl, hw⟩ := hcut
    obtain rfl : w1 = wc := hw.symm
    clear hw hlo0 hlo1
    go_upto_if 24 with fail
    go_cut [1] (fun a' wx => ∃ B0 : Nat, B0 ≤ 9223372036854775807 ∧ a' = .int .i64 (B0 : Int) ∧ wx = w1)
    case first =>
      by_cases ha : hi < 0
      · go_wp2_with fail
        all_goals go_meet
        exact ⟨(-(hi + 1)).toNat, by omega, by congr 1; omega, rfl⟩
      · have hda : decide (hi < 0) = false := by simpa using ha
        go_wp2_with fail
        all_goals go_meet
        exact ⟨hi.toNat, by omega, by congr 1; omega, rfl⟩
    case rest =>
      obtain ⟨B0, hB0, rfl, hw⟩ := hcut
      obtain rfl : w1 = wc := hw.symm
      clear hw hhi0 hhi1
      obtain ⟨n, hn⟩ : ∃ n : Nat, n = 1 + A0 % 12 := ⟨_, rfl⟩
      obtain ⟨o, ho⟩ : ∃ o : Nat, o = B0 % 12 := ⟨_, rfl⟩
      have ea : 1 + (A0 : Int) % 12 = (n : Int) := by omega
      have eb : (B0 : Int) % 12 = (o : Int) := by omega
      have hn1 : 1 ≤ n := by omega
      have hn12 : n ≤ 12 := by omega
      have ho12 : o < 12 := by omega
      clear hn ho
      go_wp2_with fail
      rw [eb]
      clear ea eb hA0 hB0
      go_loopw [8, 9] (fun tv iv wr => ∃ (i : Nat) (X : List Uv), i ≤ n ∧ iv = .int .i64 (i : Int) ∧ Ot w1.heap.size wr ((List.range i).map (ringU n cut)) tv X ∧ Fr (fun _ => False) w1 wr) (fun _ iv _ => n - (intOf iv).toNat)
      case atStart => exact ⟨0, [], Nat.zero_le _, rfl, ot_none _ _, Fr.refl _ _⟩
      case round =>
        obtain ⟨i, X, hi, rfl, hO, hF⟩ := hrel
        obtain ⟨ta, tc, hv⟩ := own_len hO.own
        subst hv
        have HO := hid hO
        have HF := hid hF
        have hXl : X.length ≤ 12 := by rw [hO.row.1]; simp; omega
        clear hO hF
        by_cases hlt : i < n
        · have hi1 : (i : Int) < (n : Int) := by omega
          have hn0 : ((n : Int) == 0) = false := by simp; omega
          obtain ⟨fc, hcv⟩ := conv1
          obtain ⟨q, hqd⟩ : ∃ q : Nat, q = (i + 1) % n := ⟨_, rfl⟩
          have hq : ((i : Int) + 1) % (n : Int) = (q : Int) := by rw [hqd]; simp
          have hq12 : q < 12 := by rw [hqd]; exact Nat.lt_of_lt_of_le (Nat.mod_lt _ (by omega)) hn12
          have HQ := hid hqd
          have HN1 := hid hn1
          clear hqd hn1 ho12 HT HF1
          have HRa := hid (nmR_bytes i)
          have HRb := hid (nmR_bytes q)
          have HCx : Hid (Ot w1.heap.size wr ((List.range i).map (ringU n cut)) (.slice ta X.length tc) X ∧ Fr (fun _ => False) w1 wr) := ⟨HO.out, HF.out⟩
          clear HO HF
          go_upto_region 12 with fail
          go_cut [10] from 38 to 54 (fun uv wx => ∃ ub g, uv = .pointer (some ⟨ub, 0, none⟩) ∧ RU wr wx ub g (nmR i) (nmR q))
          case first =>
            go_region
            all_goals
              first | go_meet | (go_wp2_with fail; go_meet)
              first
              | exact ⟨_, _, rfl, ru_mk (al_fr _ _ _ _ _) (bl0 (by omega)) (bl1 (by omega)) (by omega) (by omega)⟩
              | exact ⟨_, _, rfl, ru_mk (al_fr _ _ _ _ _) (bl0 (by omega)) (bl2 (by omega)) (by omega) (by omega)⟩
              | exact ⟨_, _, rfl, ru_mk (al_fr _ _ _ _ _) (bl0 (by omega)) (bl3 (by omega)) (by omega) (by omega)⟩
              | exact ⟨_, _, rfl, ru_mk (al_fr _ _ _ _ _) (bl1 (by omega)) (bl0 (by omega)) (by omega) (by omega)⟩
              | exact ⟨_, _, rfl, ru_mk (al_fr _ _ _ _ _) (bl1 (by omega)) (bl2 (by omega)) (by omega) (by omega)⟩
              | exact ⟨_, _, rfl, ru_mk (al_fr _ _ _ _ _) (bl1 (by omega)) (bl3 (by omega)) (by omega) (by omega)⟩
              | exact ⟨_, _, rfl, ru_mk (al_fr _ _ _ _ _) (bl2 (by omega)) (bl0 (by omega)) (by omega) (by omega)⟩
              | exact ⟨_, _, rfl, ru_mk (al_fr _ _ _ _ _) (bl2 (by omega)) (bl1 (by omega)) (by omega) (by omega)⟩
              | exact ⟨_, _, rfl, ru_mk (al_fr _ _ _ _ _) (bl2 (by omega)) (bl3 (by omega)) (by omega) (by omega)⟩
              | exact ⟨_, _, rfl, ru_mk (al_fr _ _ _ _ _) (bl3 (by omega)) (bl0 (by omega)) (by omega) (by omega)⟩
              | exact ⟨_, _, rfl, ru_mk (al_fr _ _ _ _ _) (bl3 (by omega)) (bl1 (by omega)) (by omega) (by omega)⟩
              | exact ⟨_, _, rfl, ru_mk (al_fr _ _ _ _ _) (bl3 (by omega)) (bl2 (by omega)) (by omega) (by omega)⟩
          case rest =>
            obtain ⟨ub, g, rfl, hf, h1, h2, hB, hG⟩ := hcut
            have hsz1 := HCx.out.2.size
            have HB := hid hB
            have HG := hid hG
            have HFu := hid hf
            have H1 := hid h1
            have c0 := hB.cell 0
            have c1 := hB.cell 1
            have c2 := hB.cell 2
            have c3 := hB.cell 3
            have z3 := hB.frozen 3
            simp only [List.getElem?_cons_zero, List.getElem?_cons_succ] at c0 c1 c2 c3
            have hgb : w1.heap.size ≤ g := Nat.le_trans hsz1 h2
            clear hf h1 h2 hB hG HRa HRb hcv hq
            have HKeep : Hid (∀ (W W' : World) (y : Uv) (v' : Value), Fr (fun _ => False) wr W → UIn W (ringU n cut i) y → Lw W w1.heap.size y.ra y.rl ∧ Lw W w1.heap.size y.aa y.al → W'.ownsRow w1.heap.size 32 4 v' (X ++ [y]).length (flatU (X ++ [y])) → W.grownBy W' (Value.slice ta X.length tc).ownBlock → Ot w1.heap.size W' ((List.range (i + 1)).map (ringU n cut)) v' (X ++ [y]) ∧ Fr (fun _ => False) w1 W') := fun W W' y v' f hy hl ho hg => by
              rw [ring_next]
              have hO := HCx.out.1.fr f
              exact ⟨hO.next hy hl ho hg, (HCx.out.2.trans f (fun _ h => h.elim)).grown hg (fun k hk => .inr (own_lt hO.own k hk).1)⟩
            by_cases hlast : cut = true ∧ i + 1 = n
            · obtain ⟨rfl, hin⟩ := hlast
              have he : ((i : Int) == (n : Int) - 1) = true := by simp; omega
              have hu : ringU n true i = ⟨nmR i, [], [], []⟩ := by simp [ringU, hin]
              have HBs := hid (HB.out.setCell 3 (.slice none 0 0))
              have HFs : Hid (Fr (fun _ => False) wr (wc.setCell ⟨ub, 3, none⟩ (.slice none 0 0))) := HFu.out.setCell (p := ⟨ub, 3, none⟩) (.inr H1.out) _
              clear c0 c1 c2 c3
              have d0 := HBs.out.cell 0
              have d1 := HBs.out.cell 1
              have d2 := HBs.out.cell 2
              have d3 := HBs.out.cell 3
              simp only [List.set_cons_succ, List.set_cons_zero, List.getElem?_cons_zero, List.getElem?_cons_succ] at d0 d1 d2 d3
              have c3 := HB.out.cell 3
              simp only [List.getElem?_cons_zero, List.getElem?_cons_succ] at c3
              generalize hWs : wc.setCell ⟨ub, 3, none⟩ (.slice none 0 0) = Ws at *
              have HBx := hid (uBlk Ws ⟨nmR i, [], none, 0, 0, none, 0, 0⟩)
              have HFx := hid (HFs.out.trans (uFr Ws ⟨nmR i, [], none, 0, 0, none, 0, 0⟩) (fun _ h => h.elim))
              have HOw := hid (HCx.out.1.fr HFx.out).own
              have hbase : w1.heap.size ≤ (uBox Ws ⟨nmR i, [], none, 0, 0, none, 0, 0⟩).heap.size := Nat.le_trans hsz1 HFx.out.size
              simp only [uBox, Uv.cs] at *
              go_wp2_with (at_builtin; refine Hid.out ?_)
              refine wpList_app_U (by rfl) _ _ (by rfl) w1.heap.size _ X [⟨nmR i, [], none, 0, 0, none, 0, 0⟩] (some ⟨Ws.heap.size, 0, none⟩) 1 (by rfl) (by rfl) HOw.out (fun _ => ⟨Ws.heap.size, 0, rfl, fun q u hq => by rw [Nat.zero_add, HBx.out.cell q]; simpa [flatU, Uv.cs] using hq⟩) hbase (by simp; omega) ?_
              intro v' W' ho hg _
              have HN2 := hid (HKeep.out _ W' ⟨nmR i, [], none, 0, 0, none, 0, 0⟩ v' HFx.out (by rw [hu]; exact ⟨rfl, rfl, rfl, rfl, strs_none _ _, strs_none _ _, by rw [← hu]; exact ring_ok n i true⟩) ⟨lw_none _ _ _, lw_none _ _ _⟩ ho hg)
              clear ho hg HOw HFx HBx hbase HKeep HCx d0 d1 d2 d3 c3
              go_wp2_with fail
              exact ⟨⟨i + 1, _, by omega, by go_num, HN2.out.1, HN2.out.2⟩, by simp [intOf]; omega⟩
            · have hu : ringU n cut i = ⟨nmR i, [], [], [nmR q]⟩ := by
                unfold ringU
                rw [HQ.out, if_neg]
                simp only [Bool.and_eq_true, beq_iff_eq]
                exact hlast
              have HBx := hid (uBlk wc ⟨nmR i, [], none, 0, 0, some ⟨g, 0, none⟩, 1, 1⟩)
              have HFx := hid (HFu.out.trans (uFr wc ⟨nmR i, [], none, 0, 0, some ⟨g, 0, none⟩, 1, 1⟩) (fun _ h => h.elim))
              have HOw := hid (HCx.out.1.fr HFx.out).own
              have HGx := hid (HG.out.alloc (.cells (Uv.cs ⟨nmR i, [], none, 0, 0, some ⟨g, 0, none⟩, 1, 1⟩).toArray 32))
              have hbase : w1.heap.size ≤ (uBox wc ⟨nmR i, [], none, 0, 0, some ⟨g, 0, none⟩, 1, 1⟩).heap.size := Nat.le_trans hsz1 HFx.out.size
              simp only [uBox, Uv.cs] at *
              cases hcut2 : cut with
              | false =>
                subst hcut2
                go_wp2_with (at_builtin; refine Hid.out ?_)
                refine wpList_app_U (by rfl) _ _ (by rfl) w1.heap.size _ X [⟨nmR i, [], none, 0, 0, some ⟨g, 0, none⟩, 1, 1⟩] (some ⟨wc.heap.size, 0, none⟩) 1 (by rfl) (by rfl) HOw.out (fun _ => ⟨wc.heap.size, 0, rfl, fun q u hq => by rw [Nat.zero_add, HBx.out.cell q]; simpa [flatU, Uv.cs] using hq⟩) hbase (by simp; omega) ?_
                intro v' W' ho hg _
                have HN2 := hid (HKeep.out _ W' ⟨nmR i, [], none, 0, 0, some ⟨g, 0, none⟩, 1, 1⟩ v' HFx.out (by rw [hu]; exact ⟨rfl, rfl, rfl, rfl, strs_none _ _, strs_one HGx.out, by rw [← hu]; exact ring_ok n i false⟩) ⟨lw_none _ _ _, lw_one HGx.out hgb⟩ ho hg)
                clear ho hg HOw HFx HBx hbase HKeep HCx
                go_wp2_with fail
                exact ⟨⟨i + 1, _, by omega, by go_num, HN2.out.1, HN2.out.2⟩, by simp [intOf]; omega⟩
              | true =>
                subst hcut2
                have he : ((i : Int) == (n : Int) - 1) = false := by simp; intro h; exact hlast ⟨rfl, by omega⟩
                go_wp2_with (at_builtin; refine Hid.out ?_)
                refine wpList_app_U (by rfl) _ _ (by rfl) w1.heap.size _ X [⟨nmR i, [], none, 0, 0, some ⟨g, 0, none⟩, 1, 1⟩] (some ⟨wc.heap.size, 0, none⟩) 1 (by rfl) (by rfl) HOw.out (fun _ => ⟨wc.heap.size, 0, rfl, fun q u hq => by rw [Nat.zero_add, HBx.out.cell q]; simpa [flatU, Uv.cs] using hq⟩) hbase (by simp; omega) ?_
                intro v' W' ho hg _
                have HN2 := hid (HKeep.out _ W' ⟨nmR i, [], none, 0, 0, some ⟨g, 0, none⟩, 1, 1⟩ v' HFx.out (by rw [hu]; exact ⟨rfl, rfl, rfl, rfl, strs_none _ _, strs_one HGx.out, by rw [← hu]; exact ring_ok n i true⟩) ⟨lw_none _ _ _, lw_one HGx.out hgb⟩ ho hg)
                clear ho hg HOw HFx HBx hbase HKeep HCx
                go_wp2_with fail
                exact ⟨⟨i + 1, _, by omega, by go_num, HN2.out.1, HN2.out.2⟩, by simp [intOf]; omega⟩
        · have hi1 : ¬ ((i : Int) < (n : Int)) := by omega
          rw [show i = n by omega] at HO
          clear hlt hi
          go_wp2_with fail
          go_loopw [8, 11] (fun tv jv wr => ∃ (j : Nat) (X : List Uv), j ≤ o ∧ jv = .int .i64 (j : Int) ∧ Ot w1.heap.size wr ((List.range n).map (ringU n cut) ++ (List.range j).map othU) tv X ∧ Fr (fun _ => False) w1 wr) (fun _ jv _ => o - (intOf jv).toNat)
          case atStart => exact ⟨0, X, Nat.zero_le _, rfl, by simpa using HO.out, HF.out⟩
          case round =>
            obtain ⟨j, Y, hj, rfl, hO, hF⟩ := hrel
            obtain ⟨sa, sc, hv⟩ := own_len hO.own
            subst hv
            have HOj := hid hO
            have HFj := hid hF
            have hYl : Y.length ≤ 24 := by rw [hO.row.1]; simp; omega
            clear hO hF HO HF
            by_cases hjo : j < o
            · have hj1 : (j : Int) < (o : Int) := by omega
              obtain ⟨fc, hcv⟩ := conv1
              have hcat := (nmA_bytes j).symm
              have HFx : Hid (Fr (fun _ => False) wr ((wr.alloc (.cells #[.int .u8 (97 + (j : Int))] 5)).alloc (.cells (Uv.cs ⟨nmA j, [], none, 0, 0, none, 0, 0⟩).toArray 32))) := ((Fr.refl _ wr).alloc _).alloc _
              have HBx : Hid (Blk ((wr.alloc (.cells #[.int .u8 (97 + (j : Int))] 5)).alloc (.cells (Uv.cs ⟨nmA j, [], none, 0, 0, none, 0, 0⟩).toArray 32)) (wr.heap.size + 1) 32 (Uv.cs ⟨nmA j, [], none, 0, 0, none, 0, 0⟩)) := by
                have := Blk.new (wr.alloc (.cells #[.int .u8 (97 + (j : Int))] 5)) 32 (Uv.cs ⟨nmA j, [], none, 0, 0, none, 0, 0⟩)
                rw [World.size_alloc] at this
                exact this
              have HOw := hid (HOj.out.fr HFx.out)
              have hbase : w1.heap.size ≤ ((wr.alloc (.cells #[.int .u8 (97 + (j : Int))] 5)).alloc (.cells (Uv.cs ⟨nmA j, [], none, 0, 0, none, 0, 0⟩).toArray 32)).heap.size := Nat.le_trans HFj.out.size HFx.out.size
              simp only [Uv.cs] at *
              go_wp2_with (at_builtin; refine Hid.out ?_)
              refine wpList_app_U (by rfl) _ _ (by rfl) w1.heap.size _ Y [⟨nmA j, [], none, 0, 0, none, 0, 0⟩] (some ⟨wr.heap.size + 1, 0, none⟩) 1 (by rfl) (by rfl) HOw.out.own (fun _ => ⟨wr.heap.size + 1, 0, rfl, fun q u hq => by rw [Nat.zero_add, HBx.out.cell q]; simpa [flatU, Uv.cs] using hq⟩) hbase (by simp; omega) ?_
              intro v' W' ho hg _
              have HN2 : Hid (Ot w1.heap.size W' ((List.range n).map (ringU n cut) ++ (List.range (j + 1)).map othU) v' (Y ++ [⟨nmA j, [], none, 0, 0, none, 0, 0⟩])) := by
                unfold Hid
                rw [oth_next]
                exact HOw.out.next ⟨rfl, rfl, rfl, rfl, strs_none _ _, strs_none _ _, oth_ok j⟩ ⟨lw_none _ _ _, lw_none _ _ _⟩ ho hg
              have HF2 : Hid (Fr (fun _ => False) w1 W') := (HFj.out.trans HFx.out (fun _ h => h.elim)).grown hg (fun k hk => .inr (own_lt HOw.out.own k hk).1)
              clear ho hg HOw HFx HBx hbase HOj HFj hcv hcat
              go_wp2_with fail
              exact ⟨⟨j + 1, _, by omega, by go_num, HN2.out, HF2.out⟩, by simp [intOf]; omega⟩
            · have hj1 : ¬ ((j : Int) < (o : Int)) := by omega
              rw [show j = o by omega] at HOj
              have HFw := hid (HF1.out.trans HFj.out (fun _ h => h.elim))
              have hLl : Y.length = (lst n o cut).length := HOj.out.row.1
              have HUs := hid (us_own HOj.out.own HOj.out.row)
              have HC := hid (order_any wr wr (Env.refl _) (lst n o cut) sa sc HUs.out (by rw [← hLl]; omega) (fun u hu => by
                unfold lst at hu
                rcases List.mem_append.1 hu with hu | hu
                · obtain ⟨i, _, rfl⟩ := List.mem_map.1 hu
                  unfold ringU
                  split <;> simp
                · obtain ⟨i, _, rfl⟩ := List.mem_map.1 hu
                  simp [othU]) (tab_fr HT.out HFw.out))
              rw [← hLl] at HC
              have hok : okR n o = true := by
                have := rings_all ⟨n - 1, by omega⟩ ⟨o, ho12⟩
                simp only at this
                rw [show n - 1 + 1 = n by omega] at this
                exact this
              unfold okR at hok
              simp only [Bool.and_eq_true, decide_eq_true_eq] at hok
              obtain ⟨hok1, hok2, hok3⟩ := hok
              have HK1 := hid hok1
              have HK2 := hid hok2
              have HK3 := hid hok3
              clear hok1 hok2 hok3 hLl HUs HOj HFj
              cases cut with
              | false =>
                rw [HK1.out] at HC
                go_wp2_with fail
                refine HC.out.mono ?_
                rintro e w5 ⟨f5, v, Z, rfl, hZ⟩
                obtain ⟨va, vc, hv⟩ := own_len hZ.own
                subst hv
                have hZl : Z.length = 0 := hZ.row.1
                rw [hZl]
                have HF5 := hid (HFw.out.trans f5 (fun _ h => h.elim))
                have e1 : (([114, 97] : Nm) == [114, 97]) = true := by decide
                clear hZ f5 hZl
                go_wp2_with fail
                go_ret
                exact ⟨rfl, HF5.out⟩
              | true =>
                generalize hrr : ordF (lst n o true) = r at *
                obtain ⟨x, nm, er⟩ := r
                have h2 := HK2.out
                simp only [Prod.mk.injEq] at h2
                obtain ⟨rfl, rfl⟩ := h2
                have h3 := HK3.out
                simp only at h3
                have HX := hid h3
                have hxl : x.length = n + o := by
                  have := congrArg List.length h3
                  simp at this
                  omega
                clear HK1 HK2 HK3 h3
                go_wp2_with fail
                refine HC.out.mono ?_
                rintro e w5 ⟨f5, v, Z, rfl, hZ⟩
                obtain ⟨va, vc, hv⟩ := own_len hZ.own
                subst hv
                have hZl : Z.length = x.length := hZ.row.1
                rw [hZl, hxl]
                have HF5 := hid (HFw.out.trans f5 (fun _ h => h.elim))
                have HUx := hid (us_own hZ.own hZ.row)
                have hne : (((n + o : Nat) : Int) != (n : Int) + (o : Int)) = false := by simp
                have HNa : Hid (∀ i (h : i < o), ∀ hx : i < x.length, x[i].n = nmA i) := fun i h hx => by
                  have h1 : (x.map (·.n))[i]'(by simpa using hx) = x[i].n := by simp
                  rw [← h1]
                  simp only [HX.out]
                  rw [List.getElem_append_left (by simpa using h)]
                  simp
                have HNr : Hid (∀ i (h : i < n), ∀ hx : o + i < x.length, x[o + i].n = nmR (n - 1 - i)) := fun i h hx => by
                  have h1 : (x.map (·.n))[o + i]'(by simpa using hx) = x[o + i].n := by simp
                  rw [← h1]
                  simp only [HX.out]
                  rw [List.getElem_append_right (by simp)]
                  simp
                clear hZ f5 hZl HC HX hrr
                go_wp2_with fail
                go_loopw [15] (fun iv wr => ∃ i : Nat, i ≤ o ∧ iv = .int .i64 (i : Int) ∧ Fr (fun _ => False) w5 wr) (fun iv _ => o - (intOf iv).toNat)
                case atStart => exact ⟨0, Nat.zero_le _, rfl, Fr.refl _ _⟩
                case round =>
                  obtain ⟨i, hi, rfl, hF⟩ := hrel
                  have HFi := hid hF
                  clear hF
                  by_cases hlt : i < o
                  · have hi1 : (i : Int) < (o : Int) := by omega
                    have hi0 : (0 : Int) ≤ (i : Int) := Int.natCast_nonneg _
                    have hix : i < x.length := by omega
                    have hb1 : (i : Int) < ((n + o : Nat) : Int) := by omega
                    have hb2 : (i : Int) < (n : Int) + (o : Int) := by omega
                    obtain ⟨bb, bo, rfl⟩ := HUx.out.some hix
                    obtain ⟨y, y1, y2⟩ := HUx.out.get i hix
                    obtain ⟨k0, _, _, _⟩ := (y1.env (Env.of HFi.out)).all
                    rw [y2.n, HNa.out i hlt hix] at k0
                    have k0' : (wr.alloc (.cells #[.int .u8 (97 + (i : Int))] 5)).cell? ⟨bb, bo + i * 4, none⟩ = some (.string ⟨(nmA i).toArray⟩) := (Env.alloc wr _).cell k0
                    obtain ⟨fc, hcv⟩ := conv1
                    have hcat := (nmA_bytes i).symm
                    have hs1 : (nmA i != nmA i) = false := by simp
                    have HF3 := hid ((HFi.out.alloc (.cells #[.int .u8 (97 + (i : Int))] 5)).drew)
                    clear y1 y2
                    generalize nmA i = nm at *
                    go_wp2_with fail
                    go_region
                    all_goals
                      clear hcv hcat k0 k0'
                      go_wp2_with fail
                      exact ⟨⟨i + 1, by omega, by go_num, HF3.out⟩, by simp [intOf]; omega⟩
                  · have hi1 : ¬ ((i : Int) < (o : Int)) := by omega
                    clear HNa
                    go_wp2_with fail
                    go_loopw [16] (fun iv wr => ∃ i : Nat, i ≤ n ∧ iv = .int .i64 (i : Int) ∧ Fr (fun _ => False) w5 wr) (fun iv _ => n - (intOf iv).toNat)
                    case atStart => exact ⟨0, Nat.zero_le _, rfl, HFi.out⟩
                    case round =>
                      obtain ⟨i, hi, rfl, hF⟩ := hrel
                      clear HFi
                      have HFi := hid hF
                      clear hF
                      by_cases hlt : i < n
                      · have hi1 : (i : Int) < (n : Int) := by omega
                        have hi0 : (0 : Int) ≤ (i : Int) := Int.natCast_nonneg _
                        have hix : o + i < x.length := by omega
                        obtain ⟨bb, bo, rfl⟩ := HUx.out.some hix
                        obtain ⟨y, y1, y2⟩ := HUx.out.get (o + i) hix
                        obtain ⟨k0, _, _, _⟩ := (y1.env (Env.of HFi.out)).all
                        rw [y2.n, HNr.out i hlt hix] at k0
                        obtain ⟨p, hp⟩ : ∃ p : Nat, p = o + i := ⟨_, rfl⟩
                        obtain ⟨m, hm⟩ : ∃ m : Nat, m = n - 1 - i := ⟨_, rfl⟩
                        have hpi : (o : Int) + (i : Int) = (p : Int) := by omega
                        have hmi : 97 + (n : Int) - 1 - (i : Int) = 97 + (m : Int) := by omega
                        have hm12 : m < 12 := by omega
                        have hp0 : (0 : Int) ≤ (p : Int) := Int.natCast_nonneg _
                        have hb1 : (p : Int) < ((n + o : Nat) : Int) := by omega
                        have hb2 : (p : Int) < (n : Int) + (o : Int) := by omega
                        rw [← hp, ← hm] at k0
                        have k0' : (wr.alloc (.cells #[.int .u8 (97 + (m : Int))] 5)).cell? ⟨bb, bo + p * 4, none⟩ = some (.string ⟨(nmR m).toArray⟩) := (Env.alloc wr _).cell k0
                        obtain ⟨fc, hcv⟩ := conv1
                        have hcat := (nmR_bytes m).symm
                        have hs1 : (nmR m != nmR m) = false := by simp
                        have HF3 := hid ((HFi.out.alloc (.cells #[.int .u8 (97 + (m : Int))] 5)).drew)
                        clear y1 y2 hp hm
                        generalize nmR m = nm at *
                        go_wp2_with fail
                        go_region
                        all_goals
                          clear hcv hcat k0 k0'
                          go_wp2_with fail
                          exact ⟨⟨i + 1, by omega, by go_num, HF3.out⟩, by simp [intOf]; omega⟩
                      · have hi1 : ¬ ((i : Int) < (n : Int)) := by omega
                        have HF7 := hid (HF5.out.trans HFi.out (fun _ h => h.elim))
                        go_wp2_with fail
                        go_ret
                        exact ⟨rfl, HF7.out⟩
end Go.Proofs.YtcpeebkfnnkjnaaDoor.Tr
