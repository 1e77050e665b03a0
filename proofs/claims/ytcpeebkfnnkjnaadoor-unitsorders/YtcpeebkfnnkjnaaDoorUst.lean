/- The contract of started. -/
import Derived.Test.YtcpeebkfnnkjnaaDoorUrn
import Derived.Test.YtcpeebkfnnkjnaaDoorUcp
namespace Go.Proofs.YtcpeebkfnnkjnaaDoor.Tr
open Go.RowKit Go.Maps

theorem mk_units (w : World) (m : Nat) (hm : m ≤ 1000000) : ∃ cur, (Instr.makeSlice 22 (.int .i64 0) (.int .i64 (m : Int))).run Tryd.prog w = .ok (.slice (some ⟨w.heap.size, 0, none⟩) 0 m) (w.alloc (.cells cur 32)) ∧ cur.size = m * 4 := by
  obtain ⟨i0, hi0, hz0, hz1, hz2⟩ := info_parts infoU
  have h := run_make (P := Tryd.prog) w 22 32 i0 uZ.v Tryd.underlying22 hi0 hz0 .i64 .i64 0 m (by omega) (by omega) (by rw [hz2]; omega) (by omega)
  refine ⟨_, h, ?_⟩
  rw [hz1, Int.toNat_natCast]
  exact size_madeCells _ _
/-- Units that are its owner's, one behind the other: the row lies at B or beyond, and so do their lists. -/
structure Ot (B : Nat) (W : World) (out : List Ut) (v : Value) (X : List Uv) : Prop where
  own : W.ownsRow B 32 4 v X.length (flatU X)
  row : RowIs W out X
  lw : ∀ x ∈ X, Lw W B x.ra x.rl ∧ Lw W B x.aa x.al
theorem strs_turn {W W' : World} {B : Nat} {ad : Option Addr} {ns : List Nm} {row : Option Nat} (h : Strs W ad ns) (hl : Lw W B ad ns.length) (hg : W.grownBy W' row) (hr : ∀ k, row = some k → ∃ cur, W.heap[k]? = some (.cells cur 32 (0, 0))) : Strs W' ad ns := fun hne => by
  obtain ⟨b, o, e, hc⟩ := h hne
  obtain ⟨g, cur, e2, _, hg2, _⟩ := hl (List.length_pos_iff.2 hne)
  rw [e] at e2
  simp only [Option.some.injEq, Addr.mk.injEq, and_true] at e2
  obtain ⟨rfl, rfl⟩ := e2
  have hlt : b < W.heap.size := by
    rcases Nat.lt_or_ge b W.heap.size with hl | hl
    · exact hl
    · rw [Array.getElem?_eq_none hl] at hg2; cases hg2
  have hk : W'.heap[b]? = W.heap[b]? := hg.block b hlt (fun e => by
    obtain ⟨c, hc⟩ := hr b e.symm
    rw [hg2] at hc
    cases hc)
  refine ⟨b, 0, e, fun i hi => ?_⟩
  have := hc i hi
  unfold World.cell? at this ⊢
  simp only [hk]
  exact this
theorem lw_turn {W W' : World} {B n : Nat} {ad : Option Addr} {row : Option Nat} (hl : Lw W B ad n) (hg : W.grownBy W' row) (hr : ∀ k, row = some k → ∃ cur, W.heap[k]? = some (.cells cur 32 (0, 0))) : Lw W' B ad n := fun hn => by
  obtain ⟨g, cur, e2, hb, hg2, hc⟩ := hl hn
  have hlt : g < W.heap.size := by
    rcases Nat.lt_or_ge g W.heap.size with hl | hl
    · exact hl
    · rw [Array.getElem?_eq_none hl] at hg2; cases hg2
  exact ⟨g, cur, e2, hb, (hg.block g hlt (fun e => by
    obtain ⟨c, hc⟩ := hr g e.symm
    rw [hg2] at hc
    cases hc)).trans hg2, hc⟩
theorem UIn.turn {W W' : World} {B : Nat} {u : Ut} {x : Uv} {row : Option Nat} (h : UIn W u x) (hl : Lw W B x.ra x.rl ∧ Lw W B x.aa x.al) (hg : W.grownBy W' row) (hr : ∀ k, row = some k → ∃ cur, W.heap[k]? = some (.cells cur 32 (0, 0))) : UIn W' u x :=
  ⟨h.n, h.s, h.rl, h.al, strs_turn h.r (by rw [← h.rl]; exact hl.1) hg hr, strs_turn h.a (by rw [← h.al]; exact hl.2) hg hr, h.ok⟩
theorem own_typed {W : World} {B : Nat} {v : Value} {n : Nat} {xs : List Value} (h : W.ownsRow B 32 4 v n xs) : ∀ k, v.ownBlock = some k → ∃ cur, W.heap[k]? = some (.cells cur 32 (0, 0)) := fun k hk => by
  rcases h.2 with ⟨rfl, _⟩ | ⟨g, c, cur, rfl, _, hg, _⟩
  · cases hk
  · cases hk
    exact ⟨cur, hg⟩
theorem Ot.fr {B : Nat} {W W' : World} {out : List Ut} {v : Value} {X : List Uv} (h : Ot B W out v X) (f : Fr (fun _ => False) W W') : Ot B W' out v X :=
  ⟨own_fr h.own f (fun _ _ h => h), h.row.env (Env.of f), fun x hx => ⟨(h.lw x hx).1.fr f (fun _ h => h.elim), (h.lw x hx).2.fr f (fun _ h => h.elim)⟩⟩
theorem Ot.next {B : Nat} {W W' : World} {out : List Ut} {v v' : Value} {X : List Uv} {u : Ut} {y : Uv} (h : Ot B W out v X) (hy : UIn W u y) (hl : Lw W B y.ra y.rl ∧ Lw W B y.aa y.al) (hO : W'.ownsRow B 32 4 v' (X ++ [y]).length (flatU (X ++ [y]))) (hg : W.grownBy W' v.ownBlock) : Ot B W' (out ++ [u]) v' (X ++ [y]) := by
  have hr := own_typed h.own
  refine ⟨hO, ?_, fun x hx => ?_⟩
  · refine RowIs.app ⟨h.row.1, fun i h1 h2 => (h.row.2 i h1 h2).turn (h.lw _ (List.getElem_mem h2)) hg hr⟩ (RowIs.one (hy.turn hl hg hr))
  · rcases List.mem_append.1 hx with hx | hx
    · exact ⟨lw_turn (h.lw x hx).1 hg hr, lw_turn (h.lw x hx).2 hg hr⟩
    · rw [List.mem_singleton.1 hx]
      exact ⟨lw_turn hl.1 hg hr, lw_turn hl.2 hg hr⟩
/-- What started tells. -/
def StPost (w : World) (r : List Ut × Option Nm) (e : Ending) (w' : World) : Prop := Fr (fun _ => False) w w' ∧ match r.2 with
  | some n => e = .returned (.tuple #[.slice none 0 0, .string ⟨n.toArray⟩, .int .i64 29])
  | none => ∃ v X, e = .returned (.tuple #[v, .string ⟨#[]⟩, .int .i64 0]) ∧ Ot w.heap.size w' r.1 v X
theorem shl_all (n : Nat) (hn : n ≤ 24) : ((2 : Int) ^ n % 4294967296 - 1) % 4294967296 = ((2 ^ n - 1 : Nat) : Int) := by
  have h1 : 1 ≤ 2 ^ n := Nat.one_le_two_pow
  have h2 : 2 ^ n ≤ 2 ^ 24 := Nat.pow_le_pow_right (by omega) hn
  have e : (2 : Int) ^ n = ((2 ^ n : Nat) : Int) := by simp
  rw [e]
  generalize 2 ^ n = k at h1 h2 ⊢
  omega
theorem not_pow (p a : Nat) (hp : p < 4294967296) (ha : a < 32) : bits BinOp.andNot IntKind.u32 (p : Int) (2 ^ a % 4294967296) = ((drp p a : Nat) : Int) := by
  have h2 : 2 ^ a < 4294967296 := Nat.pow_lt_pow_right (a := 2) (n := 32) (by omega) ha
  have e : (2 : Int) ^ a % 4294967296 = ((2 ^ a : Nat) : Int) := by
    have e1 : (2 : Int) ^ a = ((2 ^ a : Nat) : Int) := by simp
    rw [e1]
    generalize 2 ^ a = k at h2 ⊢
    omega
  rw [e]
  exact u32_andNot_nat p (2 ^ a) hp h2

set_option maxRecDepth 100000 in
set_option maxHeartbeats 4000000 in
theorem started_any (w0 w : World) (e0 : Env w0 w) (R : List Ut) (ad : Option Addr) (cap m : Nat) (hU : Us w0 w R ad) (hR : R.length ≤ 24) (hn : (R.map (·.n)).Nodup) (hP : Pm w m R) (hS : ∀ u ∈ R, u.r.length ≤ 1000000 ∧ u.a.length ≤ 1000000) (hT : TabAt 1 Lib.deBruijn32tab w) :
    Calls Tryd.prog 27 #[.slice ad R.length cap, .map (some m)] w fun e w' => StPost w (runF R.length R []) e w' := by
  have HC := hid (waiting_any w0 w e0 R R ad cap m hU hR hR hP)
  have HU := hid hU
  have HE0 := hid e0
  have HT := hid hT
  have HN := hid hn
  have HS := hid hS
  have H24 : Hid (2 ^ R.length ≤ 16777216) := Nat.pow_le_pow_right (by omega) hR
  clear hU hP e0 hT hn hS
  go_enter Tryd.func27, Tryd.ntmps27
  go_wp2_with fail
  refine HC.out.mono ?_
  rintro e w1 ⟨rfl, hB1, hF1⟩
  have HB1 := hid hB1
  have HF1 := hid hF1
  clear HC hB1 hF1
  obtain ⟨cur, hmk, hcur⟩ := mk_units w1 R.length (by omega)
  have hsh := shl_all R.length hR
  go_wp2_with fail
  rw [hsh]
  have HO0 : Hid (Ot w.heap.size (w1.alloc (.cells cur 32)) [] (.slice (some ⟨w1.heap.size, 0, none⟩) 0 R.length) []) :=
    ⟨⟨rfl, .inr ⟨w1.heap.size, R.length, cur, rfl, HF1.out.size, heap_alloc_new w1 _, Nat.zero_le _, by unfold maxLen; omega, hcur, by simp [flatU]⟩⟩, rowIs_nil _, fun x hx => by simp at hx⟩
  have HB2 : Hid (Blk (w1.alloc (.cells cur 32)) w.heap.size 68 (grC R.length (wgF R R))) := HB1.out.alloc _
  have HF2 : Hid (Fr (fun _ => False) w (w1.alloc (.cells cur 32))) := HF1.out.alloc _
  generalize w1.alloc (.cells cur 32) = W2 at *
  generalize w1.heap.size = vb at *
  have HA0 := hid (sel_all R)
  clear hmk hsh hcur HB1 HF1
  go_loopw [8, 9] (fun lv ov wr => ∃ (left f : Nat) (out : List Ut) (v : Value) (X : List Uv), lv = .int .u32 (left : Int) ∧ ov = v ∧ left < 2 ^ R.length ∧ runF R.length R [] = runF f (sel R left) out ∧ (sel R left).length ≤ f ∧ out.length + (sel R left).length ≤ R.length ∧ Ot w.heap.size wr out v X ∧ Blk wr w.heap.size 68 (grC R.length (wgF R R)) ∧ Fr (fun _ => False) w wr) (fun lv _ _ => (intOf lv).toNat)
  case atStart => exact ⟨2 ^ R.length - 1, R.length, [], _, [], rfl, rfl, by have := Nat.two_pow_pos R.length; omega, by rw [HA0.out], by rw [HA0.out]; exact Nat.le_refl _, by rw [HA0.out]; simp, HO0.out, HB2.out, HF2.out⟩
  case round =>
    obtain ⟨left, f, out, v, X, rfl, rfl, hl, hrun, hsf, hos, hO, hB, hF⟩ := hrel
    obtain ⟨va, vc, hv⟩ := own_len hO.own
    subst hv
    have HO := hid hO
    have HB := hid hB
    have HF := hid hF
    have HRun := hid hrun
    have HL := hid hl
    have HSf := hid hsf
    have HOs := hid hos
    have hl' : left < 4294967296 := by have := H24.out; omega
    have hxl : X.length ≤ 24 := by rw [hO.row.1]; omega
    clear hO hB hF hrun hl hsf hos HO0 HB2 HF2 HA0
    by_cases h0 : left = 0
    · subst h0
      have hz : (((0 : Nat) : Int) != 0) = false := rfl
      have HR : Hid (runF R.length R [] = (out, none)) := by
        unfold Hid
        rw [HRun.out, sel_zero, runF_nil]
      go_wp2_with fail
      go_ret3
      refine ⟨HF.out, ?_⟩
      rw [HR.out]
      exact ⟨_, X, rfl, HO.out⟩
    · have hz : ((left : Int) != 0) = true := by simpa using h0
      have HC := hid (ready_any wr w.heap.size R.length left (wgF R R) HB.out hR hl' (fun q => by have h1 := mk_lt R ((R[q]?.getD default).r ++ (R[q]?.getD default).a); have h2 := H24.out; unfold wgF; omega))
      cases hr : rdyF R.length (wgF R R) left with
      | none =>
        rw [hr] at HC
        have HR := hid (run_stop HN.out hR h0 HL.out HSf.out hr (out := out))
        rw [← HRun.out] at HR
        obtain ⟨_, hct⟩ := sel_head h0 hl' HL.out
        have HFi := hid (first_any wr.drew left hl' (fun j hj => (Env.of HF.out.drew).cell (HT.out j hj)))
        obtain ⟨bb, bo, rfl⟩ := HU.out.some hct
        obtain ⟨y, y1, y2⟩ := HU.out.get _ hct
        obtain ⟨k0, _, _, _⟩ := (y1.env (Env.of HF.out)).all
        have hyn := y2.n
        rw [List.getElem?_eq_getElem hct] at HR
        simp only [Option.getD_some] at HR
        rw [← hyn] at HR
        generalize hcz : Lib.ctz 32 left = ct at *
        have hc1 : (ct : Int) < ((R.length : Nat) : Int) := by omega
        have hc0 : (0 : Int) ≤ (ct : Int) := Int.natCast_nonneg _
        have HK : Hid (∀ W', Fr (fun _ => False) wr W' → W'.cell? ⟨bb, bo + ct * 4, none⟩ = some (.string ⟨y.n.toArray⟩)) := fun W' f => (Env.of f).cell k0
        clear y1 y2 hyn hr HN HS
        simp only [Option.getD_none, Option.isSome_none] at HC
        go_wp2_with fail
        refine HC.out.mono ?_
        rintro e w3 ⟨rfl, rfl⟩
        go_wp2_with fail
        go_region_held3 (fun W' => W'.cell? ⟨bb, bo + ct * 4, none⟩ = some (.string ⟨y.n.toArray⟩))
          (exact HK.out _ (Fr.refl _ _).drew)
          ((go_at_call 37; refine HFi.out.mono ?_; rintro e w2 ⟨rfl, rfl⟩))
        have HF3 := hid HF.out.drew
        go_wp2_with fail
        go_ret3
        refine ⟨HF3.out, ?_⟩
        rw [HR.out]
        rfl
      | some i =>
        rw [hr] at HC
        obtain ⟨f', _, hrn, hs1, hs2, hdl⟩ := run_step HN.out hR h0 HL.out HSf.out hr (out := out)
        obtain ⟨hi, hb, _⟩ := rdyF_is hr
        have HR := hid (HRun.out.trans hrn)
        have HS1 := hid hs1
        have HS2 : Hid ((out ++ [R[i]]).length + (sel R (drp left i)).length ≤ R.length) := by have := HOs.out; unfold Hid; simp; omega
        have HDl := hid hdl
        have HNp := hid (not_pow left i hl' (by omega))
        have HDb : Hid (drp left i < 2 ^ R.length) := Nat.lt_trans hdl HL.out
        obtain ⟨bb, bo, rfl⟩ := HU.out.some hi
        obtain ⟨y, y1, y2⟩ := HU.out.get _ hi
        obtain ⟨k0, k1, k2, k3⟩ := (y1.env (Env.of HF.out)).all
        have HCp := hid (ucopy_any wr R[i] y (y2.env (HE0.out.trans (Env.of HF.out))) (HS.out _ (List.getElem_mem hi)).1 (HS.out _ (List.getElem_mem hi)).2)
        rw [List.getElem?_eq_getElem hi] at HR
        simp only [Option.getD_some] at HR
        generalize R[i] = u at *
        have hi1 : (i : Int) < ((R.length : Nat) : Int) := by omega
        have hi0 : (0 : Int) ≤ (i : Int) := Int.natCast_nonneg _
        have hi32 : (i : Int) < 32 := by omega
        clear y1 y2 hr hrn hs1 hs2 hdl hb HRun HSf HOs
        obtain ⟨n, s, ra, rl, rc, aa, al, ac⟩ := y
        simp only [Uv.v, Uv.cs] at HCp
        simp only [Option.getD_some, Option.isSome_some] at HC
        go_wp2_with fail
        refine HC.out.mono ?_
        rintro e w3 ⟨rfl, rfl⟩
        go_wp2_with fail
        refine HCp.out.mono ?_
        rintro e w4 ⟨f4, y, rfl, hy, hl1, hl2⟩
        have HO4 := hid ((HO.out.fr f4).fr (uFr w4 y))
        have HB4 := hid ((f4.blk HB.out (fun h => h)).alloc (.cells y.cs.toArray 32))
        have HF4 := hid ((HF.out.trans f4 (fun _ h => h.elim)).trans (uFr w4 y) (fun _ h => h.elim))
        have hsz := HF.out.size
        have HY4 := hid (hy.env (Env.of (uFr w4 y)))
        have HL4 : Hid (Lw (uBox w4 y) w.heap.size y.ra y.rl ∧ Lw (uBox w4 y) w.heap.size y.aa y.al) := ⟨((hl1.fr (uFr w4 y) (fun _ h => h.elim))).down hsz, ((hl2.fr (uFr w4 y) (fun _ h => h.elim))).down hsz⟩
        have HBx := hid (uBlk w4 y)
        have hbase : w.heap.size ≤ (uBox w4 y).heap.size := HF4.out.size
        clear f4 hy hl1 hl2 HC HCp k0 k1 k2 k3
        obtain ⟨n', s', ra', rl', rc', aa', al', ac'⟩ := y
        simp only [uBox, Uv.cs, Uv.v] at *
        go_wp2_with (at_builtin; refine Hid.out ?_)
        refine wpList_app_U (by rfl) _ _ (by rfl) w.heap.size _ X [⟨n', s', ra', rl', rc', aa', al', ac'⟩] (some ⟨w4.heap.size, 0, none⟩) 1 (by rfl) (by rfl) HO4.out.own (fun _ => ⟨w4.heap.size, 0, rfl, fun q u hq => by rw [Nat.zero_add, HBx.out.cell q]; simpa [flatU, Uv.cs] using hq⟩) hbase (by simp; omega) ?_
        intro v' W' ho hg _
        obtain ⟨va', vc', hv'⟩ := own_len ho
        subst hv'
        have HO5 := hid (HO4.out.next HY4.out HL4.out ho hg)
        rw [List.length_append, List.length_singleton] at HO5
        have HB5 : Hid (Blk W' w.heap.size 68 (grC R.length (wgF R R))) := HB4.out.of_eq (hg.block _ HB4.out.lt (fun e => by
          obtain ⟨c, hc⟩ := own_typed HO4.out.own _ e.symm
          have h2 := HB4.out
          unfold Blk at h2
          rw [hc] at h2
          cases h2))
        have HF5 : Hid (Fr (fun _ => False) w W') := HF4.out.grown hg (fun k hk => .inr (own_lt HO4.out.own k hk).1)
        clear ho hg HO4 HB4 HF4 HY4 HL4 HBx hbase
        go_wp2_with fail
        rw [HNp.out]
        exact ⟨⟨drp left i, f', out ++ [u], _, _, rfl, rfl, HDb.out, HR.out, HS1.out, HS2.out, HO5.out, HB5.out, HF5.out⟩, by have := HDl.out; simp [intOf]; omega⟩
end Go.Proofs.YtcpeebkfnnkjnaaDoor.Tr
