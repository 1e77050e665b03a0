/- The contract of places. -/
import Derived.Test.YtcpeebkfnnkjnaaDoorUit
import Derived.Test.YtcpeebkfnnkjnaaDoorUpm
import Derived.Laws.MakeOwn
namespace Go.Proofs.YtcpeebkfnnkjnaaDoor.Tr
open Go.RowKit Go.Shelf Go.Maps

attribute [local go_sem] Oper.semAt_some

def prN (p : Pr) : Nat × Nm := (p.1.1, p.1.2.n)
/-- The map while it is filled: m, its variable at m + 1, the list's at m + 2. -/
structure PIv (w : World) (pre : List Pr) (W : World) : Prop where
  map : ∃ D : DataW Unit, W.ownsMap Tryd.prog 9 (plainElem Tryd.prog 3) w.heap.size pre.length D ∧ Mof D (pre.map prN)
  var : Blk W (w.heap.size + 1) 47 [.map (some w.heap.size)]
  sz : w.heap.size + 3 ≤ W.heap.size
  fr : Fr (fun _ => False) w W
theorem heap_putObj_ne {W : World} {l k : Nat} {o : Obj} (h : k ≠ l) : (W.putObj l o).heap[k]? = W.heap[k]? := by
  simp [World.putObj, Ne.symm h]
theorem PIv.own {w : World} {pre : List Pr} {W W' : World} {row : Option Nat} (h : PIv w pre W) (hg : W.grownBy W' row) (hr : ∀ r, row = some r → w.heap.size + 3 ≤ r ∧ ∃ o : Obj, W.heap[r]? = some o ∧ o.isCells = false) : PIv w pre W' := by
  have hf : Fr (fun k => row = some k) W W' := (Fr.refl _ W).grown hg (fun k hk => .inl hk)
  obtain ⟨D, hM, hK⟩ := h.map
  refine ⟨⟨D, ?_, hK⟩, hf.blk h.var (fun e => by have := (hr _ e).1; omega), Nat.le_trans h.sz hg.size, h.fr.grown hg (fun k hk => .inr (by have := (hr _ hk).1; omega))⟩
  obtain ⟨es, clock, g1, g2⟩ := hM
  have hlt : w.heap.size < W.heap.size := by have := h.sz; omega
  exact ⟨es, clock, (hf.block _ hlt (fun e => by have := (hr _ e).1; omega)).trans g1, g2⟩
theorem PIv.step {w W W' : World} {pre : List Pr} (x : Pr) (h : PIv w pre W) (D : DataW Unit) (hK : Mof D (pre.map prN)) (hM : W'.ownsMap Tryd.prog 9 (plainElem Tryd.prog 3) w.heap.size (pre.length + 1) (D.put (.string x.1.2.n) (.lit (.int .i64 (x.1.1 : Int))))) (hg : W.grownBy W' (some w.heap.size)) : PIv w (pre ++ [x]) W' := by
  have hf : Fr (fun k => k = w.heap.size) W W' := (Fr.refl _ W).grown hg (fun k hk => .inl (by injection hk with hk; exact hk.symm))
  refine ⟨⟨_, by rw [List.length_append]; exact hM, ?_⟩, hf.blk h.var (by omega), Nat.le_trans h.sz hg.size, h.fr.grown hg (fun k hk => .inr (by injection hk with hk; omega))⟩
  rw [List.map_append]
  exact hK.step x.1.1 x.1.2.n
def PlPost (w : World) (l : List Ut) (e : Ending) (w' : World) : Prop := ∃ m, e = .returned (.map (some m)) ∧ Pm w' m l ∧ w.heap.size ≤ m ∧ Fr (fun _ => False) w w'

/-- What comes from behind, of units that lie somewhere. -/
theorem seq_of {w0 w : World} {l : List Ut} {ad : Option Addr} (hU : Us w0 w l ad) (hl : l.length ≤ lim) (c : Nat) : ∃ (b o : Nat) (g : Nat → Pr), (b = c ∨ b < w.heap.size) ∧ (upto g l.length).map prN = bhd l ∧ ∀ i k, i + 1 + k = l.length → (g k).1.1 = i ∧ ad = some ⟨b, o, none⟩ ∧ four w b (o + i * 4) (g k).1.2 := by
  by_cases h0 : l = []
  · subst h0
    exact ⟨c, 0, fun _ => ⟨(0, uZ), by simp [lim, uZ]⟩, .inl rfl, rfl, fun i k h => by simp at h⟩
  · obtain ⟨b, o, e, hc⟩ := hU h0
    have hall : ∀ k, ∃ p : Pr, ∀ i (h : i < l.length), i + 1 + k = l.length → p.1.1 = i ∧ four w b (o + i * 4) p.1.2 ∧ p.1.2.n = l[i].n := fun k => by
      by_cases hk : k < l.length
      · have hi : l.length - 1 - k < l.length := by omega
        obtain ⟨x, x1, x2⟩ := hc (l.length - 1 - k) hi
        refine ⟨⟨(l.length - 1 - k, x), by simp only; omega, by simp only; rw [x2.n]; exact x2.ok.n⟩, fun i h hik => ?_⟩
        obtain rfl : i = l.length - 1 - k := by omega
        exact ⟨rfl, x1, x2.n⟩
      · exact ⟨⟨(0, uZ), by simp [lim, uZ]⟩, fun i h hik => by omega⟩
    refine ⟨b, o, fun k => Classical.choose (hall k), .inr ?_, ?_, fun i k h => ?_⟩
    · obtain ⟨x, x1, _⟩ := hc 0 (List.length_pos_iff.2 h0)
      have := x1.all.1
      rcases Nat.lt_or_ge b w.heap.size with hl | hl
      · exact hl
      · unfold World.cell? at this
        simp only [Array.getElem?_eq_none hl] at this
        simp at this
    · refine List.ext_getElem (by simp [upto, bhd]) (fun k h1 h2 => ?_)
      have hk : k < l.length := by simpa [upto] using h1
      have hi : l.length - 1 - k < l.length := by omega
      have hs := Classical.choose_spec (hall k) (l.length - 1 - k) hi (by omega)
      simp only [upto, bhd, List.getElem_map, List.getElem_range, List.getElem_reverse, List.length_range, prN]
      rw [hs.1, hs.2.2, List.getElem?_eq_getElem hi]
      rfl
    · have hs := Classical.choose_spec (hall k) i (by omega) h
      exact ⟨hs.1, e, hs.2.1⟩
theorem run_mk47 (w : World) (n : Int) : (Instr.makeMap 47 (some (.int .i64 n))).run Tryd.prog w = .ok (.map (some w.heap.size)) (w.alloc (.map #[] 0)) := by
  simp [Instr.makeMap, run_underlying Tryd.underlying47, asInt, asIntOf, Result.andThen]

set_option maxRecDepth 100000 in
set_option maxHeartbeats 4000000 in
theorem places_any (w0 w : World) (l : List Ut) (ad : Option Addr) (cap : Nat) (hU : Us w0 w l ad) (hl : l.length ≤ 1000000) :
    Calls Tryd.prog 25 #[.slice ad l.length cap] w fun e w' => PlPost w l e w' := by
  have hmm := run_mk47 w (l.length : Int)
  have HU := hid hU
  have hl' : l.length ≤ 140737488351232 := by omega
  clear hU
  refine (callsIn_wide (n := 10)).1 ?_
  refine callsIn_of_wp_marks Tryd.func25 rfl trivial ?_ rfl
  simp only [Tryd.ntmps25, List.size_toArray, List.length_cons, List.length_nil, Nat.reduceAdd, Nat.reduceSub, Array.replicate_succ, Array.replicate_zero, List.push_toArray, List.append_toArray, List.nil_append, List.cons_append]
  refine wpIn_wide.2 ?_
  go_wp2_with fail
  refine (behind_any _ ad l.length cap).mono ?_
  rintro e w3 ⟨rfl, rfl⟩
  clear hmm
  go_wp2_with fail
  obtain ⟨b, o, g, hb, hgb, hg⟩ := seq_of HU.out (show l.length ≤ lim by unfold lim; omega) (w.heap.size + 1 + 1)
  have HS3 : Hid ((((w.alloc (.map #[] 0)).alloc (.cells #[.map (some w.heap.size)] 47)).alloc (.cells #[.slice ad l.length cap] 22)).heap.size = w.heap.size + 3) := by unfold Hid; simp
  have HF3 : Hid (Fr (fun _ => False) w (((w.alloc (.map #[] 0)).alloc (.cells #[.map (some w.heap.size)] 47)).alloc (.cells #[.slice ad l.length cap] 22))) := (((Fr.refl _ w).alloc _).alloc _).alloc _
  have HB3 : Hid (Blk (((w.alloc (.map #[] 0)).alloc (.cells #[.map (some w.heap.size)] 47)).alloc (.cells #[.slice ad l.length cap] 22)) (w.heap.size + 1 + 1) 22 [.slice ad l.length cap]) := by
    have := Blk.new ((w.alloc (.map #[] 0)).alloc (.cells #[.map (some w.heap.size)] 47)) 22 [.slice ad l.length cap]
    rw [World.size_alloc, World.size_alloc] at this
    exact this
  have HI0 : Hid (PIv w [] (((w.alloc (.map #[] 0)).alloc (.cells #[.map (some w.heap.size)] 47)).alloc (.cells #[.slice ad l.length cap] 22))) := by
    refine ⟨⟨.map [], ((World.ownsMap_made _ _ _ _).alloc _).alloc _, Mof.zero⟩, ?_, by rw [HS3.out]; exact Nat.le_refl _, HF3.out⟩
    have := (Blk.new (w.alloc (.map #[] 0)) 47 [.map (some w.heap.size)]).alloc (.cells #[.slice ad l.length cap] 22)
    rw [World.size_alloc] at this
    exact this
  have HG3 : Hid (∀ i k, i + 1 + k = l.length → (g k).1.1 = i ∧ ad = some ⟨b, o, none⟩ ∧ four (((w.alloc (.map #[] 0)).alloc (.cells #[.map (some w.heap.size)] 47)).alloc (.cells #[.slice ad l.length cap] 22)) b (o + i * 4) (g k).1.2) := fun i k h => ⟨(hg i k h).1, (hg i k h).2.1, (hg i k h).2.2.env (Env.of HF3.out)⟩
  have HGb := hid hgb
  have hbm : b ≠ w.heap.size := by omega
  have hbl : b < w.heap.size + 3 := by omega
  clear hg hgb HU
  generalize ((w.alloc (.map #[] 0)).alloc (.cells #[.map (some w.heap.size)] 47)).alloc (.cells #[.slice ad l.length cap] 22) = W3 at *
  refine (wpIn_wide (n := 10)).1 ?_
  refine wpIn_rangeFunc_ownH (F := Fence.wide) (n := 10) rfl (by omega) (gf := 41) (lb := #[.pointer (some ⟨w.heap.size + 1 + 1, 0, none⟩)]) rfl trivial (enters_of Tryd.func41 (by kernel_rfl) rfl)
    (behind_stops 9 (by omega) (w.heap.size + 1 + 1) b o l.length cap ad g (by unfold lim; omega) W3 HB3.out (by rw [HS3.out]; exact hbl) HG3.out) (fun h1 h2 => ⟨h2.1.trans h1.1, h2.2.trans h1.2⟩)
    (fun W j o1 o2 hj _ _ _ => by
      rw [HS3.out] at hj
      exact ⟨heap_putObj_ne (by omega), heap_putObj_ne (by omega)⟩) (Below.refl _ _) (fun _ => rfl)
    (PIv w) (fun _ _ _ => False) (fun pre A B row hs hg hr => hs.own hg (fun r e => by have := hr r e; rwa [HS3.out] at this)) (fun _ _ _ _ _ h _ _ => h) HI0.out
    (fun x a' W => ∃ Bx, w.heap.size + 3 ≤ Bx ∧ Blk W Bx 32 x.1.2.cs ∧ a' = { tmps := #[.slice ad l.length cap, undef, .map none, .pointer (some ⟨w.heap.size + 1, 0, none⟩), .int .i64 (x.1.1 : Int), .pointer (some ⟨Bx, 0, none⟩), .slice ad l.length cap, .int .i64 (l.length : Int), .map (some w.heap.size), .slice ad l.length cap, .func (.func 41) #[] #[.pointer (some ⟨w.heap.size + 1 + 1, 0, none⟩)], .int .i64 (x.1.1 : Int), x.1.2.v, undef, undef, undef, undef, undef], defers := [] })
    ?hAx ?assign ?body ?done ?stop
  case hAx =>
    rintro x a' _ A B row ⟨Bx, h1, h2, h3⟩ hg hr
    refine ⟨Bx, h1, h2.of_eq (hg.block Bx h2.lt (fun e => ?_)), h3⟩
    obtain ⟨_, o1, q1, q2⟩ := hr Bx e.symm
    have h2' : A.heap[Bx]? = some (.cells x.1.2.cs.toArray 32 (0, 0)) := h2
    rw [h2'] at q1
    cases q1
    cases q2
  case assign =>
    intro l' pre x W K hi hK
    have HK := hid hK
    have HI := hid hi
    have HBx := hid (uBlk W x.1.2)
    clear hK hi HI0 HG3
    obtain ⟨⟨i, n, s, ra, rl, rc, aa, al, ac⟩, hx⟩ := x
    dsimp only [encP, Uv.v, Uv.cs]
    gi_wp2
    refine HK.out _ _ ((KeepsOthers.alloc _ _).from _) ⟨Below.heap_alloc _ _ _ (by have := HI.out.sz; omega), Below.heap_alloc _ _ _ (by have := HI.out.sz; omega)⟩ (HI.out.own (W' := W.alloc _) (row := none) ⟨rfl, rfl, rfl, by simp, fun k hk _ => Below.heap_alloc _ _ k hk⟩ (fun r e => by cases e)) ⟨W.heap.size, HI.out.sz, HBx.out, rfl⟩
  case body =>
    rintro l' pre x a' W hl' ⟨r, hr⟩ hi ⟨Bx, hBx, bX, rfl⟩ hlt
    obtain ⟨D, hM, hMo⟩ := hi.map
    have HI := hid hi
    have HM := hid hM
    have HMo := hid hMo
    have q0 := hi.var.cell 0
    simp only [List.getElem?_cons_zero] at q0
    obtain ⟨k0, _, _, _⟩ := bX.fourU
    have hkey := keyS x.2.2
    have HWf : Hid ((Lit.int .i64 (x.1.1 : Int)).wf = true) := WalkArith.wf_i64 (by have := x.2.1; unfold lim at this; omega)
    clear hi hM hMo hr bX HI0 HG3
    gi_wp2_with (gi_at_mapUpdate; refine wpListIn_mapUpdate_own _ rfl _ _ _ 47 rfl 9 3 lawS Tryd.underlying47 _ w.heap.size pre.length D rfl HM.out (by unfold maxLen; omega) _ _ _ rfl rfl hkey _ [] (plainElem_int Tryd.underlying3 HWf.out) ?_; intro w1 hown1 hgrow1)
    exact ⟨KeepsFrom.of_grownBy hgrow1 (fun j e => by cases e; rw [HS3.out]; omega), ⟨hgrow1.block _ (by have := HI.out.sz; omega) (fun e => by injection e with e; omega), hgrow1.block _ (by have := HI.out.sz; omega) (fun e => by injection e with e; omega)⟩, HI.out.step x D HMo.out hown1 hgrow1⟩
  case stop =>
    intro D' c pre W hD' hpre hM hK
    exact hM.elim
  case done =>
    intro D' ys W hD' hys hM hK
    subst hys
    rw [HS3.out] at hD'
    obtain ⟨D, hMp, hMo⟩ := hM.map
    rw [HGb.out, upto_len] at *
    have HP : Hid (Pm W w.heap.size l) := ⟨l.length, D, Nat.le_refl _, hMp, fun x => by have := hMo.2 x; rwa [lastP_bhd] at this⟩
    have HF := hid hM.fr
    have q0 := hM.var.cell 0
    simp only [List.getElem?_cons_zero] at q0
    have HKd := hid hK
    clear hM hMp hMo hK
    go_wp2
    refine ⟨by simp, .inl ⟨_, _, rfl, run_takeDeferred HKd.out, ?_⟩⟩
    refine ⟨_, results_tmp rfl _ _ _, ?_⟩
    have hf : Fr (fun k => k = D') W (W.putObj D' (.deferred none)) := (Fr.refl _ W).grown (grownBy_putObj' W D' (.deferred none)) (fun k e => .inl (by injection e with e; exact e.symm))
    exact ⟨w.heap.size, rfl, HP.out.fr hf (by omega), Nat.le_refl _, HF.out.grown (grownBy_putObj' W D' (.deferred none)) (fun k e => .inr (by injection e with e; omega))⟩
end Go.Proofs.YtcpeebkfnnkjnaaDoor.Tr
