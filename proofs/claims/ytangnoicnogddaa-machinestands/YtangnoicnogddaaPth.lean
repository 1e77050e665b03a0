/- The contract of the program's Path. -/
import Derived.Test.YtangnoicnogddaaPcs
import Derived.Maps.AppendAt
namespace Go.Proofs.Ytangnoicnogddaa.Tr
open Go.RowKit Go.Shelf

attribute [local go_sem] Oper.semAt_some

/-- A path's names, and whether it is one (the program's Path). -/
def dpath (l : List UInt8) : List (List UInt8) × Bool := if (pathN l).2 then pathN l else ([], false)
theorem dpath_2 (l : List UInt8) : (dpath l).2 = (pathN l).2 := by unfold dpath; split <;> simp_all
theorem dpath_no (l : List UInt8) (h : (pathN l).2 = false) : dpath l = ([], false) := by unfold dpath; rw [h]; rfl
theorem dpath_yes (l : List UInt8) (h : (pathN l).2 = true) : dpath l = pathN l := by unfold dpath; rw [h]; rfl

theorem results2 {fn : Func} {t1 t2 : Tmp} (h : fn.results = #[.cell t1 30, .cell t2 4]) {tmps : Array Value} {W : World} {b1 b2 : Nat} {v1 v2 : Value} {x1 x2 : TypeId} (ha : tmps.getD t1 undef = .pointer (some ⟨b1, 0, none⟩)) (ha2 : tmps.getD t2 undef = .pointer (some ⟨b2, 0, none⟩)) (hb : Blk W b1 x1 [v1]) (hb2 : Blk W b2 x2 [v2]) :
    (results fn tmps).run Try.prog W = .ok (.tuple #[v1, v2]) W := by
  have ha' : tmps[t1]?.getD undef = .pointer (some ⟨b1, 0, none⟩) := by simpa using ha
  have ha2' : tmps[t2]?.getD undef = .pointer (some ⟨b2, 0, none⟩) := by simpa using ha2
  have hc := hb.cell 0
  have hc2 := hb2.cell 0
  simp only [List.getElem?_cons_zero] at hc hc2
  have hu := Try.underlying30
  have hu2 := Try.underlying4
  simp [results, h, ha', ha2', asAddr, loadVar, isAgg, run_underlying hu, run_underlying hu2, go_sem, hc, hc2]

theorem heap_putObj_ne {W : World} {r k : Nat} {o : Obj} (h : k ≠ r) : (W.putObj r o).heap[k]? = W.heap[k]? := by
  have hg := grownBy_putObj' W r o
  rcases Nat.lt_or_ge k W.heap.size with hk | hk
  · exact hg.block k hk (fun e => h (by simpa using e))
  · have hs : (W.putObj r o).heap.size = W.heap.size := by simp [World.putObj]
    rw [Array.getElem?_eq_none hk, Array.getElem?_eq_none (by omega)]
theorem Blk.turned {w w' : World} {b : Nat} {t : TypeId} {xs : List Value} {row : Option Nat} (h : Blk w b t xs) (hg : w.grownBy w' row) (hr : ∀ r, row = some r → ∃ o : Obj, w.heap[r]? = some o ∧ o.isCells = false) : Blk w' b t xs :=
  h.of_eq (hg.block b h.lt (fun e => by
    obtain ⟨o, ho, hc⟩ := hr b e.symm
    have h' : w.heap[b]? = some (.cells xs.toArray t (0, 0)) := h
    rw [h'] at ho
    cases ho
    cases hc))
theorem owns_turned {w w' : World} {B : Nat} {e : TypeId} {s : Nat} {v : Value} {n : Nat} {xs : List Value} {row : Option Nat} (h : w.ownsRow B e s v n xs) (hg : w.grownBy w' row) (hr : ∀ r, row = some r → ∃ o : Obj, w.heap[r]? = some o ∧ o.isCells = false) : w'.ownsRow B e s v n xs := by
  refine owns_of_eq h (fun k hk => hg.block k (h.lt k hk).2 (fun e => ?_))
  obtain ⟨o, ho, hc⟩ := hr k e.symm
  rcases h.2 with ⟨h0, _⟩ | ⟨g, cap, cur, hv, _, hg', _⟩
  · rw [h0] at hk; cases hk
  · rw [hv] at hk
    obtain rfl : g = k := by simpa [Value.ownBlock] using hk
    rw [hg'] at ho
    cases ho
    cases hc

theorem owns_base {w : World} {B B' : Nat} {e : TypeId} {s : Nat} {v : Value} {n : Nat} {xs : List Value} (h : w.ownsRow B e s v n xs) (hb : B' ≤ B) : w.ownsRow B' e s v n xs :=
  ⟨h.1, h.2.imp id (fun ⟨g, cap, cur, h1, h2, h3⟩ => ⟨g, cap, cur, h1, Nat.le_trans hb h2, h3⟩)⟩
/-- In mid-way: the names of pre are taken in. -/
structure PMid (w W : World) (pre : List (List UInt8)) : Prop where
  b1 : Blk W w.heap.size 30 [.slice none 0 0]
  b2 : Blk W (w.heap.size + 1) 4 [.bool false]
  v : ∃ v, Blk W (w.heap.size + 2) 30 [v] ∧ W.ownsRow (w.heap.size + 4) 9 1 v pre.length (strs pre)
  nm : pre.all nameB = true
  few : pre.length ≤ 16
  fr : Fr (fun _ => False) w W
  sz : w.heap.size + 4 ≤ W.heap.size
theorem PMid.turned {w W W' : World} {pre : List (List UInt8)} {row : Option Nat} (h : PMid w W pre) (hg : W.grownBy W' row) (hr : ∀ r, row = some r → w.heap.size + 4 ≤ r ∧ ∃ o : Obj, W.heap[r]? = some o ∧ o.isCells = false) : PMid w W' pre :=
  ⟨Blk.turned h.b1 hg (fun r e => (hr r e).2), Blk.turned h.b2 hg (fun r e => (hr r e).2), by
    obtain ⟨v, hb, ho⟩ := h.v
    exact ⟨v, Blk.turned hb hg (fun r e => (hr r e).2), owns_turned ho hg (fun r e => (hr r e).2)⟩, h.nm, h.few, h.fr.grown hg (fun k e => .inr (by have := (hr k e).1; omega)), Nat.le_trans h.sz hg.size⟩

/-- A round has left: what has come shows that there is no path. -/
structure PEnd (w W : World) (pre : List (List UInt8)) : Prop where
  b1 : Blk W w.heap.size 30 [.slice none 0 0]
  b2 : Blk W (w.heap.size + 1) 4 [.bool false]
  bad : pre.all nameB = false ∨ 16 < pre.length
  fr : Fr (fun _ => False) w W
theorem PEnd.turned {w W W' : World} {pre : List (List UInt8)} {row : Option Nat} (h : PEnd w W pre) (hg : W.grownBy W' row) (hr : ∀ r, row = some r → w.heap.size + 4 ≤ r ∧ ∃ o : Obj, W.heap[r]? = some o ∧ o.isCells = false) : PEnd w W' pre :=
  ⟨Blk.turned h.b1 hg (fun r e => (hr r e).2), Blk.turned h.b2 hg (fun r e => (hr r e).2), h.bad, h.fr.grown hg (fun k e => .inr (by have := (hr k e).1; omega))⟩
theorem PMid.ends {w W : World} {pre : List (List UInt8)} (h : PMid w W pre) (x : List UInt8) (hx : nameB x = false ∨ pre.length = 16) : PEnd w ((W.setCell ⟨w.heap.size, 0, none⟩ (.slice none 0 0)).setCell ⟨w.heap.size + 1, 0, none⟩ (.bool false)) (pre ++ [x]) :=
  ⟨(h.b1.setCell 0 _).setCell_ne (by simp) _, (h.b2.setCell_ne (by simp) _).setCell 0 _, hx.imp (fun e => by rw [List.all_append, List.all_cons, e]; simp) (fun e => by simp [e]), (h.fr.setCell (.inr (Nat.le_refl _)) _).setCell (.inr (by simp)) _⟩
theorem PMid.next {w W W1 : World} {pre : List (List UInt8)} {v v' : Value} (h : PMid w W pre) (x : List UInt8) (hx : nameB x = true) (hl : pre.length ≠ 16) (hv : Blk W (w.heap.size + 2) 30 [v]) (ho : W.ownsRow (w.heap.size + 4) 9 1 v pre.length (strs pre))
    (hown : W1.ownsRow (w.heap.size + 4) 9 1 v' (pre.length + 1) (strs pre ++ [.string ⟨x.toArray⟩])) (hg : (W.alloc (.cells #[.string ⟨x.toArray⟩] 9)).grownBy W1 v.ownBlock) :
    Blk W1 (w.heap.size + 2) 30 [v] ∧ PMid w (W1.setCell ⟨w.heap.size + 2, 0, none⟩ v') (pre ++ [x]) ∧ KeepsFrom (w.heap.size + 4) W (W1.setCell ⟨w.heap.size + 2, 0, none⟩ v') := by
  have hrow : ∀ k, v.ownBlock = some k → w.heap.size + 4 ≤ k := fun k hk => (ho.lt k hk).1
  have keep : ∀ {b t xs}, b < w.heap.size + 4 → Blk W b t xs → Blk W1 b t xs := fun hb hB => (hB.alloc _).of_eq (hg.block _ (hB.alloc _).lt (fun e => by have := hrow _ e.symm; omega))
  have h2 := keep (by omega) hv
  have hsz := hg.size
  have hsz0 := h.sz
  simp at hsz
  have h3 : W1.ownsRow (w.heap.size + 4) 9 1 v' (pre ++ [x]).length (strs (pre ++ [x])) := by rw [strs_app]; simpa [strs] using hown
  have hne : ∀ k, v'.ownBlock = some k → k ≠ w.heap.size + 2 := fun k hk => by have := (h3.lt k hk).1; omega
  refine ⟨h2, ⟨(keep (by omega) h.b1).setCell_ne (by simp) _, (keep (by omega) h.b2).setCell_ne (by simp) _, ⟨v', h2.setCell 0 _, owns_of_eq h3 (fun k hk => Below.heap_setCell W1 _ _ k (hne k hk))⟩, by rw [List.all_append, h.nm, List.all_cons, hx]; rfl, by have := h.few; simp; omega, ?_, by simp [World.setCell]; omega⟩, ?_⟩
  · exact ((h.fr.alloc _).grown hg (fun k e => .inr (by have := hrow k e; omega))).setCell (.inr (by simp)) _
  · refine ⟨by simp [World.setCell]; omega, fun k o hB hk hc => ?_⟩
    rw [Below.heap_setCell W1 _ _ k (by simp; omega)]
    have hlt := (Array.getElem?_eq_some_iff.1 hk).1
    rw [hg.block k (by simp; omega) (fun e => ?_), Below.heap_alloc W _ k hlt, hk]
    rcases ho.2 with ⟨h0, _⟩ | ⟨g, cap, cur, hv', _, hg', _⟩
    · rw [h0] at e; cases e
    · rw [hv'] at e
      obtain rfl : k = g := by simpa [Value.ownBlock] using e
      rw [hg'] at hk
      cases hk
      cases hc

set_option maxRecDepth 100000 in
set_option maxHeartbeats 2000000 in
theorem path_any (w : World) (l : List UInt8) : Calls Try.prog 80 #[.string ⟨l.toArray⟩] w (PathPost w (dpath l)) := by
  have HPost : Hid (∀ v w', w'.ownsRow w.heap.size 9 1 v (dpath l).1.length (strs (dpath l).1) → Fr (fun _ => False) w w' → PathPost w (dpath l) (.returned (.tuple #[v, .bool (dpath l).2])) w') := fun v w' a b => ⟨v, rfl, a, b⟩
  have HB1 : Hid (Blk ((w.alloc (.cells #[.slice none 0 0] 30)).alloc (.cells #[.bool false] 4)) w.heap.size 30 [.slice none 0 0]) := (Blk.new w 30 [.slice none 0 0]).alloc _
  have HB2 : Hid (Blk ((w.alloc (.cells #[.slice none 0 0] 30)).alloc (.cells #[.bool false] 4)) (w.heap.size + 1) 4 [.bool false]) := by
    have := Blk.new (w.alloc (.cells #[.slice none 0 0] 30)) 4 [.bool false]
    rw [World.size_alloc] at this
    exact this
  have HF : Hid (Fr (fun _ => False) w ((w.alloc (.cells #[.slice none 0 0] 30)).alloc (.cells #[.bool false] 4))) := ((Fr.refl _ w).alloc _).alloc _
  have HCp := hid (cutpre_any ((w.alloc (.cells #[.slice none 0 0] 30)).alloc (.cells #[.bool false] 4)) l)
  generalize hW1 : (w.alloc (.cells #[.slice none 0 0] 30)).alloc (.cells #[.bool false] 4) = W1 at *
  have hs1 : W1.heap.size = w.heap.size + 2 := by rw [← hW1]; simp
  refine (callsIn_wide (n := 10)).1 ?_
  refine callsIn_of_wp_marks Try.func80 rfl trivial ?_ rfl
  simp only [Try.ntmps80, List.size_toArray, List.length_cons, List.length_nil, Nat.reduceAdd, Nat.reduceSub, Array.replicate_succ, Array.replicate_zero, List.push_toArray, List.append_toArray, List.nil_append, List.cons_append]
  refine wpIn_wide.2 ?_
  by_cases h1 : hasSl l = true
  · rw [h1] at HCp
    simp only [if_true] at HCp
    by_cases h2 : 200 < l.length
    · have h2' : (200 : Int) < (l.length : Int) := by omega
      have HD : Hid (dpath l = ([], false)) := dpath_no l (by rw [pathN_no l (fun e => by rw [e] at h2; simp at h2) (.inr (.inl h2))])
      have q0 := HB1.out.cell 0
      have z0 := HB1.out.frozen 0
      have q1 := HB2.out.cell 0
      have z1 := HB2.out.frozen 0
      simp only [List.getElem?_cons_zero] at q0 q1
      generalize l.drop 1 = rest at *
      go_wp2_with fail
      refine HCp.out.mono ?_
      rintro e w2 ⟨rfl, rfl⟩
      go_wp2
      refine ⟨_, results2 rfl rfl rfl ((HB1.out.setCell 0 _).setCell_ne (by simp) _) ((HB2.out.setCell_ne (by simp) _).setCell 0 _), ?_⟩
      rw [HD.out]
      exact ⟨_, rfl, ownsRow_none _ _ _ _, (HF.out.setCell (.inr (Nat.le_refl _)) _).setCell (.inr (by simp)) _⟩
    · have h2' : ¬ (200 : Int) < (l.length : Int) := by omega
      by_cases h3 : l.drop 1 = []
      · have hl : l = [47] := by
          cases l with
          | nil => cases h1
          | cons c r =>
            simp [hasSl] at h1
            simp at h3
            rw [h1, h3]
        have HD : Hid (dpath l = ([], true)) := by unfold Hid; rw [hl]; rfl
        have q0 := HB1.out.cell 0
        have z0 := HB1.out.frozen 0
        have q1 := HB2.out.cell 0
        have z1 := HB2.out.frozen 0
        simp only [List.getElem?_cons_zero] at q0 q1
        rw [h3] at HCp
        clear hl h3
        go_wp2_with fail
        refine HCp.out.mono ?_
        rintro e w2 ⟨rfl, rfl⟩
        go_wp2
        refine ⟨_, results2 rfl rfl rfl ((HB1.out.setCell 0 _).setCell_ne (by simp) _) ((HB2.out.setCell_ne (by simp) _).setCell 0 _), ?_⟩
        rw [HD.out]
        exact ⟨_, rfl, ownsRow_none _ _ _ _, (HF.out.setCell (.inr (Nat.le_refl _)) _).setCell (.inr (by simp)) _⟩
      · have h3' : ((l.drop 1) == []) = false := by simpa using h3
        have hrl : (l.drop 1).length ≤ 140737488355328 := by simp; omega
        have hne : l ≠ [47] := fun e => h3 (by rw [e]; rfl)
        have hok : ¬ (l.length = 0 ∨ 200 < l.length ∨ l.head? ≠ some 47) := by
          rintro (h | h | h)
          · exact h3 (by rw [List.length_eq_zero_iff.1 h]; rfl)
          · exact h2 h
          · exact h (by simpa [hasSl] using h1)
        have HBad := hid (fun hn => dpath_no l (by rw [pathN_bad l hne hok hn]))
        have HLong : Hid (16 < (cutS [] (l.drop 1)).length → dpath l = ([], false)) := fun hn => by
          cases hb : (cutS [] (l.drop 1)).all nameB with
          | false => exact HBad.out hb
          | true => exact dpath_no l (by rw [pathN_ok l hne hok hb]; exact decide_eq_false (by omega))
        have HGood : Hid ((cutS [] (l.drop 1)).all nameB = true → (cutS [] (l.drop 1)).length ≤ 16 → dpath l = (cutS [] (l.drop 1), true)) := fun hb hn => by
          rw [dpath_yes l (by rw [pathN_ok l hne hok hb]; exact decide_eq_true hn), pathN_ok l hne hok hb, decide_eq_true hn]
        clear hne hok
        generalize l.drop 1 = rest at *
        have HPc := hid (pieces_any (W1.alloc (.cells #[.slice none 0 0] 30)) rest)
        clear h3
        go_wp2_with fail
        refine HCp.out.mono ?_
        rintro e w2 ⟨rfl, rfl⟩
        go_wp2_with fail
        refine HPc.out.mono ?_
        rintro e w3 ⟨rfl, rfl⟩
        go_wp2_with fail
        have HBx : Hid (Blk ((w2.alloc (.cells #[.slice none 0 0] 30)).alloc (.cells #[.string ⟨rest.toArray⟩] 9)) (w.heap.size + 2 + 1) 9 [.string ⟨rest.toArray⟩]) := by
          have := Blk.new (w2.alloc (.cells #[.slice none 0 0] 30)) 9 [.string ⟨rest.toArray⟩]
          rw [World.size_alloc, hs1] at this
          exact this
        have HB3 : Hid (Blk ((w2.alloc (.cells #[.slice none 0 0] 30)).alloc (.cells #[.string ⟨rest.toArray⟩] 9)) (w.heap.size + 2) 30 [.slice none 0 0]) := by
          have := (Blk.new w2 30 [.slice none 0 0]).alloc (.cells #[.string ⟨rest.toArray⟩] 9)
          rw [hs1] at this
          exact this
        have hsz3 : ((w2.alloc (.cells #[.slice none 0 0] 30)).alloc (.cells #[.string ⟨rest.toArray⟩] 9)).heap.size = w.heap.size + 4 := by simp [hs1]
        have HI0 : Hid (PMid w ((w2.alloc (.cells #[.slice none 0 0] 30)).alloc (.cells #[.string ⟨rest.toArray⟩] 9)) []) :=
          ⟨(HB1.out.alloc _).alloc _, (HB2.out.alloc _).alloc _, ⟨_, HB3.out, ownsRow_none _ _ _ _⟩, rfl, by simp, (HF.out.alloc _).alloc _, by omega⟩
        clear HCp HPc HB1 HB2 HF HB3 hW1 hs1
        generalize (w2.alloc (.cells #[.slice none 0 0] 30)).alloc (.cells #[.string ⟨rest.toArray⟩] 9) = W3 at *
        refine (wpIn_wide (n := 10)).1 ?_
        refine wpIn_rangeFunc_ownG (F := Fence.wide) (n := 10) rfl (by omega) (gf := 95) (lb := #[.pointer (some ⟨w.heap.size + 2 + 1, 0, none⟩)]) rfl trivial (enters_of Try.func95 (by kernel_rfl) rfl)
          (pieces_stops 9 (by omega) (w.heap.size + 2 + 1) rest hrl W3 HBx.out) (fun _ _ => trivial) (fun _ _ _ _ _ _ _ _ => trivial) (Below.refl _ _) (fun _ => rfl)
          (fun pre W => PMid w W pre) (fun c pre W => c = Code.ret ∧ PEnd w W pre)
          (fun pre A B row hs hg hr => hs.turned hg (fun r e => by have := hr r e; rwa [hsz3] at this)) (fun c pre A B row hs hg hr => ⟨hs.1, hs.2.turned hg (fun r e => by have := hr r e; rwa [hsz3] at this)⟩) HI0.out
          (fun x => { tmps := #[.string ⟨l.toArray⟩, undef, .pointer (some ⟨w.heap.size, 0, none⟩), .pointer (some ⟨w.heap.size + 1, 0, none⟩), .string ⟨rest.toArray⟩, .bool true, .pointer (some ⟨w.heap.size + 2, 0, none⟩), .string ⟨x.toArray⟩,
            .tuple #[.string ⟨rest.toArray⟩, .bool true], .string ⟨l.toArray⟩, .tuple #[.string ⟨rest.toArray⟩, .bool true], .string ⟨rest.toArray⟩, .bool true, .bool true, .bool false, .bool false, .string ⟨l.toArray⟩, .int .i64 (l.length : Int), .bool (decide ((200 : Int) < (l.length : Int))), .bool (decide ((200 : Int) < (l.length : Int))),
            .string ⟨rest.toArray⟩, .bool false, .string ⟨rest.toArray⟩, .func (.func 95) #[] #[.pointer (some ⟨w.heap.size + 2 + 1, 0, none⟩)], .string ⟨x.toArray⟩, undef, undef, undef, undef, undef, undef, undef, undef, undef, undef, undef, undef, undef], defers := [] }) ?assign ?body ?done ?stop
        case assign =>
          intro l' x W K hK
          gi_wp2
          exact hK
        case body =>
          intro l' pre x W hM hlt
          have HM := hid hM
          have HNa := hid (name_any W x)
          obtain ⟨v, hbv, hov⟩ := hM.v
          obtain ⟨va, vc, rfl⟩ := own_len hov
          have HBv := hid hbv
          have HOv := hid hov
          have hf7 : (Fence.wide.inRound l').fn 7 := trivial
          have q0 := hM.b1.cell 0
          have z0 := hM.b1.frozen 0
          have q1 := hM.b2.cell 0
          have z1 := hM.b2.frozen 0
          have q2 := hbv.cell 0
          have z2 := hbv.frozen 0
          simp only [List.getElem?_cons_zero] at q0 q1 q2
          clear hM hbv hov HI0
          cases hb : nameB x with
          | false =>
            have HE := hid (HM.out.ends x (.inl hb))
            rw [hb] at HNa
            gi_wp2_with fail
            refine ⟨trivial, ?_⟩
            refine (CallsIn.inRound l' (callsIn_wide.2 HNa.out)).mono ?_
            rintro e W4 ⟨rfl, rfl⟩
            gi_wp2
            exact ⟨((KeepsOthers.setCell _ _ _).from _).trans ((KeepsOthers.setCell _ _ _).from _), rfl, HE.out⟩
          | true =>
            rw [hb] at HNa
            by_cases h16 : pre.length = 16
            · have HE := hid (HM.out.ends x (.inr h16))
              have h16' : ((pre.length : Int) == 16) = true := by simp; omega
              gi_wp2_with fail
              refine ⟨trivial, ?_⟩
              refine (CallsIn.inRound l' (callsIn_wide.2 HNa.out)).mono ?_
              rintro e W4 ⟨rfl, rfl⟩
              gi_wp2
              exact ⟨((KeepsOthers.setCell _ _ _).from _).trans ((KeepsOthers.setCell _ _ _).from _), rfl, HE.out⟩
            · have h16' : ((pre.length : Int) == 16) = false := by simp; omega
              have HNx := hid (fun (W1 : World) (v' : Value) hown hg => PMid.next (W1 := W1) (v' := v') HM.out x hb h16 HBv.out HOv.out hown hg)
              obtain ⟨i0, hi0, hz0, hz1, hz2⟩ := info_parts info9
              have Hi0 := hid hi0
              have Hz0 := hid hz0
              have Hz1 := hid hz1
              have Hz2 := hid hz2
              have hfew := HM.out.few
              have hszW := HM.out.sz
              clear hi0 hz0 hz1 hz2
              gi_wp2_with fail
              refine ⟨trivial, ?_⟩
              refine (CallsIn.inRound l' (callsIn_wide.2 HNa.out)).mono ?_
              rintro e W4 ⟨rfl, rfl⟩
              gi_wp2_with (gi_at_builtin; refine wpListIn_append_own _ rfl _ _ 30 rfl (w.heap.size + 4) 9 i0 _ 1 16 Try.underlying30 Hi0.out Hz0.out Hz1.out Hz2.out rfl (by decide) _ pre.length (strs pre) rfl (HOv.out.alloc _) ⟨W4.heap.size, 0, none⟩ 1 1 [.string ⟨x.toArray⟩] rfl rfl (cell_one_new _ _ _) (by simp [Value.oneCell']) (by unfold maxLen; omega) (by omega) (by simp; omega) ?_; intro v' w5 hown' hgrow _; obtain ⟨g', cap', rfl⟩ := ownsRow_succ hown'; obtain ⟨hb5, hm5, hk5⟩ := HNx.out _ _ hown' hgrow; have HM5 := hid hm5; have HK5 := hid hk5; have q5 := hb5.cell 0; have z5 := hb5.frozen 0; simp only [List.getElem?_cons_zero] at q5; clear hown' hgrow hm5 hk5 hb5)
              exact ⟨by rw [hsz3]; exact HK5.out, trivial, HM5.out⟩
        case stop =>
          intro D' c pre W hD' hpre hM hK
          obtain ⟨rfl, hM⟩ := hM
          obtain ⟨suf, hsuf⟩ := hpre
          have HD : Hid (dpath l = ([], false)) := by
            rcases hM.bad with hb | hb
            · exact HBad.out (by rw [← hsuf, List.all_append, hb]; rfl)
            · exact HLong.out (by rw [← hsuf]; simp; omega)
          have HT := hid (hM.turned (grownBy_putObj' W D' (.deferred none)) (fun r e => by cases e; exact ⟨by omega, _, hK, rfl⟩))
          have HKd := hid hK
          clear hM hK HBad HLong HGood
          refine wpIn_wide.2 ?_
          go_wp2
          refine ⟨by simp, .inl ⟨_, _, rfl, run_takeDeferred HKd.out, ?_⟩⟩
          refine ⟨_, results2 rfl rfl rfl HT.out.b1 HT.out.b2, ?_⟩
          rw [HD.out]
          exact ⟨_, rfl, ownsRow_none _ _ _ _, HT.out.fr⟩
        case done =>
          intro D' ys W hD' hys hM hK
          subst hys
          have HD := hid (HGood.out hM.nm hM.few)
          have HM := hid hM
          obtain ⟨v, hbv, hov⟩ := hM.v
          obtain ⟨va, vc, rfl⟩ := own_len hov
          have q0 := hM.b1.cell 0
          have z0 := hM.b1.frozen 0
          have q1 := hM.b2.cell 0
          have z1 := hM.b2.frozen 0
          have q2 := hbv.cell 0
          simp only [List.getElem?_cons_zero] at q0 q1 q2
          have HOv := hid hov
          have HKd := hid hK
          clear hM hbv hov hK HBad HLong HGood HI0
          generalize cutS [] rest = cs at *
          go_wp2
          have hKd6 : ((W.setCell ⟨w.heap.size, 0, none⟩ (.slice va cs.length vc)).setCell ⟨w.heap.size + 1, 0, none⟩ (.bool true)).heap[D']? = some (.deferred (some [])) := by
            rw [Below.heap_setCell _ _ _ D' (by simp; omega), Below.heap_setCell _ _ _ D' (by simp; omega)]
            exact HKd.out
          have hne : ∀ k, (Value.slice va cs.length vc).ownBlock = some k → w.heap.size + 4 ≤ k ∧ k ≠ D' := fun k hk => by
            refine ⟨(HOv.out.lt k hk).1, fun e => ?_⟩
            subst e
            rcases HOv.out.2 with ⟨h0, _⟩ | ⟨g, cap, cur, hv', _, hg', _⟩
            · rw [h0] at hk; cases hk
            · rw [hv'] at hk
              obtain rfl : g = k := by simpa [Value.ownBlock] using hk
              rw [HKd.out] at hg'
              cases hg'
          refine ⟨by simp, .inl ⟨_, _, rfl, run_takeDeferred hKd6, ?_⟩⟩
          refine ⟨_, results2 rfl rfl rfl (((HM.out.b1.setCell 0 (.slice va cs.length vc)).setCell_ne (by simp) (.bool true)).of_eq (heap_putObj_ne (by omega))) (((HM.out.b2.setCell_ne (by simp) (.slice va cs.length vc)).setCell 0 (.bool true)).of_eq (heap_putObj_ne (by omega))), ?_⟩
          rw [HD.out]
          refine ⟨_, rfl, ?_, ?_⟩
          · refine owns_base (owns_of_eq HOv.out (fun k hk => ?_)) (by omega)
            have := hne k hk
            rw [heap_putObj_ne this.2, Below.heap_setCell _ _ _ k (by simp; omega), Below.heap_setCell _ _ _ k (by simp; omega)]
          · exact (((HM.out.fr.setCell (.inr (Nat.le_refl _)) _).setCell (.inr (by simp)) _)).grown (grownBy_putObj' _ D' _) (fun k e => .inr (by cases e; omega))
  · have h1' : hasSl l = false := by simpa using h1
    rw [h1'] at HCp
    have HD : Hid (dpath l = ([], false)) := dpath_no l (by rw [pathN_no l (fun e => by rw [e] at h1; exact h1 rfl) (.inr (.inr (fun e => h1 (by simp [hasSl, e]))))])
    have q0 := HB1.out.cell 0
    have z0 := HB1.out.frozen 0
    have q1 := HB2.out.cell 0
    have z1 := HB2.out.frozen 0
    simp only [List.getElem?_cons_zero] at q0 q1
    simp only [Bool.false_eq_true, if_false] at HCp
    clear h1 h1'
    go_wp2_with fail
    refine HCp.out.mono ?_
    rintro e w2 ⟨rfl, rfl⟩
    go_wp2
    refine ⟨_, results2 rfl rfl rfl ((HB1.out.setCell 0 _).setCell_ne (by simp) _) ((HB2.out.setCell_ne (by simp) _).setCell 0 _), ?_⟩
    rw [HD.out]
    exact ⟨_, rfl, ownsRow_none _ _ _ _, (HF.out.setCell (.inr (Nat.le_refl _)) _).setCell (.inr (by simp)) _⟩

end Go.Proofs.Ytangnoicnogddaa.Tr
