/- The contract of Diff. (Written by gen/genudf.py.) -/
import Derived.Test.YtcpeebkfnnkjnaaDoorUdi
namespace Go.Proofs.YtcpeebkfnnkjnaaDoor.Tr
open Go.RowKit Go.Shelf Go.Maps

attribute [local go_sem] Oper.semAt_some

/-- What stops, of places and names in some order. -/
def stp (O : List Ut) (G : List Nm) (L : List (Nat × Nm)) : List Nm := (L.filter (fun p => decide (lkI (fi O p.2) = (p.1 : Int)) && decide (p.2 ∈ G))).map (·.2)
theorem stp_snoc (O : List Ut) (G : List Nm) (L : List (Nat × Nm)) (p : Nat × Nm) : stp O G (L ++ [p]) = stp O G L ++ (if lkI (fi O p.2) = (p.1 : Int) ∧ p.2 ∈ G then [p.2] else []) := by
  unfold stp
  rw [List.filter_append, List.map_append]
  congr 1
  by_cases h1 : lkI (fi O p.2) = (p.1 : Int) <;> by_cases h2 : p.2 ∈ G <;> simp [h1, h2]
theorem stp_len (O : List Ut) (G : List Nm) (L : List (Nat × Nm)) : (stp O G L).length ≤ L.length := by
  unfold stp
  rw [List.length_map]
  exact List.length_filter_le _ _
/-- What stays and what starts, of the first k units. -/
def kpAt (F : List Ut) (G : List Nm) (i : Nat) : List Nm := if fi F (atU F i).n = some i ∧ (atU F i).n ∉ G then [(atU F i).n] else []
def saAt (F : List Ut) (G : List Nm) (i : Nat) : List Nm := if fi F (atU F i).n = some i ∧ (atU F i).n ∈ G then [(atU F i).n] else []
def kp (F : List Ut) (G : List Nm) (k : Nat) : List Nm := (List.range k).flatMap (kpAt F G)
def sa (F : List Ut) (G : List Nm) (k : Nat) : List Nm := (List.range k).flatMap (saAt F G)
theorem kp_succ (F : List Ut) (G : List Nm) (k : Nat) : kp F G (k + 1) = kp F G k ++ kpAt F G k := by unfold kp; rw [List.range_succ, List.flatMap_append]; simp
theorem sa_succ (F : List Ut) (G : List Nm) (k : Nat) : sa F G (k + 1) = sa F G k ++ saAt F G k := by unfold sa; rw [List.range_succ, List.flatMap_append]; simp
theorem kp_len (F : List Ut) (G : List Nm) : ∀ k, (kp F G k).length ≤ k
  | 0 => by simp [kp]
  | k + 1 => by
    have := kp_len F G k
    rw [kp_succ, List.length_append]
    have h : (kpAt F G k).length ≤ 1 := by unfold kpAt; split <;> simp
    omega
theorem sa_len (F : List Ut) (G : List Nm) : ∀ k, (sa F G k).length ≤ k
  | 0 => by simp [sa]
  | k + 1 => by
    have := sa_len F G k
    rw [sa_succ, List.length_append]
    have h : (saAt F G k).length ≤ 1 := by unfold saAt; split <;> simp
    omega
/-- The state while the new units are gone through. -/
structure KSt (W : World) (K S : List Nm) (v1 v2 : Value) (wr : World) : Prop where
  o1 : wr.ownsRow W.heap.size 9 1 v1 K.length (strC K)
  o2 : wr.ownsRow W.heap.size 9 1 v2 S.length (strC S)
  ap : ∀ k, v1.ownBlock = some k → v2.ownBlock ≠ some k
  fr : Fr (fun _ => False) W wr
theorem KSt.step {W : World} {K S : List Nm} {v1 v2 : Value} {wr w' : World} (h : KSt W K S v1 v2 wr) (f : Fr (fun _ => False) wr w') : KSt W K S v1 v2 w' :=
  ⟨own_fr h.o1 f (fun _ _ h => h), own_fr h.o2 f (fun _ _ h => h), h.ap, h.fr.trans f (fun _ h => h.elim)⟩
theorem KSt.one {W : World} {K S : List Nm} {v1 v2 v' : Value} {x : Nm} {wr w1 w' : World} (h : KSt W K S v1 v2 wr) (f : Fr (fun _ => False) wr w1) (ho : w'.ownsRow W.heap.size 9 1 v' (K ++ [x]).length (strC (K ++ [x]))) (hg : w1.grownBy w' v1.ownBlock) (hl : ∀ k, v'.ownBlock = some k → v1.ownBlock = some k ∨ w1.heap.size ≤ k) : KSt W (K ++ [x]) S v' v2 w' := by
  have h1 := h.step f
  have hf : Fr (fun k => v1.ownBlock = some k) w1 w' := (Fr.refl _ w1).grown hg (fun k hk => .inl hk)
  refine ⟨ho, own_fr h1.o2 hf (fun k hk hk2 => h1.ap k hk2 hk), fun k hk => ?_, h1.fr.trans hf (fun k hk => .inr (own_lt h1.o1 k hk).1)⟩
  rcases hl k hk with h2 | h2
  · exact h1.ap k h2
  · intro h3
    have := (own_lt h1.o2 k h3).2
    omega
theorem KSt.two {W : World} {K S : List Nm} {v1 v2 v' : Value} {x : Nm} {wr w1 w' : World} (h : KSt W K S v1 v2 wr) (f : Fr (fun _ => False) wr w1) (ho : w'.ownsRow W.heap.size 9 1 v' (S ++ [x]).length (strC (S ++ [x]))) (hg : w1.grownBy w' v2.ownBlock) (hl : ∀ k, v'.ownBlock = some k → v2.ownBlock = some k ∨ w1.heap.size ≤ k) : KSt W K (S ++ [x]) v1 v' w' := by
  have h1 := h.step f
  have hf : Fr (fun k => v2.ownBlock = some k) w1 w' := (Fr.refl _ w1).grown hg (fun k hk => .inl hk)
  refine ⟨own_fr h1.o1 hf (fun k hk hk2 => h1.ap k hk hk2), ho, fun k hk hk2 => ?_, h1.fr.trans hf (fun k hk => .inr (own_lt h1.o2 k hk).1)⟩
  rcases hl k hk2 with h2 | h2
  · exact h1.ap k hk h2
  · have := (own_lt h1.o1 k hk).2
    omega
/-- What Diff tells. -/
def DfPost (w : World) (O F : List Ut) (e : Ending) (w' : World) : Prop := Fr (fun _ => False) w w' ∧ ∃ G, (∀ x, x ∈ G ↔ Gone O F x) ∧ ∃ a1 c1 a2 c2 a3 c3, e = .returned (.tuple #[.slice a1 (stp O G (bhd O)).length c1, .slice a2 (kp F G F.length).length c2, .slice a3 (sa F G F.length).length c3]) ∧ Strs w' a1 (stp O G (bhd O)) ∧ Strs w' a2 (kp F G F.length) ∧ Strs w' a3 (sa F G F.length)
theorem results3T {fn : Func} {t1 t2 t3 : Tmp} (h : fn.results = #[.tmp t1, .tmp t2, .tmp t3]) {tmps : Array Value} {W : World} {v1 v2 v3 : Value} (h1 : tmps.getD t1 undef = v1) (h2 : tmps.getD t2 undef = v2) (h3 : tmps.getD t3 undef = v3) :
    (results fn tmps).run Tryd.prog W = .ok (.tuple #[v1, v2, v3]) W := by
  have e1 : tmps[t1]?.getD undef = v1 := by simpa using h1
  have e2 : tmps[t2]?.getD undef = v2 := by simpa using h2
  have e3 : tmps[t3]?.getD undef = v3 := by simpa using h3
  simp [results, h, e1, e2, e3, go_sem]
/-- What is kept while old units are gone through. -/
structure FIv (wc : World) (c : Nat) (O : List Ut) (G : List Nm) (pre : List Pr) (W : World) : Prop where
  cp : Blk W wc.heap.size 51 [.pointer (some ⟨c, 0, none⟩)]
  row : ∃ v, Blk W (wc.heap.size + 1) 30 [v] ∧ W.ownsRow (wc.heap.size + 3) 9 1 v (stp O G (pre.map prN)).length (strC (stp O G (pre.map prN)))
  sz : wc.heap.size + 3 ≤ W.heap.size
  fr : Fr (fun _ => False) wc W

theorem FIv.own {wc : World} {c : Nat} {O : List Ut} {G : List Nm} {pre : List Pr} {W W' : World} {row : Option Nat} (h : FIv wc c O G pre W) (hg : W.grownBy W' row) (hr : ∀ r, row = some r → wc.heap.size + 3 ≤ r ∧ ∃ o : Obj, W.heap[r]? = some o ∧ o.isCells = false) : FIv wc c O G pre W' := by
  have hf : Fr (fun k => row = some k) W W' := (Fr.refl _ W).grown hg (fun k hk => .inl hk)
  obtain ⟨v, hv, ho⟩ := h.row
  refine ⟨hf.blk h.cp (fun e => by have := (hr _ e).1; omega), ⟨v, hf.blk hv (fun e => by have := (hr _ e).1; omega), own_fr ho hf (fun k hk e => ?_)⟩, Nat.le_trans h.sz hg.size, h.fr.grown hg (fun k hk => .inr (by have := (hr _ hk).1; omega))⟩
  obtain ⟨cur, hc⟩ := own_heap ho hk
  obtain ⟨_, o, h1, h2⟩ := hr k e
  rw [hc] at h1
  cases h1
  cases h2
theorem FIv.new {wc : World} {c : Nat} {O : List Ut} {G : List Nm} {pre : List Pr} {W W' : World} (h : FIv wc c O G pre W) (f : Fr (fun _ => False) W W') : FIv wc c O G pre W' := by
  obtain ⟨v, hv, ho⟩ := h.row
  exact ⟨f.blk h.cp (fun h => h), ⟨v, f.blk hv (fun h => h), own_fr ho f (fun _ _ h => h)⟩, Nat.le_trans h.sz f.size, h.fr.trans f (fun _ h => h.elim)⟩
theorem FIv.same {wc : World} {c : Nat} {O : List Ut} {G : List Nm} {pre : List Pr} {W : World} (h : FIv wc c O G pre W) (x : Pr) (hx : ¬ (lkI (fi O (prN x).2) = ((prN x).1 : Int) ∧ (prN x).2 ∈ G)) : FIv wc c O G (pre ++ [x]) W := by
  obtain ⟨v, hv, ho⟩ := h.row
  refine ⟨h.cp, ⟨v, hv, ?_⟩, h.sz, h.fr⟩
  rw [List.map_append, List.map_singleton, stp_snoc, if_neg hx, List.append_nil]
  exact ho
theorem FIv.put {wc : World} {c b B : Nat} {O : List Ut} {G : List Nm} {pre : List Pr} {W : World} (h : FIv wc c O G pre W) (hbl : b < wc.heap.size + 3) (hbn : b ≠ wc.heap.size + 1) (x : Pr) (hx : lkI (fi O (prN x).2) = ((prN x).1 : Int) ∧ (prN x).2 ∈ G) :
    ∃ v, Blk W (wc.heap.size + 1) 30 [v] ∧ W.ownsRow (wc.heap.size + 3) 9 1 v (stp O G (pre.map prN)).length (strC (stp O G (pre.map prN))) ∧ ∀ W1 W2 v', Fr (fun _ => False) W W1 → W2.ownsRow (wc.heap.size + 3) 9 1 v' (stp O G (pre.map prN) ++ [(prN x).2]).length (strC (stp O G (pre.map prN) ++ [(prN x).2])) → W1.grownBy W2 v.ownBlock →
      KeepsFrom B W (W2.setCell ⟨wc.heap.size + 1, 0, none⟩ v') ∧ Kp2 b (wc.heap.size + 1 + 1) W (W2.setCell ⟨wc.heap.size + 1, 0, none⟩ v') ∧ FIv wc c O G (pre ++ [x]) (W2.setCell ⟨wc.heap.size + 1, 0, none⟩ v') := by
  obtain ⟨v, hv, ho⟩ := h.row
  refine ⟨v, hv, ho, fun W1 W2 v' f ho' hg => ?_⟩
  have hsz := h.sz
  have ho1 := own_fr ho f (fun _ _ h => h)
  have hge : ∀ k, v.ownBlock = some k → wc.heap.size + 3 ≤ k := fun k hk => (own_lt ho k hk).1
  have f2 : Fr (fun k => v.ownBlock = some k) W W2 := (f.mono (fun _ h => h.elim)).grown hg (fun k hk => .inl hk)
  have f3 : Fr (fun k => v.ownBlock = some k ∨ k = wc.heap.size + 1) W (W2.setCell ⟨wc.heap.size + 1, 0, none⟩ v') := (f2.mono (fun _ h => .inl h)).setCell (p := ⟨wc.heap.size + 1, 0, none⟩) (.inl (.inr rfl)) v'
  have hb2 := f2.blk hv (fun e => by have := hge _ e; omega)
  refine ⟨⟨f3.size, fun k o' hk h1 h2 => (f3.block k (Array.getElem?_eq_some_iff.1 h1).1 (fun e => ?_)).trans h1⟩, ⟨f3.block b (by omega) (fun e => ?_), f3.block _ (by omega) (fun e => ?_)⟩, ⟨f3.blk h.cp (fun e => ?_), ⟨v', hb2.setCell 0 v', ?_⟩, Nat.le_trans hsz f3.size, h.fr.trans f3 (fun k hk => .inr ?_)⟩⟩
  · rcases e with e | e
    · obtain ⟨cur, hc⟩ := own_heap ho e
      rw [hc] at h1; cases h1; cases h2
    · have hv' : W.heap[wc.heap.size + 1]? = some (.cells [v].toArray 30 (0, 0)) := hv
      rw [e, hv'] at h1; cases h1; cases h2
  · rcases e with e | e
    · have := hge _ e; omega
    · omega
  · rcases e with e | e
    · have := hge _ e; omega
    · omega
  · rcases e with e | e
    · have := hge _ e; omega
    · omega
  · rw [List.map_append, List.map_singleton, stp_snoc, if_pos hx]
    exact owns_of_eq ho' (fun k hk => Below.heap_setCell _ _ _ k (fun e => by have := (own_lt ho' k hk).1; have e2 : k = wc.heap.size + 1 := e; omega))
  · rcases hk with hk | hk
    · have := hge _ hk; omega
    · omega
theorem keeps_fr {B : Nat} {W W' : World} (f : Fr (fun _ => False) W W') : KeepsFrom B W W' :=
  ⟨f.size, fun k _ _ hk _ => (f.block k (Array.getElem?_eq_some_iff.1 hk).1 (fun h => h)).trans hk⟩
theorem kp_fr {b c : Nat} {W W' : World} (f : Fr (fun _ => False) W W') (hb : b < W.heap.size) (hc : c < W.heap.size) : Kp2 b c W W' := ⟨f.block b hb (fun h => h), f.block c hc (fun h => h)⟩

abbrev SDf (wb c mo Bx : Nat) (n : Nm) (lk : Int) (W' : World) : Prop := W'.cell? ⟨wb, 0, none⟩ = some (.pointer (some ⟨c, 0, none⟩)) ∧ W'.cell? ⟨c, 0, none⟩ = some (.map (some mo)) ∧ W'.cell? ⟨Bx, 0, none⟩ = some (.string ⟨n.toArray⟩) ∧ (Instr.lookup 47 (.map (some mo)) (.string ⟨n.toArray⟩) false).run Tryd.prog W' = .ok (.int .i64 lk) W'

set_option maxRecDepth 100000 in
set_option maxHeartbeats 16000000 in
theorem diff_any (w0 w : World) (e0 : Env w0 w) (O F : List Ut) (ad bd : Option Addr) (co cf : Nat) (hO : Us w0 w O ad) (hF : Us w0 w F bd) (hOl : O.length ≤ 2000) (hFl : F.length ≤ 2000) (hRq : rqs O O.length ≤ 2000) :
    Calls Tryd.prog 14 #[.slice ad O.length co, .slice bd F.length cf] w fun e w' => DfPost w O F e w' := by
  have HC := hid (compare_any w0 w e0 O F ad bd co cf hO hF hOl hFl hRq)
  have HO := hid hO
  have HF := hid hF
  have HE0 := hid e0
  clear hO hF e0 hRq
  refine (callsIn_wide (n := 10)).1 ?_
  refine callsIn_of_wp_marks Tryd.func14 rfl trivial ?_ rfl
  simp only [Tryd.ntmps14, List.size_toArray, List.length_cons, List.length_nil, Nat.reduceAdd, Nat.reduceSub, Array.replicate_succ, Array.replicate_zero, List.push_toArray, List.append_toArray, List.nil_append, List.cons_append]
  refine wpIn_wide.2 ?_
  go_wp2_with fail
  refine HC.out.mono ?_
  rintro e wc ⟨c, mo, mf, mr, mg, G, rfl, hc, hB, hPo, hPf, hG, hGo, hFr⟩
  have HCh := hid (And.intro hB (And.intro hPo (And.intro hPf (And.intro hG (And.intro hGo hFr)))))
  clear hB hPo hPf hG hGo hFr HC
  go_wp2_with fail
  refine (behind_any _ ad O.length co).mono ?_
  rintro e w3 ⟨rfl, rfl⟩
  go_wp2_with fail
  obtain ⟨b, o, g, hb, hgb, hg⟩ := seq_of (HO.out.env (Env.of HCh.out.2.2.2.2.2)) (show O.length ≤ lim by unfold lim; omega) (wc.heap.size + 1 + 1)
  have HS3 : Hid ((((wc.alloc (.cells #[.pointer (some ⟨c, 0, none⟩)] 51)).alloc (.cells #[.slice none 0 0] 30)).alloc (.cells #[.slice ad O.length co] 22)).heap.size = wc.heap.size + 3) := by unfold Hid; simp
  have HF3 : Hid (Fr (fun _ => False) wc (((wc.alloc (.cells #[.pointer (some ⟨c, 0, none⟩)] 51)).alloc (.cells #[.slice none 0 0] 30)).alloc (.cells #[.slice ad O.length co] 22))) := (((Fr.refl _ wc).alloc _).alloc _).alloc _
  have HB3 : Hid (Blk (((wc.alloc (.cells #[.pointer (some ⟨c, 0, none⟩)] 51)).alloc (.cells #[.slice none 0 0] 30)).alloc (.cells #[.slice ad O.length co] 22)) (wc.heap.size + 1 + 1) 22 [.slice ad O.length co]) := by
    have := Blk.new ((wc.alloc (.cells #[.pointer (some ⟨c, 0, none⟩)] 51)).alloc (.cells #[.slice none 0 0] 30)) 22 [.slice ad O.length co]
    rw [World.size_alloc, World.size_alloc] at this
    exact this
  have HI0 : Hid (FIv wc c O G [] (((wc.alloc (.cells #[.pointer (some ⟨c, 0, none⟩)] 51)).alloc (.cells #[.slice none 0 0] 30)).alloc (.cells #[.slice ad O.length co] 22))) := by
    refine ⟨((Blk.new wc 51 [.pointer (some ⟨c, 0, none⟩)]).alloc _).alloc _, ⟨.slice none 0 0, ?_, World.ownsRow_nil _ _ _ _⟩, by rw [HS3.out]; exact Nat.le_refl _, HF3.out⟩
    have := (Blk.new (wc.alloc (.cells #[.pointer (some ⟨c, 0, none⟩)] 51)) 30 [.slice none 0 0]).alloc (.cells #[.slice ad O.length co] 22)
    rw [World.size_alloc] at this
    exact this
  have HG3 : Hid (∀ i k, i + 1 + k = O.length → (g k).1.1 = i ∧ ad = some ⟨b, o, none⟩ ∧ four (((wc.alloc (.cells #[.pointer (some ⟨c, 0, none⟩)] 51)).alloc (.cells #[.slice none 0 0] 30)).alloc (.cells #[.slice ad O.length co] 22)) b (o + i * 4) (g k).1.2) := fun i k h => ⟨(hg i k h).1, (hg i k h).2.1, (hg i k h).2.2.env (Env.of HF3.out)⟩
  have HGb := hid hgb
  have hbl : b < wc.heap.size + 3 := by omega
  have hbn : b ≠ wc.heap.size + 1 := by omega
  clear hg hgb
  generalize ((wc.alloc (.cells #[.pointer (some ⟨c, 0, none⟩)] 51)).alloc (.cells #[.slice none 0 0] 30)).alloc (.cells #[.slice ad O.length co] 22) = W3 at *
  refine (wpIn_wide (n := 10)).1 ?_
  refine wpIn_rangeFunc_ownH (F := Fence.wide) (n := 10) rfl (by omega) (gf := 41) (lb := #[.pointer (some ⟨wc.heap.size + 1 + 1, 0, none⟩)]) rfl trivial (enters_of Tryd.func41 (by kernel_rfl) rfl)
    (behind_stops 9 (by omega) (wc.heap.size + 1 + 1) b o O.length co ad g (by unfold lim; omega) W3 HB3.out (by rw [HS3.out]; exact hbl) HG3.out) (fun h1 h2 => ⟨h2.1.trans h1.1, h2.2.trans h1.2⟩)
    (fun W j o1 o2 hj _ _ _ => by
      rw [HS3.out] at hj
      exact ⟨heap_putObj_ne (by omega), heap_putObj_ne (by omega)⟩) (Below.refl _ _) (fun _ => rfl)
    (FIv wc c O G) (fun _ _ _ => False) (fun pre A B row hs hg hr => hs.own hg (fun r e => by have := hr r e; rwa [HS3.out] at this)) (fun _ _ _ _ _ h _ _ => h) HI0.out
    (fun x a' W => ∃ Bx, wc.heap.size + 3 ≤ Bx ∧ Blk W Bx 32 x.1.2.cs ∧ a' = { tmps := #[.slice ad O.length co, .slice bd F.length cf, undef, undef, .slice none 0 0, .slice none 0 0, .slice none 0 0, .pointer (some ⟨wc.heap.size, 0, none⟩), .pointer (some ⟨wc.heap.size + 1, 0, none⟩), .slice none 0 0, .slice none 0 0, .int .i64 (x.1.1 : Int), .pointer (some ⟨Bx, 0, none⟩), undef, undef, .slice ad O.length co, .slice bd F.length cf, .pointer (some ⟨c, 0, none⟩), .slice ad O.length co, .func (.func 41) #[] #[.pointer (some ⟨wc.heap.size + 1 + 1, 0, none⟩)], .int .i64 (x.1.1 : Int), x.1.2.v, undef, undef, undef, undef, undef, undef, undef, undef, undef, undef, undef, undef, undef, undef, undef, undef, undef, undef, undef, undef, undef, undef, undef, undef, undef, undef, undef, undef, undef, undef, undef, undef, undef, undef, undef, undef, undef, undef, undef, undef, undef, undef, undef, undef, undef, undef, undef, undef, undef, undef, undef, undef, undef, undef], defers := [] })
    ?hAx ?assign ?body ?done ?stop
  case hAx =>
    rintro x a' _ A B row ⟨Bx, h1, h2, h3⟩ hg hr
    refine ⟨Bx, h1, h2.of_eq (hg.block Bx h2.lt (fun e => ?_)), h3⟩
    obtain ⟨_, o1, q1, q2⟩ := hr Bx e.symm
    have h2' : A.heap[Bx]? = some (.cells x.1.2.cs.toArray 32 (0, 0)) := h2
    rw [h2'] at q1
    cases q1
    cases q2
  case assign =>
    intro l' pre x W K hi hK
    have HK := hid hK
    have HI := hid hi
    have HBx := hid (uBlk W x.1.2)
    clear hK hi HI0 HG3
    obtain ⟨⟨i, n, s, ra, rl, rc, aa, al, ac⟩, hx⟩ := x
    dsimp only [encP, Uv.v, Uv.cs]
    gi_wp2
    refine HK.out _ _ ((KeepsOthers.alloc _ _).from _) ⟨Below.heap_alloc _ _ _ (by have := HI.out.sz; omega), Below.heap_alloc _ _ _ (by have := HI.out.sz; omega)⟩ (HI.out.new ((Fr.refl _ _).alloc _)) ⟨W.heap.size, HI.out.sz, HBx.out, rfl⟩
  case stop =>
    intro D' c pre W hD' hpre hM hK
    exact hM.elim
  case done =>
    intro D' ys W hD' hys hM hK
    subst hys
    have HKd := hid hK
    have HI := hid hM
    clear hM hK HI0 HG3 HB3
    obtain ⟨hB1, _, hPf1, hG1, hGo, hFr⟩ := HCh.out
    have HB1 := hid hB1
    have HPf1 := hid hPf1
    have HG1 := hid hG1
    have HFw := hid (hFr.trans HI.out.fr (fun _ h => h.elim))
    clear hB1 hPf1 hG1 hGo hFr
    go_wp2_with fail
    go_loopw [9, 10, 44] (fun v1 v2 iv wr => ∃ i : Nat, i ≤ F.length ∧ iv = .int .i64 (i : Int) ∧ KSt W (kp F G i) (sa F G i) v1 v2 wr) (fun _ _ iv _ => F.length - (intOf iv).toNat)
    case atStart => exact ⟨0, Nat.zero_le _, rfl, World.ownsRow_nil _ _ _ _, World.ownsRow_nil _ _ _ _, fun k hk => (by cases hk), Fr.refl _ _⟩
    case round =>
      obtain ⟨i, hi, rfl, hS⟩ := hrel
      obtain ⟨a1, c1, hv1⟩ := own_len hS.o1
      obtain ⟨a2, c2, hv2⟩ := own_len hS.o2
      subst hv1 hv2
      by_cases hlt : i < F.length
      · have hi1 : (i : Int) < ((F.length : Nat) : Int) := by omega
        have hi0 : (0 : Int) ≤ (i : Int) := Int.natCast_nonneg _
        have hFc := HI.out.fr.trans hS.fr (fun _ h => h.elim)
        obtain ⟨fb, fo, rfl⟩ := HF.out.some hlt
        obtain ⟨y, y1, y2⟩ := HF.out.get i hlt
        obtain ⟨k0, k1, k2, k3⟩ := (y1.env (Env.of (HFw.out.trans hS.fr (fun _ h => h.elim)))).all
        have HYn : Hid (y.n = (atU F i).n) := by unfold Hid; rw [y2.n, atU_lt hlt]
        have hxl : y.n.length ≤ lim := by rw [y2.n]; exact y2.ok.n
        have HS1 := hid (hS.step (uFr wr y))
        have HBx := hid (uBlk wr y)
        obtain ⟨j, hj⟩ := fi_of_mem hlt
        have HJy : Hid (fi F y.n = some j) := by unfold Hid; rw [y2.n]; exact hj
        have hl1 := fun n => (pm_look (HPf1.out.fr (hFc.trans (uFr wr y) (fun _ h => h.elim)) (fun h => h)) hxl ((uBox wr y).drewN n) rfl).1
        rw [HJy.out] at hl1
        have c7 := ((HS1.out.fr).blk HI.out.cp (fun h => h)).cell 0
        have cf := ((hFc.trans (uFr wr y) (fun _ h => h.elim)).blk HB1.out (fun h => h)).cell 1
        obtain ⟨d0, d1, d2, d3⟩ := HBx.out.fourU
        simp only [chC, List.getElem?_cons_zero, List.getElem?_cons_succ, lkI] at c7 cf hl1
        have HGo := hid (fun (W' : World) (f : Fr (fun _ => False) (uBox wr y) W') => goes_any W' c mo mf mr mg G y.n (((hFc.trans (uFr wr y) (fun _ h => h.elim)).trans f (fun _ h => h.elim)).blk HB1.out (fun h => h)) (HG1.out.fr ((hFc.trans (uFr wr y) (fun _ h => h.elim)).trans f (fun _ h => h.elim)) (fun h => h)) hxl)
        have hK1 := kp_len F G i
        have hK2 := sa_len F G i
        have HCp : Hid (∀ W', Fr (fun _ => False) (uBox wr y) W' → Blk W' wc.heap.size 51 [.pointer (some ⟨c, 0, none⟩)]) := fun W' f => ((HS1.out.fr).trans f (fun _ h => h.elim)).blk HI.out.cp (fun h => h)
        clear y1 y2 hS hFc hj
        obtain ⟨n, s, ra, rl, rc, aa, al, ac⟩ := y
        simp only [uBox, Uv.cs] at *
        by_cases hji : j = i
        · subst hji
          have hs1 : ((j : Int) != (j : Int)) = false := by simp
          have HI1 : Hid (fi F (atU F j).n = some j) := by unfold Hid; rw [← HYn.out]; exact HJy.out
          go_wp2_with fail
          go_quiet (fail)
          have HF7 : Hid (Fr (fun _ => False) (wr.alloc (.cells #[.string ⟨n.toArray⟩, .string ⟨s.toArray⟩, .slice ra rl rc, .slice aa al ac] 32)) ((wr.alloc (.cells #[.string ⟨n.toArray⟩, .string ⟨s.toArray⟩, .slice ra rl rc, .slice aa al ac] 32)).drewN nq)) := (Fr.refl _ _).drewN nq
          have HGo7 := hid (HGo.out _ HF7.out)
          have HS7 := hid (HS1.out.step HF7.out)
          have HB7 := hid (HF7.out.blk HBx.out (fun h => h))
          have HC7 := hid (HCp.out _ HF7.out)
          generalize (wr.alloc (.cells #[.string ⟨n.toArray⟩, .string ⟨s.toArray⟩, .slice ra rl rc, .slice aa al ac] 32)).drewN nq = W7 at *
          clear hl1 c7 cf d0 d1 d2 d3 k0 k1 k2 k3 HGo HS1 HBx HCp HF7
          have c7 := HC7.out.cell 0
          obtain ⟨d0, _, _, _⟩ := Blk.fourU (x := ⟨n, s, ra, rl, rc, aa, al, ac⟩) HB7.out
          simp only [List.getElem?_cons_zero] at c7
          have HKS : Hid ((n ∉ G → kp F G (j + 1) = kp F G j ++ [n] ∧ sa F G (j + 1) = sa F G j) ∧ (n ∈ G → kp F G (j + 1) = kp F G j ∧ sa F G (j + 1) = sa F G j ++ [n])) := by
            unfold Hid
            rw [kp_succ, sa_succ]
            unfold kpAt saAt
            rw [← HYn.out, HJy.out]
            constructor
            · intro h
              rw [if_pos ⟨rfl, h⟩, if_neg (fun h2 => h h2.2)]
              exact ⟨rfl, by simp⟩
            · intro h
              rw [if_neg (fun h2 => h2.2 h), if_pos ⟨rfl, h⟩]
              exact ⟨by simp, rfl⟩
          by_cases hm : n ∈ G
          · obtain ⟨hk1, hk2⟩ := HKS.out.2 hm
            rw [decide_eq_true hm] at HGo7
            have HK1 := hid hk1
            have HK2 := hid hk2
            clear hm hk1 hk2 HKS
            go_wp2_with fail
            refine HGo7.out.mono ?_
            rintro e w8 ⟨rfl, f8⟩
            have HS8 := hid (HS7.out.step f8)
            have HB8 := hid (f8.blk HB7.out (fun h => h))
            clear f8 HGo7 HS7 HB7 HC7 c7 d0
            obtain ⟨d0, _, _, _⟩ := Blk.fourU (x := ⟨n, s, ra, rl, rc, aa, al, ac⟩) HB8.out
            have HOa := hid (own_alloc HS8.out.o2 (.cells #[.string ⟨n.toArray⟩] 9))
            have HSn := hid (strs_new (W := w8) (x := n))
            have hbase2 : W.heap.size ≤ (w8.alloc (.cells #[.string ⟨n.toArray⟩] 9)).heap.size := by have := HS8.out.fr.size; simp; omega
            go_wp2_with (at_builtin; refine Hid.out ?_)
            refine wpList_app_S (by rfl) _ _ (by rfl) W.heap.size _ (sa F G j) [n] (some ⟨w8.heap.size, 0, none⟩) 1 (by rfl) (by rfl) HOa.out HSn.out hbase2 (by simp only [List.length_singleton]; omega) ?_
            intro v' W' ho hg hl
            have HS9 : Hid (KSt W (kp F G (j + 1)) (sa F G (j + 1)) (.slice a1 (kp F G j).length c1) v' W') := by
              unfold Hid
              rw [HK1.out, HK2.out]
              exact HS8.out.two ((Fr.refl _ _).alloc _) ho hg hl
            clear ho hg hl HOa HSn hbase2 d0 HB8 HS8
            go_wp2_with fail
            exact ⟨⟨j + 1, by omega, by go_num, HS9.out⟩, by simp [intOf]; omega⟩
          · obtain ⟨hk1, hk2⟩ := HKS.out.1 hm
            rw [decide_eq_false hm] at HGo7
            have HK1 := hid hk1
            have HK2 := hid hk2
            clear hm hk1 hk2 HKS
            go_wp2_with fail
            refine HGo7.out.mono ?_
            rintro e w8 ⟨rfl, f8⟩
            have HS8 := hid (HS7.out.step f8)
            have HB8 := hid (f8.blk HB7.out (fun h => h))
            clear f8 HGo7 HS7 HB7 HC7 c7 d0
            obtain ⟨d0, _, _, _⟩ := Blk.fourU (x := ⟨n, s, ra, rl, rc, aa, al, ac⟩) HB8.out
            have HOa := hid (own_alloc HS8.out.o1 (.cells #[.string ⟨n.toArray⟩] 9))
            have HSn := hid (strs_new (W := w8) (x := n))
            have hbase2 : W.heap.size ≤ (w8.alloc (.cells #[.string ⟨n.toArray⟩] 9)).heap.size := by have := HS8.out.fr.size; simp; omega
            go_wp2_with (at_builtin; refine Hid.out ?_)
            refine wpList_app_S (by rfl) _ _ (by rfl) W.heap.size _ (kp F G j) [n] (some ⟨w8.heap.size, 0, none⟩) 1 (by rfl) (by rfl) HOa.out HSn.out hbase2 (by simp only [List.length_singleton]; omega) ?_
            intro v' W' ho hg hl
            have HS9 : Hid (KSt W (kp F G (j + 1)) (sa F G (j + 1)) v' (.slice a2 (sa F G j).length c2) W') := by
              unfold Hid
              rw [HK1.out, HK2.out]
              exact HS8.out.one ((Fr.refl _ _).alloc _) ho hg hl
            clear ho hg hl HOa HSn hbase2 d0 HB8 HS8
            go_wp2_with fail
            exact ⟨⟨j + 1, by omega, by go_num, HS9.out⟩, by simp [intOf]; omega⟩
        · have hs1 : ((j : Int) != (i : Int)) = true := by simpa using fun h => hji (by omega)
          have HS2 : Hid (KSt W (kp F G (i + 1)) (sa F G (i + 1)) (.slice a1 (kp F G i).length c1) (.slice a2 (sa F G i).length c2) (wr.alloc (.cells #[.string ⟨n.toArray⟩, .string ⟨s.toArray⟩, .slice ra rl rc, .slice aa al ac] 32))) := by
            unfold Hid
            rw [kp_succ, sa_succ]
            have e1 : kpAt F G i = [] := by unfold kpAt; rw [if_neg]; rintro ⟨h, _⟩; rw [← HYn.out, HJy.out] at h; injection h with h; exact hji h
            have e2 : saAt F G i = [] := by unfold saAt; rw [if_neg]; rintro ⟨h, _⟩; rw [← HYn.out, HJy.out] at h; injection h with h; exact hji h
            rw [e1, e2, List.append_nil, List.append_nil]
            exact HS1.out
          clear hji HGo HCp
          go_wp2_with fail
          go_quiet (fail)
          go_wp2_with fail
          exact ⟨⟨i + 1, by omega, by go_num, HS2.out.step ((Fr.refl _ _).drewN nq)⟩, by simp [intOf]; omega⟩
      · have hi1 : ¬ ((i : Int) < ((F.length : Nat) : Int)) := by omega
        obtain rfl : i = F.length := by omega
        have HS := hid hS
        obtain ⟨v0, hv0, ho0⟩ := HI.out.row
        obtain ⟨a0, c0, hv⟩ := own_len ho0
        subst hv
        have e8 := (hS.fr.blk hv0 (fun h => h)).cell 0
        simp only [List.getElem?_cons_zero] at e8
        have HO0 := hid (own_fr ho0 hS.fr (fun _ _ h => h))
        have HKd2 : Hid (wr.heap[D']? = some (.deferred (some []))) := (hS.fr.block D' (by
          rcases Nat.lt_or_ge D' W.heap.size with h | h
          · exact h
          · have := HKd.out; rw [Array.getElem?_eq_none h] at this; cases this) (fun h => h)).trans HKd.out
        rw [HGb.out] at HO0 e8
        generalize hst : stp O G (bhd O) = st at *
        have HSt := hid hst
        clear hst hS hv0 ho0
        have HEnd : Hid (DfPost w O F (.returned (.tuple #[.slice a0 st.length c0, .slice a1 (kp F G F.length).length c1, .slice a2 (sa F G F.length).length c2])) (wr.putObj D' (.deferred none))) := by
          have hf : Fr (fun k => k = D') wr (wr.putObj D' (.deferred none)) := (Fr.refl _ wr).grown (grownBy_putObj' wr D' (.deferred none)) (fun k e => .inl (by injection e with e; exact e.symm))
          have hne : ∀ {B : Nat} {v : Value} {ns : List Nm}, wr.ownsRow B 9 1 v ns.length (strC ns) → ∀ k, v.ownBlock = some k → ¬ k = D' := fun ho k hk e => by
            obtain ⟨cur, hcur⟩ := own_heap ho hk
            rw [e, HKd2.out] at hcur
            cases hcur
          obtain ⟨_, _, _, _, hGo, hFr⟩ := HCh.out
          have hsz := hFr.size
          have hs3 := HS3.out
          refine ⟨(HFw.out.trans HS.out.fr (fun _ h => h.elim)).grown (grownBy_putObj' wr D' (.deferred none)) (fun k e => .inr (by injection e with e; omega)), G, hGo, a0, c0, a1, c1, a2, c2, ?_, ?_, ?_, ?_⟩
          · rw [HSt.out]
          · rw [HSt.out]; exact strs_own (own_fr HO0.out hf (hne HO0.out))
          · exact strs_own (own_fr HS.out.o1 hf (hne HS.out.o1))
          · exact strs_own (own_fr HS.out.o2 hf (hne HS.out.o2))
        generalize kp F G F.length = K at *
        generalize sa F G F.length = S at *
        clear HS HO0 HSt
        go_wp2_with fail
        refine ⟨by simp, .inl ⟨_, _, rfl, run_takeDeferred HKd2.out, ?_⟩⟩
        exact ⟨_, results3T (t1 := 4) (t2 := 5) (t3 := 6) rfl rfl rfl rfl, HEnd.out⟩
  case body =>
    rintro l' pre x a' W hl' - hi ⟨Bx, hBx, bX, rfl⟩ hlt
    have hxl : x.1.2.n.length ≤ lim := x.2.2
    obtain ⟨hB1, hPo1, _, hG1, _, _⟩ := HCh.out
    have hLo := fun W' (f : Fr (fun _ => False) W W') => (pm_look (hPo1.fr hi.fr (fun h => h)) hxl W' (f.block _ (hPo1.fr hi.fr (fun h => h)).lt (fun h => h))).1
    have HNo : Hid (¬ (lkI (fi O x.1.2.n) = (x.1.1 : Int) ∧ x.1.2.n ∈ G) → ∀ W', Fr (fun _ => False) W W' → KeepsFrom W3.heap.size W W' ∧ Kp2 b (wc.heap.size + 1 + 1) W W' ∧ FIv wc c O G (pre ++ [x]) W') := fun hn W' f => ⟨keeps_fr f, kp_fr f (by have := hi.sz; omega) (by have := hi.sz; omega), (hi.new f).same x hn⟩
    have HYes : Hid (lkI (fi O x.1.2.n) = (x.1.1 : Int) ∧ x.1.2.n ∈ G → ∃ v, Blk W (wc.heap.size + 1) 30 [v] ∧ W.ownsRow (wc.heap.size + 3) 9 1 v (stp O G (pre.map prN)).length (strC (stp O G (pre.map prN))) ∧ ∀ W1 W2 v', Fr (fun _ => False) W W1 → W2.ownsRow (wc.heap.size + 3) 9 1 v' (stp O G (pre.map prN) ++ [x.1.2.n]).length (strC (stp O G (pre.map prN) ++ [x.1.2.n])) → W1.grownBy W2 v.ownBlock → KeepsFrom W3.heap.size W (W2.setCell ⟨wc.heap.size + 1, 0, none⟩ v') ∧ Kp2 b (wc.heap.size + 1 + 1) W (W2.setCell ⟨wc.heap.size + 1, 0, none⟩ v') ∧ FIv wc c O G (pre ++ [x]) (W2.setCell ⟨wc.heap.size + 1, 0, none⟩ v')) := fun hy => hi.put hbl hbn x hy
    have hpl : (stp O G (pre.map prN)).length ≤ 2000 := by have := stp_len O G (pre.map prN); rw [List.length_map] at this; omega
    have HK : Hid (∀ W', Fr (fun _ => False) W W' → SDf wc.heap.size c mo Bx x.1.2.n (lkI (fi O x.1.2.n)) W') := fun W' f =>
      ⟨(f.blk hi.cp (fun h => h)).cell 0, (f.blk (hi.fr.blk hB1 (fun h => h)) (fun h => h)).cell 0, (f.blk bX (fun h => h)).cell 0, hLo W' f⟩
    have HGo := hid (goes_any W.drew c mo mf mr mg G x.1.2.n (hi.fr.drew.blk hB1 (fun h => h)) (hG1.fr hi.fr.drew (fun h => h)) hxl)
    have HI := hid hi
    clear hi bX hLo hB1 hPo1 hG1 HI0 HG3
    obtain ⟨⟨i, n, s, ra, rl, rc, aa, al, ac⟩, hx⟩ := x
    dsimp only at HNo HYes HGo
    generalize stp O G (pre.map prN) = A at *
    refine wpIn_block ?_
    refine wpIn_seq ?_
    by_cases hg : lkI (fi O n) = (i : Int)
    · have hgb : (lkI (fi O n) == (i : Int)) = true := by simpa using hg
      by_cases hm : n ∈ G
      · rw [decide_eq_true hm] at HGo
        obtain ⟨v, hv, ho, hput⟩ := HYes.out ⟨hg, hm⟩
        clear hg hm
        refine region_in (S := SDf wc.heap.size c mo Bx n (lkI (fi O n))) (by kernel_rfl) (fun ⟨_, _, h⟩ => h) (noDefer_at (by kernel_rfl)) ?_
        refine takeH (i := 0) (d := some 22) (.pointer (some ⟨c, 0, none⟩)) rfl (by kernel_rfl) (by kernel_rfl) (by kernel_rfl) (fun _ _ _ _ h => h) (HK.out _ (Fr.refl _ W).drew) (fun o ho => by cases ho; exact .inl ⟨by rfl, fun w hSw => by (obtain ⟨hs1, hs2, hs3, hs4⟩ := hSw; go_simp)⟩) ?_
        simp only [Act.put, List.setIfInBounds_toArray, List.set_cons_zero, List.set_cons_succ]
        refine takeH (i := 1) (d := some 23) (.pointer (some ⟨c, 0, none⟩)) rfl (by kernel_rfl) (by kernel_rfl) (by kernel_rfl) (fun _ _ _ _ h => h) (HK.out _ (Fr.refl _ W).drew) (fun o ho => by cases ho; exact .inl ⟨by rfl, fun w hSw => by (obtain ⟨hs1, hs2, hs3, hs4⟩ := hSw; go_simp)⟩) ?_
        simp only [Act.put, List.setIfInBounds_toArray, List.set_cons_zero, List.set_cons_succ]
        refine takeH (i := 2) (d := some 24) (.pointer (some ⟨c, 0, none⟩)) rfl (by kernel_rfl) (by kernel_rfl) (by kernel_rfl) (fun _ _ _ _ h => h) (HK.out _ (Fr.refl _ W).drew) (fun o ho => by cases ho; exact .inl ⟨by rfl, fun w hSw => by (obtain ⟨hs1, hs2, hs3, hs4⟩ := hSw; go_simp)⟩) ?_
        simp only [Act.put, List.setIfInBounds_toArray, List.set_cons_zero, List.set_cons_succ]
        refine takeH (i := 3) (d := some 25) (.map (some mo)) rfl (by kernel_rfl) (by kernel_rfl) (by kernel_rfl) (fun _ _ _ _ h => h) (HK.out _ (Fr.refl _ W).drew) (fun o ho => by cases ho; exact .inl ⟨by rfl, fun w hSw => by (obtain ⟨hs1, hs2, hs3, hs4⟩ := hSw; go_simp)⟩) ?_
        simp only [Act.put, List.setIfInBounds_toArray, List.set_cons_zero, List.set_cons_succ]
        refine takeH (i := 4) (d := some 26) (.pointer (some ⟨Bx, 0, none⟩)) rfl (by kernel_rfl) (by kernel_rfl) (by kernel_rfl) (fun _ _ _ _ h => h) (HK.out _ (Fr.refl _ W).drew) (fun o ho => by cases ho; exact .inl ⟨by rfl, fun w hSw => by (obtain ⟨hs1, hs2, hs3, hs4⟩ := hSw; go_simp)⟩) ?_
        simp only [Act.put, List.setIfInBounds_toArray, List.set_cons_zero, List.set_cons_succ]
        refine takeH (i := 5) (d := some 27) (.string ⟨n.toArray⟩) rfl (by kernel_rfl) (by kernel_rfl) (by kernel_rfl) (fun _ _ _ _ h => h) (HK.out _ (Fr.refl _ W).drew) (fun o ho => by cases ho; exact .inl ⟨by rfl, fun w hSw => by (obtain ⟨hs1, hs2, hs3, hs4⟩ := hSw; go_simp)⟩) ?_
        simp only [Act.put, List.setIfInBounds_toArray, List.set_cons_zero, List.set_cons_succ]
        refine takeH (i := 6) (d := some 28) (.int .i64 (lkI (fi O n))) rfl (by kernel_rfl) (by kernel_rfl) (by kernel_rfl) (fun _ _ _ _ h => h) (HK.out _ (Fr.refl _ W).drew) (fun o ho => by cases ho; exact .inl ⟨by rfl, fun w hSw => by (obtain ⟨hs1, hs2, hs3, hs4⟩ := hSw; go_simp)⟩) ?_
        simp only [Act.put, List.setIfInBounds_toArray, List.set_cons_zero, List.set_cons_succ]
        refine takeH (i := 7) (d := some 29) (.int .i64 (i : Int)) rfl (by kernel_rfl) (by kernel_rfl) (by kernel_rfl) (fun _ _ _ _ h => h) (HK.out _ (Fr.refl _ W).drew) (fun o ho => by cases ho; exact .inl ⟨by rfl, fun w hSw => by (obtain ⟨hs1, hs2, hs3, hs4⟩ := hSw; go_simp)⟩) ?_
        simp only [Act.put, List.setIfInBounds_toArray, List.set_cons_zero, List.set_cons_succ]
        refine takeH (i := 8) (d := some 30) (.bool true) rfl (by kernel_rfl) (by kernel_rfl) (by kernel_rfl) (fun _ _ _ _ h => h) (HK.out _ (Fr.refl _ W).drew) (fun o ho => by cases ho; exact .inl ⟨by rfl, fun w hSw => by (obtain ⟨hs1, hs2, hs3, hs4⟩ := hSw; go_simp)⟩) ?_
        simp only [Act.put, List.setIfInBounds_toArray, List.set_cons_zero, List.set_cons_succ]
        refine takeH (i := 9) (d := some 31) (.bool true) rfl (by kernel_rfl) (by kernel_rfl) (by kernel_rfl) (fun _ _ _ _ h => h) (HK.out _ (Fr.refl _ W).drew) (fun o ho => by cases ho; exact .inl ⟨by rfl, fun w hSw => by (obtain ⟨hs1, hs2, hs3, hs4⟩ := hSw; go_simp)⟩) ?_
        simp only [Act.put, List.setIfInBounds_toArray, List.set_cons_zero, List.set_cons_succ]
        refine takeH (i := 10) (d := some 32) (.pointer (some ⟨c, 0, none⟩)) rfl (by kernel_rfl) (by kernel_rfl) (by kernel_rfl) (fun _ _ _ _ h => h) (HK.out _ (Fr.refl _ W).drew) (fun o ho => by cases ho; exact .inl ⟨by rfl, fun w hSw => by (obtain ⟨hs1, hs2, hs3, hs4⟩ := hSw; go_simp)⟩) ?_
        simp only [Act.put, List.setIfInBounds_toArray, List.set_cons_zero, List.set_cons_succ]
        refine takeH (i := 11) (d := some 33) (.pointer (some ⟨Bx, 0, none⟩)) rfl (by kernel_rfl) (by kernel_rfl) (by kernel_rfl) (fun _ _ _ _ h => h) (HK.out _ (Fr.refl _ W).drew) (fun o ho => by cases ho; exact .inl ⟨by rfl, fun w hSw => by (obtain ⟨hs1, hs2, hs3, hs4⟩ := hSw; go_simp)⟩) ?_
        simp only [Act.put, List.setIfInBounds_toArray, List.set_cons_zero, List.set_cons_succ]
        refine takeH (i := 12) (d := some 34) (.string ⟨n.toArray⟩) rfl (by kernel_rfl) (by kernel_rfl) (by kernel_rfl) (fun _ _ _ _ h => h) (HK.out _ (Fr.refl _ W).drew) (fun o ho => by cases ho; exact .inl ⟨by rfl, fun w hSw => by (obtain ⟨hs1, hs2, hs3, hs4⟩ := hSw; go_simp)⟩) ?_
        simp only [Act.put, List.setIfInBounds_toArray, List.set_cons_zero, List.set_cons_succ]
        refine oneH (i := 13) (by kernel_rfl) (fun o ho K' hK => ?_) (by decide)
        cases ho
        rw [if_pos (by rfl)]
        go_simp
        refine HGo.out.mono ?_
        rintro e w9 ⟨rfl, f9⟩
        have HF9 : Hid (Fr (fun _ => False) W w9) := (Fr.refl _ W).drew.trans f9 (fun _ h => h.elim)
        clear f9 HGo
        refine hK.out _ _ (HK.out _ HF9.out) ?_
        clear hK K'
        try simp only [Act.put, List.setIfInBounds_toArray, List.set_cons_zero, List.set_cons_succ]
        refine takeH (i := 14) (d := some 36) (.bool true) rfl (by kernel_rfl) (by kernel_rfl) (by kernel_rfl) (fun _ _ _ _ h => h) (HK.out _ HF9.out) (fun o ho => by cases ho; exact .inl ⟨by rfl, fun w hSw => by (obtain ⟨hs1, hs2, hs3, hs4⟩ := hSw; go_simp)⟩) ?_
        simp only [Act.put, List.setIfInBounds_toArray, List.set_cons_zero, List.set_cons_succ]
        refine wpAnyH_done (by kernel_rfl) ?_ _
        dsimp only [Exit.then]
        refine wpIn_cond_true (by rfl) ?_
        obtain ⟨va, vc, hvv⟩ := own_len ho
        subst hvv
        have HPut := hid hput
        have HO9 := hid (own_fr ho HF9.out (fun _ _ h => h))
        have c8 := (HF9.out.blk hv (fun h => h)).cell 0
        have c8f := (HF9.out.blk hv (fun h => h)).frozen 0
        have HV9 := hid (HF9.out.blk hv (fun h => h))
        simp only [List.getElem?_cons_zero] at c8
        obtain ⟨_, _, d0, _⟩ := HK.out _ HF9.out
        have hbase : Hid (wc.heap.size + 3 ≤ w9.heap.size) := Nat.le_trans HI.out.sz HF9.out.size
        clear hput ho hv HYes HNo HK
        refine plain_in (fun ⟨_, _, h⟩ => h) (by kernel_rfl) ?_
        have HOa := hid (own_alloc HO9.out (.cells #[.string ⟨n.toArray⟩] 9))
        have HSn := hid (strs_new (W := w9) (x := n))
        have hbase2 : wc.heap.size + 3 ≤ (w9.alloc (.cells #[.string ⟨n.toArray⟩] 9)).heap.size := by have := hbase.out; simp; omega
        go_wp2_with (at_builtin; refine Hid.out ?_)
        refine wpList_app_S (by rfl) _ _ (by rfl) (wc.heap.size + 3) _ A [n] (some ⟨w9.heap.size, 0, none⟩) 1 (by rfl) (by rfl) HOa.out HSn.out hbase2 (by simp only [List.length_singleton]; omega) ?_
        intro v' W' ho' hg' _
        obtain ⟨xa, xc, hvx⟩ := own_len ho'
        subst hvx
        have HV' := hid ((HV9.out.alloc (.cells #[.string ⟨n.toArray⟩] 9)).of_eq (hg'.block _ (HV9.out.alloc _).lt (fun e => by have := (own_lt HOa.out _ e.symm).1; omega)))
        have HEnd := hid (HPut.out _ W' _ (HF9.out.alloc _) ho' hg')
        have e8 := HV'.out.cell 0
        have e8f := HV'.out.frozen 0
        simp only [List.getElem?_cons_zero] at e8
        clear ho' hg' HOa HSn hbase2 HPut HO9 HV9 c8 c8f d0
        go_wp2_with fail
        have hE := HEnd.out
        rw [show (A ++ [n]).length = A.length + 1 by simp] at hE
        exact hE
      · rw [decide_eq_false hm] at HGo
        have HNx := hid (HNo.out (fun h => hm h.2))
        clear hg hm
        refine region_in (S := SDf wc.heap.size c mo Bx n (lkI (fi O n))) (by kernel_rfl) (fun ⟨_, _, h⟩ => h) (noDefer_at (by kernel_rfl)) ?_
        refine takeH (i := 0) (d := some 22) (.pointer (some ⟨c, 0, none⟩)) rfl (by kernel_rfl) (by kernel_rfl) (by kernel_rfl) (fun _ _ _ _ h => h) (HK.out _ (Fr.refl _ W).drew) (fun o ho => by cases ho; exact .inl ⟨by rfl, fun w hSw => by (obtain ⟨hs1, hs2, hs3, hs4⟩ := hSw; go_simp)⟩) ?_
        simp only [Act.put, List.setIfInBounds_toArray, List.set_cons_zero, List.set_cons_succ]
        refine takeH (i := 1) (d := some 23) (.pointer (some ⟨c, 0, none⟩)) rfl (by kernel_rfl) (by kernel_rfl) (by kernel_rfl) (fun _ _ _ _ h => h) (HK.out _ (Fr.refl _ W).drew) (fun o ho => by cases ho; exact .inl ⟨by rfl, fun w hSw => by (obtain ⟨hs1, hs2, hs3, hs4⟩ := hSw; go_simp)⟩) ?_
        simp only [Act.put, List.setIfInBounds_toArray, List.set_cons_zero, List.set_cons_succ]
        refine takeH (i := 2) (d := some 24) (.pointer (some ⟨c, 0, none⟩)) rfl (by kernel_rfl) (by kernel_rfl) (by kernel_rfl) (fun _ _ _ _ h => h) (HK.out _ (Fr.refl _ W).drew) (fun o ho => by cases ho; exact .inl ⟨by rfl, fun w hSw => by (obtain ⟨hs1, hs2, hs3, hs4⟩ := hSw; go_simp)⟩) ?_
        simp only [Act.put, List.setIfInBounds_toArray, List.set_cons_zero, List.set_cons_succ]
        refine takeH (i := 3) (d := some 25) (.map (some mo)) rfl (by kernel_rfl) (by kernel_rfl) (by kernel_rfl) (fun _ _ _ _ h => h) (HK.out _ (Fr.refl _ W).drew) (fun o ho => by cases ho; exact .inl ⟨by rfl, fun w hSw => by (obtain ⟨hs1, hs2, hs3, hs4⟩ := hSw; go_simp)⟩) ?_
        simp only [Act.put, List.setIfInBounds_toArray, List.set_cons_zero, List.set_cons_succ]
        refine takeH (i := 4) (d := some 26) (.pointer (some ⟨Bx, 0, none⟩)) rfl (by kernel_rfl) (by kernel_rfl) (by kernel_rfl) (fun _ _ _ _ h => h) (HK.out _ (Fr.refl _ W).drew) (fun o ho => by cases ho; exact .inl ⟨by rfl, fun w hSw => by (obtain ⟨hs1, hs2, hs3, hs4⟩ := hSw; go_simp)⟩) ?_
        simp only [Act.put, List.setIfInBounds_toArray, List.set_cons_zero, List.set_cons_succ]
        refine takeH (i := 5) (d := some 27) (.string ⟨n.toArray⟩) rfl (by kernel_rfl) (by kernel_rfl) (by kernel_rfl) (fun _ _ _ _ h => h) (HK.out _ (Fr.refl _ W).drew) (fun o ho => by cases ho; exact .inl ⟨by rfl, fun w hSw => by (obtain ⟨hs1, hs2, hs3, hs4⟩ := hSw; go_simp)⟩) ?_
        simp only [Act.put, List.setIfInBounds_toArray, List.set_cons_zero, List.set_cons_succ]
        refine takeH (i := 6) (d := some 28) (.int .i64 (lkI (fi O n))) rfl (by kernel_rfl) (by kernel_rfl) (by kernel_rfl) (fun _ _ _ _ h => h) (HK.out _ (Fr.refl _ W).drew) (fun o ho => by cases ho; exact .inl ⟨by rfl, fun w hSw => by (obtain ⟨hs1, hs2, hs3, hs4⟩ := hSw; go_simp)⟩) ?_
        simp only [Act.put, List.setIfInBounds_toArray, List.set_cons_zero, List.set_cons_succ]
        refine takeH (i := 7) (d := some 29) (.int .i64 (i : Int)) rfl (by kernel_rfl) (by kernel_rfl) (by kernel_rfl) (fun _ _ _ _ h => h) (HK.out _ (Fr.refl _ W).drew) (fun o ho => by cases ho; exact .inl ⟨by rfl, fun w hSw => by (obtain ⟨hs1, hs2, hs3, hs4⟩ := hSw; go_simp)⟩) ?_
        simp only [Act.put, List.setIfInBounds_toArray, List.set_cons_zero, List.set_cons_succ]
        refine takeH (i := 8) (d := some 30) (.bool true) rfl (by kernel_rfl) (by kernel_rfl) (by kernel_rfl) (fun _ _ _ _ h => h) (HK.out _ (Fr.refl _ W).drew) (fun o ho => by cases ho; exact .inl ⟨by rfl, fun w hSw => by (obtain ⟨hs1, hs2, hs3, hs4⟩ := hSw; go_simp)⟩) ?_
        simp only [Act.put, List.setIfInBounds_toArray, List.set_cons_zero, List.set_cons_succ]
        refine takeH (i := 9) (d := some 31) (.bool true) rfl (by kernel_rfl) (by kernel_rfl) (by kernel_rfl) (fun _ _ _ _ h => h) (HK.out _ (Fr.refl _ W).drew) (fun o ho => by cases ho; exact .inl ⟨by rfl, fun w hSw => by (obtain ⟨hs1, hs2, hs3, hs4⟩ := hSw; go_simp)⟩) ?_
        simp only [Act.put, List.setIfInBounds_toArray, List.set_cons_zero, List.set_cons_succ]
        refine takeH (i := 10) (d := some 32) (.pointer (some ⟨c, 0, none⟩)) rfl (by kernel_rfl) (by kernel_rfl) (by kernel_rfl) (fun _ _ _ _ h => h) (HK.out _ (Fr.refl _ W).drew) (fun o ho => by cases ho; exact .inl ⟨by rfl, fun w hSw => by (obtain ⟨hs1, hs2, hs3, hs4⟩ := hSw; go_simp)⟩) ?_
        simp only [Act.put, List.setIfInBounds_toArray, List.set_cons_zero, List.set_cons_succ]
        refine takeH (i := 11) (d := some 33) (.pointer (some ⟨Bx, 0, none⟩)) rfl (by kernel_rfl) (by kernel_rfl) (by kernel_rfl) (fun _ _ _ _ h => h) (HK.out _ (Fr.refl _ W).drew) (fun o ho => by cases ho; exact .inl ⟨by rfl, fun w hSw => by (obtain ⟨hs1, hs2, hs3, hs4⟩ := hSw; go_simp)⟩) ?_
        simp only [Act.put, List.setIfInBounds_toArray, List.set_cons_zero, List.set_cons_succ]
        refine takeH (i := 12) (d := some 34) (.string ⟨n.toArray⟩) rfl (by kernel_rfl) (by kernel_rfl) (by kernel_rfl) (fun _ _ _ _ h => h) (HK.out _ (Fr.refl _ W).drew) (fun o ho => by cases ho; exact .inl ⟨by rfl, fun w hSw => by (obtain ⟨hs1, hs2, hs3, hs4⟩ := hSw; go_simp)⟩) ?_
        simp only [Act.put, List.setIfInBounds_toArray, List.set_cons_zero, List.set_cons_succ]
        refine oneH (i := 13) (by kernel_rfl) (fun o ho K' hK => ?_) (by decide)
        cases ho
        rw [if_pos (by rfl)]
        go_simp
        refine HGo.out.mono ?_
        rintro e w9 ⟨rfl, f9⟩
        have HF9 : Hid (Fr (fun _ => False) W w9) := (Fr.refl _ W).drew.trans f9 (fun _ h => h.elim)
        clear f9 HGo
        refine hK.out _ _ (HK.out _ HF9.out) ?_
        clear hK K'
        try simp only [Act.put, List.setIfInBounds_toArray, List.set_cons_zero, List.set_cons_succ]
        refine takeH (i := 14) (d := some 36) (.bool false) rfl (by kernel_rfl) (by kernel_rfl) (by kernel_rfl) (fun _ _ _ _ h => h) (HK.out _ HF9.out) (fun o ho => by cases ho; exact .inl ⟨by rfl, fun w hSw => by (obtain ⟨hs1, hs2, hs3, hs4⟩ := hSw; go_simp)⟩) ?_
        simp only [Act.put, List.setIfInBounds_toArray, List.set_cons_zero, List.set_cons_succ]
        refine wpAnyH_done (by kernel_rfl) ?_ _
        dsimp only [Exit.then]
        refine wpIn_cond_false (by rfl) ?_
        refine wpIn_skip ?_
        exact HNx.out _ HF9.out
    · have hgb : (lkI (fi O n) == (i : Int)) = false := by simpa using hg
      have HNx := hid (HNo.out (fun h => hg h.1))
      clear hg
      refine region_in (S := SDf wc.heap.size c mo Bx n (lkI (fi O n))) (by kernel_rfl) (fun ⟨_, _, h⟩ => h) (noDefer_at (by kernel_rfl)) ?_
      refine takeH (i := 0) (d := some 22) (.pointer (some ⟨c, 0, none⟩)) rfl (by kernel_rfl) (by kernel_rfl) (by kernel_rfl) (fun _ _ _ _ h => h) (HK.out _ (Fr.refl _ W).drew) (fun o ho => by cases ho; exact .inl ⟨by rfl, fun w hSw => by (obtain ⟨hs1, hs2, hs3, hs4⟩ := hSw; go_simp)⟩) ?_
      simp only [Act.put, List.setIfInBounds_toArray, List.set_cons_zero, List.set_cons_succ]
      refine takeH (i := 1) (d := some 23) (.pointer (some ⟨c, 0, none⟩)) rfl (by kernel_rfl) (by kernel_rfl) (by kernel_rfl) (fun _ _ _ _ h => h) (HK.out _ (Fr.refl _ W).drew) (fun o ho => by cases ho; exact .inl ⟨by rfl, fun w hSw => by (obtain ⟨hs1, hs2, hs3, hs4⟩ := hSw; go_simp)⟩) ?_
      simp only [Act.put, List.setIfInBounds_toArray, List.set_cons_zero, List.set_cons_succ]
      refine takeH (i := 2) (d := some 24) (.pointer (some ⟨c, 0, none⟩)) rfl (by kernel_rfl) (by kernel_rfl) (by kernel_rfl) (fun _ _ _ _ h => h) (HK.out _ (Fr.refl _ W).drew) (fun o ho => by cases ho; exact .inl ⟨by rfl, fun w hSw => by (obtain ⟨hs1, hs2, hs3, hs4⟩ := hSw; go_simp)⟩) ?_
      simp only [Act.put, List.setIfInBounds_toArray, List.set_cons_zero, List.set_cons_succ]
      refine takeH (i := 3) (d := some 25) (.map (some mo)) rfl (by kernel_rfl) (by kernel_rfl) (by kernel_rfl) (fun _ _ _ _ h => h) (HK.out _ (Fr.refl _ W).drew) (fun o ho => by cases ho; exact .inl ⟨by rfl, fun w hSw => by (obtain ⟨hs1, hs2, hs3, hs4⟩ := hSw; go_simp)⟩) ?_
      simp only [Act.put, List.setIfInBounds_toArray, List.set_cons_zero, List.set_cons_succ]
      refine takeH (i := 4) (d := some 26) (.pointer (some ⟨Bx, 0, none⟩)) rfl (by kernel_rfl) (by kernel_rfl) (by kernel_rfl) (fun _ _ _ _ h => h) (HK.out _ (Fr.refl _ W).drew) (fun o ho => by cases ho; exact .inl ⟨by rfl, fun w hSw => by (obtain ⟨hs1, hs2, hs3, hs4⟩ := hSw; go_simp)⟩) ?_
      simp only [Act.put, List.setIfInBounds_toArray, List.set_cons_zero, List.set_cons_succ]
      refine takeH (i := 5) (d := some 27) (.string ⟨n.toArray⟩) rfl (by kernel_rfl) (by kernel_rfl) (by kernel_rfl) (fun _ _ _ _ h => h) (HK.out _ (Fr.refl _ W).drew) (fun o ho => by cases ho; exact .inl ⟨by rfl, fun w hSw => by (obtain ⟨hs1, hs2, hs3, hs4⟩ := hSw; go_simp)⟩) ?_
      simp only [Act.put, List.setIfInBounds_toArray, List.set_cons_zero, List.set_cons_succ]
      refine takeH (i := 6) (d := some 28) (.int .i64 (lkI (fi O n))) rfl (by kernel_rfl) (by kernel_rfl) (by kernel_rfl) (fun _ _ _ _ h => h) (HK.out _ (Fr.refl _ W).drew) (fun o ho => by cases ho; exact .inl ⟨by rfl, fun w hSw => by (obtain ⟨hs1, hs2, hs3, hs4⟩ := hSw; go_simp)⟩) ?_
      simp only [Act.put, List.setIfInBounds_toArray, List.set_cons_zero, List.set_cons_succ]
      refine takeH (i := 7) (d := some 29) (.int .i64 (i : Int)) rfl (by kernel_rfl) (by kernel_rfl) (by kernel_rfl) (fun _ _ _ _ h => h) (HK.out _ (Fr.refl _ W).drew) (fun o ho => by cases ho; exact .inl ⟨by rfl, fun w hSw => by (obtain ⟨hs1, hs2, hs3, hs4⟩ := hSw; go_simp)⟩) ?_
      simp only [Act.put, List.setIfInBounds_toArray, List.set_cons_zero, List.set_cons_succ]
      refine takeH (i := 8) (d := some 30) (.bool false) rfl (by kernel_rfl) (by kernel_rfl) (by kernel_rfl) (fun _ _ _ _ h => h) (HK.out _ (Fr.refl _ W).drew) (fun o ho => by cases ho; exact .inl ⟨by rfl, fun w hSw => by (obtain ⟨hs1, hs2, hs3, hs4⟩ := hSw; go_simp)⟩) ?_
      simp only [Act.put, List.setIfInBounds_toArray, List.set_cons_zero, List.set_cons_succ]
      refine takeH (i := 9) (d := some 31) (.bool false) rfl (by kernel_rfl) (by kernel_rfl) (by kernel_rfl) (fun _ _ _ _ h => h) (HK.out _ (Fr.refl _ W).drew) (fun o ho => by cases ho; exact .inl ⟨by rfl, fun w hSw => by (obtain ⟨hs1, hs2, hs3, hs4⟩ := hSw; go_simp)⟩) ?_
      simp only [Act.put, List.setIfInBounds_toArray, List.set_cons_zero, List.set_cons_succ]
      refine takeH (i := 10) (d := some 32) undef rfl (by kernel_rfl) (by kernel_rfl) (by kernel_rfl) (fun _ _ _ _ h => h) (HK.out _ (Fr.refl _ W).drew) (fun o ho => by cases ho; exact .inr ⟨by rfl, rfl⟩) ?_
      simp only [Act.put, List.setIfInBounds_toArray, List.set_cons_zero, List.set_cons_succ]
      refine takeH (i := 11) (d := some 33) undef rfl (by kernel_rfl) (by kernel_rfl) (by kernel_rfl) (fun _ _ _ _ h => h) (HK.out _ (Fr.refl _ W).drew) (fun o ho => by cases ho; exact .inr ⟨by rfl, rfl⟩) ?_
      simp only [Act.put, List.setIfInBounds_toArray, List.set_cons_zero, List.set_cons_succ]
      refine takeH (i := 12) (d := some 34) undef rfl (by kernel_rfl) (by kernel_rfl) (by kernel_rfl) (fun _ _ _ _ h => h) (HK.out _ (Fr.refl _ W).drew) (fun o ho => by cases ho; exact .inr ⟨by rfl, rfl⟩) ?_
      simp only [Act.put, List.setIfInBounds_toArray, List.set_cons_zero, List.set_cons_succ]
      refine takeH (i := 13) (d := some 35) undef rfl (by kernel_rfl) (by kernel_rfl) (by kernel_rfl) (fun _ _ _ _ h => h) (HK.out _ (Fr.refl _ W).drew) (fun o ho => by cases ho; exact .inr ⟨by rfl, rfl⟩) ?_
      simp only [Act.put, List.setIfInBounds_toArray, List.set_cons_zero, List.set_cons_succ]
      refine takeH (i := 14) (d := some 36) (.bool false) rfl (by kernel_rfl) (by kernel_rfl) (by kernel_rfl) (fun _ _ _ _ h => h) (HK.out _ (Fr.refl _ W).drew) (fun o ho => by cases ho; exact .inl ⟨by rfl, fun w hSw => by (obtain ⟨hs1, hs2, hs3, hs4⟩ := hSw; go_simp)⟩) ?_
      simp only [Act.put, List.setIfInBounds_toArray, List.set_cons_zero, List.set_cons_succ]
      refine wpAnyH_done (by kernel_rfl) ?_ _
      dsimp only [Exit.then]
      refine wpIn_cond_false (by rfl) ?_
      refine wpIn_skip ?_
      exact HNx.out _ (Fr.refl _ W).drew
end Go.Proofs.YtcpeebkfnnkjnaaDoor.Tr
