/- The names of sets in their order, and what stands under each of them: the plain side of gather. -/
import Derived.Test.YtniailfcmlongaaGreatDoorTmu
import Derived.Sort.KeysCollected
namespace Go.Proofs.YtniailfcmlongaaGreatDoor.Tr
open Go.RowKit Go.Maps Go.Sort

theorem fr_below {w w' : World} (h : Below w.heap.size w w') : Fr (fun _ => False) w w' := ⟨h.os, h.tape, h.output, h.size, fun k hk _ => h.block k hk⟩
theorem nodup_inj {α : Type} {l : List α} (h : l.Nodup) {i j : Nat} (hi : i < l.length) (hj : j < l.length) (e : l[i] = l[j]) : i = j := by
  rcases Nat.lt_trichotomy i j with hl | hl | hl
  · exact absurd e (List.pairwise_iff_getElem.1 h i j hi hj hl)
  · exact hl
  · exact absurd e.symm (List.pairwise_iff_getElem.1 h j i hj hi hl)
def allN (l : List Vt) : List (List UInt8) := l.flatMap (·.ns)
/-- The names of all sets, rising, each once. -/
def gnm (l : List Vt) : List (List UInt8) := (onL (allN l)).mergeSort (fun x y => decide (x ≤ y))
theorem onS_nodup {acc : List (List UInt8)} (t : List UInt8) (h : acc.Nodup) : (onS acc t).Nodup := by
  unfold onS
  split
  · exact h
  · rename_i hn
    rw [List.nodup_append]
    exact ⟨h, by simp, fun a ha b hb => by rw [List.mem_singleton.1 hb]; rintro rfl; exact hn ha⟩
theorem onL_nodup (ts : List (List UInt8)) : (onL ts).Nodup := by
  have : ∀ (ts acc : List (List UInt8)), acc.Nodup → (ts.foldl onS acc).Nodup := by
    intro ts
    induction ts with
    | nil => intro acc h; exact h
    | cons t r ih => intro acc h; exact ih _ (onS_nodup t h)
  exact this ts [] (by simp)
theorem gnm_perm (l : List Vt) : (gnm l).Perm (onL (allN l)) := List.mergeSort_perm _ _
theorem gnm_nodup (l : List Vt) : (gnm l).Nodup := (gnm_perm l).nodup_iff.2 (onL_nodup _)
theorem gnm_mem {l : List Vt} {x : List UInt8} : x ∈ gnm l ↔ x ∈ allN l := (gnm_perm l).mem_iff.trans onL_mem
theorem gnm_len (l : List Vt) : (gnm l).length ≤ (allN l).length := by rw [(gnm_perm l).length_eq]; exact onL_len _
theorem srt_le (R : List (List UInt8)) : (R.mergeSort (fun x y => decide (x ≤ y))).Pairwise (fun x y => x ≤ y) := by
  have := List.pairwise_mergeSort (le := fun (x y : List UInt8) => decide (x ≤ y)) (fun a b c h1 h2 => by
    simp only [decide_eq_true_eq] at h1 h2 ⊢
    exact List.le_trans h1 h2) (fun a b => by
    simp only [Bool.or_eq_true, decide_eq_true_eq]
    exact List.le_total a b) R
  exact this.imp (fun h => by simpa using h)
theorem sort_eq {ss : List (List UInt8)} {l : List Vt} (h : ss.Perm (onL (allN l))) : ss.mergeSort (fun x y => decide (x ≤ y)) = gnm l :=
  List.Perm.eq_of_pairwise (le := fun x y : List UInt8 => x ≤ y) (fun _ _ _ _ h1 h2 => List.le_antisymm h1 h2) (srt_le ss) (srt_le _) (((List.mergeSort_perm _ _).trans h).trans (gnm_perm l).symm)

/-- A map whose keys are these texts. -/
def Kys (D : DataW Unit) (ts : List (List UInt8)) : Prop := Tidy D ∧ (∃ es, D = .map es ∧ ∀ p ∈ es, ∃ x, p.1 = .string x) ∧ ∀ x, Maps.has D (.string x) = decide (x ∈ ts)
theorem Kys.zero : Kys (.map []) [] := ⟨tidy_empty, ⟨[], rfl, fun p hp => by cases hp⟩, fun x => by simp [Maps.has]⟩
theorem mem_insert {p x : Lit × DataW Unit} : ∀ {l : List (Lit × DataW Unit)}, p ∈ DataW.insert x l → p = x ∨ p ∈ l
  | [], h => by simp [DataW.insert] at h; exact .inl h
  | y :: r, h => by
    unfold DataW.insert at h
    split at h
    · rcases List.mem_cons.1 h with h | h
      · exact .inl h
      · exact .inr h
    · rcases List.mem_cons.1 h with h | h
      · exact .inr (by rw [h]; exact List.mem_cons_self)
      · rcases mem_insert h with h | h
        · exact .inl h
        · exact .inr (List.mem_cons_of_mem _ h)
theorem Kys.step {D : DataW Unit} {ts : List (List UInt8)} (h : Kys D ts) (t : List UInt8) (d : DataW Unit) : Kys (D.put (.string t) d) (ts ++ [t]) := by
  obtain ⟨h1, ⟨es, rfl, h2⟩, h3⟩ := h
  refine ⟨h1.put (by simp [WideAt.IsKeyLit]) d, ⟨_, rfl, fun p hp => ?_⟩, fun x => ?_⟩
  · rcases mem_insert hp with rfl | hp
    · exact ⟨t, rfl⟩
    · exact h2 p (List.mem_filter.1 hp).1
  · by_cases e : x = t
    · subst e
      rw [has_put_same h1.isMap (by simp [WideAt.IsKeyLit])]
      simp
    · rw [has_put_other (by intro e2; injection e2 with e2; exact e e2), h3 x]
      simp [e]
theorem Kys.perm {D : DataW Unit} {ts ss : List (List UInt8)} (h : Kys D ts) (hs : ss.Perm (strKeys D)) : ss.Perm (onL ts) := by
  obtain ⟨h1, ⟨es, rfl, h2⟩, h3⟩ := h
  obtain ⟨es', e, hp⟩ := h1
  injection e with e
  subst e
  refine hs.trans (perm_strKeys hp h2 (onL_nodup ts) (fun x => ?_)).symm
  rw [onL_mem, h3 x]; simp
/-- A map that tells the place of each of the first names. -/
def Plz (D : DataW Unit) (N : List (List UInt8)) (i : Nat) : Prop := IsMap D ∧ ∀ a (h : a < N.length), a < i → D.atKey (.string N[a]) (.lit (.int .i64 0)) = .lit (.int .i64 (a : Int))
theorem Plz.step {D : DataW Unit} {N : List (List UInt8)} {i : Nat} (hN : N.Nodup) (hi : i < N.length) (h : Plz D N i) : Plz (D.put (.string N[i]) (.lit (.int .i64 (i : Int)))) N (i + 1) := by
  refine ⟨h.1.put _ _, fun a ha hlt => ?_⟩
  by_cases e : a = i
  · subst e; rw [atKey_put_same h.1 (by simp [WideAt.IsKeyLit])]
  · rw [atKey_put_other (by
      intro e2
      injection e2 with e2
      exact e (nodup_inj hN ha hi e2)), h.2 a ha (by omega)]

theorem getN_none {x : List UInt8} : ∀ {ns : List (List UInt8)} {its : List Vt}, x ∉ ns → getN x ns its = none
  | [], _, _ => by simp [getN]
  | _ :: _, [], _ => by simp [getN]
  | n :: ns, v :: its, h => by
    simp only [getN]
    rw [if_neg (fun e => h (by rw [e]; exact List.mem_cons_self))]
    exact getN_none (fun hm => h (List.mem_cons_of_mem _ hm))
theorem getN_app {x n : List UInt8} {v : Vt} : ∀ {ns : List (List UInt8)} {its : List Vt}, ns.length = its.length → x ∉ ns ∨ n ≠ x → getN x (ns ++ [n]) (its ++ [v]) = if n = x then some v else getN x ns its
  | [], [], _, _ => by simp [getN]
  | [], _ :: _, h, _ => by simp at h
  | _ :: _, [], h, _ => by simp at h
  | m :: ns, u :: its, h, hx => by
    simp only [List.cons_append, getN]
    by_cases e : m = x
    · rw [if_pos e, if_pos e]
      rcases hx with hx | hx
      · exact absurd (by rw [e]; exact List.mem_cons_self) hx
      · rw [if_neg hx]
    · rw [if_neg e, if_neg e]
      exact getN_app (by simpa using h) (hx.imp (fun h hm => h (List.mem_cons_of_mem _ hm)) id)
/-- What stands under a name, up to a place of a set. -/
def upU (x : List UInt8) (l : List Vt) (i j : Nat) : List Vt := undV x (l.take i) ++ (match l[i]? with | some v => (getN x (v.ns.take j) (v.its.take j)).toList | none => [])
theorem upU_zero (x : List UInt8) (l : List Vt) (i : Nat) : upU x l i 0 = undV x (l.take i) := by
  unfold upU
  cases l[i]? <;> simp [getN]
theorem upU_end (x : List UInt8) (l : List Vt) (i : Nat) (hi : i < l.length) (hl : l[i].ns.length = l[i].its.length) : upU x l i l[i].ns.length = undV x (l.take (i + 1)) := by
  unfold upU
  rw [List.getElem?_eq_getElem hi, undV_snoc x l i hi]
  simp only
  rw [List.take_of_length_le (l := l[i].ns) (Nat.le_refl _), List.take_of_length_le (l := l[i].its) (by omega)]
theorem upU_step (x : List UInt8) (l : List Vt) (i j : Nat) (hi : i < l.length) (hl : l[i].ns.length = l[i].its.length) (hj : j < l[i].ns.length) (hn : l[i].ns.Nodup) :
    upU x l i (j + 1) = if l[i].ns[j] = x then upU x l i j ++ [l[i].its[j]'(by omega)] else upU x l i j := by
  unfold upU
  rw [List.getElem?_eq_getElem hi]
  simp only
  have hnot : l[i].ns[j] ∉ l[i].ns.take j := fun hm => by
    obtain ⟨q, hq, e⟩ := List.getElem_of_mem hm
    have hq' : q < j := by simp at hq; omega
    rw [List.getElem_take] at e
    have := nodup_inj hn (by omega) hj e
    omega
  have e1 : l[i].ns.take (j + 1) = l[i].ns.take j ++ [l[i].ns[j]] := List.take_succ_eq_append_getElem hj
  have e2 : l[i].its.take (j + 1) = l[i].its.take j ++ [l[i].its[j]'(by omega)] := List.take_succ_eq_append_getElem (by omega)
  rw [e1, e2]
  by_cases e : l[i].ns[j] = x
  · rw [if_pos e, getN_app (by simp; omega) (.inl (by rw [← e]; exact hnot)), if_pos e, getN_none (by rw [← e]; exact hnot)]
    simp
  · rw [if_neg e, getN_app (by simp; omega) (.inr e), if_neg e]

theorem allN_snoc (l : List Vt) (i : Nat) (h : i < l.length) : allN (l.take (i + 1)) = allN (l.take i) ++ l[i].ns := by
  unfold allN
  rw [List.take_succ_eq_append_getElem h, List.flatMap_append]
  simp
theorem allN_len (l : List Vt) (h256 : ∀ u ∈ l, u.ns.length ≤ 256) : (allN l).length ≤ l.length * 256 := by
  induction l with
  | nil => simp [allN]
  | cons a r ih =>
    have h1 := h256 a (by simp)
    have h2 := ih (fun u hu => h256 u (by simp [hu]))
    unfold allN at *
    rw [List.flatMap_cons, List.length_append, List.length_cons]
    omega
/-- A row that lies in w, of values that are in w0. -/
def Rws (w0 w : World) (l : List Vt) (ad : Option Addr) : Prop := l ≠ [] → ∃ b o, ad = some ⟨b, o, none⟩ ∧ ∀ i (h : i < l.length), ∃ y, sixO w b (o + i * 6) y ∧ VIn w0 l[i] y
theorem Rws.some {w0 w : World} {l : List Vt} {ad : Option Addr} (h : Rws w0 w l ad) (hne : l ≠ []) : ∃ b o, ad = .some ⟨b, o, none⟩ := by
  obtain ⟨b, o, e, _⟩ := h hne; exact ⟨b, o, e⟩
theorem Rws.get {w0 w : World} {l : List Vt} {b o : Nat} (h : Rws w0 w l (.some ⟨b, o, none⟩)) (i : Nat) (hi : i < l.length) : ∃ y, sixO w b (o + i * 6) y ∧ VIn w0 l[i] y := by
  obtain ⟨b', o', e, h2⟩ := h (by intro e; rw [e] at hi; simp at hi)
  simp only [Option.some.injEq, Addr.mk.injEq, and_true] at e
  obtain ⟨rfl, rfl⟩ := e
  exact h2 i hi
theorem Rws.env {w0 w W : World} {l : List Vt} {ad : Option Addr} (h : Rws w0 w l ad) (e : Env w W) : Rws w0 W l ad := fun hne => by
  obtain ⟨b, o, h1, h2⟩ := h hne
  exact ⟨b, o, h1, fun i hi => by obtain ⟨y, y1, y2⟩ := h2 i hi; exact ⟨y, y1.env e, y2⟩⟩
theorem iin_at {w : World} : ∀ (l : List Vt) (b o : Nat), (∀ i (h : i < l.length), ∃ y, sixO w b (o + i * 6) y ∧ VIn w l[i] y) → IIn w l (some ⟨b, o, none⟩)
  | [], _, _, _ => by rw [IIn]; trivial
  | v :: r, b, o, h => by
    rw [IIn]
    obtain ⟨y, y1, y2⟩ := h 0 (by simp)
    refine ⟨b, o, y, rfl, by simpa using y1, y2, iin_at r b (o + 6) (fun i hi => ?_)⟩
    obtain ⟨z, z1, z2⟩ := h (i + 1) (by simpa using hi)
    exact ⟨z, by rw [show o + 6 + i * 6 = o + (i + 1) * 6 by omega]; exact z1, z2⟩
theorem Rws.iin {w0 w : World} {l : List Vt} {ad : Option Addr} (h : Rws w0 w l ad) (e : Env w0 w) : IIn w l ad := by
  by_cases hne : l = []
  · rw [hne, IIn]; trivial
  · obtain ⟨b, o, rfl, h2⟩ := h hne
    exact iin_at l b o (fun i hi => by obtain ⟨y, y1, y2⟩ := h2 i hi; exact ⟨y, y1, VIn.env e _ _ y2⟩)
theorem rws_own {w0 w : World} {B n cap : Nat} {ad : Option Addr} {X : List Vv} (l : List Vt) (h : w.ownsRow B 26 6 (.slice ad n cap) X.length (flatV X)) (hR : RowIs w0 l X) : Rws w0 w l ad := fun hne => by
  have hpos : 0 < X.length := by rw [hR.1]; exact List.length_pos_iff.2 hne
  obtain ⟨g, c, cur, h1, h2, h3, h4, h5, h6⟩ := own_row h hpos
  simp only [Value.slice.injEq] at h1
  refine ⟨g, 0, h1.1, fun i hi => ⟨X[i]'(by rw [hR.1]; exact hi), fun j v hv => ?_, hR.2 i hi _⟩⟩
  have hj : j < 6 := by
    have := (List.getElem?_eq_some_iff.1 hv).1
    rw [csLen] at this; exact this
  rw [cell_of_row w g (0 + i * 6 + j) _ _ (0, 0) h4]
  have hq := flatV_at X i j (by rw [hR.1]; exact hi) hj
  rw [hv] at hq
  rw [← h6, List.getElem?_take] at hq
  split at hq
  · simpa using hq
  · cases hq
theorem strs_own2 {w : World} {B n cap : Nat} {ad : Option Addr} {ns : List (List UInt8)} (h : w.ownsRow B 9 1 (.slice ad n cap) ns.length (strC ns)) : Strs w ad ns := fun hne => by
  rcases h.2 with ⟨h0, h1⟩ | ⟨g, c, cur, hv, hb, hg, hc, _, hs, ht⟩
  · exact absurd (List.eq_nil_of_length_eq_zero h1) hne
  · simp only [Value.slice.injEq] at hv
    refine ⟨g, 0, hv.1, fun i hi => ?_⟩
    rw [cell_of_row w g (0 + i) _ _ (0, 0) hg]
    have h2 : (strC ns)[i]? = some (.string ⟨ns[i].toArray⟩) := by unfold strC; rw [List.getElem?_map, List.getElem?_eq_getElem hi]; rfl
    rw [← ht, List.getElem?_take, if_pos (by omega)] at h2
    simpa using h2
/-- The last element of a row that one owns, put in place. -/
theorem own_last {W : World} {B g n cap : Nat} {X : List Vv} {z x : Vv} (h : W.ownsRow B 26 6 (.slice (some ⟨g, 0, none⟩) (n + 1) cap) (X ++ [z]).length (flatV (X ++ [z]))) (hn : X.length = n) :
    (W.setCells g (n * 6) x.cs).ownsRow B 26 6 (.slice (some ⟨g, 0, none⟩) (n + 1) cap) (X ++ [x]).length (flatV (X ++ [x])) ∧ W.there g (n * 6) 6 := by
  obtain ⟨h1, h2⟩ := h
  have hl : (X ++ [z]).length = n + 1 := by simp [hn]
  have hl' : (X ++ [x]).length = n + 1 := by simp [hn]
  rcases h2 with ⟨h0, _⟩ | ⟨g', c', cur, hv, hb, hg, hc, hm, hs, ht⟩
  · cases h0
  simp only [Value.slice.injEq, Option.some.injEq, Addr.mk.injEq, and_true] at hv
  obtain ⟨rfl, _, rfl⟩ := hv
  have hblk : Blk W g 26 cur.toList := by unfold Blk; rw [hg]
  rw [hl] at hc ht
  have hcl : cur.toList.length = cap * 6 := by simpa using hs
  have hle : n * 6 + 6 ≤ cur.toList.length := by rw [hcl]; omega
  have hx6 : x.cs.length = 6 := rfl
  have hb2 := hblk.setCells x.cs (n * 6) (by rw [hx6]; exact hle)
  have hsp : splice cur.toList (n * 6) x.cs = cur.toList.take (n * 6) ++ (x.cs ++ cur.toList.drop (n * 6 + 6)) := rfl
  have htk : cur.toList.take (n * 6) = flatV X := by
    have := congrArg (List.take (n * 6)) ht
    rw [List.take_take, Nat.min_eq_left (by omega), flatV_app, List.take_append_of_le_length (by rw [flatV_len, hn]; omega), List.take_of_length_le (l := flatV X) (by rw [flatV_len, hn]; omega)] at this
    exact this
  refine ⟨⟨by rw [flatV_len], .inr ⟨g, cap, (splice cur.toList (n * 6) x.cs).toArray, by rw [hl'], hb, ?_, by omega, hm, ?_, ?_⟩⟩, ?_⟩
  · unfold Blk at hb2; exact hb2
  · rw [hsp, htk]
    simp only [List.size_toArray, List.length_append, List.length_drop, flatV_len, hcl, hx6, hn]
    omega
  · rw [hl', hsp, htk, flatV_app, List.toList_toArray, ← List.append_assoc, List.take_append_of_le_length (by rw [List.length_append, flatV_len, hn, hx6]; omega), List.take_of_length_le (by rw [List.length_append, flatV_len, hn, hx6]; omega), show flatV [x] = x.cs by simp [flatV]]
  · exact hblk.there (n * 6) 6 hle

end Go.Proofs.YtniailfcmlongaaGreatDoor.Tr
