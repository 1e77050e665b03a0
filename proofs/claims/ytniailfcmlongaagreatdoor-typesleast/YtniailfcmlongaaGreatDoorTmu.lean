/- The contract of mergeUnits. (Written by gen/gentmu.py.) -/
import Derived.Test.YtniailfcmlongaaGreatDoorTllM
namespace Go.Proofs.YtniailfcmlongaaGreatDoor.Tr
open Go.RowKit Go.Maps

theorem own_apart {w : World} {B B' : Nat} {v v' : Value} {n n' z z' : Nat} {xs xs' : List Value} {e e' : TypeId} (h : w.ownsRow B e z v n xs) (h' : w.ownsRow B' e' z' v' n' xs') (he : e ≠ e') : ∀ k, v.ownBlock = some k → v'.ownBlock ≠ some k := fun k hk hk' => by
  rcases h.2 with ⟨h0, _⟩ | ⟨g, c, cur, hv, _, hg, _⟩
  · rw [h0] at hk; cases hk
  rcases h'.2 with ⟨h0, _⟩ | ⟨g', c', cur', hv', _, hg', _⟩
  · rw [h0] at hk'; cases hk'
  rw [hv] at hk
  rw [hv'] at hk'
  simp only [Value.ownBlock, Option.some.injEq] at hk hk'
  subst hk hk'
  rw [hg] at hg'
  simp only [Option.some.injEq, Obj.cells.injEq] at hg'
  exact he hg'.2.1
/-- Appending one name, at the operation. -/
theorem wp_app_nameL {o : Oper} {a : Act} {W : World} {K : Act → World → Prop} {Q : Exit → Act → World → Prop} (d s : Operand) (ho : o.op = .call { callee := .builtin .append, args := #[d, s], argTypes := #[23, 23] })
    (base : Nat) (v : Value) (ns : List (List UInt8)) (nm : List UInt8) (g cap : Nat) (hd : a.eval d = v) (hs : a.eval s = .slice (some ⟨g, 0, none⟩) 1 cap) (hown : W.ownsRow base 9 1 v ns.length (strC ns)) (hg : W.cell? ⟨g, 0, none⟩ = some (.string ⟨nm.toArray⟩)) (hb : base ≤ W.heap.size) (hl : ns.length ≤ 1000)
    (h : ∀ g' nc W', W'.ownsRow base 9 1 (.slice (some ⟨g', 0, none⟩) (ns.length + 1) nc) (ns ++ [nm]).length (strC (ns ++ [nm])) → W.grownBy W' v.ownBlock → (v.ownBlock = some g' ∨ W.heap.size ≤ g') → K (a.put o.dst (.slice (some ⟨g', 0, none⟩) (ns.length + 1) nc)) W') : o.wp Tryz.prog a W K Q := by
  obtain ⟨i0, hi0, hz0, hz1, hz2⟩ := info_parts infoS
  refine wp_append_lies W d s 23 ho base 9 i0 _ 1 16 Tryz.underlying23 hi0 hz0 hz1 hz2 rfl (by omega) v ns.length (strC ns) hd hown ⟨g, 0, none⟩ 1 cap [.string ⟨nm.toArray⟩] hs rfl (fun j u hu => by
    cases j with
    | zero => simp only [List.getElem?_cons_zero, Option.some.injEq] at hu; subst hu; rw [Addr.add_mid]; exact hg
    | succ j => simp at hu) (by simp [Value.oneCell']) (by omega) (by unfold maxLen; omega) (by omega) hb _ rfl ?_
  intro g' cap' W' h1 h2 h3 _
  refine h _ _ W' ?_ h2 (h3.imp id (fun e => by omega))
  rw [List.length_append]
  unfold strC
  rw [List.map_append]
  exact h1
/-- Appending one value, at the operation. -/
theorem wp_app_valueL {o : Oper} {a : Act} {W : World} {K : Act → World → Prop} {Q : Exit → Act → World → Prop} (d s : Operand) (ho : o.op = .call { callee := .builtin .append, args := #[d, s], argTypes := #[24, 24] })
    (base : Nat) (v : Value) (X : List Vv) (x : Vv) (g cap : Nat) (hd : a.eval d = v) (hs : a.eval s = .slice (some ⟨g, 0, none⟩) 1 cap) (hown : W.ownsRow base 26 6 v X.length (flatV X)) (hg : Blk W g 26 x.cs) (hb : base ≤ W.heap.size) (hl : X.length ≤ 1000)
    (h : ∀ g' ic W', W'.ownsRow base 26 6 (.slice (some ⟨g', 0, none⟩) (X.length + 1) ic) (X ++ [x]).length (flatV (X ++ [x])) → W.grownBy W' v.ownBlock → (v.ownBlock = some g' ∨ W.heap.size ≤ g') → K (a.put o.dst (.slice (some ⟨g', 0, none⟩) (X.length + 1) ic)) W') : o.wp Tryz.prog a W K Q := by
  obtain ⟨i0, hi0, hz0, hz1, hz2⟩ := info_parts infoV
  refine wp_append_lies W d s 24 ho base 26 i0 _ 6 88 Tryz.underlying24 hi0 hz0 hz1 hz2 rfl (by omega) v X.length (flatV X) hd hown ⟨g, 0, none⟩ 1 cap x.cs hs rfl (fun j u hu => by rw [Addr.add_mid, Nat.zero_add, hg.cell]; exact hu) (vv_one x) (by omega) (by unfold maxLen; omega) (by omega) hb _ rfl ?_
  intro g' cap' W' h1 h2 h3 _
  refine h _ _ W' ?_ h2 (h3.imp id (fun e => by omega))
  rw [List.length_append, flatV_app]
  exact h1
theorem strs_held {w w' w'' : World} {n cap : Nat} {ad : Option Addr} {ns : List (List UInt8)} (h : w'.ownsRow w.heap.size 9 1 (.slice ad n cap) ns.length (strC ns)) (hk : ∀ k, w.heap.size ≤ k → k < w'.heap.size → w''.heap[k]? = w'.heap[k]?) : Strs w'' ad ns := fun hne => by
  have hlt := own_lt h
  rcases h.2 with ⟨h0, h1⟩ | ⟨g, c, cur, hv, hb, hg, hc, _, hs, ht⟩
  · exact absurd (List.eq_nil_of_length_eq_zero h1) hne
  · have hgl := (hlt g (by rw [hv]; rfl)).2
    simp only [Value.slice.injEq] at hv
    refine ⟨g, 0, hv.1, fun i hi => ?_⟩
    rw [cell_of_row w'' g (0 + i) _ _ (0, 0) ((hk g hb hgl).trans hg)]
    have h2 : (strC ns)[i]? = some (.string ⟨ns[i].toArray⟩) := by unfold strC; rw [List.getElem?_map, List.getElem?_eq_getElem hi]; rfl
    rw [← ht, List.getElem?_take, if_pos (by omega)] at h2
    simpa using h2

abbrev Eu := List UInt8 × Vt × Vv
def nmU (R : List Eu) : List (List UInt8) := R.map (·.1)
def vvU (R : List Eu) : List Vv := R.map (·.2.2)
theorem nmU_len (R : List Eu) : (nmU R).length = R.length := by simp [nmU]
theorem vvU_len (R : List Eu) : (vvU R).length = R.length := by simp [vvU]
/-- What mergeUnits keeps from round to round. -/
structure UnK (w0 w : World) (R : List Eu) (na ia : Option Addr) (nc ic : Nat) (wr : World) : Prop where
  fr : Fr (fun _ => False) w wr
  bz : Blk wr w.heap.size 26 vZ.cs
  bv : Blk wr (w.heap.size + 1) 26 (Vv.mk 6 0 0 [] na R.length nc ia R.length ic).cs
  bc : Blk wr (w.heap.size + 2) 9 [.string ⟨(sAfter : List UInt8).toArray⟩, .string ⟨(sRequires : List UInt8).toArray⟩, .string ⟨(sStart : List UInt8).toArray⟩]
  ns : wr.ownsRow (w.heap.size + 3) 9 1 (.slice na R.length nc) (nmU R).length (strC (nmU R))
  vs : wr.ownsRow (w.heap.size + 3) 26 6 (.slice ia R.length ic) (vvU R).length (flatV (vvU R))
  hd : ∀ e ∈ R, ∀ w'', Env w0 w'' → (∀ k, w.heap.size + 2 ≤ k → k < wr.heap.size → (Value.slice na R.length nc).ownBlock ≠ some k → (Value.slice ia R.length ic).ownBlock ≠ some k → w''.heap[k]? = wr.heap[k]?) → VIn w'' e.2.1 e.2.2
/-- What a round leaves. -/
theorem un_next {w0 w wr wA wB w9 W4 : World} {R : List Eu} {ra va : Option Addr} {gN gV rc vc nc2 ic2 : Nat} {e : Eu} (HK : UnK w0 w R ra va rc vc wr) (hA : wr.heap.size ≤ wA.heap.size) (hB : Fr (fun _ => False) wB w9) (hh : Hld w0 wA wB e.2.1 e.2.2) (h9 : Fr (fun _ => False) wr w9) (F4 : Fr (fun k => (Value.slice ra R.length rc).ownBlock = some k ∨ (Value.slice va R.length vc).ownBlock = some k) w9 W4)
    (N4 : W4.ownsRow (w.heap.size + 3) 9 1 (.slice (some ⟨gN, 0, none⟩) ((nmU R).length + 1) nc2) (nmU R ++ [e.1]).length (strC (nmU R ++ [e.1]))) (V4 : W4.ownsRow (w.heap.size + 3) 26 6 (.slice (some ⟨gV, 0, none⟩) ((vvU R).length + 1) ic2) (vvU R ++ [e.2.2]).length (flatV (vvU R ++ [e.2.2])))
    (lN : (Value.slice ra R.length rc).ownBlock = some gN ∨ w9.heap.size ≤ gN) (lV : (Value.slice va R.length vc).ownBlock = some gV ∨ w9.heap.size ≤ gV) :
    UnK w0 w (R ++ [e]) (some ⟨gN, 0, none⟩) (some ⟨gV, 0, none⟩) nc2 ic2 ((W4.setCell ⟨w.heap.size + 1, 4, none⟩ (.slice (some ⟨gN, 0, none⟩) ((nmU R).length + 1) nc2)).setCell ⟨w.heap.size + 1, 5, none⟩ (.slice (some ⟨gV, 0, none⟩) ((vvU R).length + 1) ic2)) := by
  have hrow : ∀ k, ((Value.slice ra R.length rc).ownBlock = some k ∨ (Value.slice va R.length vc).ownBlock = some k) → w.heap.size + 3 ≤ k ∧ k < wr.heap.size := fun k h => by
    rcases h with h | h
    · exact own_lt HK.ns k h
    · exact own_lt HK.vs k h
  have keep : ∀ {b : Nat} {t : TypeId} {cs : List Value}, Blk wr b t cs → b < w.heap.size + 3 → Blk W4 b t cs := fun hb hlt => F4.blk (h9.blk hb (fun h => h)) (fun h => by have := (hrow _ h).1; omega)
  have hl : (R ++ [e]).length = R.length + 1 := by simp
  have hN : nmU (R ++ [e]) = nmU R ++ [e.1] := by simp [nmU]
  have hV : vvU (R ++ [e]) = vvU R ++ [e.2.2] := by simp [vvU]
  obtain ⟨W6, hW6⟩ : ∃ W6, W6 = (W4.setCell ⟨w.heap.size + 1, 4, none⟩ (.slice (some ⟨gN, 0, none⟩) ((nmU R).length + 1) nc2)).setCell ⟨w.heap.size + 1, 5, none⟩ (.slice (some ⟨gV, 0, none⟩) ((vvU R).length + 1) ic2) := ⟨_, rfl⟩
  have f6 : Fr (· = w.heap.size + 1) W4 W6 := by rw [hW6]; exact (((Fr.refl (· = w.heap.size + 1) W4).setCell (.inl rfl) _).setCell (.inl rfl) _)
  have own2 : ∀ {ty : TypeId} {z n : Nat} {v : Value} {xs : List Value}, W4.ownsRow (w.heap.size + 3) ty z v n xs → W6.ownsRow (w.heap.size + 3) ty z v n xs := fun h => own_keep (b := w.heap.size + 1) h (by omega) f6
  have hbv := ((keep HK.bv (by omega)).setCell 4 (.slice (some ⟨gN, 0, none⟩) ((nmU R).length + 1) nc2)).setCell 5 (.slice (some ⟨gV, 0, none⟩) ((vvU R).length + 1) ic2)
  rw [← hW6] at hbv ⊢
  refine ⟨((HK.fr.trans h9 (fun _ h => h.elim)).trans F4 (fun i hi => .inr (by have := hrow i hi; omega))).trans f6 (fun i hi => .inr (by omega)), ?_, ?_, ?_, ?_, ?_, ?_⟩
  · exact f6.blk (keep HK.bz (by omega)) (by omega)
  · rw [nmU_len, vvU_len] at hbv
    rw [hl]
    exact hbv
  · exact f6.blk (keep HK.bc (by omega)) (by omega)
  · rw [hl, hN]
    have := own2 N4
    rw [nmU_len] at this
    exact this
  · rw [hl, hV]
    have := own2 V4
    rw [vvU_len] at this
    exact this
  · intro x hx w'' e0 hk
    have hs46 : W4.heap.size ≤ W6.heap.size := f6.size
    have hs94 := F4.size
    have hsr9 := h9.size
    have hsB9 := hB.size
    have step : ∀ k, w.heap.size + 2 ≤ k → k < w9.heap.size → (Value.slice ra R.length rc).ownBlock ≠ some k → (Value.slice va R.length vc).ownBlock ≠ some k → w''.heap[k]? = w9.heap[k]? := by
      intro k k1 k2 n1 n2
      have e1 : gN ≠ k := by
        rintro rfl
        rcases lN with h | h
        · exact n1 h
        · omega
      have e2 : gV ≠ k := by
        rintro rfl
        rcases lV with h | h
        · exact n2 h
        · omega
      rw [hk k k1 (by omega) (by simp only [Value.ownBlock]; intro h; injection h with h; exact e1 h) (by simp only [Value.ownBlock]; intro h; injection h with h; exact e2 h)]
      rw [f6.block k (by omega) (by omega)]
      exact F4.block k k2 (fun h => by rcases h with h | h; (· exact n1 h); (· exact n2 h))
    rcases List.mem_append.1 hx with hx | hx
    · exact HK.hd x hx w'' e0 (fun k k1 k2 n1 n2 => (step k k1 (by omega) n1 n2).trans (h9.block k k2 (fun h => h)))
    · obtain rfl := List.mem_singleton.1 hx
      refine hh w'' e0 (fun k k1 k2 => (step k ?_ (by omega) ?_ ?_).trans (hB.block k k2 (fun h => h)))
      · have := HK.bv.lt; have := HK.bc.lt; omega
      · intro h; have := (hrow k (.inl h)).2; omega
      · intro h; have := (hrow k (.inr h)).2; omega
theorem UnK.drew {w0 w wr : World} {R : List Eu} {ra va : Option Addr} {rc vc : Nat} (h : UnK w0 w R ra va rc vc wr) : UnK w0 w R ra va rc vc wr.drew := ⟨h.fr.drew, h.bz, h.bv, h.bc, h.ns, h.vs, h.hd⟩
/-- The names of a unit's parts. -/
def nmQ : Nat → List UInt8
  | 0 => sAfter
  | 1 => sRequires
  | _ => sStart
/-- What a part is. -/
def prt (l : List Vt) : Nat → Vt ⊕ Int
  | 0 => bndV (oncV (allU (undV sAfter l)))
  | 1 => bndV (oncV (allU (undV sRequires l)))
  | _ => mst (undV sStart l)
/-- What units make. -/
def mun (l : List Vt) : Vt ⊕ Int :=
  match prt l 0 with
  | .inr n => .inr n
  | .inl a => match prt l 1 with
    | .inr n => .inr n
    | .inl b => match prt l 2 with
      | .inr n => .inr n
      | .inl c => .inl (.mk 6 0 0 [] [sAfter, sRequires, sStart] [a, b, c])
theorem mun_err {l : List Vt} {R : List Eu} {j : Nat} {n : Int} (hj : j < 3) (hR : R.length = j) (h : ∀ q (hq : q < R.length), prt l q = .inl R[q].2.1) (he : prt l j = .inr n) : mun l = .inr n := by
  unfold mun
  match j, hj, R, hR, h, he with
  | 0, _, [], _, _, he => rw [he]
  | 1, _, [a], _, h, he => rw [h 0 (by simp)]; simp only; rw [he]
  | 2, _, [a, b], _, h, he =>
    have h0 := h 0 (by simp)
    have h1 := h 1 (by simp)
    rw [h0]; simp only; rw [h1]; simp only; rw [he]
theorem mun_ok {l : List Vt} {R : List Eu} (hR : R.length = 3) (h : ∀ q (hq : q < R.length), prt l q = .inl R[q].2.1) : mun l = .inl (.mk 6 0 0 [] [sAfter, sRequires, sStart] (R.map (·.2.1))) := by
  unfold mun
  match R, hR, h with
  | [a, b, c], _, h =>
    have h0 := h 0 (by simp)
    have h1 := h 1 (by simp)
    have h2 := h 2 (by simp)
    rw [h0]; simp only; rw [h1]; simp only; rw [h2]; rfl
theorem meq_err {S : List Vt} {n : Int} (hne : S ≠ []) (h : meq S = .inr n) : n = 27 := by
  cases S with
  | nil => contradiction
  | cons a r =>
    have e : meq (a :: r) = if r.all (fun u => (eqV a u).1) = true then .inl a else .inr 27 := rfl
    rw [e] at h
    split at h
    · cases h
    · injection h with h; exact h.symm
theorem bnd_err {U : List Vt} {n : Int} (h : bndV U = .inr n) : n = 20 := by
  unfold bndV at h
  split at h
  · injection h with h; exact h.symm
  · cases h
theorem prt_err {l : List Vt} {j : Nat} {n : Int} (h : prt l j = .inr n) : n = 20 ∨ n = 27 := by
  match j with
  | 0 => exact .inl (bnd_err h)
  | 1 => exact .inl (bnd_err h)
  | j + 2 =>
    have h' : mst (undV sStart l) = .inr n := h
    unfold mst at h'
    split at h'
    · cases h'
    · rename_i hne; exact .inr (meq_err hne h')
def UnSt (w0 w : World) (l : List Vt) (iv : Value) (wr : World) : Prop := ∃ (R : List Eu) (na ia : Option Addr) (nc ic : Nat), R.length ≤ 3 ∧ iv = .int .i64 (R.length : Int) ∧ nmU R = [sAfter, sRequires, sStart].take R.length ∧ (∀ q (hq : q < R.length), prt l q = .inl R[q].2.1) ∧ UnK w0 w R na ia nc ic wr
theorem nm_next {R : List Eu} (hn : nmU R = [sAfter, sRequires, sStart].take R.length) (h : R.length < 3) (v : Vt) (x : Vv) : nmU (R ++ [(nmQ R.length, v, x)]) = [sAfter, sRequires, sStart].take (R ++ [(nmQ R.length, v, x)]).length := by
  have e1 : nmU (R ++ [(nmQ R.length, v, x)]) = nmU R ++ [nmQ R.length] := by simp [nmU]
  rw [e1, hn, List.length_append, List.length_singleton]
  generalize R.length = j at *
  match j, h with
  | 0, _ => rfl
  | 1, _ => rfl
  | 2, _ => rfl
theorem prt_next {l : List Vt} {R : List Eu} (h : ∀ q (hq : q < R.length), prt l q = .inl R[q].2.1) {nm : List UInt8} {v : Vt} {x : Vv} (hv : prt l R.length = .inl v) : ∀ q (hq : q < (R ++ [(nm, v, x)]).length), prt l q = .inl (R ++ [(nm, v, x)])[q].2.1 := by
  intro q hq
  by_cases hlt : q < R.length
  · rw [List.getElem_append_left hlt]; exact h q hlt
  · obtain rfl : q = R.length := by simp at hq; omega
    rw [List.getElem_append_right (Nat.le_refl _)]
    simpa using hv
/-- Of a list of units: what under, and then mergePart, make. -/
structure Uts (l : List Vt) : Prop where
  ns : ∀ u ∈ l, u.ns.length = u.its.length
  rt : ∀ u ∈ l, ∀ z ∈ u.its, rtB z 32 = true
  ls : ∀ j, j < 2 → ∀ z ∈ undV (nmQ j) l, z.its.length ≤ 256 ∧ ∀ t ∈ z.its, t.t.length ≤ 1024
  st : ∀ z ∈ undV sStart l, z.ns = [] ∧ z.its = []
theorem getN_mem {x : List UInt8} : ∀ {ns : List (List UInt8)} {its : List Vt} {z : Vt}, getN x ns its = some z → z ∈ its
  | [], _, _, h => by simp [getN] at h
  | _ :: _, [], _, h => by simp [getN] at h
  | n :: ns, v :: its, z, h => by
    simp only [getN] at h
    split at h
    · injection h with h; subst h; exact List.mem_cons_self
    · exact List.mem_cons_of_mem _ (getN_mem h)
theorem part_any (w0 W : World) {l : List Vt} (hU : Uts l) {j : Nat} (hj : j < 3) (ad : Option Addr) (cap : Nat) (hI : IIn W (undV (nmQ j) l) ad) (hcap : (undV (nmQ j) l).length ≤ cap) (hlim : l.length ≤ 1000) :
    Calls Tryz.prog 80 #[.string ⟨(nmQ j).toArray⟩, .slice ad (undV (nmQ j) l).length cap] W fun e w' => HPost w0 W (prt l j) e w' := by
  have hlen : (undV (nmQ j) l).length ≤ 1000 := Nat.le_trans (List.length_filterMap_le _ _) hlim
  match j, hj with
  | 0, _ => exact mergePart_list w0 W sAfter (.inl rfl) _ ad cap hI hlen (fun u hu => (hU.ls 0 (by omega) u hu).1) (fun u hu => (hU.ls 0 (by omega) u hu).2)
  | 1, _ => exact mergePart_list w0 W sRequires (.inr rfl) _ ad cap hI hlen (fun u hu => (hU.ls 1 (by omega) u hu).1) (fun u hu => (hU.ls 1 (by omega) u hu).2)
  | 2, _ => exact mergePart_start w0 W _ ad cap hI hcap hlen (fun u hu => by
      unfold undV at hu
      obtain ⟨a, h1, h2⟩ := List.mem_filterMap.1 hu
      exact hU.rt a h1 u (getN_mem h2)) hU.st

set_option maxRecDepth 100000 in
set_option maxHeartbeats 16000000 in
set_option linter.unusedSimpArgs false in
theorem mergeUnits_any (w0 w : World) (l : List Vt) (ad : Option Addr) (cap : Nat) (hI : IIn w l ad) (hlim : l.length ≤ 1000) (hU : Uts l) :
    Calls Tryz.prog 57 #[.slice ad l.length cap] w fun e w' => HPost w0 w (mun l) e w' := by
  have hst := fun (W : World) (a : Addr) (m : Mode) (f : Nat) => run_store Tryz.prog W a (.float .f64 f) m rfl
  have HI := hid hI
  have HU := hid hU
  have HLim := hid hlim
  have HP1 : Hid (UnK w0 w [] none none 0 0 ((vBox (vBox w vZ) (Vv.mk 6 0 0 [] none 0 0 none 0 0)).alloc (.cells #[.string ⟨(sAfter : List UInt8).toArray⟩, .string ⟨(sRequires : List UInt8).toArray⟩, .string ⟨(sStart : List UInt8).toArray⟩] 9))) := by
    have b1 := vBlk w vZ
    have b2 := vBlk (vBox w vZ) (Vv.mk 6 0 0 [] none 0 0 none 0 0)
    have b3 := Blk.new (vBox (vBox w vZ) (Vv.mk 6 0 0 [] none 0 0 none 0 0)) 9 [.string ⟨(sAfter : List UInt8).toArray⟩, .string ⟨(sRequires : List UInt8).toArray⟩, .string ⟨(sStart : List UInt8).toArray⟩]
    rw [World.size_alloc] at b2
    rw [World.size_alloc, World.size_alloc] at b3
    exact ⟨(((vFr w vZ).trans (vFr _ _) (fun _ h => h.elim)).alloc _), (b1.alloc _).alloc _, b2.alloc _, b3, World.ownsRow_nil _ _ _ _, World.ownsRow_nil _ _ _ _, fun e he => by simp at he⟩
  clear hI hU
  go_enter Tryz.func57, Tryz.ntmps57
  go_wp2_with fail
  go_loopw [6, 7, 8, 12] (fun _ _ _ iv wr => UnSt w0 w l iv wr) (fun _ _ _ iv _ => 3 - (intOf iv).toNat)
  case atStart => exact ⟨[], none, none, 0, 0, by simp, rfl, rfl, fun q hq => by simp at hq, HP1.out⟩
  case round =>
    obtain ⟨R, ra, va, rc, vc, hR3, rfl, hNm, hPr, hK⟩ := hrel
    have HK := hid hK
    have HNm := hid hNm
    have HPr := hid hPr
    clear hK hNm hPr HP1
    by_cases hlt : R.length < 3
    · have q1 : (R.length : Int) < 3 := by omega
      have q0 : (0 : Int) ≤ (R.length : Int) := by omega
      have kc : wr.cell? ⟨w.heap.size + 2, R.length, none⟩ = some (.string ⟨(nmQ R.length).toArray⟩) := by
        have hb := HK.out.bc.cell
        have key : ∀ j, j < 3 → wr.cell? ⟨w.heap.size + 2, j, none⟩ = some (.string ⟨(nmQ j).toArray⟩) := fun j hj => by
          match j, hj with
          | 0, _ => exact hb 0
          | 1, _ => exact hb 1
          | 2, _ => exact hb 2
        exact key _ hlt
      have HUn := hid (under_any w wr (Env.of HK.out.fr) (nmQ R.length) l ad cap HI.out HLim.out HU.out.ns)
      have HLt := hid hlt
      have HPa : Hid (∀ W ad cap, IIn W (undV (nmQ R.length) l) ad → (undV (nmQ R.length) l).length ≤ cap → Calls Tryz.prog 80 #[.string ⟨(nmQ R.length).toArray⟩, .slice ad (undV (nmQ R.length) l).length cap] W fun e w' => HPost w0 W (prt l R.length) e w') := fun W ad cap h1 h2 => part_any w0 W HU.out HLt.out ad cap h1 h2 HLim.out
      obtain ⟨nm, hnm⟩ : ∃ nm, nm = nmQ R.length := ⟨_, rfl⟩
      rw [← hnm] at kc HUn HPa
      have HNmE := hid hnm
      clear hnm hlt hR3 hlim
      generalize undV nm l = S at *
      go_wp2_with fail
      refine HUn.out.mono ?_
      rintro e w1 ⟨⟨X, v1, rfl, hO, hRow⟩, f1⟩
      obtain ⟨ia, ic, rfl⟩ := own_len hO
      have HF1 := hid (HK.out.fr.trans f1 (fun _ h => h.elim))
      have hcap1 := own_cap hO
      have hXl := hRow.1
      have hC := HPa.out w1 ia ic (iin_own S hO hXl (fun i h h' => VIn.env (Env.of HF1.out) _ _ (hRow.2 i h h'))) (by rw [← hXl]; exact hcap1)
      rw [← hXl] at hC
      have HC := hid hC
      have HFr1 := hid f1
      clear hC hXl hcap1 hO hRow f1 HUn HPa
      go_wp2_with fail
      refine HC.out.mono ?_
      rintro e w2 ⟨f2, ⟨nn, hr, rfl⟩ | ⟨v, x, hr, rfl, hv⟩⟩
      · have HF2 := hid (HF1.out.trans f2 (fun _ h => h.elim))
        have HFw := hid ((HFr1.out.trans f2 (fun _ h => h.elim)).trans (vFr w2 vZ) (fun _ h => h.elim))
        have HBz := hid (HFw.out.blk HK.out.bz (fun h => h))
        have HF9 := hid (HF2.out.trans (vFr w2 vZ) (fun _ h => h.elim))
        have HE : Hid (mun l = .inr nn ∧ (nn != 0) = true) := ⟨mun_err HLt.out rfl HPr.out hr, by rcases prt_err hr with rfl | rfl <;> decide⟩
        have qn := HE.out.2
        clear f2 hr HC kc
        simp only [vBox, vZ] at *
        go_wp2_with (refine wpList_storeV vZ (by rfl) _ _ (by rfl) HBz.out (by rfl) (by rfl) ?_; intro w5 b5 f5)
        have HF5 : Hid (Fr (fun _ => False) w w5) := HF9.out.trans f5 (fun j hj => .inr (by omega))
        have HB5 := hid b5
        clear b5 f5
        go_wp2_with fail
        exact bodyPost_ret (resVE rfl rfl HB5.out) rfl ⟨HF5.out, .inl ⟨nn, HE.out.1, rfl⟩⟩
      · have HFv := hid (HFr1.out.trans f2 (fun _ h => h.elim))
        have HF9 := hid (HFv.out.trans (vFr w2 x) (fun _ h => h.elim))
        have HW9 := hid (vBlk w2 x)
        have HFb9 := hid (vFr w2 x)
        have HHld := hid hv
        have HSA : Hid (wr.heap.size ≤ w1.heap.size) := HFr1.out.size
        have HVr := hid hr
        have HS2 : Hid (wr.heap.size ≤ w2.heap.size) := HFv.out.size
        clear f2 hr HC kc hv
        have q2 : ((0 : Int) != 0) = false := by decide
        simp only [vBox] at *
        go_wp2_with fail
        generalize w2.alloc (.cells #[.int .i64 x.k, .int .i64 x.n, .float .f64 x.f, .string ⟨x.t.toArray⟩, .slice x.na x.nl x.nc, .slice x.ia x.il x.ic] 26) = w9 at *
        have hrow0 : ∀ k, ((Value.slice ra R.length rc).ownBlock = some k ∨ (Value.slice va R.length vc).ownBlock = some k) → w.heap.size + 3 ≤ k ∧ k < wr.heap.size := fun k h => by
          rcases h with h | h
          · exact own_lt HK.out.ns k h
          · exact own_lt HK.out.vs k h
        have HRow := hid hrow0
        clear hrow0
        have HKK : Hid (∀ W, Fr (fun k => (Value.slice ra R.length rc).ownBlock = some k ∨ (Value.slice va R.length vc).ownBlock = some k) w9 W → ((fun W => six W w2.heap.size x) W) ∧ ((fun W => W.cell? ⟨w.heap.size + 1, 4, none⟩ = some (.slice ra R.length rc) ∧ W.cell? ⟨w.heap.size + 1, 5, none⟩ = some (.slice va R.length vc)) W)) := fun W fr => by
          have hb := fr.blk (HF9.out.blk HK.out.bv (fun h => h)) (fun h => by have := HRow.out _ h; omega)
          exact ⟨(fr.blk HW9.out (fun h => by have h1 := HRow.out _ h; have h2 := HS2.out; omega)).six, hb.cell 4, hb.cell 5⟩
        have HKS : Hid (∀ W, Fr (fun k => ((Value.slice ra R.length rc).ownBlock = some k ∨ (Value.slice va R.length vc).ownBlock = some k) ∨ k = w.heap.size + 1) w9 W → ((fun W => six W w2.heap.size x) W)) := fun W fr => by
          have hbig : w.heap.size + 1 < wr.heap.size := HK.out.bv.lt
          exact (fr.blk HW9.out (fun h => by have h2 := HS2.out; rcases h with h | h; (· have := HRow.out _ h; omega); (· omega))).six
        have HN9 : Hid (w9.ownsRow (w.heap.size + 3) 9 1 (.slice ra R.length rc) (nmU R).length (strC (nmU R))) := owns_of_eq HK.out.ns (fun k hk => HF9.out.block k (own_lt HK.out.ns k hk).2 (fun h => h))
        have HV9 : Hid (w9.ownsRow (w.heap.size + 3) 26 6 (.slice va R.length vc) (vvU R).length (flatV (vvU R))) := owns_of_eq HK.out.vs (fun k hk => HF9.out.block k (own_lt HK.out.vs k hk).2 (fun h => h))
        have HAp := hid (own_apart HN9.out HV9.out (by decide))
        have HSz : Hid (w.heap.size + 3 ≤ w9.heap.size) := by unfold Hid; have h1 := HF9.out.size; have h2 := HK.out.bc.lt; omega
        have HF0 : Hid (Fr (fun k => (Value.slice ra R.length rc).ownBlock = some k ∨ (Value.slice va R.length vc).ownBlock = some k) w9 w9.drew) := (Fr.refl _ w9).drew
        have hRl2 : (nmU R).length ≤ 1000 ∧ (vvU R).length ≤ 1000 := by rw [nmU_len, vvU_len]; have := HLt.out; omega
        refine wp_region_noPanic ?_
        refine region_till (fun W => six W w2.heap.size x) (fun W => W.cell? ⟨w.heap.size + 1, 4, none⟩ = some (.slice ra R.length rc) ∧ W.cell? ⟨w.heap.size + 1, 5, none⟩ = some (.slice va R.length vc)) 11 (by kernel_rfl) ?_
        have HNA : Hid (w9.drew.ownsRow (w.heap.size + 3) 9 1 (.slice ra R.length rc) (nmU R).length (strC (nmU R))) := HN9.out
        have HVA : Hid (w9.drew.ownsRow (w.heap.size + 3) 26 6 (.slice va R.length vc) (vvU R).length (flatV (vvU R))) := HV9.out
        have HZA : Hid (w.heap.size + 3 ≤ w9.drew.heap.size) := HSz.out
        have HYA : Hid (w9.heap.size ≤ w9.drew.heap.size) := Nat.le_refl _
        generalize w9.drew = W0 at *
        have HFA := HF0
        refine takeT (fun _ => True) (i := 0) (d := some 28) (.pointer (some ⟨w.heap.size + 1, 4, none⟩)) rfl (by kernel_rfl) (by decide) (by kernel_rfl) (by kernel_rfl) (by kernel_rfl) (fun _ _ _ _ h => h) ((HKK.out _ HF0.out).1) (fun _ => (HKK.out _ HF0.out).2) (.inl (fun _ _ => trivial)) (fun o ho => by cases ho; exact .inl ⟨by rfl, fun w hSw => by (go_simp)⟩) ?_
        simp only [Act.put, List.setIfInBounds_toArray, List.set_cons_zero, List.set_cons_succ]
        refine takeT (fun W => W.cell? ⟨w.heap.size + 1, 4, none⟩ = some (.slice ra R.length rc) ∧ W.cell? ⟨w.heap.size + 1, 5, none⟩ = some (.slice va R.length vc)) (i := 1) (d := some 29) (.slice ra R.length rc) rfl (by kernel_rfl) (by decide) (by kernel_rfl) (by kernel_rfl) (by kernel_rfl) (fun _ _ _ _ h => h) ((HKK.out _ HF0.out).1) (fun _ => (HKK.out _ HF0.out).2) (.inr ⟨fun _ h1 h2 => h2, by kernel_rfl, by kernel_rfl⟩) (fun o ho => by cases ho; exact .inl ⟨by rfl, fun w hSw => by (obtain ⟨hs5, hs6⟩ := hSw; go_simp)⟩) ?_
        simp only [Act.put, List.setIfInBounds_toArray, List.set_cons_zero, List.set_cons_succ]
        refine takeT (fun _ => True) (i := 2) (d := some 30) (.string ⟨nm.toArray⟩) rfl (by kernel_rfl) (by decide) (by kernel_rfl) (by kernel_rfl) (by kernel_rfl) (fun _ _ _ _ h => h) ((HKK.out _ HF0.out).1) (fun _ => (HKK.out _ HF0.out).2) (.inl (fun _ _ => trivial)) (fun o ho => by cases ho; exact .inl ⟨by rfl, fun w hSw => by (go_simp)⟩) ?_
        simp only [Act.put, List.setIfInBounds_toArray, List.set_cons_zero, List.set_cons_succ]
        refine takeT (fun _ => True) (i := 5) (d := some 33) (.pointer (some ⟨w.heap.size + 1, 5, none⟩)) rfl (by kernel_rfl) (by decide) (by kernel_rfl) (by kernel_rfl) (by kernel_rfl) (fun _ _ _ _ h => h) ((HKK.out _ HF0.out).1) (fun _ => (HKK.out _ HF0.out).2) (.inl (fun _ _ => trivial)) (fun o ho => by cases ho; exact .inl ⟨by rfl, fun w hSw => by (go_simp)⟩) ?_
        simp only [Act.put, List.setIfInBounds_toArray, List.set_cons_zero, List.set_cons_succ]
        refine takeT (fun W => W.cell? ⟨w.heap.size + 1, 4, none⟩ = some (.slice ra R.length rc) ∧ W.cell? ⟨w.heap.size + 1, 5, none⟩ = some (.slice va R.length vc)) (i := 6) (d := some 34) (.slice va R.length vc) rfl (by kernel_rfl) (by decide) (by kernel_rfl) (by kernel_rfl) (by kernel_rfl) (fun _ _ _ _ h => h) ((HKK.out _ HF0.out).1) (fun _ => (HKK.out _ HF0.out).2) (.inr ⟨fun _ h1 h2 => h2, by kernel_rfl, by kernel_rfl⟩) (fun o ho => by cases ho; exact .inl ⟨by rfl, fun w hSw => by (obtain ⟨hs5, hs6⟩ := hSw; go_simp)⟩) ?_
        simp only [Act.put, List.setIfInBounds_toArray, List.set_cons_zero, List.set_cons_succ]
        refine takeT (fun W => six W w2.heap.size x) (i := 7) (d := some 35) (x.v) rfl (by kernel_rfl) (by decide) (by kernel_rfl) (by kernel_rfl) (by kernel_rfl) (fun _ _ _ _ h => h) ((HKK.out _ HF0.out).1) (fun _ => (HKK.out _ HF0.out).2) (.inl (fun _ h => h)) (fun o ho => by cases ho; exact .inl ⟨by rfl, fun w hSw => by (obtain ⟨hs0, hs1, hs2, hs3, hs4, hs6⟩ := hSw; go_simp)⟩) ?_
        simp only [Act.put, List.setIfInBounds_toArray, List.set_cons_zero, List.set_cons_succ]
        refine twoT (i := 3) (j := 8) (by kernel_rfl) (by decide) (by decide) (fun o ho K' hK => ?_) (fun o ho K' hK => ?_)
        · skip
          cases ho
          rw [if_pos (by rfl)]
          go_simp
          have HFB : Hid (Fr (fun k => (Value.slice ra R.length rc).ownBlock = some k ∨ (Value.slice va R.length vc).ownBlock = some k) w9 (W0.alloc (.cells #[.string ⟨nm.toArray⟩] 9))) := HFA.out.alloc _
          have HGN : Hid (Blk (W0.alloc (.cells #[.string ⟨nm.toArray⟩] 9)) W0.heap.size 9 [.string ⟨nm.toArray⟩]) := Blk.new _ _ _
          have HLN : Hid (w9.heap.size ≤ W0.heap.size) := HFA.out.size
          have HNB : Hid ((W0.alloc (.cells #[.string ⟨nm.toArray⟩] 9)).ownsRow _ _ _ _ _ _) := owns_of_eq HNA.out (fun k hk => Below.heap_alloc W0 _ k (own_lt HNA.out k hk).2)
          have HVB : Hid ((W0.alloc (.cells #[.string ⟨nm.toArray⟩] 9)).ownsRow _ _ _ _ _ _) := owns_of_eq HVA.out (fun k hk => Below.heap_alloc W0 _ k (own_lt HVA.out k hk).2)
          have HZB : Hid (w.heap.size + 3 ≤ (W0.alloc (.cells #[.string ⟨nm.toArray⟩] 9)).heap.size) := Nat.le_trans HZA.out (HFB.out.size |> fun _ => by rw [World.size_alloc]; exact Nat.le_succ _)
          have HYB : Hid (w9.heap.size ≤ (W0.alloc (.cells #[.string ⟨nm.toArray⟩] 9)).heap.size) := HFB.out.size
          refine hK.out _ _ (HKK.out _ HFB.out).1 (fun _ _ => (HKK.out _ HFB.out).2) ?_
          clear hK K'
          try simp only [Act.put, List.setIfInBounds_toArray, List.set_cons_zero, List.set_cons_succ]
          generalize W0.alloc (.cells #[.string ⟨nm.toArray⟩] 9) = WB at *
          refine twoT (i := 4) (j := 8) (by kernel_rfl) (by decide) (by decide) (fun o ho K' hK => ?_) (fun o ho K' hK => ?_)
          · skip
            cases ho
            rw [if_pos (by rfl)]
            refine wp_app_nameL _ _ rfl (w.heap.size + 3) _ (nmU R) nm _ _ (by rfl) (by rfl) HNB.out (HGN.out.cell 0) HZB.out hRl2.1 ?_
            intro gN nc2 WC ho2 hg2 hloc
            have HlN : Hid ((Value.slice ra R.length rc).ownBlock = some gN ∨ w9.heap.size ≤ gN) := hloc.imp id (fun h => Nat.le_trans HYB.out h)
            have HFC := hid (HFB.out.grown hg2 (fun k hk => .inl (.inl hk)))
            have HNC := hid ho2
            have HVC := hid (owns_of_eq HVB.out (w' := WC) (fun k hk => hg2.block k (own_lt HVB.out k hk).2 (fun e => HAp.out k e.symm hk)))
            have HZC : Hid (w.heap.size + 3 ≤ WC.heap.size) := Nat.le_trans HZB.out hg2.size
            have HYC : Hid (w9.heap.size ≤ WC.heap.size) := Nat.le_trans HYB.out hg2.size
            refine hK.out _ _ (HKK.out _ HFC.out).1 (fun _ _ => (HKK.out _ HFC.out).2) ?_
            clear hK K' hg2 hloc
            try simp only [Act.put, List.setIfInBounds_toArray, List.set_cons_zero, List.set_cons_succ]
            refine takeT (fun _ => True) (i := 10) (d := some 38) (.pointer (some ⟨w.heap.size + 1, 4, none⟩)) rfl (by kernel_rfl) (by decide) (by kernel_rfl) (by kernel_rfl) (by kernel_rfl) (fun _ _ _ _ h => h) ((HKK.out _ HFC.out).1) (fun _ => (HKK.out _ HFC.out).2) (.inl (fun _ _ => trivial)) (fun o ho => by cases ho; exact .inl ⟨by rfl, fun w hSw => by (go_simp)⟩) ?_
            simp only [Act.put, List.setIfInBounds_toArray, List.set_cons_zero, List.set_cons_succ]
            refine oneT (i := 8) (by kernel_rfl) (by decide) (fun o ho K' hK => ?_)
            cases ho
            rw [if_pos (by rfl)]
            go_simp
            have HFD : Hid (Fr (fun k => (Value.slice ra R.length rc).ownBlock = some k ∨ (Value.slice va R.length vc).ownBlock = some k) w9 (WC.alloc (.cells #[.int .i64 x.k, .int .i64 x.n, .float .f64 x.f, .string ⟨x.t.toArray⟩, .slice x.na x.nl x.nc, .slice x.ia x.il x.ic] 26))) := HFC.out.alloc _
            have HGV : Hid (Blk (WC.alloc (.cells #[.int .i64 x.k, .int .i64 x.n, .float .f64 x.f, .string ⟨x.t.toArray⟩, .slice x.na x.nl x.nc, .slice x.ia x.il x.ic] 26)) WC.heap.size 26 x.cs) := Blk.new _ _ _
            have HLV : Hid (w9.heap.size ≤ WC.heap.size) := HFC.out.size
            have HND : Hid ((WC.alloc (.cells #[.int .i64 x.k, .int .i64 x.n, .float .f64 x.f, .string ⟨x.t.toArray⟩, .slice x.na x.nl x.nc, .slice x.ia x.il x.ic] 26)).ownsRow _ _ _ _ _ _) := owns_of_eq HNC.out (fun k hk => Below.heap_alloc WC _ k (own_lt HNC.out k hk).2)
            have HVD : Hid ((WC.alloc (.cells #[.int .i64 x.k, .int .i64 x.n, .float .f64 x.f, .string ⟨x.t.toArray⟩, .slice x.na x.nl x.nc, .slice x.ia x.il x.ic] 26)).ownsRow _ _ _ _ _ _) := owns_of_eq HVC.out (fun k hk => Below.heap_alloc WC _ k (own_lt HVC.out k hk).2)
            have HZD : Hid (w.heap.size + 3 ≤ (WC.alloc (.cells #[.int .i64 x.k, .int .i64 x.n, .float .f64 x.f, .string ⟨x.t.toArray⟩, .slice x.na x.nl x.nc, .slice x.ia x.il x.ic] 26)).heap.size) := Nat.le_trans HZC.out (HFD.out.size |> fun _ => by rw [World.size_alloc]; exact Nat.le_succ _)
            have HYD : Hid (w9.heap.size ≤ (WC.alloc (.cells #[.int .i64 x.k, .int .i64 x.n, .float .f64 x.f, .string ⟨x.t.toArray⟩, .slice x.na x.nl x.nc, .slice x.ia x.il x.ic] 26)).heap.size) := HFD.out.size
            refine hK.out _ _ (HKK.out _ HFD.out).1 (fun _ _ => (HKK.out _ HFD.out).2) ?_
            clear hK K'
            try simp only [Act.put, List.setIfInBounds_toArray, List.set_cons_zero, List.set_cons_succ]
            generalize WC.alloc (.cells #[.int .i64 x.k, .int .i64 x.n, .float .f64 x.f, .string ⟨x.t.toArray⟩, .slice x.na x.nl x.nc, .slice x.ia x.il x.ic] 26) = WD at *
            refine oneT (i := 9) (by kernel_rfl) (by decide) (fun o ho K' hK => ?_)
            cases ho
            rw [if_pos (by rfl)]
            refine wp_app_valueL _ _ rfl (w.heap.size + 3) _ (vvU R) x _ _ (by rfl) (by rfl) HVD.out HGV.out HZD.out hRl2.2 ?_
            intro gV ic2 WE ho3 hg2 hloc
            have HlV : Hid ((Value.slice va R.length vc).ownBlock = some gV ∨ w9.heap.size ≤ gV) := hloc.imp id (fun h => Nat.le_trans HYD.out h)
            have HFE := hid (HFD.out.grown hg2 (fun k hk => .inl (.inr hk)))
            have HVE := hid ho3
            have HNE := hid (owns_of_eq HND.out (w' := WE) (fun k hk => hg2.block k (own_lt HND.out k hk).2 (fun e => own_apart HND.out HVD.out (by decide) k hk e.symm)))
            have HZE : Hid (w.heap.size + 3 ≤ WE.heap.size) := Nat.le_trans HZD.out hg2.size
            have HYE : Hid (w9.heap.size ≤ WE.heap.size) := Nat.le_trans HYD.out hg2.size
            refine hK.out _ _ (HKK.out _ HFE.out).1 (fun _ _ => (HKK.out _ HFE.out).2) ?_
            clear hK K' hg2 hloc
            try simp only [Act.put, List.setIfInBounds_toArray, List.set_cons_zero, List.set_cons_succ]
            have hb4 := HFE.out.blk (HF9.out.blk HK.out.bv (fun h => h)) (fun h => by rcases h with h | h; (· have := (own_lt HK.out.ns _ h).1; omega); (· have := (own_lt HK.out.vs _ h).1; omega))
            have hc4 := hb4.cell 4
            have hz4 := hb4.frozen 4
            have hb5 := hb4.setCell 4 (.slice (some ⟨gN, 0, none⟩) ((nmU R).length + 1) nc2)
            have hc5 := hb5.cell 5
            have hz5 := hb5.frozen 5
            have HP := hid (un_next (e := (nm, v, x)) HK.out HSA.out HFb9.out HHld.out HF9.out HFE.out HNE.out HVE.out HlN.out HlV.out)
            have HFs : Hid (Fr (fun k => ((Value.slice ra R.length rc).ownBlock = some k ∨ (Value.slice va R.length vc).ownBlock = some k) ∨ k = w.heap.size + 1) w9 (WE.setCell ⟨w.heap.size + 1, 4, none⟩ (.slice (some ⟨gN, 0, none⟩) ((nmU R).length + 1) nc2))) := (HFE.out.mono (fun k h => .inl h)).setCell (.inl (.inr rfl)) _
            have HFt : Hid (Fr (fun k => ((Value.slice ra R.length rc).ownBlock = some k ∨ (Value.slice va R.length vc).ownBlock = some k) ∨ k = w.heap.size + 1) w9 ((WE.setCell ⟨w.heap.size + 1, 4, none⟩ (.slice (some ⟨gN, 0, none⟩) ((nmU R).length + 1) nc2)).setCell ⟨w.heap.size + 1, 5, none⟩ (.slice (some ⟨gV, 0, none⟩) ((vvU R).length + 1) ic2))) := HFs.out.setCell (.inl (.inr rfl)) _
            clear hb4 hb5
            refine oneT (i := 11) (by kernel_rfl) (by decide) (fun o ho K' hK => ?_)
            cases ho
            rw [if_pos (by rfl)]
            go_simp
            refine hK.out _ _ (HKS.out _ HFs.out) (fun h => absurd rfl h) ?_
            clear hK K'
            try simp only [Act.put, List.setIfInBounds_toArray, List.set_cons_zero, List.set_cons_succ]
            refine takeT (fun _ => True) (i := 12) (d := some 39) (.pointer (some ⟨w.heap.size + 1, 5, none⟩)) rfl (by kernel_rfl) (by decide) (by kernel_rfl) (by kernel_rfl) (by kernel_rfl) (fun _ _ _ _ h => h) (HKS.out _ HFs.out) (fun h => absurd h (by decide +kernel)) (.inl (fun _ _ => trivial)) (fun o ho => by cases ho; exact .inl ⟨by rfl, fun w hSw => by (go_simp)⟩) ?_
            simp only [Act.put, List.setIfInBounds_toArray, List.set_cons_zero, List.set_cons_succ]
            refine oneT (i := 13) (by kernel_rfl) (by decide) (fun o ho K' hK => ?_)
            cases ho
            rw [if_pos (by rfl)]
            go_simp
            refine hK.out _ _ (HKS.out _ HFt.out) (fun _ h => absurd h (by decide +kernel)) ?_
            clear hK K'
            try simp only [Act.put, List.setIfInBounds_toArray, List.set_cons_zero, List.set_cons_succ]
            refine doneT (by kernel_rfl) (NoPanic.normal ?_)
            generalize (WE.setCell ⟨w.heap.size + 1, 4, none⟩ (.slice (some ⟨gN, 0, none⟩) ((nmU R).length + 1) nc2)).setCell ⟨w.heap.size + 1, 5, none⟩ (.slice (some ⟨gV, 0, none⟩) ((vvU R).length + 1) ic2) = W6 at *
            clear hc4 hz4 hc5 hz5 HFs HFt
            have HNn := nm_next HNm.out HLt.out v x
            have HPn := prt_next HPr.out (nm := nm) (x := x) HVr.out
            rw [← HNmE.out] at HNn
            have HNn' := hid HNn
            have HPn' := hid HPn
            clear HNn HPn
            go_wp2_with fail
            exact ⟨⟨R ++ [(nm, v, x)], _, _, _, _, by have := HLt.out; simp; omega, by first | rfl | simp, HNn'.out, HPn'.out, HP.out⟩, by have := HLt.out; simp [intOf]; omega⟩
          · skip
            cases ho
            rw [if_pos (by rfl)]
            go_simp
            have HFC : Hid (Fr (fun k => (Value.slice ra R.length rc).ownBlock = some k ∨ (Value.slice va R.length vc).ownBlock = some k) w9 (WB.alloc (.cells #[.int .i64 x.k, .int .i64 x.n, .float .f64 x.f, .string ⟨x.t.toArray⟩, .slice x.na x.nl x.nc, .slice x.ia x.il x.ic] 26))) := HFB.out.alloc _
            have HGV : Hid (Blk (WB.alloc (.cells #[.int .i64 x.k, .int .i64 x.n, .float .f64 x.f, .string ⟨x.t.toArray⟩, .slice x.na x.nl x.nc, .slice x.ia x.il x.ic] 26)) WB.heap.size 26 x.cs) := Blk.new _ _ _
            have HLV : Hid (w9.heap.size ≤ WB.heap.size) := HFB.out.size
            have HNC : Hid ((WB.alloc (.cells #[.int .i64 x.k, .int .i64 x.n, .float .f64 x.f, .string ⟨x.t.toArray⟩, .slice x.na x.nl x.nc, .slice x.ia x.il x.ic] 26)).ownsRow _ _ _ _ _ _) := owns_of_eq HNB.out (fun k hk => Below.heap_alloc WB _ k (own_lt HNB.out k hk).2)
            have HVC : Hid ((WB.alloc (.cells #[.int .i64 x.k, .int .i64 x.n, .float .f64 x.f, .string ⟨x.t.toArray⟩, .slice x.na x.nl x.nc, .slice x.ia x.il x.ic] 26)).ownsRow _ _ _ _ _ _) := owns_of_eq HVB.out (fun k hk => Below.heap_alloc WB _ k (own_lt HVB.out k hk).2)
            have HZC : Hid (w.heap.size + 3 ≤ (WB.alloc (.cells #[.int .i64 x.k, .int .i64 x.n, .float .f64 x.f, .string ⟨x.t.toArray⟩, .slice x.na x.nl x.nc, .slice x.ia x.il x.ic] 26)).heap.size) := Nat.le_trans HZB.out (HFC.out.size |> fun _ => by rw [World.size_alloc]; exact Nat.le_succ _)
            have HYC : Hid (w9.heap.size ≤ (WB.alloc (.cells #[.int .i64 x.k, .int .i64 x.n, .float .f64 x.f, .string ⟨x.t.toArray⟩, .slice x.na x.nl x.nc, .slice x.ia x.il x.ic] 26)).heap.size) := HFC.out.size
            have HGN' := hid (HGN.out.alloc (.cells #[.int .i64 x.k, .int .i64 x.n, .float .f64 x.f, .string ⟨x.t.toArray⟩, .slice x.na x.nl x.nc, .slice x.ia x.il x.ic] 26))
            refine hK.out _ _ (HKK.out _ HFC.out).1 (fun _ _ => (HKK.out _ HFC.out).2) ?_
            clear hK K'
            try simp only [Act.put, List.setIfInBounds_toArray, List.set_cons_zero, List.set_cons_succ]
            generalize WB.alloc (.cells #[.int .i64 x.k, .int .i64 x.n, .float .f64 x.f, .string ⟨x.t.toArray⟩, .slice x.na x.nl x.nc, .slice x.ia x.il x.ic] 26) = WC at *
            refine oneT (i := 4) (by kernel_rfl) (by decide) (fun o ho K' hK => ?_)
            cases ho
            rw [if_pos (by rfl)]
            refine wp_app_nameL _ _ rfl (w.heap.size + 3) _ (nmU R) nm _ _ (by rfl) (by rfl) HNC.out (HGN'.out.cell 0) HZC.out hRl2.1 ?_
            intro gN nc2 WD ho2 hg2 hloc
            have HlN : Hid ((Value.slice ra R.length rc).ownBlock = some gN ∨ w9.heap.size ≤ gN) := hloc.imp id (fun h => Nat.le_trans HYC.out h)
            have HFD := hid (HFC.out.grown hg2 (fun k hk => .inl (.inl hk)))
            have HND := hid ho2
            have HVD := hid (owns_of_eq HVC.out (w' := WD) (fun k hk => hg2.block k (own_lt HVC.out k hk).2 (fun e => HAp.out k e.symm hk)))
            have HGV2 := hid (HGV.out.of_eq (w' := WD) (hg2.block _ HGV.out.lt (fun e => by have h1 := (own_lt HN9.out _ e.symm).2; have h2 := HLV.out; omega)))
            have HZD : Hid (w.heap.size + 3 ≤ WD.heap.size) := Nat.le_trans HZC.out hg2.size
            have HYD : Hid (w9.heap.size ≤ WD.heap.size) := Nat.le_trans HYC.out hg2.size
            refine hK.out _ _ (HKK.out _ HFD.out).1 (fun _ _ => (HKK.out _ HFD.out).2) ?_
            clear hK K' hg2 hloc
            try simp only [Act.put, List.setIfInBounds_toArray, List.set_cons_zero, List.set_cons_succ]
            refine takeT (fun _ => True) (i := 10) (d := some 38) (.pointer (some ⟨w.heap.size + 1, 4, none⟩)) rfl (by kernel_rfl) (by decide) (by kernel_rfl) (by kernel_rfl) (by kernel_rfl) (fun _ _ _ _ h => h) ((HKK.out _ HFD.out).1) (fun _ => (HKK.out _ HFD.out).2) (.inl (fun _ _ => trivial)) (fun o ho => by cases ho; exact .inl ⟨by rfl, fun w hSw => by (go_simp)⟩) ?_
            simp only [Act.put, List.setIfInBounds_toArray, List.set_cons_zero, List.set_cons_succ]
            refine oneT (i := 9) (by kernel_rfl) (by decide) (fun o ho K' hK => ?_)
            cases ho
            rw [if_pos (by rfl)]
            refine wp_app_valueL _ _ rfl (w.heap.size + 3) _ (vvU R) x _ _ (by rfl) (by rfl) HVD.out HGV2.out HZD.out hRl2.2 ?_
            intro gV ic2 WE ho3 hg2 hloc
            have HlV : Hid ((Value.slice va R.length vc).ownBlock = some gV ∨ w9.heap.size ≤ gV) := hloc.imp id (fun h => Nat.le_trans HYD.out h)
            have HFE := hid (HFD.out.grown hg2 (fun k hk => .inl (.inr hk)))
            have HVE := hid ho3
            have HNE := hid (owns_of_eq HND.out (w' := WE) (fun k hk => hg2.block k (own_lt HND.out k hk).2 (fun e => own_apart HND.out HVD.out (by decide) k hk e.symm)))
            have HZE : Hid (w.heap.size + 3 ≤ WE.heap.size) := Nat.le_trans HZD.out hg2.size
            have HYE : Hid (w9.heap.size ≤ WE.heap.size) := Nat.le_trans HYD.out hg2.size
            refine hK.out _ _ (HKK.out _ HFE.out).1 (fun _ _ => (HKK.out _ HFE.out).2) ?_
            clear hK K' hg2 hloc
            try simp only [Act.put, List.setIfInBounds_toArray, List.set_cons_zero, List.set_cons_succ]
            have hb4 := HFE.out.blk (HF9.out.blk HK.out.bv (fun h => h)) (fun h => by rcases h with h | h; (· have := (own_lt HK.out.ns _ h).1; omega); (· have := (own_lt HK.out.vs _ h).1; omega))
            have hc4 := hb4.cell 4
            have hz4 := hb4.frozen 4
            have hb5 := hb4.setCell 4 (.slice (some ⟨gN, 0, none⟩) ((nmU R).length + 1) nc2)
            have hc5 := hb5.cell 5
            have hz5 := hb5.frozen 5
            have HP := hid (un_next (e := (nm, v, x)) HK.out HSA.out HFb9.out HHld.out HF9.out HFE.out HNE.out HVE.out HlN.out HlV.out)
            have HFs : Hid (Fr (fun k => ((Value.slice ra R.length rc).ownBlock = some k ∨ (Value.slice va R.length vc).ownBlock = some k) ∨ k = w.heap.size + 1) w9 (WE.setCell ⟨w.heap.size + 1, 4, none⟩ (.slice (some ⟨gN, 0, none⟩) ((nmU R).length + 1) nc2))) := (HFE.out.mono (fun k h => .inl h)).setCell (.inl (.inr rfl)) _
            have HFt : Hid (Fr (fun k => ((Value.slice ra R.length rc).ownBlock = some k ∨ (Value.slice va R.length vc).ownBlock = some k) ∨ k = w.heap.size + 1) w9 ((WE.setCell ⟨w.heap.size + 1, 4, none⟩ (.slice (some ⟨gN, 0, none⟩) ((nmU R).length + 1) nc2)).setCell ⟨w.heap.size + 1, 5, none⟩ (.slice (some ⟨gV, 0, none⟩) ((vvU R).length + 1) ic2))) := HFs.out.setCell (.inl (.inr rfl)) _
            clear hb4 hb5
            refine oneT (i := 11) (by kernel_rfl) (by decide) (fun o ho K' hK => ?_)
            cases ho
            rw [if_pos (by rfl)]
            go_simp
            refine hK.out _ _ (HKS.out _ HFs.out) (fun h => absurd rfl h) ?_
            clear hK K'
            try simp only [Act.put, List.setIfInBounds_toArray, List.set_cons_zero, List.set_cons_succ]
            refine takeT (fun _ => True) (i := 12) (d := some 39) (.pointer (some ⟨w.heap.size + 1, 5, none⟩)) rfl (by kernel_rfl) (by decide) (by kernel_rfl) (by kernel_rfl) (by kernel_rfl) (fun _ _ _ _ h => h) (HKS.out _ HFs.out) (fun h => absurd h (by decide +kernel)) (.inl (fun _ _ => trivial)) (fun o ho => by cases ho; exact .inl ⟨by rfl, fun w hSw => by (go_simp)⟩) ?_
            simp only [Act.put, List.setIfInBounds_toArray, List.set_cons_zero, List.set_cons_succ]
            refine oneT (i := 13) (by kernel_rfl) (by decide) (fun o ho K' hK => ?_)
            cases ho
            rw [if_pos (by rfl)]
            go_simp
            refine hK.out _ _ (HKS.out _ HFt.out) (fun _ h => absurd h (by decide +kernel)) ?_
            clear hK K'
            try simp only [Act.put, List.setIfInBounds_toArray, List.set_cons_zero, List.set_cons_succ]
            refine doneT (by kernel_rfl) (NoPanic.normal ?_)
            generalize (WE.setCell ⟨w.heap.size + 1, 4, none⟩ (.slice (some ⟨gN, 0, none⟩) ((nmU R).length + 1) nc2)).setCell ⟨w.heap.size + 1, 5, none⟩ (.slice (some ⟨gV, 0, none⟩) ((vvU R).length + 1) ic2) = W6 at *
            clear hc4 hz4 hc5 hz5 HFs HFt
            have HNn := nm_next HNm.out HLt.out v x
            have HPn := prt_next HPr.out (nm := nm) (x := x) HVr.out
            rw [← HNmE.out] at HNn
            have HNn' := hid HNn
            have HPn' := hid HPn
            clear HNn HPn
            go_wp2_with fail
            exact ⟨⟨R ++ [(nm, v, x)], _, _, _, _, by have := HLt.out; simp; omega, by first | rfl | simp, HNn'.out, HPn'.out, HP.out⟩, by have := HLt.out; simp [intOf]; omega⟩
        · skip
          cases ho
          rw [if_pos (by rfl)]
          go_simp
          have HFB : Hid (Fr (fun k => (Value.slice ra R.length rc).ownBlock = some k ∨ (Value.slice va R.length vc).ownBlock = some k) w9 (W0.alloc (.cells #[.int .i64 x.k, .int .i64 x.n, .float .f64 x.f, .string ⟨x.t.toArray⟩, .slice x.na x.nl x.nc, .slice x.ia x.il x.ic] 26))) := HFA.out.alloc _
          have HGV : Hid (Blk (W0.alloc (.cells #[.int .i64 x.k, .int .i64 x.n, .float .f64 x.f, .string ⟨x.t.toArray⟩, .slice x.na x.nl x.nc, .slice x.ia x.il x.ic] 26)) W0.heap.size 26 x.cs) := Blk.new _ _ _
          have HLV : Hid (w9.heap.size ≤ W0.heap.size) := HFA.out.size
          have HNB : Hid ((W0.alloc (.cells #[.int .i64 x.k, .int .i64 x.n, .float .f64 x.f, .string ⟨x.t.toArray⟩, .slice x.na x.nl x.nc, .slice x.ia x.il x.ic] 26)).ownsRow _ _ _ _ _ _) := owns_of_eq HNA.out (fun k hk => Below.heap_alloc W0 _ k (own_lt HNA.out k hk).2)
          have HVB : Hid ((W0.alloc (.cells #[.int .i64 x.k, .int .i64 x.n, .float .f64 x.f, .string ⟨x.t.toArray⟩, .slice x.na x.nl x.nc, .slice x.ia x.il x.ic] 26)).ownsRow _ _ _ _ _ _) := owns_of_eq HVA.out (fun k hk => Below.heap_alloc W0 _ k (own_lt HVA.out k hk).2)
          have HZB : Hid (w.heap.size + 3 ≤ (W0.alloc (.cells #[.int .i64 x.k, .int .i64 x.n, .float .f64 x.f, .string ⟨x.t.toArray⟩, .slice x.na x.nl x.nc, .slice x.ia x.il x.ic] 26)).heap.size) := Nat.le_trans HZA.out (HFB.out.size |> fun _ => by rw [World.size_alloc]; exact Nat.le_succ _)
          have HYB : Hid (w9.heap.size ≤ (W0.alloc (.cells #[.int .i64 x.k, .int .i64 x.n, .float .f64 x.f, .string ⟨x.t.toArray⟩, .slice x.na x.nl x.nc, .slice x.ia x.il x.ic] 26)).heap.size) := HFB.out.size
          refine hK.out _ _ (HKK.out _ HFB.out).1 (fun _ _ => (HKK.out _ HFB.out).2) ?_
          clear hK K'
          try simp only [Act.put, List.setIfInBounds_toArray, List.set_cons_zero, List.set_cons_succ]
          generalize W0.alloc (.cells #[.int .i64 x.k, .int .i64 x.n, .float .f64 x.f, .string ⟨x.t.toArray⟩, .slice x.na x.nl x.nc, .slice x.ia x.il x.ic] 26) = WB at *
          refine oneT (i := 3) (by kernel_rfl) (by decide) (fun o ho K' hK => ?_)
          cases ho
          rw [if_pos (by rfl)]
          go_simp
          have HFC : Hid (Fr (fun k => (Value.slice ra R.length rc).ownBlock = some k ∨ (Value.slice va R.length vc).ownBlock = some k) w9 (WB.alloc (.cells #[.string ⟨nm.toArray⟩] 9))) := HFB.out.alloc _
          have HGN : Hid (Blk (WB.alloc (.cells #[.string ⟨nm.toArray⟩] 9)) WB.heap.size 9 [.string ⟨nm.toArray⟩]) := Blk.new _ _ _
          have HLN : Hid (w9.heap.size ≤ WB.heap.size) := HFB.out.size
          have HNC : Hid ((WB.alloc (.cells #[.string ⟨nm.toArray⟩] 9)).ownsRow _ _ _ _ _ _) := owns_of_eq HNB.out (fun k hk => Below.heap_alloc WB _ k (own_lt HNB.out k hk).2)
          have HVC : Hid ((WB.alloc (.cells #[.string ⟨nm.toArray⟩] 9)).ownsRow _ _ _ _ _ _) := owns_of_eq HVB.out (fun k hk => Below.heap_alloc WB _ k (own_lt HVB.out k hk).2)
          have HZC : Hid (w.heap.size + 3 ≤ (WB.alloc (.cells #[.string ⟨nm.toArray⟩] 9)).heap.size) := Nat.le_trans HZB.out (HFC.out.size |> fun _ => by rw [World.size_alloc]; exact Nat.le_succ _)
          have HYC : Hid (w9.heap.size ≤ (WB.alloc (.cells #[.string ⟨nm.toArray⟩] 9)).heap.size) := HFC.out.size
          have HGV' := hid (HGV.out.alloc (.cells #[.string ⟨nm.toArray⟩] 9))
          refine hK.out _ _ (HKK.out _ HFC.out).1 (fun _ _ => (HKK.out _ HFC.out).2) ?_
          clear hK K'
          try simp only [Act.put, List.setIfInBounds_toArray, List.set_cons_zero, List.set_cons_succ]
          generalize WB.alloc (.cells #[.string ⟨nm.toArray⟩] 9) = WC at *
          refine oneT (i := 4) (by kernel_rfl) (by decide) (fun o ho K' hK => ?_)
          cases ho
          rw [if_pos (by rfl)]
          refine wp_app_nameL _ _ rfl (w.heap.size + 3) _ (nmU R) nm _ _ (by rfl) (by rfl) HNC.out (HGN.out.cell 0) HZC.out hRl2.1 ?_
          intro gN nc2 WD ho2 hg2 hloc
          have HlN : Hid ((Value.slice ra R.length rc).ownBlock = some gN ∨ w9.heap.size ≤ gN) := hloc.imp id (fun h => Nat.le_trans HYC.out h)
          have HFD := hid (HFC.out.grown hg2 (fun k hk => .inl (.inl hk)))
          have HND := hid ho2
          have HVD := hid (owns_of_eq HVC.out (w' := WD) (fun k hk => hg2.block k (own_lt HVC.out k hk).2 (fun e => HAp.out k e.symm hk)))
          have HGV'2 := hid (HGV'.out.of_eq (w' := WD) (hg2.block _ HGV'.out.lt (fun e => by have h1 := (own_lt HN9.out _ e.symm).2; have h2 := HLV.out; omega)))
          have HZD : Hid (w.heap.size + 3 ≤ WD.heap.size) := Nat.le_trans HZC.out hg2.size
          have HYD : Hid (w9.heap.size ≤ WD.heap.size) := Nat.le_trans HYC.out hg2.size
          refine hK.out _ _ (HKK.out _ HFD.out).1 (fun _ _ => (HKK.out _ HFD.out).2) ?_
          clear hK K' hg2 hloc
          try simp only [Act.put, List.setIfInBounds_toArray, List.set_cons_zero, List.set_cons_succ]
          refine takeT (fun _ => True) (i := 10) (d := some 38) (.pointer (some ⟨w.heap.size + 1, 4, none⟩)) rfl (by kernel_rfl) (by decide) (by kernel_rfl) (by kernel_rfl) (by kernel_rfl) (fun _ _ _ _ h => h) ((HKK.out _ HFD.out).1) (fun _ => (HKK.out _ HFD.out).2) (.inl (fun _ _ => trivial)) (fun o ho => by cases ho; exact .inl ⟨by rfl, fun w hSw => by (go_simp)⟩) ?_
          simp only [Act.put, List.setIfInBounds_toArray, List.set_cons_zero, List.set_cons_succ]
          refine oneT (i := 9) (by kernel_rfl) (by decide) (fun o ho K' hK => ?_)
          cases ho
          rw [if_pos (by rfl)]
          refine wp_app_valueL _ _ rfl (w.heap.size + 3) _ (vvU R) x _ _ (by rfl) (by rfl) HVD.out HGV'2.out HZD.out hRl2.2 ?_
          intro gV ic2 WE ho3 hg2 hloc
          have HlV : Hid ((Value.slice va R.length vc).ownBlock = some gV ∨ w9.heap.size ≤ gV) := hloc.imp id (fun h => Nat.le_trans HYD.out h)
          have HFE := hid (HFD.out.grown hg2 (fun k hk => .inl (.inr hk)))
          have HVE := hid ho3
          have HNE := hid (owns_of_eq HND.out (w' := WE) (fun k hk => hg2.block k (own_lt HND.out k hk).2 (fun e => own_apart HND.out HVD.out (by decide) k hk e.symm)))
          have HZE : Hid (w.heap.size + 3 ≤ WE.heap.size) := Nat.le_trans HZD.out hg2.size
          have HYE : Hid (w9.heap.size ≤ WE.heap.size) := Nat.le_trans HYD.out hg2.size
          refine hK.out _ _ (HKK.out _ HFE.out).1 (fun _ _ => (HKK.out _ HFE.out).2) ?_
          clear hK K' hg2 hloc
          try simp only [Act.put, List.setIfInBounds_toArray, List.set_cons_zero, List.set_cons_succ]
          have hb4 := HFE.out.blk (HF9.out.blk HK.out.bv (fun h => h)) (fun h => by rcases h with h | h; (· have := (own_lt HK.out.ns _ h).1; omega); (· have := (own_lt HK.out.vs _ h).1; omega))
          have hc4 := hb4.cell 4
          have hz4 := hb4.frozen 4
          have hb5 := hb4.setCell 4 (.slice (some ⟨gN, 0, none⟩) ((nmU R).length + 1) nc2)
          have hc5 := hb5.cell 5
          have hz5 := hb5.frozen 5
          have HP := hid (un_next (e := (nm, v, x)) HK.out HSA.out HFb9.out HHld.out HF9.out HFE.out HNE.out HVE.out HlN.out HlV.out)
          have HFs : Hid (Fr (fun k => ((Value.slice ra R.length rc).ownBlock = some k ∨ (Value.slice va R.length vc).ownBlock = some k) ∨ k = w.heap.size + 1) w9 (WE.setCell ⟨w.heap.size + 1, 4, none⟩ (.slice (some ⟨gN, 0, none⟩) ((nmU R).length + 1) nc2))) := (HFE.out.mono (fun k h => .inl h)).setCell (.inl (.inr rfl)) _
          have HFt : Hid (Fr (fun k => ((Value.slice ra R.length rc).ownBlock = some k ∨ (Value.slice va R.length vc).ownBlock = some k) ∨ k = w.heap.size + 1) w9 ((WE.setCell ⟨w.heap.size + 1, 4, none⟩ (.slice (some ⟨gN, 0, none⟩) ((nmU R).length + 1) nc2)).setCell ⟨w.heap.size + 1, 5, none⟩ (.slice (some ⟨gV, 0, none⟩) ((vvU R).length + 1) ic2))) := HFs.out.setCell (.inl (.inr rfl)) _
          clear hb4 hb5
          refine oneT (i := 11) (by kernel_rfl) (by decide) (fun o ho K' hK => ?_)
          cases ho
          rw [if_pos (by rfl)]
          go_simp
          refine hK.out _ _ (HKS.out _ HFs.out) (fun h => absurd rfl h) ?_
          clear hK K'
          try simp only [Act.put, List.setIfInBounds_toArray, List.set_cons_zero, List.set_cons_succ]
          refine takeT (fun _ => True) (i := 12) (d := some 39) (.pointer (some ⟨w.heap.size + 1, 5, none⟩)) rfl (by kernel_rfl) (by decide) (by kernel_rfl) (by kernel_rfl) (by kernel_rfl) (fun _ _ _ _ h => h) (HKS.out _ HFs.out) (fun h => absurd h (by decide +kernel)) (.inl (fun _ _ => trivial)) (fun o ho => by cases ho; exact .inl ⟨by rfl, fun w hSw => by (go_simp)⟩) ?_
          simp only [Act.put, List.setIfInBounds_toArray, List.set_cons_zero, List.set_cons_succ]
          refine oneT (i := 13) (by kernel_rfl) (by decide) (fun o ho K' hK => ?_)
          cases ho
          rw [if_pos (by rfl)]
          go_simp
          refine hK.out _ _ (HKS.out _ HFt.out) (fun _ h => absurd h (by decide +kernel)) ?_
          clear hK K'
          try simp only [Act.put, List.setIfInBounds_toArray, List.set_cons_zero, List.set_cons_succ]
          refine doneT (by kernel_rfl) (NoPanic.normal ?_)
          generalize (WE.setCell ⟨w.heap.size + 1, 4, none⟩ (.slice (some ⟨gN, 0, none⟩) ((nmU R).length + 1) nc2)).setCell ⟨w.heap.size + 1, 5, none⟩ (.slice (some ⟨gV, 0, none⟩) ((vvU R).length + 1) ic2) = W6 at *
          clear hc4 hz4 hc5 hz5 HFs HFt
          have HNn := nm_next HNm.out HLt.out v x
          have HPn := prt_next HPr.out (nm := nm) (x := x) HVr.out
          rw [← HNmE.out] at HNn
          have HNn' := hid HNn
          have HPn' := hid HPn
          clear HNn HPn
          go_wp2_with fail
          exact ⟨⟨R ++ [(nm, v, x)], _, _, _, _, by have := HLt.out; simp; omega, by first | rfl | simp, HNn'.out, HPn'.out, HP.out⟩, by have := HLt.out; simp [intOf]; omega⟩
    · have q1 : decide ((R.length : Int) < 3) = false := decide_eq_false (by omega)
      have hR : R.length = 3 := by omega
      obtain ⟨g0, g1, g2, g3, g4, g5⟩ := HK.out.bv.six
      have HE := hid (mun_ok hR HPr.out)
      have HR := hid hR
      clear hR hR3 hlim
      go_wp2_with (refine wpList_storeV ⟨6, 0, 0, [], ra, R.length, rc, va, R.length, vc⟩ (by rfl) _ _ (by rfl) HK.out.bz (by rfl) (by rfl) ?_; intro w5 b5 f5)
      have HF5 : Hid (Fr (fun _ => False) w w5) := HK.out.fr.trans f5 (fun j hj => .inr (by omega))
      have HB5 := hid b5
      have HN5 := hid (own_down (B' := w.heap.size) (own_keep HK.out.ns (by omega) f5) (by omega))
      have HV5 := hid (own_down (B' := w.heap.size) (own_keep HK.out.vs (by omega) f5) (by omega))
      have HFr5 := hid f5
      clear b5 f5
      go_wp2_with fail
      refine bodyPost_ret (resVE rfl rfl HB5.out) rfl ⟨HF5.out, .inr ⟨_, ⟨6, 0, 0, [], ra, R.length, rc, va, R.length, vc⟩, HE.out, rfl, fun w'' e0 hk => ?_⟩⟩
      have hnm := HNm.out
      have hlen := HR.out
      have hN5 := HN5.out
      have hV5 := HV5.out
      have hcN : (nmU R).length ≤ rc := by have := hN5; rw [nmU_len] at this ⊢; exact own_cap this
      have hcV : (vvU R).length ≤ vc := by have := hV5; rw [vvU_len] at this ⊢; exact own_cap this
      rw [nmU_len] at hcN
      rw [vvU_len] at hcV
      have hS := strs_held hN5 hk
      rw [hnm, hlen] at hS
      have hIn : IIn w'' (R.map (·.2.1)) va := iin_held (R.map (·.2.1)) hV5 (by simp [vvU]) hk (fun i h h' => by
        have hi : i < R.length := by simpa using h
        have e1 : (R.map (·.2.1))[i] = R[i].2.1 := by simp
        have e2 : (vvU R)[i] = R[i].2.2 := by simp [vvU]
        rw [e1, e2]
        refine HK.out.hd R[i] (List.getElem_mem hi) w'' e0 (fun k k1 k2 _ _ => ?_)
        rw [hk k (by omega) (Nat.lt_of_lt_of_le k2 HFr5.out.size)]
        exact HFr5.out.block k k2 (by omega))
      rw [VIn]
      refine ⟨⟨rfl, rfl, rfl, rfl⟩, ⟨by unfold I64; omega, by unfold I64; omega, by simp [lim], by simp [lim]⟩, ⟨hlen, by rw [hlen] at hcN; simpa using hcN, by simp [lim], hS⟩, ⟨by simp, by simpa using hcV, by simp [lim]; omega⟩, hIn⟩

end Go.Proofs.YtniailfcmlongaaGreatDoor.Tr
