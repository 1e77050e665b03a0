import Derived.Test.YtniailfcmlongaaGreatDoorTonM
import Derived.Test.YtniailfcmlongaaGreatDoorTmhM
import Derived.Test.YtniailfcmlongaaGreatDoorVtrM
/- Values that hang on old memory and on what a call has made; the contract of mergePart. -/
namespace Go.Proofs.YtniailfcmlongaaGreatDoor.Tr
open Go.RowKit Go.Maps

/-- The fields x are the value v, whatever becomes of what is not in w0 and was not made between w and w'. -/
def Hld (w0 w w' : World) (v : Vt) (x : Vv) : Prop := ∀ w'', Env w0 w'' → (∀ k, w.heap.size ≤ k → k < w'.heap.size → w''.heap[k]? = w'.heap[k]?) → VIn w'' v x
/-- What merging leaves: a value that hangs on such memory alone, or an error. -/
def HPost (w0 w : World) (r : Vt ⊕ Int) (e : Ending) (w' : World) : Prop :=
  Fr (fun _ => False) w w' ∧ ((∃ n, r = .inr n ∧ e = .returned (.tuple #[vZ.v, .int .i64 n])) ∨ ∃ v x, r = .inl v ∧ e = .returned (.tuple #[x.v, .int .i64 0]) ∧ Hld w0 w w' v x)
theorem HPost.m {w0 w w' : World} {r : Vt ⊕ Int} {e : Ending} (e0 : Env w0 w) (h : HPost w0 w r e w') : MPost w r e w' := by
  refine ⟨h.1, h.2.imp id ?_⟩
  rintro ⟨v, x, h1, h2, h3⟩
  exact ⟨v, x, h1, h2, h3 w' (e0.trans (Env.of h.1)) (fun _ _ _ => rfl)⟩
theorem MPost.h {w0 w w' : World} {r : Vt ⊕ Int} {e : Ending} (hf : Flat r) (h : MPost w r e w') : HPost w0 w r e w' := by
  refine ⟨h.1, h.2.imp id ?_⟩
  rintro ⟨v, x, h1, h2, h3⟩
  exact ⟨v, x, h1, h2, fun w'' _ _ => vin_any h3 (hf v h1)⟩
/-- A row that was made holds its values, if each of them is held. -/
theorem iin_held {w w' w'' : World} {n cap : Nat} {ad : Option Addr} {X : List Vv} (l : List Vt) (h : w'.ownsRow w.heap.size 26 6 (.slice ad n cap) X.length (flatV X)) (hl : X.length = l.length) (hk : ∀ k, w.heap.size ≤ k → k < w'.heap.size → w''.heap[k]? = w'.heap[k]?) (hv : ∀ i (h : i < l.length) (h' : i < X.length), VIn w'' l[i] X[i]) : IIn w'' l ad := by
  rcases Nat.eq_zero_or_pos X.length with h0 | hpos
  · have : l = [] := List.eq_nil_of_length_eq_zero (by omega)
    subst this
    rw [IIn]; trivial
  · obtain ⟨g, c, cur, h1, h2, h3, h4, h5, h6⟩ := own_row h hpos
    have hgl := (own_lt h g (by rw [h1]; rfl)).2
    simp only [Value.slice.injEq] at h1
    rw [h1.1]
    refine IIn_mk l X hl (fun q u hq => ?_) hv
    rw [cell_of_row w'' g (0 + q) _ _ (0, 0) ((hk g h2 hgl).trans h4), Nat.zero_add]
    rw [← h6, List.getElem?_take] at hq
    split at hq
    · simpa using hq
    · cases hq
/-- A list, if it is not too long. -/
def bndV (U : List Vt) : Vt ⊕ Int := if 256 < U.length then .inr 20 else .inl (.mk 5 0 0 [] [] U)

theorem vin_list {w : World} {U : List Vt} {ia : Option Addr} {ic : Nat} (hI : IIn w U ia) (h256 : U.length ≤ 256) (hc : U.length ≤ ic) : VIn w (.mk 5 0 0 [] [] U) ⟨5, 0, 0, [], none, 0, 0, ia, U.length, ic⟩ := by
  rw [VIn]
  exact ⟨⟨rfl, rfl, rfl, rfl⟩, ⟨by unfold I64; omega, by unfold I64; omega, by simp [lim], by simp⟩, ⟨rfl, by simp, by simp [lim], fun h => absurd rfl h⟩, ⟨rfl, hc, by unfold lim; omega⟩, hI⟩
theorem own_cap {B : Nat} {w : World} {e : TypeId} {s : Nat} {a : Option Addr} {n c : Nat} {xs : List Value} (h : w.ownsRow B e s (.slice a n c) n xs) : n ≤ c := by
  rcases h.2 with ⟨h0, h1⟩ | ⟨g, cap, cur, hv, _, _, hn, _⟩
  · omega
  · simp only [Value.slice.injEq] at hv
    omega
theorem onL_len (ts : List (List UInt8)) : (onL ts).length ≤ ts.length := by
  have : ∀ (ts acc : List (List UInt8)), (ts.foldl onS acc).length ≤ acc.length + ts.length := by
    intro ts
    induction ts with
    | nil => intro acc; simp
    | cons t r ih =>
      intro acc
      rw [List.foldl_cons, List.length_cons]
      have h1 := ih (onS acc t)
      have h2 : (onS acc t).length ≤ acc.length + 1 := by unfold onS; split <;> simp
      omega
  have := this ts []
  unfold onL; simpa using this

set_option maxRecDepth 100000 in
set_option maxHeartbeats 4000000 in
theorem mergePart_list (w0 w : World) (nm : List UInt8) (hnm : nm = sAfter ∨ nm = sRequires) (S : List Vt) (ad : Option Addr) (cap : Nat) (hI : IIn w S ad) (hlim : S.length ≤ 1000) (h256 : ∀ u ∈ S, u.its.length ≤ 256) (hts : ∀ u ∈ S, ∀ z ∈ u.its, z.t.length ≤ 1024) :
    Calls Tryz.prog 80 #[.string ⟨nm.toArray⟩, .slice ad S.length cap] w fun e w' => HPost w0 w (bndV (oncV (allU S))) e w' := by
  have HC := hid (allItems_any w (vBox w vZ) (Env.alloc w _) S ad cap hI hlim h256)
  have HF0 := hid (vFr w vZ)
  have HB0 := hid (vBlk w vZ)
  have HL := hid (allU_len S h256)
  have HTx : Hid (∀ u ∈ allU S, u.t.length ≤ 1024) := fun u hu => by
    unfold allU at hu
    obtain ⟨a, h1, h2⟩ := List.mem_flatMap.1 hu
    exact hts a h1 u h2
  clear hI h256 hts
  generalize hU : allU S = U at *
  clear hU
  rcases hnm with rfl | rfl
  all_goals
    go_enter Tryz.func80, Tryz.ntmps80
    go_wp2_with fail
    refine HC.out.mono ?_
    rintro e w1 ⟨⟨X, v, rfl, hO, hR⟩, f1⟩
    obtain ⟨ia, ic, rfl⟩ := own_len hO
    have HF1 := hid (HF0.out.trans f1 (fun _ h => h.elim))
    have HB1 := hid (f1.blk HB0.out (fun h => h))
    have hXl : X.length = U.length := hR.1
    have HI1 : Hid (IIn w1 U ia) := iin_own U hO hXl (fun i h h' => VIn.env (Env.of HF1.out) _ _ (hR.2 i h h'))
    have hC2 := once_any w1 w1 (Env.refl w1) U ia ic HI1.out (by have := HL.out; omega) HTx.out
    rw [← hXl] at hC2
    have HC2 := hid hC2
    have HXl := hid hXl
    have HUl : Hid (U.length ≤ 256000) := by have := HL.out; unfold Hid; omega
    clear f1 hO hR HC hC2 HL hXl
    go_wp2_with fail
    refine HC2.out.mono ?_
    rintro e w2 ⟨⟨X2, v2, rfl, hO2, hR2⟩, f2⟩
    obtain ⟨ia2, ic2, rfl⟩ := own_len hO2
    have HF2 := hid (HF1.out.trans f2 (fun _ h => h.elim))
    have HB2 := hid (f2.blk HB1.out (fun h => h))
    have hOb := own_down hO2 (show w.heap.size + 1 ≤ w1.heap.size by have := HB1.out.lt; omega)
    have HO2 := hid hOb
    have hX2 : X2.length = (oncV U).length := hR2.1
    have hol : (oncV U).length ≤ 256000 := by
      have h1 := onL_len (U.map (·.t))
      have h2 := HUl.out
      simp only [oncV, List.length_map] at h1 ⊢
      omega
    have HR2 : Hid (∀ w'' i (h : i < (oncV U).length) (h' : i < X2.length), VIn w'' (oncV U)[i] X2[i]) := fun w'' i h h' => vin_any (hR2.2 i h h') (by
      have : (oncV U)[i] ∈ (onL (U.map (·.t))).map txV := List.getElem_mem h
      obtain ⟨t, _, e⟩ := List.mem_map.1 this
      rw [← e]; exact ⟨rfl, rfl⟩)
    have HC3 := hid (boundedList_any w2 ia2 X2.length ic2 (by omega))
    have HX2 := hid hX2
    have HOb := hid hOb
    clear f2 hO2 hR2 HC2 HF1 HB1 hX2 hol hOb
    go_wp2_with fail
    refine HC3.out.mono ?_
    rintro e w3 ⟨f3, ⟨h256, rfl⟩ | ⟨h256, rfl⟩⟩
    · have HF3 := hid (HF2.out.trans f3 (fun _ h => h.elim))
      have HB3 := hid (f3.blk HB2.out (fun h => h))
      have HH : Hid (bndV (oncV U) = .inr 20) := by unfold Hid bndV; rw [if_pos (by rw [← HX2.out]; exact h256)]
      clear f3 h256
      go_wp2_with (refine wpList_storeV vZ (by rfl) _ _ (by rfl) HB3.out (by rfl) (by rfl) ?_; intro w5 b5 f5)
      have HF5 : Hid (Fr (fun _ => False) w w5) := HF3.out.trans f5 (fun j hj => .inr (by omega))
      have HB5 := hid b5
      clear b5 f5
      go_wp2_with fail
      exact bodyPost_ret (resVE rfl rfl HB5.out) rfl ⟨HF5.out, .inl ⟨20, HH.out, rfl⟩⟩
    · have HF3 := hid (HF2.out.trans f3 (fun _ h => h.elim))
      have HB3 := hid (f3.blk HB2.out (fun h => h))
      have HH : Hid (bndV (oncV U) = .inl (.mk 5 0 0 [] [] (oncV U)) ∧ (oncV U).length ≤ 256) := by unfold Hid bndV; rw [if_neg (by rw [← HX2.out]; omega)]; exact ⟨rfl, by rw [← HX2.out]; exact h256⟩
      have HO3 := hid (own_fr HO2.out f3 (fun _ _ h => h))
      clear f3 h256
      go_wp2_with (refine wpList_storeV ⟨5, 0, 0, [], none, 0, 0, ia2, X2.length, ic2⟩ (by rfl) _ _ (by rfl) HB3.out (by rfl) (by rfl) ?_; intro w5 b5 f5)
      have HF5 : Hid (Fr (fun _ => False) w w5) := HF3.out.trans f5 (fun j hj => .inr (by omega))
      have HO5 : Hid (w5.ownsRow w.heap.size 26 6 (.slice ia2 X2.length ic2) X2.length (flatV X2)) := by
        exact own_down (own_fr HO3.out f5 (fun k hk e => by have := (own_lt HOb.out k hk).1; omega)) (by omega)
      have HB5 := hid b5
      clear b5 f5
      go_wp2_with fail
      refine bodyPost_ret (resVE rfl rfl HB5.out) rfl ⟨HF5.out, .inr ⟨_, ⟨5, 0, 0, [], none, 0, 0, ia2, X2.length, ic2⟩, HH.out.1, rfl, fun w'' _ hk => ?_⟩⟩
      have hc := own_cap HO5.out
      rw [HX2.out] at hc
      rw [HX2.out]
      exact vin_list (iin_held (oncV U) HO5.out HX2.out hk (HR2.out w'')) HH.out.2 hc

end Go.Proofs.YtniailfcmlongaaGreatDoor.Tr
/- The contract of mergePart of 'start'. -/
namespace Go.Proofs.YtniailfcmlongaaGreatDoor.Tr
open Go.RowKit Go.Maps

/-- What a unit's start is. -/
def mst (S : List Vt) : Vt ⊕ Int := if S = [] then .inl (txV []) else meq S
theorem mst_flat {S : List Vt} (h : ∀ u ∈ S, u.ns = [] ∧ u.its = []) : Flat (mst S) := by
  intro v hv
  unfold mst at hv
  split at hv
  · injection hv with hv; subst hv; exact ⟨rfl, rfl⟩
  · cases S with
    | nil => contradiction
    | cons a r =>
      have e : meq (a :: r) = if r.all (fun u => (eqV a u).1) = true then .inl a else .inr 27 := rfl
      rw [e] at hv
      split at hv
      · injection hv with hv; subst hv; exact h _ List.mem_cons_self
      · cases hv

set_option maxRecDepth 100000 in
set_option maxHeartbeats 4000000 in
theorem mergePart_start (w0 w : World) (S : List Vt) (ad : Option Addr) (cap : Nat) (hI : IIn w S ad) (hcap : S.length ≤ cap) (hlim : S.length ≤ 1000) (hR : ∀ u ∈ S, rtB u 32 = true) (hf : ∀ u ∈ S, u.ns = [] ∧ u.its = []) :
    Calls Tryz.prog 80 #[.string ⟨(sStart : List UInt8).toArray⟩, .slice ad S.length cap] w fun e w' => HPost w0 w (mst S) e w' := by
  have HF0 := hid (vFr w vZ)
  have HB0 := hid (vBlk w vZ)
  have HFl := hid (mst_flat hf)
  cases S with
  | nil =>
    clear hI hcap hlim hR hf
    have HT := hid (textOf_any (vBox w vZ) [])
    go_enter Tryz.func80, Tryz.ntmps80
    go_wp2_with fail
    refine HT.out.mono ?_
    rintro e w1 ⟨rfl, f1⟩
    have HF1 := hid (HF0.out.trans f1 (fun _ h => h.elim))
    have HB1 := hid (f1.blk HB0.out (fun h => h))
    clear f1 HT
    go_wp2_with (refine wpList_storeV (vS []) (by rfl) _ _ (by rfl) HB1.out (by rfl) (by rfl) ?_; intro w5 b5 f5)
    have HF5 : Hid (Fr (fun _ => False) w w5) := HF1.out.trans f5 (fun j hj => .inr (by omega))
    have HB5 := hid b5
    clear b5 f5
    go_wp2_with fail
    exact bodyPost_ret (resVE rfl rfl HB5.out) rfl ⟨HF5.out, .inr ⟨txV [], vS [], rfl, rfl, fun w'' _ _ => vin_text w'' [] (by simp)⟩⟩
  | cons a r =>
    have HC := hid (mergeEqual_any (vBox w vZ) a r ad cap (IIn.env (Env.alloc w _) _ _ hI) (by simpa using hcap) (by simp at hlim; omega) hR (hf a List.mem_cons_self).1 (hf a List.mem_cons_self).2)
    have HM : Hid (mst (a :: r) = meq (a :: r)) := by unfold Hid mst; rw [if_neg (by simp)]
    have q0 : (((a :: r).length : Int) == 0) = false := by rw [beq_eq_false_iff_ne]; simp; omega
    have hlr : (a :: r).length = r.length + 1 := rfl
    rw [hlr] at q0 ⊢
    clear hI hcap hlim hR hf hlr
    rw [HM.out] at HFl ⊢
    generalize meq (a :: r) = R at *
    generalize r.length + 1 = n at *
    clear HM
    go_enter Tryz.func80, Tryz.ntmps80
    go_wp2_with fail
    refine HC.out.mono ?_
    rintro e w1 ⟨f1, ⟨nn, hr, rfl⟩ | ⟨v, x, hr, rfl, hv⟩⟩
    · have HF1 := hid (HF0.out.trans f1 (fun _ h => h.elim))
      have HB1 := hid (f1.blk HB0.out (fun h => h))
      have HRr := hid hr
      clear f1 hr HC
      go_wp2_with (refine wpList_storeV vZ (by rfl) _ _ (by rfl) HB1.out (by rfl) (by rfl) ?_; intro w5 b5 f5)
      have HF5 : Hid (Fr (fun _ => False) w w5) := HF1.out.trans f5 (fun j hj => .inr (by omega))
      have HB5 := hid b5
      clear b5 f5
      go_wp2_with fail
      exact bodyPost_ret (resVE rfl rfl HB5.out) rfl ⟨HF5.out, .inl ⟨nn, HRr.out, rfl⟩⟩
    · have HF1 := hid (HF0.out.trans f1 (fun _ h => h.elim))
      have HB1 := hid (f1.blk HB0.out (fun h => h))
      have HRr := hid hr
      have HV := hid (fun w'' => vin_any (W := w'') hv (HFl.out v hr))
      clear f1 hr HC hv
      obtain ⟨k, n', f, t, na, nl, nc, ia, il, ic⟩ := x
      go_wp2_with (refine wpList_storeV ⟨k, n', f, t, na, nl, nc, ia, il, ic⟩ (by rfl) _ _ (by rfl) HB1.out (by rfl) (by rfl) ?_; intro w5 b5 f5)
      have HF5 : Hid (Fr (fun _ => False) w w5) := HF1.out.trans f5 (fun j hj => .inr (by omega))
      have HB5 := hid b5
      clear b5 f5
      go_wp2_with fail
      exact bodyPost_ret (resVE rfl rfl HB5.out) rfl ⟨HF5.out, .inr ⟨v, _, HRr.out, rfl, fun w'' _ _ => HV.out w''⟩⟩

end Go.Proofs.YtniailfcmlongaaGreatDoor.Tr
/- A drawn region by hand, in which a cell is read and then stored into: what is known of the world may end with one operation, the pivot, that waits for the readers. Nothing here speaks of the Go text. -/
namespace Go.Proofs.YtniailfcmlongaaGreatDoor.Tr
open Go.RowKit

section
variable {P : Program} {ops : Array Oper} {Q : Exit → Act → World → Prop} {md : Region.Mode} {S T : World → Prop} {p : Nat}
/-- Whatever comes up: S holds behind every operation, T behind each that comes ahead of the pivot p. -/
def wpTill (P : Program) (md : Region.Mode) (ops : Array Oper) (Q : Exit → Act → World → Prop) (S T : World → Prop) (p : Nat) : Nat → Array Bool → Act → World → Prop
  | 0, L, a, w => Region.ready md ops L = [] ∧ Q .normal a w
  | n + 1, L, a, w => (Region.ready md ops L = [] → Q .normal a w) ∧
    ∀ i, i ∈ Region.ready md ops L → wpOp P ops Q i (fun a' w' => (S w' ∧ (i ≠ p → L.getD p true = false → T w')) ∧ wpTill P md ops Q S T p n (L.setIfInBounds i true) a' w') a w
theorem any_of_till (n : Nat) : ∀ (L : Array Bool) (a : Act) (w : World), wpTill P md ops Q S T p n L a w → wpAny P md ops Q n L a w := by
  induction n with
  | zero => exact fun _ _ _ h => h
  | succ n ih => exact fun L a w h => ⟨h.1, fun i hi => wpOp_mono (fun a' w' h' => ih _ a' w' h'.2) (h.2 i hi)⟩
/-- Does the pivot wait for operation i? -/
def waits (md : Region.Mode) (ops : Array Oper) (p i : Nat) : Bool := match ops[p]? with
  | some o => o.after.any fun e => Region.binds md e && e.on == i
  | none => false
/-- When an operation that gives a value in every world that meets U may be taken first. -/
def Sure (md : Region.Mode) (ops : Array Oper) (S T U : World → Prop) (p i : Nat) (L : Array Bool) : Prop := (∀ w, S w → U w) ∨ ((∀ w, S w → T w → U w) ∧ waits md ops p i = true ∧ L.getD p true = false)
theorem Sure.at {U : World → Prop} {i : Nat} {L : Array Bool} {w : World} (h : Sure md ops S T U p i L) (hS : S w) (hT : L.getD p true = false → T w) : U w := by
  rcases h with h | ⟨h, _, hp⟩
  · exact h w hS
  · exact h w hS (hT hp)
theorem Sure.next {U : World → Prop} {i j : Nat} {L : Array Bool} (h : Sure md ops S T U p i L) (hi : L.getD i true = false) (hj : j ∈ Region.ready md ops L) (hsz : i < L.size) : Sure md ops S T U p i (L.setIfInBounds j true) := by
  rcases h with h | ⟨h, hw, hp⟩
  · exact .inl h
  · refine .inr ⟨h, hw, ?_⟩
    have hjp : j ≠ p := fun e => by
      subst e
      obtain ⟨_, o, ho, hall⟩ := mem_ready.1 hj
      unfold waits at hw
      rw [ho] at hw
      simp only [Array.any_eq_true', Bool.and_eq_true, beq_iff_eq] at hw
      obtain ⟨e, he, hb, hon⟩ := hw
      have := hall e he hb
      rw [hon] at this
      simp [hsz] at this hi
      rw [hi] at this; cases this
    rw [getD_set_ne true hjp]
    exact hp
theorem till_first {U : World → Prop} {i : Nat} {oi : Oper} {v : Value} (hi : ops[i]? = some oi) (hs : Region.noSelect ops = true) (hip : i ≠ p) (hQ : ∀ c a w, Q (.panic c) (a.put oi.dst v) w → Q (.panic c) a w) (n : Nat) :
    ∀ (L : Array Bool) (a : Act) (w : World), i < L.size → (∀ j oj, ops[j]? = some oj → j ≠ i → L.getD j true = false → (∀ e ∈ oj.after, Region.binds md e = true → e.on ≠ i) → oi.apart ops oj = true) →
      i ∈ Region.ready md ops L → YieldsIf P ops U oi v a → S w → (L.getD p true = false → T w) → Sure md ops S T U p i L →
      wpTill P md ops Q S T p n (L.setIfInBounds i true) (a.put oi.dst v) w → wpTill P md ops Q S T p (n + 1) L a w := by
  have hsel := Region.noSelect_spec hs
  induction n with
  | zero =>
    intro L a w _ _ hr hy hS hT hc H
    refine ⟨fun h => absurd (h ▸ hr) (by simp), fun j hj => ?_⟩
    by_cases e : j = i
    · subst e
      exact hy.wpOp hi (hc.at hS hT) ⟨⟨hS, fun _ => hT⟩, H⟩
    · have := ready_mono hj e
      rw [H.1] at this
      exact absurd this (by simp)
  | succ n ih =>
    intro L a w hsz hfree hr hy hS hT hc H
    refine ⟨fun h => absurd (h ▸ hr) (by simp), fun j hj => ?_⟩
    by_cases e : j = i
    · subst e
      exact hy.wpOp hi (hc.at hS hT) ⟨⟨hS, fun _ => hT⟩, H⟩
    · have hiL : L.getD i true = false := (mem_ready.1 hr).1
      obtain ⟨hjL, oj, hoj, hall⟩ := mem_ready.1 hj
      have hno : ∀ e ∈ oj.after, Region.binds md e = true → e.on ≠ i := fun e he hb heq => by
        have h1 := hall e he hb
        rw [heq] at h1
        simp [hsz] at h1 hiL
        rw [hiL] at h1; cases h1
      have hstep := wpOp_putIf hoj (hfree j oj hoj e hjL hno) (fun cs b => hsel i oi cs b hi) (fun cs b => hsel j oj cs b hoj) hQ hy (H.2 j (ready_mono hj e))
      refine wpOp_mono (fun a' w' h3 => ?_) hstep
      obtain ⟨hy', ⟨hS', hT'⟩, hgo⟩ := h3
      rw [getD_set_ne true hip] at hT'
      refine ⟨⟨hS', hT'⟩, ih (L.setIfInBounds j true) a' w' (by simpa using hsz) (fun k ok hk hki hun hnk => hfree k ok hk hki ?_ hnk) (ready_mono hr (Ne.symm e)) hy' hS' (fun hp' => ?_) (hc.next hiL hj hsz) ?_⟩
      · by_cases hjk : j = k
        · subst hjk; exact hjL
        · rw [getD_set_ne true hjk] at hun; exact hun
      · by_cases hjp : j = p
        · subst hjp
          rcases Nat.lt_or_ge j L.size with h | h
          · simp [h] at hp'
          · simp [Array.getElem?_eq_none h] at hjL
        · rw [getD_set_ne true hjp] at hp'
          exact hT' hjp hp'
      · rw [Array.setIfInBounds_comm _ _ e]
        exact hgo

/-- Operation number i is taken first. -/
theorem takeT (U : World → Prop) {i : Nat} {d : Option Tmp} {n : Nat} {L : Array Bool} {a : Act} {w : World} (v : Value) (hd : (ops[i]?).map (·.dst) = some d) (hs : Region.noSelect ops = true) (hip : i ≠ p) (hsz : decide (i < L.size) = true) (hf : Region.free md ops L i = true)
    (hr : (Region.ready md ops L).contains i = true) (hQ : ∀ (o : Oper) c a w, Q (.panic c) (a.put o.dst v) w → Q (.panic c) a w) (hS : S w) (hT : L.getD p true = false → T w) (hc : Sure md ops S T U p i L) (hy : ∀ o, ops[i]? = some o → YieldsIf P ops U o v a)
    (h : wpTill P md ops Q S T p n (L.setIfInBounds i true) (a.put d v) w) : wpTill P md ops Q S T p (n + 1) L a w := by
  cases ho : ops[i]? with
  | none => simp [ho] at hd
  | some o =>
    have e : o.dst = d := by simpa [ho] using hd
    subst e
    exact till_first ho hs hip (hQ o) n L a w (of_decide_eq_true hsz) (Region.free_spec ho hf) (by simpa using hr) (hy o ho) hS hT hc h
/-- What a step must show. -/
def StepT (P : Program) (md : Region.Mode) (ops : Array Oper) (Q : Exit → Act → World → Prop) (S T : World → Prop) (p n : Nat) (L : Array Bool) (a : Act) (w : World) (i : Nat) : Prop :=
  ∀ o, ops[i]? = some o → ∀ K' : Act → World → Prop, Hid (∀ a w, S w → (i ≠ p → L.getD p true = false → T w) → wpTill P md ops Q S T p n (L.setIfInBounds i true) a w → K' a w) → if Region.wanted o (yielded ops a.tmps) = true then Oper.wp P o a w K' Q else K' (a.put o.dst undef) w
theorem StepT.op {n : Nat} {L : Array Bool} {a : Act} {w : World} {i : Nat} (h : StepT P md ops Q S T p n L a w i) (hi : i < ops.size) : wpOp P ops Q i (fun a' w' => (S w' ∧ (i ≠ p → L.getD p true = false → T w')) ∧ wpTill P md ops Q S T p n (L.setIfInBounds i true) a' w') a w := by
  have ho : ops[i]? = some ops[i] := Array.getElem?_eq_getElem hi
  have := h _ ho (fun a' w' => (S w' ∧ (i ≠ p → L.getD p true = false → T w')) ∧ wpTill P md ops Q S T p n (L.setIfInBounds i true) a' w') (fun a w h1 h2 h3 => ⟨⟨h1, h2⟩, h3⟩)
  unfold wpOp
  rw [ho]
  simp only
  split
  · rename_i hw
    rw [if_pos hw] at this
    exact .inl this
  · rename_i hw
    rw [if_neg hw] at this
    exact this
/-- Operation number i alone can come up. -/
theorem oneT {i n : Nat} {L : Array Bool} {a : Act} {w : World} (hr : Region.ready md ops L = [i]) (hi : i < ops.size) (h : StepT P md ops Q S T p n L a w i) : wpTill P md ops Q S T p (n + 1) L a w :=
  ⟨fun h0 => absurd (hr.symm.trans h0) (by simp), fun j hj => by
    rw [hr] at hj
    obtain rfl := List.mem_singleton.1 hj
    exact h.op hi⟩
/-- Two operations can come up. -/
theorem twoT {i j n : Nat} {L : Array Bool} {a : Act} {w : World} (hr : Region.ready md ops L = [i, j]) (hi : i < ops.size) (hj : j < ops.size) (h1 : StepT P md ops Q S T p n L a w i) (h2 : StepT P md ops Q S T p n L a w j) : wpTill P md ops Q S T p (n + 1) L a w :=
  ⟨fun h0 => absurd (hr.symm.trans h0) (by simp), fun k hk => by
    rw [hr] at hk
    rcases List.mem_cons.1 hk with rfl | hk
    · exact h1.op hi
    · obtain rfl := List.mem_singleton.1 hk
      exact h2.op hj⟩
/-- All have come up. -/
theorem doneT {n : Nat} {L : Array Bool} {a : Act} {w : World} (hr : Region.ready md ops L = []) (h : Q .normal a w) : wpTill P md ops Q S T p n L a w := by
  cases n with
  | zero => exact ⟨hr, h⟩
  | succ n => exact ⟨fun _ => h, fun i hi => by rw [hr] at hi; cases hi⟩
theorem region_till {id : Nat} {a : Act} {w : World} (S T : World → Prop) (p : Nat) (hm : P.follows .mixedOrders = true) (h : wpTill P .any ops Q S T p ops.size (Array.replicate ops.size false) a w.drew) : (Code.region id ops true).wp P Q a w :=
  wp_region_any hm (any_of_till _ _ _ _ h)
end
end Go.Proofs.YtniailfcmlongaaGreatDoor.Tr
