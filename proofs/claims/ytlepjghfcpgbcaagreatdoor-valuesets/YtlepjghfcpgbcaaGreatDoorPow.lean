/- The contract of putOver. -/
import Derived.Test.YtlepjghfcpgbcaaGreatDoorPov
import Derived.Test.YtlepjghfcpgbcaaGreatDoorHnd
namespace Go.Proofs.YtlepjghfcpgbcaaGreatDoor.Tr
open Go.RowKit

abbrev Et := Kv (Vt × Vv)
/-- A set in memory. -/
structure SetIn (w : World) (x : Vv) (A : List Et) : Prop where
  nl : x.nl = A.length
  il : x.il = A.length
  names : Strs w x.na (A.map (·.1))
  items : SrcV w x.ia (A.map (·.2.2))
  len : A.length ≤ 256
theorem SetIn.env {w W : World} {x : Vv} {A : List Et} (h : SetIn w x A) (e : Env w W) : SetIn W x A := ⟨h.nl, h.il, h.names.env e, h.items.env e, h.len⟩
theorem SetIn.name {w : World} {x : Vv} {A : List Et} (h : SetIn w x A) (i : Nat) (hi : i < A.length) : ∃ b o, x.na = some ⟨b, o, none⟩ ∧ w.cell? ⟨b, o + i, none⟩ = some (.string ⟨A[i].1.toArray⟩) := by
  obtain ⟨b, o, e, hc⟩ := h.names.at i (by simpa using hi)
  exact ⟨b, o, e, by simpa using hc⟩
theorem SetIn.item {w : World} {x : Vv} {A : List Et} (h : SetIn w x A) (i : Nat) (hi : i < A.length) : ∃ b o, x.ia = some ⟨b, o, none⟩ ∧ sixO w b (o + i * 6) A[i].2.2 := by
  obtain ⟨b, o, e, hc⟩ := h.items (fun e => by rw [List.map_eq_nil_iff] at e; subst e; simp at hi)
  refine ⟨b, o, e, fun j u hu => ?_⟩
  have hj : j < 6 := by
    have := (List.getElem?_eq_some_iff.1 hu).1
    rw [csLen] at this; exact this
  have := hc (i * 6 + j) u (by rw [flatV_at _ i j (by simpa using hi) hj]; simpa using hu)
  rw [show o + i * 6 + j = o + (i * 6 + j) by omega]
  exact this
def nmE (R : List Et) : List (List UInt8) := R.map (·.1)
def vvE (R : List Et) : List Vv := R.map (·.2.2)
theorem nmE_len (R : List Et) : (nmE R).length = R.length := by simp [nmE]
theorem vvE_len (R : List Et) : (vvE R).length = R.length := by simp [vvE]
def OverPost (w : World) (R : List Et) (e : Ending) (w' : World) : Prop :=
  Fr (fun _ => False) w w' ∧ ((256 < R.length ∧ e = .returned (.tuple #[vZ.v, .int .i64 20])) ∨ (R.length ≤ 256 ∧ ∃ na nc ia ic, e = .returned (.tuple #[(Vv.mk 6 0 0 [] na R.length nc ia R.length ic).v, .int .i64 0]) ∧ w'.ownsRow w.heap.size 9 1 (.slice na R.length nc) (nmE R).length (strC (nmE R)) ∧ w'.ownsRow w.heap.size 26 6 (.slice ia R.length ic) (vvE R).length (flatV (vvE R))))
/-- What putOver keeps from round to round. -/
structure PoK (w : World) (x y : Vv) (R : List Et) (na ia : Option Addr) (nc ic : Nat) (wr : World) : Prop where
  fr : Fr (fun _ => False) w wr
  bx : Blk wr w.heap.size 26 x.cs
  by' : Blk wr (w.heap.size + 1) 26 y.cs
  bz : Blk wr (w.heap.size + 2) 26 vZ.cs
  bv : Blk wr (w.heap.size + 3) 26 (Vv.mk 6 0 0 [] na R.length nc ia R.length ic).cs
  ns : wr.ownsRow (w.heap.size + 4) 9 1 (.slice na R.length nc) (nmE R).length (strC (nmE R))
  vs : wr.ownsRow (w.heap.size + 4) 26 6 (.slice ia R.length ic) (vvE R).length (flatV (vvE R))
def PoSt (w : World) (x y : Vv) (A B : List Et) (iv kv : Value) (wr : World) : Prop := ∃ (i k : Nat) (R : List Et) (na ia : Option Addr) (nc ic : Nat), i ≤ A.length ∧ k ≤ B.length ∧ iv = .int .i64 (i : Int) ∧ kv = .int .i64 (k : Int) ∧ R ++ mg (A.drop i) (B.drop k) = mg A B ∧ R.length ≤ i + k ∧ PoK w x y R na ia nc ic wr
/-- What a round leaves. -/
theorem po_next {w wr w9 W4 : World} {x y : Vv} {R : List Et} {ra va na2 ia2 : Option Addr} {rc vc nc2 ic2 : Nat} {e : Et} (HK : PoK w x y R ra va rc vc wr) (h9 : Fr (fun _ => False) wr w9) (F4 : Fr (fun k => (Value.slice ra R.length rc).ownBlock = some k ∨ (Value.slice va R.length vc).ownBlock = some k) w9 W4)
    (N4 : W4.ownsRow (w.heap.size + 4) 9 1 (.slice na2 ((nmE R).length + 1) nc2) (nmE R ++ [e.1]).length (strC (nmE R ++ [e.1]))) (V4 : W4.ownsRow (w.heap.size + 4) 26 6 (.slice ia2 ((vvE R).length + 1) ic2) (vvE R ++ [e.2.2]).length (flatV (vvE R ++ [e.2.2]))) :
    PoK w x y (R ++ [e]) na2 ia2 nc2 ic2 ((W4.setCell ⟨w.heap.size + 3, 4, none⟩ (.slice na2 ((nmE R).length + 1) nc2)).setCell ⟨w.heap.size + 3, 5, none⟩ (.slice ia2 ((vvE R).length + 1) ic2)) := by
  have hrow : ∀ k, ((Value.slice ra R.length rc).ownBlock = some k ∨ (Value.slice va R.length vc).ownBlock = some k) → w.heap.size + 4 ≤ k := fun k h => by
    rcases h with h | h
    · exact (own_lt HK.ns k h).1
    · exact (own_lt HK.vs k h).1
  have keep : ∀ {b : Nat} {t : TypeId} {cs : List Value}, Blk wr b t cs → b < w.heap.size + 4 → Blk W4 b t cs := fun hb hlt => F4.blk (h9.blk hb (fun h => h)) (fun h => by have := hrow _ h; omega)
  have hl : (R ++ [e]).length = R.length + 1 := by simp
  have hN : nmE (R ++ [e]) = nmE R ++ [e.1] := by simp [nmE]
  have hV : vvE (R ++ [e]) = vvE R ++ [e.2.2] := by simp [vvE]
  have own2 : ∀ {ty : TypeId} {z n : Nat} {v : Value} {xs : List Value}, W4.ownsRow (w.heap.size + 4) ty z v n xs → ((W4.setCell ⟨w.heap.size + 3, 4, none⟩ (.slice na2 ((nmE R).length + 1) nc2)).setCell ⟨w.heap.size + 3, 5, none⟩ (.slice ia2 ((vvE R).length + 1) ic2)).ownsRow (w.heap.size + 4) ty z v n xs := fun h =>
    own_keep (b := w.heap.size + 3) h (by omega) (((Fr.refl (· = w.heap.size + 3) W4).setCell (.inl rfl) _).setCell (.inl rfl) _)
  refine ⟨((((HK.fr.trans h9 (fun _ h => h.elim)).trans F4 (fun i hi => .inr (by have := hrow i hi; omega))).setCell (.inr (by simp)) _).setCell (.inr (by simp)) _), ?_, ?_, ?_, ?_, ?_, ?_⟩
  · exact ((keep HK.bx (by omega)).setCell_ne (by simp) _).setCell_ne (by simp) _
  · exact ((keep HK.by' (by omega)).setCell_ne (by simp) _).setCell_ne (by simp) _
  · exact ((keep HK.bz (by omega)).setCell_ne (by simp) _).setCell_ne (by simp) _
  · have h := ((keep HK.bv (by omega)).setCell 4 (.slice na2 ((nmE R).length + 1) nc2)).setCell 5 (.slice ia2 ((vvE R).length + 1) ic2)
    rw [nmE_len, vvE_len] at h
    rw [hl, nmE_len, vvE_len]
    exact h
  · rw [hl, hN]
    have := own2 N4
    rw [nmE_len, vvE_len] at this
    rw [nmE_len, vvE_len]
    exact this
  · rw [hl, hV]
    have := own2 V4
    rw [nmE_len, vvE_len] at this
    rw [nmE_len, vvE_len]
    exact this
theorem PoK.drew {w wr : World} {x y : Vv} {R : List Et} {ra va : Option Addr} {rc vc : Nat} (h : PoK w x y R ra va rc vc wr) : PoK w x y R ra va rc vc wr.drew := ⟨h.fr.drew, h.bx, h.by', h.bz, h.bv, h.ns, h.vs⟩
def intsOf (a b : Value) : Nat := (intOf a).toNat + (intOf b).toNat
theorem bh_nm {A : List Et} {i : Nat} {nm : List UInt8} : bh (A.map (·.1)) i nm = if ((A[i]?).map (·.1)) = some nm then i + 1 else i := by
  unfold bh; rw [List.getElem?_map]
theorem step_under {A B : List Et} {i k : Nat} (hi : i < A.length) (hk : k ≤ B.length) (h : ∀ hk : k < B.length, Op.bytesLess A[i].1 B[k].1 = true) : mg (A.drop i) (B.drop k) = A[i] :: mg (A.drop (bh (A.map (·.1)) i A[i].1)) (B.drop (bh (B.map (·.1)) k A[i].1)) ∧ bh (A.map (·.1)) i A[i].1 = i + 1 ∧ bh (B.map (·.1)) k A[i].1 = k := by
  have e1 : bh (A.map (·.1)) i A[i].1 = i + 1 := by rw [bh_nm, List.getElem?_eq_getElem hi]; simp
  have e2 : bh (B.map (·.1)) k A[i].1 = k := by
    rw [bh_nm]
    by_cases hlt : k < B.length
    · rw [List.getElem?_eq_getElem hlt, if_neg]
      intro e
      simp only [Option.map_some, Option.some.injEq] at e
      exact bl_ne (h hlt) e.symm
    · rw [List.getElem?_eq_none (by omega), if_neg (by simp)]
  refine ⟨?_, e1, e2⟩
  rw [e1, e2]
  rw [List.drop_eq_getElem_cons hi]
  by_cases hlt : k < B.length
  · rw [List.drop_eq_getElem_cons hlt, mg_lt _ _ (h hlt)]
  · rw [List.drop_eq_nil_of_le (by omega : B.length ≤ k), mg_rnil, mg_rnil]
theorem step_over {A B : List Et} {i k : Nat} (hk : k < B.length) (hi : i ≤ A.length) (h : ∀ hi : i < A.length, Op.bytesLess A[i].1 B[k].1 = false) : mg (A.drop i) (B.drop k) = B[k] :: mg (A.drop (bh (A.map (·.1)) i B[k].1)) (B.drop (bh (B.map (·.1)) k B[k].1)) ∧ bh (B.map (·.1)) k B[k].1 = k + 1 ∧ i ≤ bh (A.map (·.1)) i B[k].1 ∧ bh (A.map (·.1)) i B[k].1 ≤ A.length := by
  have e1 : bh (B.map (·.1)) k B[k].1 = k + 1 := by rw [bh_nm, List.getElem?_eq_getElem hk]; simp
  have e3 : i ≤ bh (A.map (·.1)) i B[k].1 := by unfold bh; split <;> omega
  have e4 : bh (A.map (·.1)) i B[k].1 ≤ A.length := by
    rw [bh_nm]
    split
    · rename_i h
      by_cases hlt : i < A.length
      · omega
      · rw [List.getElem?_eq_none (by omega)] at h; simp at h
    · exact hi
  refine ⟨?_, e1, e3, e4⟩
  rw [e1, List.drop_eq_getElem_cons hk]
  by_cases hlt : i < A.length
  · rw [List.drop_eq_getElem_cons hlt]
    by_cases hq : A[i].1 = B[k].1
    · rw [mg_eq _ _ hq]
      have : bh (A.map (·.1)) i B[k].1 = i + 1 := by rw [bh_nm, List.getElem?_eq_getElem hlt, if_pos (by simpa using hq)]
      rw [this]
    · rw [mg_gt _ _ (h hlt) hq]
      have : bh (A.map (·.1)) i B[k].1 = i := by rw [bh_nm, List.getElem?_eq_getElem hlt, if_neg (by simpa using hq)]
      rw [this, List.drop_eq_getElem_cons hlt]
  · have : bh (A.map (·.1)) i B[k].1 = i := by rw [bh_nm, List.getElem?_eq_none (by omega), if_neg (by simp)]
    rw [this, List.drop_eq_nil_of_le (by omega : A.length ≤ i), mg_nil, mg_nil]

set_option maxRecDepth 100000 in
set_option maxHeartbeats 16000000 in
set_option linter.unusedSimpArgs false in
theorem putOver_any (w : World) (x y : Vv) (A B : List Et) (hx : SetIn w x A) (hy : SetIn w y B) : Calls Tryz.prog 65 #[x.v, y.v] w (OverPost w (mg A B)) := by
  have HB := hid (three_blk w x y vZ)
  have HF := hid (three_fr w x y vZ)
  have HX := hid hx
  have HY := hid hy
  have hAl : A.length ≤ 256 := hx.len
  have hBl : B.length ≤ 256 := hy.len
  have e1 := hx.nl
  have e2 := hx.il
  have e3 := hy.nl
  have e4 := hy.il
  clear hx hy
  obtain ⟨k, n, f, t, na, nl, nc, ia, il, ic⟩ := x
  obtain ⟨k', n', f', t', na', nl', nc', ia', il', ic'⟩ := y
  simp only at e1 e2 e3 e4
  subst e1 e2 e3 e4
  simp only [Vv.v] at *
  have HBz := hid (vBlk (vBox (vBox (vBox w ⟨k, n, f, t, na, A.length, nc, ia, A.length, ic⟩) ⟨k', n', f', t', na', B.length, nc', ia', B.length, ic'⟩) vZ) vZ)
  rw [World.size_alloc, World.size_alloc, World.size_alloc] at HBz
  go_enter Tryz.func65, Tryz.ntmps65
  go_wp2_with (refine wpList_storeV ⟨6, 0, 0, [], none, 0, 0, none, 0, 0⟩ (by rfl) _ _ (by rfl) HBz.out (by rfl) (by rfl) ?_; intro w1 b1 f1; have HV1 := hid b1; have HF1 := hid f1; clear b1 f1)
  have HP1 : Hid (PoK w ⟨k, n, f, t, na, A.length, nc, ia, A.length, ic⟩ ⟨k', n', f', t', na', B.length, nc', ia', B.length, ic'⟩ [] none none 0 0 w1) :=
    ⟨(HF.out.alloc _).trans HF1.out (fun i hi => .inr (by omega)), HF1.out.blk (HB.out.1.alloc _) (by omega), HF1.out.blk (HB.out.2.1.alloc _) (by omega), HF1.out.blk (HB.out.2.2.alloc _) (by omega), HV1.out, World.ownsRow_nil _ _ _ _, World.ownsRow_nil _ _ _ _⟩
  clear HB HF HBz HV1 HF1
  go_loopw [7, 8, 9, 10, 11] (fun iv kv _ _ _ wr => PoSt w ⟨k, n, f, t, na, A.length, nc, ia, A.length, ic⟩ ⟨k', n', f', t', na', B.length, nc', ia', B.length, ic'⟩ A B iv kv wr) (fun iv kv _ _ _ _ => A.length + B.length - intsOf iv kv)
  case atStart => exact ⟨0, 0, [], none, none, 0, 0, Nat.zero_le _, Nat.zero_le _, rfl, rfl, by simp, by simp, HP1.out⟩
  case round =>
    obtain ⟨i, j, R, ra, va, rc, vc, hi, hj, rfl, rfl, hR, hRl, hK⟩ := hrel
    have HK := hid hK
    have HR := hid hR
    have HXr := hid (HX.out.env (Env.of hK.fr))
    have HYr := hid (HY.out.env (Env.of hK.fr))
    clear hK hR HP1
    obtain ⟨c0, c1, c2, c3, c4, c5⟩ := HK.out.bx.six
    obtain ⟨d0, d1, d2, d3, d4, d5⟩ := HK.out.by'.six
    obtain ⟨g0, g1, g2, g3, g4, g5⟩ := HK.out.bv.six
    have HBz := hid (vBlk wr vZ)
    by_cases hend : i = A.length ∧ j = B.length
    · obtain ⟨rfl, rfl⟩ := hend
      have HE : Hid (mg A B = R) := by
        have := HR.out
        rw [List.drop_eq_nil_of_le (Nat.le_refl _), List.drop_eq_nil_of_le (Nat.le_refl _), mg_nil, List.append_nil] at this
        exact this.symm
      by_cases hbig : 256 < R.length
      · have hb' : ((R.length : Nat) : Int) > 256 := by omega
        go_wp2_with (refine wpList_storeV vZ (by rfl) _ _ (by rfl) HK.out.bz (by rfl) (by rfl) ?_; intro w2 b2 f2; have HB2 := hid b2; have HF2 := hid (HK.out.fr.trans f2 (fun i hi => .inr (by omega))); clear b2 f2)
        exact bodyPost_ret (resVE rfl rfl HB2.out) rfl ⟨HF2.out, .inl ⟨by rw [HE.out]; exact hbig, rfl⟩⟩
      · have hb' : ¬ (((R.length : Nat) : Int) > 256) := by omega
        go_wp2_with (refine wpList_storeV ⟨6, 0, 0, [], ra, R.length, rc, va, R.length, vc⟩ (by rfl) _ _ (by rfl) HK.out.bz (by rfl) (by rfl) ?_; intro w2 b2 f2; have HB2 := hid b2; have HF2 := hid (HK.out.fr.trans f2 (fun i hi => .inr (by omega))); have HO2 := hid (And.intro (own_down (B' := w.heap.size) (own_keep HK.out.ns (by omega) f2) (by omega)) (own_down (B' := w.heap.size) (own_keep HK.out.vs (by omega) f2) (by omega))); clear b2 f2)
        refine bodyPost_ret (resVE rfl rfl HB2.out) rfl ⟨HF2.out, .inr ⟨by rw [HE.out]; omega, ?_⟩⟩
        rw [HE.out]
        exact ⟨ra, rc, va, vc, rfl, HO2.out.1, HO2.out.2⟩
    · by_cases hund : ∃ hi' : i < A.length, ∀ hj' : j < B.length, Op.bytesLess (A[i]'hi').1 (B[j]'hj').1 = true
      · obtain ⟨hilt, hless⟩ := hund
        clear hend
        by_cases hjlt : j < B.length
        · skip
          obtain ⟨nb, no, en, hn⟩ := HXr.out.name i hilt
          obtain ⟨nb', no', en', hn'⟩ := HYr.out.name j hjlt
          simp only at en en'
          subst en en'
          obtain ⟨ib, io, ei, hit⟩ := HXr.out.item i hilt
          simp only at ei
          subst ei
          obtain ⟨ib0, io0, ei0, hit0⟩ := HX.out.item i hilt
          simp only [Option.some.injEq, Addr.mk.injEq, and_true] at ei0
          obtain ⟨rfl, rfl⟩ := ei0
          have HIt0 := hid hit0
          clear hit hit0
          have hi1 : (i : Int) < ((A.length : Nat) : Int) := by omega
          have hj1 : (j : Int) < ((B.length : Nat) : Int) := by omega
          have hj2 : (((j : Nat) : Int) == ((B.length : Nat) : Int)) = false := by simp; omega
          have hj3 : (j == B.length) = false := by simp; omega
          have hj4 : decide (j = B.length) = false := by simp; omega
          have hle : Op.bytesLess A[i].1 B[j].1 = true := hless hjlt
          obtain ⟨hst, hs1, hs2⟩ := step_under hilt hj hless
          rw [hs1, hs2] at hst
          have HSt := hid hst
          have HS1 := hid hs1
          have HS2 := hid hs2
          clear hst hs1 hs2 hless
          generalize hA : A[i] = ea at *
          generalize hB : B[j] = eb at *
          clear hA hB
          go_wp2_with (refine wpList_storeV ⟨k', n', f', t', some ⟨nb', no', none⟩, B.length, nc', ia', B.length, ic'⟩ (by rfl) _ _ (by rfl) HBz.out (by rfl) (by rfl) ?_; intro w8 b8 f8; have HF8 := hid (bx_fr f8); have HW8 := hid b8; obtain ⟨c0, c1, c2, c3, c4, c5⟩ := (HF8.out.blk HK.out.bx (fun h => h)).six; obtain ⟨d0, d1, d2, d3, d4, d5⟩ := (HF8.out.blk HK.out.by' (fun h => h)).six; have hn8 := (Env.of HF8.out).cell hn; have hn8' := (Env.of HF8.out).cell hn'; clear b8 f8)
          go_quiet (fail)
          have HW9q : Hid (Blk (w8.drewN nq) wr.heap.size 26 (Vv.mk k' n' f' t' (some ⟨nb', no', none⟩) B.length nc' ia' B.length ic').cs) := HW8.out
          go_wp2_with (refine wpList_storeV ⟨k, n, f, t, some ⟨nb, no, none⟩, A.length, nc, some ⟨ib, io, none⟩, A.length, ic⟩ (by rfl) _ _ (by rfl) HW9q.out (by rfl) (by rfl) ?_; intro w9 b9 f9; have HF9 := hid (HF8.out.drewN nq |>.trans f9 (fun i hi => .inr (by omega))); have HW9 := hid b9; obtain ⟨q0, q1, q2, q3, q4, q5⟩ := HW9.out.six; have hn9 := (Env.of HF9.out).cell hn; clear b9 f9)
          have HKK : Hid (∀ W, Fr (fun k => (Value.slice ra R.length rc).ownBlock = some k ∨ (Value.slice va R.length vc).ownBlock = some k) w9 W → ((fun W => W.cell? ⟨wr.heap.size, 5, none⟩ = some (.slice (some ⟨ib, io, none⟩) A.length ic) ∧ sixB W ib (io + i * 6) ea.2.2) W) ∧ ((fun W => W.cell? ⟨w.heap.size + 3, 4, none⟩ = some (.slice ra R.length rc) ∧ W.cell? ⟨w.heap.size + 3, 5, none⟩ = some (.slice va R.length vc)) W)) := fun W fr => by
            have hrow : ∀ k, ((Value.slice ra R.length rc).ownBlock = some k ∨ (Value.slice va R.length vc).ownBlock = some k) → w.heap.size + 4 ≤ k ∧ k < wr.heap.size := fun k h => by
              rcases h with h | h
              · exact own_lt HK.out.ns k h
              · exact own_lt HK.out.vs k h
            have henv : Env w W := (Env.of (HK.out.fr.trans HF9.out (fun _ h => h.elim))).fr fr (fun k hk => by have := hrow k hk; omega)
            have hb := fr.blk (HF9.out.blk HK.out.bv (fun h => h)) (fun h => by have := hrow _ h; omega)
            exact ⟨⟨(fr.blk HW9.out (fun h => by have := hrow _ h; omega)).cell 5, (HIt0.out.env henv).six⟩, hb.cell 4, hb.cell 5⟩
          have HKS : Hid (∀ W, Fr (fun k => ((Value.slice ra R.length rc).ownBlock = some k ∨ (Value.slice va R.length vc).ownBlock = some k) ∨ k = w.heap.size + 3) w9 W → ((fun W => W.cell? ⟨wr.heap.size, 5, none⟩ = some (.slice (some ⟨ib, io, none⟩) A.length ic) ∧ sixB W ib (io + i * 6) ea.2.2) W)) := fun W fr => by
            have hrow : ∀ k, ((Value.slice ra R.length rc).ownBlock = some k ∨ (Value.slice va R.length vc).ownBlock = some k) → w.heap.size + 4 ≤ k ∧ k < wr.heap.size := fun k h => by
              rcases h with h | h
              · exact own_lt HK.out.ns k h
              · exact own_lt HK.out.vs k h
            have hbig : w.heap.size + 3 < wr.heap.size := HK.out.bv.lt
            have henv : Env w W := (Env.of (HK.out.fr.trans HF9.out (fun _ h => h.elim))).fr fr (fun k hk => by rcases hk with hk | hk; (· have := hrow k hk; omega); (· omega))
            exact ⟨(fr.blk HW9.out (fun h => by rcases h with h | h; (· have := hrow _ h; omega); (· omega))).cell 5, (HIt0.out.env henv).six⟩
          have HN9 : Hid (w9.ownsRow (w.heap.size + 4) 9 1 (.slice ra R.length rc) (nmE R).length (strC (nmE R))) := owns_of_eq HK.out.ns (fun k hk => HF9.out.block k (own_lt HK.out.ns k hk).2 (fun h => h))
          have HV9 : Hid (w9.ownsRow (w.heap.size + 4) 26 6 (.slice va R.length vc) (vvE R).length (flatV (vvE R))) := owns_of_eq HK.out.vs (fun k hk => HF9.out.block k (own_lt HK.out.vs k hk).2 (fun h => h))
          have HAp := hid (own_apart HN9.out HV9.out (by decide))
          have HSz : Hid (w.heap.size + 4 ≤ w9.heap.size) := by unfold Hid; have h1 := HF9.out.size; have h2 := HK.out.bv.lt; omega
          have HF0 : Hid (Fr (fun k => (Value.slice ra R.length rc).ownBlock = some k ∨ (Value.slice va R.length vc).ownBlock = some k) w9 w9.drew) := (Fr.refl _ w9).drew
          have hRl2 : (nmE R).length ≤ 1000 ∧ (vvE R).length ≤ 1000 := by rw [nmE_len, vvE_len]; omega
          refine wp_region_noPanic ?_
          refine region_till (fun W => W.cell? ⟨wr.heap.size, 5, none⟩ = some (.slice (some ⟨ib, io, none⟩) A.length ic) ∧ sixB W ib (io + i * 6) ea.2.2) (fun W => W.cell? ⟨w.heap.size + 3, 4, none⟩ = some (.slice ra R.length rc) ∧ W.cell? ⟨w.heap.size + 3, 5, none⟩ = some (.slice va R.length vc)) 15 (by kernel_rfl) ?_
          have HNA : Hid (w9.drew.ownsRow (w.heap.size + 4) 9 1 (.slice ra R.length rc) (nmE R).length (strC (nmE R))) := HN9.out
          have HVA : Hid (w9.drew.ownsRow (w.heap.size + 4) 26 6 (.slice va R.length vc) (vvE R).length (flatV (vvE R))) := HV9.out
          have HZA : Hid (w.heap.size + 4 ≤ w9.drew.heap.size) := HSz.out
          generalize w9.drew = W0 at *
          have HFA := HF0
          refine takeT (fun _ => True) (i := 0) (d := some 59) (.pointer (some ⟨w.heap.size + 3, 4, none⟩)) rfl (by kernel_rfl) (by decide) (by kernel_rfl) (by kernel_rfl) (by kernel_rfl) (fun _ _ _ _ h => h) ((HKK.out _ HF0.out).1) (fun _ => (HKK.out _ HF0.out).2) (.inl (fun _ _ => trivial)) (fun o ho => by cases ho; exact .inl ⟨by rfl, fun w hSw => by (go_simp)⟩) ?_
          simp only [Act.put, List.setIfInBounds_toArray, List.set_cons_zero, List.set_cons_succ]
          refine takeT (fun W => W.cell? ⟨w.heap.size + 3, 4, none⟩ = some (.slice ra R.length rc) ∧ W.cell? ⟨w.heap.size + 3, 5, none⟩ = some (.slice va R.length vc)) (i := 1) (d := some 60) (.slice ra R.length rc) rfl (by kernel_rfl) (by decide) (by kernel_rfl) (by kernel_rfl) (by kernel_rfl) (fun _ _ _ _ h => h) ((HKK.out _ HF0.out).1) (fun _ => (HKK.out _ HF0.out).2) (.inr ⟨fun _ h1 h2 => h2, by kernel_rfl, by kernel_rfl⟩) (fun o ho => by cases ho; exact .inl ⟨by rfl, fun w hSw => by (obtain ⟨hs5, hs6⟩ := hSw; go_simp)⟩) ?_
          simp only [Act.put, List.setIfInBounds_toArray, List.set_cons_zero, List.set_cons_succ]
          refine takeT (fun _ => True) (i := 2) (d := some 61) (.string ⟨ea.1.toArray⟩) rfl (by kernel_rfl) (by decide) (by kernel_rfl) (by kernel_rfl) (by kernel_rfl) (fun _ _ _ _ h => h) ((HKK.out _ HF0.out).1) (fun _ => (HKK.out _ HF0.out).2) (.inl (fun _ _ => trivial)) (fun o ho => by cases ho; exact .inl ⟨by rfl, fun w hSw => by (go_simp)⟩) ?_
          simp only [Act.put, List.setIfInBounds_toArray, List.set_cons_zero, List.set_cons_succ]
          refine takeT (fun _ => True) (i := 5) (d := some 64) (.pointer (some ⟨w.heap.size + 3, 5, none⟩)) rfl (by kernel_rfl) (by decide) (by kernel_rfl) (by kernel_rfl) (by kernel_rfl) (fun _ _ _ _ h => h) ((HKK.out _ HF0.out).1) (fun _ => (HKK.out _ HF0.out).2) (.inl (fun _ _ => trivial)) (fun o ho => by cases ho; exact .inl ⟨by rfl, fun w hSw => by (go_simp)⟩) ?_
          simp only [Act.put, List.setIfInBounds_toArray, List.set_cons_zero, List.set_cons_succ]
          refine takeT (fun W => W.cell? ⟨w.heap.size + 3, 4, none⟩ = some (.slice ra R.length rc) ∧ W.cell? ⟨w.heap.size + 3, 5, none⟩ = some (.slice va R.length vc)) (i := 6) (d := some 65) (.slice va R.length vc) rfl (by kernel_rfl) (by decide) (by kernel_rfl) (by kernel_rfl) (by kernel_rfl) (fun _ _ _ _ h => h) ((HKK.out _ HF0.out).1) (fun _ => (HKK.out _ HF0.out).2) (.inr ⟨fun _ h1 h2 => h2, by kernel_rfl, by kernel_rfl⟩) (fun o ho => by cases ho; exact .inl ⟨by rfl, fun w hSw => by (obtain ⟨hs5, hs6⟩ := hSw; go_simp)⟩) ?_
          simp only [Act.put, List.setIfInBounds_toArray, List.set_cons_zero, List.set_cons_succ]
          refine takeT (fun _ => True) (i := 7) (d := some 66) (.pointer (some ⟨wr.heap.size, 5, none⟩)) rfl (by kernel_rfl) (by decide) (by kernel_rfl) (by kernel_rfl) (by kernel_rfl) (fun _ _ _ _ h => h) ((HKK.out _ HF0.out).1) (fun _ => (HKK.out _ HF0.out).2) (.inl (fun _ _ => trivial)) (fun o ho => by cases ho; exact .inl ⟨by rfl, fun w hSw => by (go_simp)⟩) ?_
          simp only [Act.put, List.setIfInBounds_toArray, List.set_cons_zero, List.set_cons_succ]
          refine takeT (fun W => W.cell? ⟨wr.heap.size, 5, none⟩ = some (.slice (some ⟨ib, io, none⟩) A.length ic) ∧ sixB W ib (io + i * 6) ea.2.2) (i := 8) (d := some 67) (.slice (some ⟨ib, io, none⟩) A.length ic) rfl (by kernel_rfl) (by decide) (by kernel_rfl) (by kernel_rfl) (by kernel_rfl) (fun _ _ _ _ h => h) ((HKK.out _ HF0.out).1) (fun _ => (HKK.out _ HF0.out).2) (.inl (fun _ h => h)) (fun o ho => by cases ho; exact .inl ⟨by rfl, fun w hSw => by (obtain ⟨hs5, hs0, hs1, hs2, hs3, hs4, hs6⟩ := hSw; go_simp)⟩) ?_
          simp only [Act.put, List.setIfInBounds_toArray, List.set_cons_zero, List.set_cons_succ]
          refine takeT (fun _ => True) (i := 9) (d := some 68) (.int .i64 (i : Int)) rfl (by kernel_rfl) (by decide) (by kernel_rfl) (by kernel_rfl) (by kernel_rfl) (fun _ _ _ _ h => h) ((HKK.out _ HF0.out).1) (fun _ => (HKK.out _ HF0.out).2) (.inl (fun _ _ => trivial)) (fun o ho => by cases ho; exact .inl ⟨by rfl, fun w hSw => by (go_simp)⟩) ?_
          simp only [Act.put, List.setIfInBounds_toArray, List.set_cons_zero, List.set_cons_succ]
          refine takeT (fun _ => True) (i := 10) (d := some 69) (.pointer (some ⟨ib, io + i * 6, none⟩)) rfl (by kernel_rfl) (by decide) (by kernel_rfl) (by kernel_rfl) (by kernel_rfl) (fun _ _ _ _ h => h) ((HKK.out _ HF0.out).1) (fun _ => (HKK.out _ HF0.out).2) (.inl (fun _ _ => trivial)) (fun o ho => by cases ho; exact .inl ⟨by rfl, fun w hSw => by (go_simp)⟩) ?_
          simp only [Act.put, List.setIfInBounds_toArray, List.set_cons_zero, List.set_cons_succ]
          refine takeT (fun W => W.cell? ⟨wr.heap.size, 5, none⟩ = some (.slice (some ⟨ib, io, none⟩) A.length ic) ∧ sixB W ib (io + i * 6) ea.2.2) (i := 11) (d := some 70) (ea.2.2.v) rfl (by kernel_rfl) (by decide) (by kernel_rfl) (by kernel_rfl) (by kernel_rfl) (fun _ _ _ _ h => h) ((HKK.out _ HF0.out).1) (fun _ => (HKK.out _ HF0.out).2) (.inl (fun _ h => h)) (fun o ho => by cases ho; exact .inl ⟨by rfl, fun w hSw => by (obtain ⟨hs5, hs0, hs1, hs2, hs3, hs4, hs6⟩ := hSw; go_simp)⟩) ?_
          simp only [Act.put, List.setIfInBounds_toArray, List.set_cons_zero, List.set_cons_succ]
          refine twoT (i := 3) (j := 12) (by kernel_rfl) (by decide) (by decide) (fun o ho K' hK => ?_) (fun o ho K' hK => ?_)
          · skip
            cases ho
            rw [if_pos (by rfl)]
            go_simp
            have HFB : Hid (Fr (fun k => (Value.slice ra R.length rc).ownBlock = some k ∨ (Value.slice va R.length vc).ownBlock = some k) w9 (W0.alloc (.cells #[.string ⟨ea.1.toArray⟩] 9))) := HFA.out.alloc _
            have HGN : Hid (Blk (W0.alloc (.cells #[.string ⟨ea.1.toArray⟩] 9)) W0.heap.size 9 [.string ⟨ea.1.toArray⟩]) := Blk.new _ _ _
            have HLN : Hid (w9.heap.size ≤ W0.heap.size) := HFA.out.size
            have HNB : Hid ((W0.alloc (.cells #[.string ⟨ea.1.toArray⟩] 9)).ownsRow _ _ _ _ _ _) := owns_of_eq HNA.out (fun k hk => Below.heap_alloc W0 _ k (own_lt HNA.out k hk).2)
            have HVB : Hid ((W0.alloc (.cells #[.string ⟨ea.1.toArray⟩] 9)).ownsRow _ _ _ _ _ _) := owns_of_eq HVA.out (fun k hk => Below.heap_alloc W0 _ k (own_lt HVA.out k hk).2)
            have HZB : Hid (w.heap.size + 4 ≤ (W0.alloc (.cells #[.string ⟨ea.1.toArray⟩] 9)).heap.size) := Nat.le_trans HZA.out (HFB.out.size |> fun _ => by rw [World.size_alloc]; exact Nat.le_succ _)
            refine hK.out _ _ (HKK.out _ HFB.out).1 (fun _ _ => (HKK.out _ HFB.out).2) ?_
            clear hK K'
            try simp only [Act.put, List.setIfInBounds_toArray, List.set_cons_zero, List.set_cons_succ]
            generalize W0.alloc (.cells #[.string ⟨ea.1.toArray⟩] 9) = WB at *
            refine twoT (i := 4) (j := 12) (by kernel_rfl) (by decide) (by decide) (fun o ho K' hK => ?_) (fun o ho K' hK => ?_)
            · skip
              cases ho
              rw [if_pos (by rfl)]
              refine wp_app_name _ _ rfl (w.heap.size + 4) _ (nmE R) ea.1 _ _ (by rfl) (by rfl) HNB.out (HGN.out.cell 0) HZB.out hRl2.1 ?_
              intro na2 nc2 WC ho2 hg2
              have HFC := hid (HFB.out.grown hg2 (fun k hk => .inl (.inl hk)))
              have HNC := hid ho2
              have HVC := hid (owns_of_eq HVB.out (w' := WC) (fun k hk => hg2.block k (own_lt HVB.out k hk).2 (fun e => HAp.out k e.symm hk)))
              have HZC : Hid (w.heap.size + 4 ≤ WC.heap.size) := Nat.le_trans HZB.out hg2.size
              refine hK.out _ _ (HKK.out _ HFC.out).1 (fun _ _ => (HKK.out _ HFC.out).2) ?_
              clear hK K' hg2
              try simp only [Act.put, List.setIfInBounds_toArray, List.set_cons_zero, List.set_cons_succ]
              refine takeT (fun _ => True) (i := 14) (d := some 73) (.pointer (some ⟨w.heap.size + 3, 4, none⟩)) rfl (by kernel_rfl) (by decide) (by kernel_rfl) (by kernel_rfl) (by kernel_rfl) (fun _ _ _ _ h => h) ((HKK.out _ HFC.out).1) (fun _ => (HKK.out _ HFC.out).2) (.inl (fun _ _ => trivial)) (fun o ho => by cases ho; exact .inl ⟨by rfl, fun w hSw => by (go_simp)⟩) ?_
              simp only [Act.put, List.setIfInBounds_toArray, List.set_cons_zero, List.set_cons_succ]
              refine oneT (i := 12) (by kernel_rfl) (by decide) (fun o ho K' hK => ?_)
              cases ho
              rw [if_pos (by rfl)]
              go_simp
              have HFD : Hid (Fr (fun k => (Value.slice ra R.length rc).ownBlock = some k ∨ (Value.slice va R.length vc).ownBlock = some k) w9 (WC.alloc (.cells #[.int .i64 ea.2.2.k, .int .i64 ea.2.2.n, .float .f64 ea.2.2.f, .string ⟨ea.2.2.t.toArray⟩, .slice ea.2.2.na ea.2.2.nl ea.2.2.nc, .slice ea.2.2.ia ea.2.2.il ea.2.2.ic] 26))) := HFC.out.alloc _
              have HGV : Hid (Blk (WC.alloc (.cells #[.int .i64 ea.2.2.k, .int .i64 ea.2.2.n, .float .f64 ea.2.2.f, .string ⟨ea.2.2.t.toArray⟩, .slice ea.2.2.na ea.2.2.nl ea.2.2.nc, .slice ea.2.2.ia ea.2.2.il ea.2.2.ic] 26)) WC.heap.size 26 ea.2.2.cs) := Blk.new _ _ _
              have HLV : Hid (w9.heap.size ≤ WC.heap.size) := HFC.out.size
              have HND : Hid ((WC.alloc (.cells #[.int .i64 ea.2.2.k, .int .i64 ea.2.2.n, .float .f64 ea.2.2.f, .string ⟨ea.2.2.t.toArray⟩, .slice ea.2.2.na ea.2.2.nl ea.2.2.nc, .slice ea.2.2.ia ea.2.2.il ea.2.2.ic] 26)).ownsRow _ _ _ _ _ _) := owns_of_eq HNC.out (fun k hk => Below.heap_alloc WC _ k (own_lt HNC.out k hk).2)
              have HVD : Hid ((WC.alloc (.cells #[.int .i64 ea.2.2.k, .int .i64 ea.2.2.n, .float .f64 ea.2.2.f, .string ⟨ea.2.2.t.toArray⟩, .slice ea.2.2.na ea.2.2.nl ea.2.2.nc, .slice ea.2.2.ia ea.2.2.il ea.2.2.ic] 26)).ownsRow _ _ _ _ _ _) := owns_of_eq HVC.out (fun k hk => Below.heap_alloc WC _ k (own_lt HVC.out k hk).2)
              have HZD : Hid (w.heap.size + 4 ≤ (WC.alloc (.cells #[.int .i64 ea.2.2.k, .int .i64 ea.2.2.n, .float .f64 ea.2.2.f, .string ⟨ea.2.2.t.toArray⟩, .slice ea.2.2.na ea.2.2.nl ea.2.2.nc, .slice ea.2.2.ia ea.2.2.il ea.2.2.ic] 26)).heap.size) := Nat.le_trans HZC.out (HFD.out.size |> fun _ => by rw [World.size_alloc]; exact Nat.le_succ _)
              refine hK.out _ _ (HKK.out _ HFD.out).1 (fun _ _ => (HKK.out _ HFD.out).2) ?_
              clear hK K'
              try simp only [Act.put, List.setIfInBounds_toArray, List.set_cons_zero, List.set_cons_succ]
              generalize WC.alloc (.cells #[.int .i64 ea.2.2.k, .int .i64 ea.2.2.n, .float .f64 ea.2.2.f, .string ⟨ea.2.2.t.toArray⟩, .slice ea.2.2.na ea.2.2.nl ea.2.2.nc, .slice ea.2.2.ia ea.2.2.il ea.2.2.ic] 26) = WD at *
              refine oneT (i := 13) (by kernel_rfl) (by decide) (fun o ho K' hK => ?_)
              cases ho
              rw [if_pos (by rfl)]
              refine wp_app_value _ _ rfl (w.heap.size + 4) _ (vvE R) ea.2.2 _ _ (by rfl) (by rfl) HVD.out HGV.out HZD.out hRl2.2 ?_
              intro ia2 ic2 WE ho3 hg2
              have HFE := hid (HFD.out.grown hg2 (fun k hk => .inl (.inr hk)))
              have HVE := hid ho3
              have HNE := hid (owns_of_eq HND.out (w' := WE) (fun k hk => hg2.block k (own_lt HND.out k hk).2 (fun e => own_apart HND.out HVD.out (by decide) k hk e.symm)))
              have HZE : Hid (w.heap.size + 4 ≤ WE.heap.size) := Nat.le_trans HZD.out hg2.size
              refine hK.out _ _ (HKK.out _ HFE.out).1 (fun _ _ => (HKK.out _ HFE.out).2) ?_
              clear hK K' hg2
              try simp only [Act.put, List.setIfInBounds_toArray, List.set_cons_zero, List.set_cons_succ]
              have hb4 := HFE.out.blk (HF9.out.blk HK.out.bv (fun h => h)) (fun h => by rcases h with h | h; (· have := (own_lt HK.out.ns _ h).1; omega); (· have := (own_lt HK.out.vs _ h).1; omega))
              have hc4 := hb4.cell 4
              have hz4 := hb4.frozen 4
              have hb5 := hb4.setCell 4 (.slice na2 ((nmE R).length + 1) nc2)
              have hc5 := hb5.cell 5
              have hz5 := hb5.frozen 5
              have HP := hid (po_next (e := ea) HK.out HF9.out HFE.out HNE.out HVE.out)
              have HFs : Hid (Fr (fun k => ((Value.slice ra R.length rc).ownBlock = some k ∨ (Value.slice va R.length vc).ownBlock = some k) ∨ k = w.heap.size + 3) w9 (WE.setCell ⟨w.heap.size + 3, 4, none⟩ (.slice na2 ((nmE R).length + 1) nc2))) := (HFE.out.mono (fun k h => .inl h)).setCell (.inl (.inr rfl)) _
              have HFt : Hid (Fr (fun k => ((Value.slice ra R.length rc).ownBlock = some k ∨ (Value.slice va R.length vc).ownBlock = some k) ∨ k = w.heap.size + 3) w9 ((WE.setCell ⟨w.heap.size + 3, 4, none⟩ (.slice na2 ((nmE R).length + 1) nc2)).setCell ⟨w.heap.size + 3, 5, none⟩ (.slice ia2 ((vvE R).length + 1) ic2))) := HFs.out.setCell (.inl (.inr rfl)) _
              clear hb4 hb5
              refine oneT (i := 15) (by kernel_rfl) (by decide) (fun o ho K' hK => ?_)
              cases ho
              rw [if_pos (by rfl)]
              go_simp
              refine hK.out _ _ (HKS.out _ HFs.out) (fun h => absurd rfl h) ?_
              clear hK K'
              try simp only [Act.put, List.setIfInBounds_toArray, List.set_cons_zero, List.set_cons_succ]
              refine takeT (fun _ => True) (i := 16) (d := some 74) (.pointer (some ⟨w.heap.size + 3, 5, none⟩)) rfl (by kernel_rfl) (by decide) (by kernel_rfl) (by kernel_rfl) (by kernel_rfl) (fun _ _ _ _ h => h) (HKS.out _ HFs.out) (fun h => absurd h (by decide +kernel)) (.inl (fun _ _ => trivial)) (fun o ho => by cases ho; exact .inl ⟨by rfl, fun w hSw => by (go_simp)⟩) ?_
              simp only [Act.put, List.setIfInBounds_toArray, List.set_cons_zero, List.set_cons_succ]
              refine oneT (i := 17) (by kernel_rfl) (by decide) (fun o ho K' hK => ?_)
              cases ho
              rw [if_pos (by rfl)]
              go_simp
              refine hK.out _ _ (HKS.out _ HFt.out) (fun _ h => absurd h (by decide +kernel)) ?_
              clear hK K'
              try simp only [Act.put, List.setIfInBounds_toArray, List.set_cons_zero, List.set_cons_succ]
              refine doneT (by kernel_rfl) (NoPanic.normal ?_)
              generalize (WE.setCell ⟨w.heap.size + 3, 4, none⟩ (.slice na2 ((nmE R).length + 1) nc2)).setCell ⟨w.heap.size + 3, 5, none⟩ (.slice ia2 ((vvE R).length + 1) ic2) = W6 at *
              clear hc4 hz4 hc5 hz5 HFs HFt
              have HQ := hid HP.out.drew
              clear HP
              go_wp2_with fail
              skip
              have HSq : Hid ((fun W => W.cell? ⟨w.heap.size, 4, none⟩ = some (.slice (some ⟨nb, no, none⟩) A.length nc) ∧ W.cell? ⟨w.heap.size + 1, 4, none⟩ = some (.slice (some ⟨nb', no', none⟩) B.length nc')) W6.drew) := ⟨HQ.out.bx.cell 4, HQ.out.by'.cell 4⟩
              have HXq := hid (HX.out.env (Env.of HQ.out.fr))
              have HYq := hid (HY.out.env (Env.of HQ.out.fr))
              have HBa := behind_any W6.drew (some ⟨nb, no, none⟩) nc (A.map (·.1)) i ea.1 HXq.out.names (by rw [List.length_map]; omega) (by rw [List.length_map]; omega)
              have HBb := behind_any W6.drew (some ⟨nb', no', none⟩) nc' (B.map (·.1)) j ea.1 HYq.out.names (by rw [List.length_map]; omega) (by rw [List.length_map]; omega)
              rw [List.length_map] at HBa HBb
              rw [HS1.out] at HBa
              rw [HS2.out] at HBb
              have HBa' := hid HBa
              have HBb' := hid HBb
              clear HBa HBb
              refine wp_region_noPanic ?_
              refine wp_region_held_drew (S := (fun W => W.cell? ⟨w.heap.size, 4, none⟩ = some (.slice (some ⟨nb, no, none⟩) A.length nc) ∧ W.cell? ⟨w.heap.size + 1, 4, none⟩ = some (.slice (some ⟨nb', no', none⟩) B.length nc'))) (by kernel_rfl) HSq.out (fun _ => ?_)
              generalize W6.drew = W7 at *
              refine takeH (i := 0) (d := some 75) (.pointer (some ⟨w.heap.size, 4, none⟩)) rfl (by kernel_rfl) (by kernel_rfl) (by kernel_rfl) (fun _ _ _ _ h => h) HSq.out (fun o ho => by cases ho; exact .inl ⟨by rfl, fun w hSw => by (obtain ⟨hs0, hs1⟩ := hSw; go_simp)⟩) ?_
              simp only [Act.put, List.setIfInBounds_toArray, List.set_cons_zero, List.set_cons_succ]
              refine takeH (i := 1) (d := some 76) (.slice (some ⟨nb, no, none⟩) A.length nc) rfl (by kernel_rfl) (by kernel_rfl) (by kernel_rfl) (fun _ _ _ _ h => h) HSq.out (fun o ho => by cases ho; exact .inl ⟨by rfl, fun w hSw => by (obtain ⟨hs0, hs1⟩ := hSw; go_simp)⟩) ?_
              simp only [Act.put, List.setIfInBounds_toArray, List.set_cons_zero, List.set_cons_succ]
              refine takeH (i := 2) (d := some 77) (.int .i64 (i : Int)) rfl (by kernel_rfl) (by kernel_rfl) (by kernel_rfl) (fun _ _ _ _ h => h) HSq.out (fun o ho => by cases ho; exact .inl ⟨by rfl, fun w hSw => by (obtain ⟨hs0, hs1⟩ := hSw; go_simp)⟩) ?_
              simp only [Act.put, List.setIfInBounds_toArray, List.set_cons_zero, List.set_cons_succ]
              refine takeH (i := 3) (d := some 78) (.string ⟨ea.1.toArray⟩) rfl (by kernel_rfl) (by kernel_rfl) (by kernel_rfl) (fun _ _ _ _ h => h) HSq.out (fun o ho => by cases ho; exact .inl ⟨by rfl, fun w hSw => by (obtain ⟨hs0, hs1⟩ := hSw; go_simp)⟩) ?_
              simp only [Act.put, List.setIfInBounds_toArray, List.set_cons_zero, List.set_cons_succ]
              refine takeH (i := 5) (d := some 80) (.pointer (some ⟨w.heap.size + 1, 4, none⟩)) rfl (by kernel_rfl) (by kernel_rfl) (by kernel_rfl) (fun _ _ _ _ h => h) HSq.out (fun o ho => by cases ho; exact .inl ⟨by rfl, fun w hSw => by (obtain ⟨hs0, hs1⟩ := hSw; go_simp)⟩) ?_
              simp only [Act.put, List.setIfInBounds_toArray, List.set_cons_zero, List.set_cons_succ]
              refine takeH (i := 6) (d := some 81) (.slice (some ⟨nb', no', none⟩) B.length nc') rfl (by kernel_rfl) (by kernel_rfl) (by kernel_rfl) (fun _ _ _ _ h => h) HSq.out (fun o ho => by cases ho; exact .inl ⟨by rfl, fun w hSw => by (obtain ⟨hs0, hs1⟩ := hSw; go_simp)⟩) ?_
              simp only [Act.put, List.setIfInBounds_toArray, List.set_cons_zero, List.set_cons_succ]
              refine takeH (i := 7) (d := some 82) (.int .i64 (j : Int)) rfl (by kernel_rfl) (by kernel_rfl) (by kernel_rfl) (fun _ _ _ _ h => h) HSq.out (fun o ho => by cases ho; exact .inl ⟨by rfl, fun w hSw => by (obtain ⟨hs0, hs1⟩ := hSw; go_simp)⟩) ?_
              simp only [Act.put, List.setIfInBounds_toArray, List.set_cons_zero, List.set_cons_succ]
              refine takeH (i := 8) (d := some 83) (.string ⟨ea.1.toArray⟩) rfl (by kernel_rfl) (by kernel_rfl) (by kernel_rfl) (fun _ _ _ _ h => h) HSq.out (fun o ho => by cases ho; exact .inl ⟨by rfl, fun w hSw => by (obtain ⟨hs0, hs1⟩ := hSw; go_simp)⟩) ?_
              simp only [Act.put, List.setIfInBounds_toArray, List.set_cons_zero, List.set_cons_succ]
              refine oneH (i := 4) (by kernel_rfl) (fun o ho K' hK => ?_) (by decide)
              cases ho
              rw [if_pos (by rfl)]
              go_simp
              refine HBa'.out.mono ?_
              rintro e wz ⟨rfl, rfl⟩
              refine hK.out _ _ HSq.out ?_
              clear hK K'
              try simp only [Act.put, List.setIfInBounds_toArray, List.set_cons_zero, List.set_cons_succ]
              refine oneH (i := 9) (by kernel_rfl) (fun o ho K' hK => ?_) (by decide)
              cases ho
              rw [if_pos (by rfl)]
              go_simp
              refine HBb'.out.mono ?_
              rintro e wz ⟨rfl, rfl⟩
              refine hK.out _ _ HSq.out ?_
              clear hK K'
              try simp only [Act.put, List.setIfInBounds_toArray, List.set_cons_zero, List.set_cons_succ]
              refine takeH (i := 10) (d := some 7) (.int .i64 ((i + 1 : Nat) : Int)) rfl (by kernel_rfl) (by kernel_rfl) (by kernel_rfl) (fun _ _ _ _ h => h) HSq.out (fun o ho => by cases ho; exact .inl ⟨by rfl, fun w hSw => by (obtain ⟨hs0, hs1⟩ := hSw; go_simp)⟩) ?_
              simp only [Act.put, List.setIfInBounds_toArray, List.set_cons_zero, List.set_cons_succ]
              refine takeH (i := 11) (d := some 8) (.int .i64 ((j : Nat) : Int)) rfl (by kernel_rfl) (by kernel_rfl) (by kernel_rfl) (fun _ _ _ _ h => h) HSq.out (fun o ho => by cases ho; exact .inl ⟨by rfl, fun w hSw => by (obtain ⟨hs0, hs1⟩ := hSw; go_simp)⟩) ?_
              simp only [Act.put, List.setIfInBounds_toArray, List.set_cons_zero, List.set_cons_succ]
              refine wpAnyH_done (by kernel_rfl) (NoPanic.normal ?_) _
              have HRl : Hid ((R ++ [ea]).length ≤ (i + 1) + (j)) := by unfold Hid; rw [List.length_append, List.length_singleton]; omega
              have HRq : Hid ((R ++ [ea]) ++ mg (A.drop (i + 1)) (B.drop (j)) = mg A B) := by unfold Hid; rw [← HR.out, HSt.out]; simp
              go_wp2_with fail
              exact ⟨⟨i + 1, j, R ++ [ea], na2, ia2, nc2, ic2, by omega, by omega, rfl, rfl, HRq.out, HRl.out, HQ.out⟩, by simp only [intsOf, intOf]; omega⟩
            · skip
              cases ho
              rw [if_pos (by rfl)]
              go_simp
              have HFC : Hid (Fr (fun k => (Value.slice ra R.length rc).ownBlock = some k ∨ (Value.slice va R.length vc).ownBlock = some k) w9 (WB.alloc (.cells #[.int .i64 ea.2.2.k, .int .i64 ea.2.2.n, .float .f64 ea.2.2.f, .string ⟨ea.2.2.t.toArray⟩, .slice ea.2.2.na ea.2.2.nl ea.2.2.nc, .slice ea.2.2.ia ea.2.2.il ea.2.2.ic] 26))) := HFB.out.alloc _
              have HGV : Hid (Blk (WB.alloc (.cells #[.int .i64 ea.2.2.k, .int .i64 ea.2.2.n, .float .f64 ea.2.2.f, .string ⟨ea.2.2.t.toArray⟩, .slice ea.2.2.na ea.2.2.nl ea.2.2.nc, .slice ea.2.2.ia ea.2.2.il ea.2.2.ic] 26)) WB.heap.size 26 ea.2.2.cs) := Blk.new _ _ _
              have HLV : Hid (w9.heap.size ≤ WB.heap.size) := HFB.out.size
              have HNC : Hid ((WB.alloc (.cells #[.int .i64 ea.2.2.k, .int .i64 ea.2.2.n, .float .f64 ea.2.2.f, .string ⟨ea.2.2.t.toArray⟩, .slice ea.2.2.na ea.2.2.nl ea.2.2.nc, .slice ea.2.2.ia ea.2.2.il ea.2.2.ic] 26)).ownsRow _ _ _ _ _ _) := owns_of_eq HNB.out (fun k hk => Below.heap_alloc WB _ k (own_lt HNB.out k hk).2)
              have HVC : Hid ((WB.alloc (.cells #[.int .i64 ea.2.2.k, .int .i64 ea.2.2.n, .float .f64 ea.2.2.f, .string ⟨ea.2.2.t.toArray⟩, .slice ea.2.2.na ea.2.2.nl ea.2.2.nc, .slice ea.2.2.ia ea.2.2.il ea.2.2.ic] 26)).ownsRow _ _ _ _ _ _) := owns_of_eq HVB.out (fun k hk => Below.heap_alloc WB _ k (own_lt HVB.out k hk).2)
              have HZC : Hid (w.heap.size + 4 ≤ (WB.alloc (.cells #[.int .i64 ea.2.2.k, .int .i64 ea.2.2.n, .float .f64 ea.2.2.f, .string ⟨ea.2.2.t.toArray⟩, .slice ea.2.2.na ea.2.2.nl ea.2.2.nc, .slice ea.2.2.ia ea.2.2.il ea.2.2.ic] 26)).heap.size) := Nat.le_trans HZB.out (HFC.out.size |> fun _ => by rw [World.size_alloc]; exact Nat.le_succ _)
              have HGN' := hid (HGN.out.alloc (.cells #[.int .i64 ea.2.2.k, .int .i64 ea.2.2.n, .float .f64 ea.2.2.f, .string ⟨ea.2.2.t.toArray⟩, .slice ea.2.2.na ea.2.2.nl ea.2.2.nc, .slice ea.2.2.ia ea.2.2.il ea.2.2.ic] 26))
              refine hK.out _ _ (HKK.out _ HFC.out).1 (fun _ _ => (HKK.out _ HFC.out).2) ?_
              clear hK K'
              try simp only [Act.put, List.setIfInBounds_toArray, List.set_cons_zero, List.set_cons_succ]
              generalize WB.alloc (.cells #[.int .i64 ea.2.2.k, .int .i64 ea.2.2.n, .float .f64 ea.2.2.f, .string ⟨ea.2.2.t.toArray⟩, .slice ea.2.2.na ea.2.2.nl ea.2.2.nc, .slice ea.2.2.ia ea.2.2.il ea.2.2.ic] 26) = WC at *
              refine oneT (i := 4) (by kernel_rfl) (by decide) (fun o ho K' hK => ?_)
              cases ho
              rw [if_pos (by rfl)]
              refine wp_app_name _ _ rfl (w.heap.size + 4) _ (nmE R) ea.1 _ _ (by rfl) (by rfl) HNC.out (HGN'.out.cell 0) HZC.out hRl2.1 ?_
              intro na2 nc2 WD ho2 hg2
              have HFD := hid (HFC.out.grown hg2 (fun k hk => .inl (.inl hk)))
              have HND := hid ho2
              have HVD := hid (owns_of_eq HVC.out (w' := WD) (fun k hk => hg2.block k (own_lt HVC.out k hk).2 (fun e => HAp.out k e.symm hk)))
              have HGV2 := hid (HGV.out.of_eq (w' := WD) (hg2.block _ HGV.out.lt (fun e => by have h1 := (own_lt HN9.out _ e.symm).2; have h2 := HLV.out; omega)))
              have HZD : Hid (w.heap.size + 4 ≤ WD.heap.size) := Nat.le_trans HZC.out hg2.size
              refine hK.out _ _ (HKK.out _ HFD.out).1 (fun _ _ => (HKK.out _ HFD.out).2) ?_
              clear hK K' hg2
              try simp only [Act.put, List.setIfInBounds_toArray, List.set_cons_zero, List.set_cons_succ]
              refine takeT (fun _ => True) (i := 14) (d := some 73) (.pointer (some ⟨w.heap.size + 3, 4, none⟩)) rfl (by kernel_rfl) (by decide) (by kernel_rfl) (by kernel_rfl) (by kernel_rfl) (fun _ _ _ _ h => h) ((HKK.out _ HFD.out).1) (fun _ => (HKK.out _ HFD.out).2) (.inl (fun _ _ => trivial)) (fun o ho => by cases ho; exact .inl ⟨by rfl, fun w hSw => by (go_simp)⟩) ?_
              simp only [Act.put, List.setIfInBounds_toArray, List.set_cons_zero, List.set_cons_succ]
              refine oneT (i := 13) (by kernel_rfl) (by decide) (fun o ho K' hK => ?_)
              cases ho
              rw [if_pos (by rfl)]
              refine wp_app_value _ _ rfl (w.heap.size + 4) _ (vvE R) ea.2.2 _ _ (by rfl) (by rfl) HVD.out HGV2.out HZD.out hRl2.2 ?_
              intro ia2 ic2 WE ho3 hg2
              have HFE := hid (HFD.out.grown hg2 (fun k hk => .inl (.inr hk)))
              have HVE := hid ho3
              have HNE := hid (owns_of_eq HND.out (w' := WE) (fun k hk => hg2.block k (own_lt HND.out k hk).2 (fun e => own_apart HND.out HVD.out (by decide) k hk e.symm)))
              have HZE : Hid (w.heap.size + 4 ≤ WE.heap.size) := Nat.le_trans HZD.out hg2.size
              refine hK.out _ _ (HKK.out _ HFE.out).1 (fun _ _ => (HKK.out _ HFE.out).2) ?_
              clear hK K' hg2
              try simp only [Act.put, List.setIfInBounds_toArray, List.set_cons_zero, List.set_cons_succ]
              have hb4 := HFE.out.blk (HF9.out.blk HK.out.bv (fun h => h)) (fun h => by rcases h with h | h; (· have := (own_lt HK.out.ns _ h).1; omega); (· have := (own_lt HK.out.vs _ h).1; omega))
              have hc4 := hb4.cell 4
              have hz4 := hb4.frozen 4
              have hb5 := hb4.setCell 4 (.slice na2 ((nmE R).length + 1) nc2)
              have hc5 := hb5.cell 5
              have hz5 := hb5.frozen 5
              have HP := hid (po_next (e := ea) HK.out HF9.out HFE.out HNE.out HVE.out)
              have HFs : Hid (Fr (fun k => ((Value.slice ra R.length rc).ownBlock = some k ∨ (Value.slice va R.length vc).ownBlock = some k) ∨ k = w.heap.size + 3) w9 (WE.setCell ⟨w.heap.size + 3, 4, none⟩ (.slice na2 ((nmE R).length + 1) nc2))) := (HFE.out.mono (fun k h => .inl h)).setCell (.inl (.inr rfl)) _
              have HFt : Hid (Fr (fun k => ((Value.slice ra R.length rc).ownBlock = some k ∨ (Value.slice va R.length vc).ownBlock = some k) ∨ k = w.heap.size + 3) w9 ((WE.setCell ⟨w.heap.size + 3, 4, none⟩ (.slice na2 ((nmE R).length + 1) nc2)).setCell ⟨w.heap.size + 3, 5, none⟩ (.slice ia2 ((vvE R).length + 1) ic2))) := HFs.out.setCell (.inl (.inr rfl)) _
              clear hb4 hb5
              refine oneT (i := 15) (by kernel_rfl) (by decide) (fun o ho K' hK => ?_)
              cases ho
              rw [if_pos (by rfl)]
              go_simp
              refine hK.out _ _ (HKS.out _ HFs.out) (fun h => absurd rfl h) ?_
              clear hK K'
              try simp only [Act.put, List.setIfInBounds_toArray, List.set_cons_zero, List.set_cons_succ]
              refine takeT (fun _ => True) (i := 16) (d := some 74) (.pointer (some ⟨w.heap.size + 3, 5, none⟩)) rfl (by kernel_rfl) (by decide) (by kernel_rfl) (by kernel_rfl) (by kernel_rfl) (fun _ _ _ _ h => h) (HKS.out _ HFs.out) (fun h => absurd h (by decide +kernel)) (.inl (fun _ _ => trivial)) (fun o ho => by cases ho; exact .inl ⟨by rfl, fun w hSw => by (go_simp)⟩) ?_
              simp only [Act.put, List.setIfInBounds_toArray, List.set_cons_zero, List.set_cons_succ]
              refine oneT (i := 17) (by kernel_rfl) (by decide) (fun o ho K' hK => ?_)
              cases ho
              rw [if_pos (by rfl)]
              go_simp
              refine hK.out _ _ (HKS.out _ HFt.out) (fun _ h => absurd h (by decide +kernel)) ?_
              clear hK K'
              try simp only [Act.put, List.setIfInBounds_toArray, List.set_cons_zero, List.set_cons_succ]
              refine doneT (by kernel_rfl) (NoPanic.normal ?_)
              generalize (WE.setCell ⟨w.heap.size + 3, 4, none⟩ (.slice na2 ((nmE R).length + 1) nc2)).setCell ⟨w.heap.size + 3, 5, none⟩ (.slice ia2 ((vvE R).length + 1) ic2) = W6 at *
              clear hc4 hz4 hc5 hz5 HFs HFt
              have HQ := hid HP.out.drew
              clear HP
              go_wp2_with fail
              skip
              have HSq : Hid ((fun W => W.cell? ⟨w.heap.size, 4, none⟩ = some (.slice (some ⟨nb, no, none⟩) A.length nc) ∧ W.cell? ⟨w.heap.size + 1, 4, none⟩ = some (.slice (some ⟨nb', no', none⟩) B.length nc')) W6.drew) := ⟨HQ.out.bx.cell 4, HQ.out.by'.cell 4⟩
              have HXq := hid (HX.out.env (Env.of HQ.out.fr))
              have HYq := hid (HY.out.env (Env.of HQ.out.fr))
              have HBa := behind_any W6.drew (some ⟨nb, no, none⟩) nc (A.map (·.1)) i ea.1 HXq.out.names (by rw [List.length_map]; omega) (by rw [List.length_map]; omega)
              have HBb := behind_any W6.drew (some ⟨nb', no', none⟩) nc' (B.map (·.1)) j ea.1 HYq.out.names (by rw [List.length_map]; omega) (by rw [List.length_map]; omega)
              rw [List.length_map] at HBa HBb
              rw [HS1.out] at HBa
              rw [HS2.out] at HBb
              have HBa' := hid HBa
              have HBb' := hid HBb
              clear HBa HBb
              refine wp_region_noPanic ?_
              refine wp_region_held_drew (S := (fun W => W.cell? ⟨w.heap.size, 4, none⟩ = some (.slice (some ⟨nb, no, none⟩) A.length nc) ∧ W.cell? ⟨w.heap.size + 1, 4, none⟩ = some (.slice (some ⟨nb', no', none⟩) B.length nc'))) (by kernel_rfl) HSq.out (fun _ => ?_)
              generalize W6.drew = W7 at *
              refine takeH (i := 0) (d := some 75) (.pointer (some ⟨w.heap.size, 4, none⟩)) rfl (by kernel_rfl) (by kernel_rfl) (by kernel_rfl) (fun _ _ _ _ h => h) HSq.out (fun o ho => by cases ho; exact .inl ⟨by rfl, fun w hSw => by (obtain ⟨hs0, hs1⟩ := hSw; go_simp)⟩) ?_
              simp only [Act.put, List.setIfInBounds_toArray, List.set_cons_zero, List.set_cons_succ]
              refine takeH (i := 1) (d := some 76) (.slice (some ⟨nb, no, none⟩) A.length nc) rfl (by kernel_rfl) (by kernel_rfl) (by kernel_rfl) (fun _ _ _ _ h => h) HSq.out (fun o ho => by cases ho; exact .inl ⟨by rfl, fun w hSw => by (obtain ⟨hs0, hs1⟩ := hSw; go_simp)⟩) ?_
              simp only [Act.put, List.setIfInBounds_toArray, List.set_cons_zero, List.set_cons_succ]
              refine takeH (i := 2) (d := some 77) (.int .i64 (i : Int)) rfl (by kernel_rfl) (by kernel_rfl) (by kernel_rfl) (fun _ _ _ _ h => h) HSq.out (fun o ho => by cases ho; exact .inl ⟨by rfl, fun w hSw => by (obtain ⟨hs0, hs1⟩ := hSw; go_simp)⟩) ?_
              simp only [Act.put, List.setIfInBounds_toArray, List.set_cons_zero, List.set_cons_succ]
              refine takeH (i := 3) (d := some 78) (.string ⟨ea.1.toArray⟩) rfl (by kernel_rfl) (by kernel_rfl) (by kernel_rfl) (fun _ _ _ _ h => h) HSq.out (fun o ho => by cases ho; exact .inl ⟨by rfl, fun w hSw => by (obtain ⟨hs0, hs1⟩ := hSw; go_simp)⟩) ?_
              simp only [Act.put, List.setIfInBounds_toArray, List.set_cons_zero, List.set_cons_succ]
              refine takeH (i := 5) (d := some 80) (.pointer (some ⟨w.heap.size + 1, 4, none⟩)) rfl (by kernel_rfl) (by kernel_rfl) (by kernel_rfl) (fun _ _ _ _ h => h) HSq.out (fun o ho => by cases ho; exact .inl ⟨by rfl, fun w hSw => by (obtain ⟨hs0, hs1⟩ := hSw; go_simp)⟩) ?_
              simp only [Act.put, List.setIfInBounds_toArray, List.set_cons_zero, List.set_cons_succ]
              refine takeH (i := 6) (d := some 81) (.slice (some ⟨nb', no', none⟩) B.length nc') rfl (by kernel_rfl) (by kernel_rfl) (by kernel_rfl) (fun _ _ _ _ h => h) HSq.out (fun o ho => by cases ho; exact .inl ⟨by rfl, fun w hSw => by (obtain ⟨hs0, hs1⟩ := hSw; go_simp)⟩) ?_
              simp only [Act.put, List.setIfInBounds_toArray, List.set_cons_zero, List.set_cons_succ]
              refine takeH (i := 7) (d := some 82) (.int .i64 (j : Int)) rfl (by kernel_rfl) (by kernel_rfl) (by kernel_rfl) (fun _ _ _ _ h => h) HSq.out (fun o ho => by cases ho; exact .inl ⟨by rfl, fun w hSw => by (obtain ⟨hs0, hs1⟩ := hSw; go_simp)⟩) ?_
              simp only [Act.put, List.setIfInBounds_toArray, List.set_cons_zero, List.set_cons_succ]
              refine takeH (i := 8) (d := some 83) (.string ⟨ea.1.toArray⟩) rfl (by kernel_rfl) (by kernel_rfl) (by kernel_rfl) (fun _ _ _ _ h => h) HSq.out (fun o ho => by cases ho; exact .inl ⟨by rfl, fun w hSw => by (obtain ⟨hs0, hs1⟩ := hSw; go_simp)⟩) ?_
              simp only [Act.put, List.setIfInBounds_toArray, List.set_cons_zero, List.set_cons_succ]
              refine oneH (i := 4) (by kernel_rfl) (fun o ho K' hK => ?_) (by decide)
              cases ho
              rw [if_pos (by rfl)]
              go_simp
              refine HBa'.out.mono ?_
              rintro e wz ⟨rfl, rfl⟩
              refine hK.out _ _ HSq.out ?_
              clear hK K'
              try simp only [Act.put, List.setIfInBounds_toArray, List.set_cons_zero, List.set_cons_succ]
              refine oneH (i := 9) (by kernel_rfl) (fun o ho K' hK => ?_) (by decide)
              cases ho
              rw [if_pos (by rfl)]
              go_simp
              refine HBb'.out.mono ?_
              rintro e wz ⟨rfl, rfl⟩
              refine hK.out _ _ HSq.out ?_
              clear hK K'
              try simp only [Act.put, List.setIfInBounds_toArray, List.set_cons_zero, List.set_cons_succ]
              refine takeH (i := 10) (d := some 7) (.int .i64 ((i + 1 : Nat) : Int)) rfl (by kernel_rfl) (by kernel_rfl) (by kernel_rfl) (fun _ _ _ _ h => h) HSq.out (fun o ho => by cases ho; exact .inl ⟨by rfl, fun w hSw => by (obtain ⟨hs0, hs1⟩ := hSw; go_simp)⟩) ?_
              simp only [Act.put, List.setIfInBounds_toArray, List.set_cons_zero, List.set_cons_succ]
              refine takeH (i := 11) (d := some 8) (.int .i64 ((j : Nat) : Int)) rfl (by kernel_rfl) (by kernel_rfl) (by kernel_rfl) (fun _ _ _ _ h => h) HSq.out (fun o ho => by cases ho; exact .inl ⟨by rfl, fun w hSw => by (obtain ⟨hs0, hs1⟩ := hSw; go_simp)⟩) ?_
              simp only [Act.put, List.setIfInBounds_toArray, List.set_cons_zero, List.set_cons_succ]
              refine wpAnyH_done (by kernel_rfl) (NoPanic.normal ?_) _
              have HRl : Hid ((R ++ [ea]).length ≤ (i + 1) + (j)) := by unfold Hid; rw [List.length_append, List.length_singleton]; omega
              have HRq : Hid ((R ++ [ea]) ++ mg (A.drop (i + 1)) (B.drop (j)) = mg A B) := by unfold Hid; rw [← HR.out, HSt.out]; simp
              go_wp2_with fail
              exact ⟨⟨i + 1, j, R ++ [ea], na2, ia2, nc2, ic2, by omega, by omega, rfl, rfl, HRq.out, HRl.out, HQ.out⟩, by simp only [intsOf, intOf]; omega⟩
          · skip
            cases ho
            rw [if_pos (by rfl)]
            go_simp
            have HFB : Hid (Fr (fun k => (Value.slice ra R.length rc).ownBlock = some k ∨ (Value.slice va R.length vc).ownBlock = some k) w9 (W0.alloc (.cells #[.int .i64 ea.2.2.k, .int .i64 ea.2.2.n, .float .f64 ea.2.2.f, .string ⟨ea.2.2.t.toArray⟩, .slice ea.2.2.na ea.2.2.nl ea.2.2.nc, .slice ea.2.2.ia ea.2.2.il ea.2.2.ic] 26))) := HFA.out.alloc _
            have HGV : Hid (Blk (W0.alloc (.cells #[.int .i64 ea.2.2.k, .int .i64 ea.2.2.n, .float .f64 ea.2.2.f, .string ⟨ea.2.2.t.toArray⟩, .slice ea.2.2.na ea.2.2.nl ea.2.2.nc, .slice ea.2.2.ia ea.2.2.il ea.2.2.ic] 26)) W0.heap.size 26 ea.2.2.cs) := Blk.new _ _ _
            have HLV : Hid (w9.heap.size ≤ W0.heap.size) := HFA.out.size
            have HNB : Hid ((W0.alloc (.cells #[.int .i64 ea.2.2.k, .int .i64 ea.2.2.n, .float .f64 ea.2.2.f, .string ⟨ea.2.2.t.toArray⟩, .slice ea.2.2.na ea.2.2.nl ea.2.2.nc, .slice ea.2.2.ia ea.2.2.il ea.2.2.ic] 26)).ownsRow _ _ _ _ _ _) := owns_of_eq HNA.out (fun k hk => Below.heap_alloc W0 _ k (own_lt HNA.out k hk).2)
            have HVB : Hid ((W0.alloc (.cells #[.int .i64 ea.2.2.k, .int .i64 ea.2.2.n, .float .f64 ea.2.2.f, .string ⟨ea.2.2.t.toArray⟩, .slice ea.2.2.na ea.2.2.nl ea.2.2.nc, .slice ea.2.2.ia ea.2.2.il ea.2.2.ic] 26)).ownsRow _ _ _ _ _ _) := owns_of_eq HVA.out (fun k hk => Below.heap_alloc W0 _ k (own_lt HVA.out k hk).2)
            have HZB : Hid (w.heap.size + 4 ≤ (W0.alloc (.cells #[.int .i64 ea.2.2.k, .int .i64 ea.2.2.n, .float .f64 ea.2.2.f, .string ⟨ea.2.2.t.toArray⟩, .slice ea.2.2.na ea.2.2.nl ea.2.2.nc, .slice ea.2.2.ia ea.2.2.il ea.2.2.ic] 26)).heap.size) := Nat.le_trans HZA.out (HFB.out.size |> fun _ => by rw [World.size_alloc]; exact Nat.le_succ _)
            refine hK.out _ _ (HKK.out _ HFB.out).1 (fun _ _ => (HKK.out _ HFB.out).2) ?_
            clear hK K'
            try simp only [Act.put, List.setIfInBounds_toArray, List.set_cons_zero, List.set_cons_succ]
            generalize W0.alloc (.cells #[.int .i64 ea.2.2.k, .int .i64 ea.2.2.n, .float .f64 ea.2.2.f, .string ⟨ea.2.2.t.toArray⟩, .slice ea.2.2.na ea.2.2.nl ea.2.2.nc, .slice ea.2.2.ia ea.2.2.il ea.2.2.ic] 26) = WB at *
            refine oneT (i := 3) (by kernel_rfl) (by decide) (fun o ho K' hK => ?_)
            cases ho
            rw [if_pos (by rfl)]
            go_simp
            have HFC : Hid (Fr (fun k => (Value.slice ra R.length rc).ownBlock = some k ∨ (Value.slice va R.length vc).ownBlock = some k) w9 (WB.alloc (.cells #[.string ⟨ea.1.toArray⟩] 9))) := HFB.out.alloc _
            have HGN : Hid (Blk (WB.alloc (.cells #[.string ⟨ea.1.toArray⟩] 9)) WB.heap.size 9 [.string ⟨ea.1.toArray⟩]) := Blk.new _ _ _
            have HLN : Hid (w9.heap.size ≤ WB.heap.size) := HFB.out.size
            have HNC : Hid ((WB.alloc (.cells #[.string ⟨ea.1.toArray⟩] 9)).ownsRow _ _ _ _ _ _) := owns_of_eq HNB.out (fun k hk => Below.heap_alloc WB _ k (own_lt HNB.out k hk).2)
            have HVC : Hid ((WB.alloc (.cells #[.string ⟨ea.1.toArray⟩] 9)).ownsRow _ _ _ _ _ _) := owns_of_eq HVB.out (fun k hk => Below.heap_alloc WB _ k (own_lt HVB.out k hk).2)
            have HZC : Hid (w.heap.size + 4 ≤ (WB.alloc (.cells #[.string ⟨ea.1.toArray⟩] 9)).heap.size) := Nat.le_trans HZB.out (HFC.out.size |> fun _ => by rw [World.size_alloc]; exact Nat.le_succ _)
            have HGV' := hid (HGV.out.alloc (.cells #[.string ⟨ea.1.toArray⟩] 9))
            refine hK.out _ _ (HKK.out _ HFC.out).1 (fun _ _ => (HKK.out _ HFC.out).2) ?_
            clear hK K'
            try simp only [Act.put, List.setIfInBounds_toArray, List.set_cons_zero, List.set_cons_succ]
            generalize WB.alloc (.cells #[.string ⟨ea.1.toArray⟩] 9) = WC at *
            refine oneT (i := 4) (by kernel_rfl) (by decide) (fun o ho K' hK => ?_)
            cases ho
            rw [if_pos (by rfl)]
            refine wp_app_name _ _ rfl (w.heap.size + 4) _ (nmE R) ea.1 _ _ (by rfl) (by rfl) HNC.out (HGN.out.cell 0) HZC.out hRl2.1 ?_
            intro na2 nc2 WD ho2 hg2
            have HFD := hid (HFC.out.grown hg2 (fun k hk => .inl (.inl hk)))
            have HND := hid ho2
            have HVD := hid (owns_of_eq HVC.out (w' := WD) (fun k hk => hg2.block k (own_lt HVC.out k hk).2 (fun e => HAp.out k e.symm hk)))
            have HGV'2 := hid (HGV'.out.of_eq (w' := WD) (hg2.block _ HGV'.out.lt (fun e => by have h1 := (own_lt HN9.out _ e.symm).2; have h2 := HLV.out; omega)))
            have HZD : Hid (w.heap.size + 4 ≤ WD.heap.size) := Nat.le_trans HZC.out hg2.size
            refine hK.out _ _ (HKK.out _ HFD.out).1 (fun _ _ => (HKK.out _ HFD.out).2) ?_
            clear hK K' hg2
            try simp only [Act.put, List.setIfInBounds_toArray, List.set_cons_zero, List.set_cons_succ]
            refine takeT (fun _ => True) (i := 14) (d := some 73) (.pointer (some ⟨w.heap.size + 3, 4, none⟩)) rfl (by kernel_rfl) (by decide) (by kernel_rfl) (by kernel_rfl) (by kernel_rfl) (fun _ _ _ _ h => h) ((HKK.out _ HFD.out).1) (fun _ => (HKK.out _ HFD.out).2) (.inl (fun _ _ => trivial)) (fun o ho => by cases ho; exact .inl ⟨by rfl, fun w hSw => by (go_simp)⟩) ?_
            simp only [Act.put, List.setIfInBounds_toArray, List.set_cons_zero, List.set_cons_succ]
            refine oneT (i := 13) (by kernel_rfl) (by decide) (fun o ho K' hK => ?_)
            cases ho
            rw [if_pos (by rfl)]
            refine wp_app_value _ _ rfl (w.heap.size + 4) _ (vvE R) ea.2.2 _ _ (by rfl) (by rfl) HVD.out HGV'2.out HZD.out hRl2.2 ?_
            intro ia2 ic2 WE ho3 hg2
            have HFE := hid (HFD.out.grown hg2 (fun k hk => .inl (.inr hk)))
            have HVE := hid ho3
            have HNE := hid (owns_of_eq HND.out (w' := WE) (fun k hk => hg2.block k (own_lt HND.out k hk).2 (fun e => own_apart HND.out HVD.out (by decide) k hk e.symm)))
            have HZE : Hid (w.heap.size + 4 ≤ WE.heap.size) := Nat.le_trans HZD.out hg2.size
            refine hK.out _ _ (HKK.out _ HFE.out).1 (fun _ _ => (HKK.out _ HFE.out).2) ?_
            clear hK K' hg2
            try simp only [Act.put, List.setIfInBounds_toArray, List.set_cons_zero, List.set_cons_succ]
            have hb4 := HFE.out.blk (HF9.out.blk HK.out.bv (fun h => h)) (fun h => by rcases h with h | h; (· have := (own_lt HK.out.ns _ h).1; omega); (· have := (own_lt HK.out.vs _ h).1; omega))
            have hc4 := hb4.cell 4
            have hz4 := hb4.frozen 4
            have hb5 := hb4.setCell 4 (.slice na2 ((nmE R).length + 1) nc2)
            have hc5 := hb5.cell 5
            have hz5 := hb5.frozen 5
            have HP := hid (po_next (e := ea) HK.out HF9.out HFE.out HNE.out HVE.out)
            have HFs : Hid (Fr (fun k => ((Value.slice ra R.length rc).ownBlock = some k ∨ (Value.slice va R.length vc).ownBlock = some k) ∨ k = w.heap.size + 3) w9 (WE.setCell ⟨w.heap.size + 3, 4, none⟩ (.slice na2 ((nmE R).length + 1) nc2))) := (HFE.out.mono (fun k h => .inl h)).setCell (.inl (.inr rfl)) _
            have HFt : Hid (Fr (fun k => ((Value.slice ra R.length rc).ownBlock = some k ∨ (Value.slice va R.length vc).ownBlock = some k) ∨ k = w.heap.size + 3) w9 ((WE.setCell ⟨w.heap.size + 3, 4, none⟩ (.slice na2 ((nmE R).length + 1) nc2)).setCell ⟨w.heap.size + 3, 5, none⟩ (.slice ia2 ((vvE R).length + 1) ic2))) := HFs.out.setCell (.inl (.inr rfl)) _
            clear hb4 hb5
            refine oneT (i := 15) (by kernel_rfl) (by decide) (fun o ho K' hK => ?_)
            cases ho
            rw [if_pos (by rfl)]
            go_simp
            refine hK.out _ _ (HKS.out _ HFs.out) (fun h => absurd rfl h) ?_
            clear hK K'
            try simp only [Act.put, List.setIfInBounds_toArray, List.set_cons_zero, List.set_cons_succ]
            refine takeT (fun _ => True) (i := 16) (d := some 74) (.pointer (some ⟨w.heap.size + 3, 5, none⟩)) rfl (by kernel_rfl) (by decide) (by kernel_rfl) (by kernel_rfl) (by kernel_rfl) (fun _ _ _ _ h => h) (HKS.out _ HFs.out) (fun h => absurd h (by decide +kernel)) (.inl (fun _ _ => trivial)) (fun o ho => by cases ho; exact .inl ⟨by rfl, fun w hSw => by (go_simp)⟩) ?_
            simp only [Act.put, List.setIfInBounds_toArray, List.set_cons_zero, List.set_cons_succ]
            refine oneT (i := 17) (by kernel_rfl) (by decide) (fun o ho K' hK => ?_)
            cases ho
            rw [if_pos (by rfl)]
            go_simp
            refine hK.out _ _ (HKS.out _ HFt.out) (fun _ h => absurd h (by decide +kernel)) ?_
            clear hK K'
            try simp only [Act.put, List.setIfInBounds_toArray, List.set_cons_zero, List.set_cons_succ]
            refine doneT (by kernel_rfl) (NoPanic.normal ?_)
            generalize (WE.setCell ⟨w.heap.size + 3, 4, none⟩ (.slice na2 ((nmE R).length + 1) nc2)).setCell ⟨w.heap.size + 3, 5, none⟩ (.slice ia2 ((vvE R).length + 1) ic2) = W6 at *
            clear hc4 hz4 hc5 hz5 HFs HFt
            have HQ := hid HP.out.drew
            clear HP
            go_wp2_with fail
            skip
            have HSq : Hid ((fun W => W.cell? ⟨w.heap.size, 4, none⟩ = some (.slice (some ⟨nb, no, none⟩) A.length nc) ∧ W.cell? ⟨w.heap.size + 1, 4, none⟩ = some (.slice (some ⟨nb', no', none⟩) B.length nc')) W6.drew) := ⟨HQ.out.bx.cell 4, HQ.out.by'.cell 4⟩
            have HXq := hid (HX.out.env (Env.of HQ.out.fr))
            have HYq := hid (HY.out.env (Env.of HQ.out.fr))
            have HBa := behind_any W6.drew (some ⟨nb, no, none⟩) nc (A.map (·.1)) i ea.1 HXq.out.names (by rw [List.length_map]; omega) (by rw [List.length_map]; omega)
            have HBb := behind_any W6.drew (some ⟨nb', no', none⟩) nc' (B.map (·.1)) j ea.1 HYq.out.names (by rw [List.length_map]; omega) (by rw [List.length_map]; omega)
            rw [List.length_map] at HBa HBb
            rw [HS1.out] at HBa
            rw [HS2.out] at HBb
            have HBa' := hid HBa
            have HBb' := hid HBb
            clear HBa HBb
            refine wp_region_noPanic ?_
            refine wp_region_held_drew (S := (fun W => W.cell? ⟨w.heap.size, 4, none⟩ = some (.slice (some ⟨nb, no, none⟩) A.length nc) ∧ W.cell? ⟨w.heap.size + 1, 4, none⟩ = some (.slice (some ⟨nb', no', none⟩) B.length nc'))) (by kernel_rfl) HSq.out (fun _ => ?_)
            generalize W6.drew = W7 at *
            refine takeH (i := 0) (d := some 75) (.pointer (some ⟨w.heap.size, 4, none⟩)) rfl (by kernel_rfl) (by kernel_rfl) (by kernel_rfl) (fun _ _ _ _ h => h) HSq.out (fun o ho => by cases ho; exact .inl ⟨by rfl, fun w hSw => by (obtain ⟨hs0, hs1⟩ := hSw; go_simp)⟩) ?_
            simp only [Act.put, List.setIfInBounds_toArray, List.set_cons_zero, List.set_cons_succ]
            refine takeH (i := 1) (d := some 76) (.slice (some ⟨nb, no, none⟩) A.length nc) rfl (by kernel_rfl) (by kernel_rfl) (by kernel_rfl) (fun _ _ _ _ h => h) HSq.out (fun o ho => by cases ho; exact .inl ⟨by rfl, fun w hSw => by (obtain ⟨hs0, hs1⟩ := hSw; go_simp)⟩) ?_
            simp only [Act.put, List.setIfInBounds_toArray, List.set_cons_zero, List.set_cons_succ]
            refine takeH (i := 2) (d := some 77) (.int .i64 (i : Int)) rfl (by kernel_rfl) (by kernel_rfl) (by kernel_rfl) (fun _ _ _ _ h => h) HSq.out (fun o ho => by cases ho; exact .inl ⟨by rfl, fun w hSw => by (obtain ⟨hs0, hs1⟩ := hSw; go_simp)⟩) ?_
            simp only [Act.put, List.setIfInBounds_toArray, List.set_cons_zero, List.set_cons_succ]
            refine takeH (i := 3) (d := some 78) (.string ⟨ea.1.toArray⟩) rfl (by kernel_rfl) (by kernel_rfl) (by kernel_rfl) (fun _ _ _ _ h => h) HSq.out (fun o ho => by cases ho; exact .inl ⟨by rfl, fun w hSw => by (obtain ⟨hs0, hs1⟩ := hSw; go_simp)⟩) ?_
            simp only [Act.put, List.setIfInBounds_toArray, List.set_cons_zero, List.set_cons_succ]
            refine takeH (i := 5) (d := some 80) (.pointer (some ⟨w.heap.size + 1, 4, none⟩)) rfl (by kernel_rfl) (by kernel_rfl) (by kernel_rfl) (fun _ _ _ _ h => h) HSq.out (fun o ho => by cases ho; exact .inl ⟨by rfl, fun w hSw => by (obtain ⟨hs0, hs1⟩ := hSw; go_simp)⟩) ?_
            simp only [Act.put, List.setIfInBounds_toArray, List.set_cons_zero, List.set_cons_succ]
            refine takeH (i := 6) (d := some 81) (.slice (some ⟨nb', no', none⟩) B.length nc') rfl (by kernel_rfl) (by kernel_rfl) (by kernel_rfl) (fun _ _ _ _ h => h) HSq.out (fun o ho => by cases ho; exact .inl ⟨by rfl, fun w hSw => by (obtain ⟨hs0, hs1⟩ := hSw; go_simp)⟩) ?_
            simp only [Act.put, List.setIfInBounds_toArray, List.set_cons_zero, List.set_cons_succ]
            refine takeH (i := 7) (d := some 82) (.int .i64 (j : Int)) rfl (by kernel_rfl) (by kernel_rfl) (by kernel_rfl) (fun _ _ _ _ h => h) HSq.out (fun o ho => by cases ho; exact .inl ⟨by rfl, fun w hSw => by (obtain ⟨hs0, hs1⟩ := hSw; go_simp)⟩) ?_
            simp only [Act.put, List.setIfInBounds_toArray, List.set_cons_zero, List.set_cons_succ]
            refine takeH (i := 8) (d := some 83) (.string ⟨ea.1.toArray⟩) rfl (by kernel_rfl) (by kernel_rfl) (by kernel_rfl) (fun _ _ _ _ h => h) HSq.out (fun o ho => by cases ho; exact .inl ⟨by rfl, fun w hSw => by (obtain ⟨hs0, hs1⟩ := hSw; go_simp)⟩) ?_
            simp only [Act.put, List.setIfInBounds_toArray, List.set_cons_zero, List.set_cons_succ]
            refine oneH (i := 4) (by kernel_rfl) (fun o ho K' hK => ?_) (by decide)
            cases ho
            rw [if_pos (by rfl)]
            go_simp
            refine HBa'.out.mono ?_
            rintro e wz ⟨rfl, rfl⟩
            refine hK.out _ _ HSq.out ?_
            clear hK K'
            try simp only [Act.put, List.setIfInBounds_toArray, List.set_cons_zero, List.set_cons_succ]
            refine oneH (i := 9) (by kernel_rfl) (fun o ho K' hK => ?_) (by decide)
            cases ho
            rw [if_pos (by rfl)]
            go_simp
            refine HBb'.out.mono ?_
            rintro e wz ⟨rfl, rfl⟩
            refine hK.out _ _ HSq.out ?_
            clear hK K'
            try simp only [Act.put, List.setIfInBounds_toArray, List.set_cons_zero, List.set_cons_succ]
            refine takeH (i := 10) (d := some 7) (.int .i64 ((i + 1 : Nat) : Int)) rfl (by kernel_rfl) (by kernel_rfl) (by kernel_rfl) (fun _ _ _ _ h => h) HSq.out (fun o ho => by cases ho; exact .inl ⟨by rfl, fun w hSw => by (obtain ⟨hs0, hs1⟩ := hSw; go_simp)⟩) ?_
            simp only [Act.put, List.setIfInBounds_toArray, List.set_cons_zero, List.set_cons_succ]
            refine takeH (i := 11) (d := some 8) (.int .i64 ((j : Nat) : Int)) rfl (by kernel_rfl) (by kernel_rfl) (by kernel_rfl) (fun _ _ _ _ h => h) HSq.out (fun o ho => by cases ho; exact .inl ⟨by rfl, fun w hSw => by (obtain ⟨hs0, hs1⟩ := hSw; go_simp)⟩) ?_
            simp only [Act.put, List.setIfInBounds_toArray, List.set_cons_zero, List.set_cons_succ]
            refine wpAnyH_done (by kernel_rfl) (NoPanic.normal ?_) _
            have HRl : Hid ((R ++ [ea]).length ≤ (i + 1) + (j)) := by unfold Hid; rw [List.length_append, List.length_singleton]; omega
            have HRq : Hid ((R ++ [ea]) ++ mg (A.drop (i + 1)) (B.drop (j)) = mg A B) := by unfold Hid; rw [← HR.out, HSt.out]; simp
            go_wp2_with fail
            exact ⟨⟨i + 1, j, R ++ [ea], na2, ia2, nc2, ic2, by omega, by omega, rfl, rfl, HRq.out, HRl.out, HQ.out⟩, by simp only [intsOf, intOf]; omega⟩
        · skip
          obtain ⟨nb, no, en, hn⟩ := HXr.out.name i hilt
          simp only at en
          subst en
          obtain ⟨ib, io, ei, hit⟩ := HXr.out.item i hilt
          simp only at ei
          subst ei
          obtain ⟨ib0, io0, ei0, hit0⟩ := HX.out.item i hilt
          simp only [Option.some.injEq, Addr.mk.injEq, and_true] at ei0
          obtain ⟨rfl, rfl⟩ := ei0
          have HIt0 := hid hit0
          clear hit hit0
          have hi1 : (i : Int) < ((A.length : Nat) : Int) := by omega
          have hj1 : j = B.length := by omega
          subst hj1
          obtain ⟨hst, hs1, hs2⟩ := step_under hilt hj hless
          rw [hs1, hs2] at hst
          have HSt := hid hst
          have HS1 := hid hs1
          have HS2 := hid hs2
          clear hst hs1 hs2 hless
          generalize hA : A[i] = ea at *
          clear hA
          go_wp2_with (refine wpList_storeV ⟨k', n', f', t', na', B.length, nc', ia', B.length, ic'⟩ (by rfl) _ _ (by rfl) HBz.out (by rfl) (by rfl) ?_; intro w8 b8 f8; have HF8 := hid (bx_fr f8); have HW8 := hid b8; obtain ⟨c0, c1, c2, c3, c4, c5⟩ := (HF8.out.blk HK.out.bx (fun h => h)).six; obtain ⟨d0, d1, d2, d3, d4, d5⟩ := (HF8.out.blk HK.out.by' (fun h => h)).six; have hn8 := (Env.of HF8.out).cell hn; clear b8 f8)
          go_quiet (fail)
          have HW9q : Hid (Blk (w8.drewN nq) wr.heap.size 26 (Vv.mk k' n' f' t' na' B.length nc' ia' B.length ic').cs) := HW8.out
          go_wp2_with (refine wpList_storeV ⟨k, n, f, t, some ⟨nb, no, none⟩, A.length, nc, some ⟨ib, io, none⟩, A.length, ic⟩ (by rfl) _ _ (by rfl) HW9q.out (by rfl) (by rfl) ?_; intro w9 b9 f9; have HF9 := hid (HF8.out.drewN nq |>.trans f9 (fun i hi => .inr (by omega))); have HW9 := hid b9; obtain ⟨q0, q1, q2, q3, q4, q5⟩ := HW9.out.six; have hn9 := (Env.of HF9.out).cell hn; clear b9 f9)
          have HKK : Hid (∀ W, Fr (fun k => (Value.slice ra R.length rc).ownBlock = some k ∨ (Value.slice va R.length vc).ownBlock = some k) w9 W → ((fun W => W.cell? ⟨wr.heap.size, 5, none⟩ = some (.slice (some ⟨ib, io, none⟩) A.length ic) ∧ sixB W ib (io + i * 6) ea.2.2) W) ∧ ((fun W => W.cell? ⟨w.heap.size + 3, 4, none⟩ = some (.slice ra R.length rc) ∧ W.cell? ⟨w.heap.size + 3, 5, none⟩ = some (.slice va R.length vc)) W)) := fun W fr => by
            have hrow : ∀ k, ((Value.slice ra R.length rc).ownBlock = some k ∨ (Value.slice va R.length vc).ownBlock = some k) → w.heap.size + 4 ≤ k ∧ k < wr.heap.size := fun k h => by
              rcases h with h | h
              · exact own_lt HK.out.ns k h
              · exact own_lt HK.out.vs k h
            have henv : Env w W := (Env.of (HK.out.fr.trans HF9.out (fun _ h => h.elim))).fr fr (fun k hk => by have := hrow k hk; omega)
            have hb := fr.blk (HF9.out.blk HK.out.bv (fun h => h)) (fun h => by have := hrow _ h; omega)
            exact ⟨⟨(fr.blk HW9.out (fun h => by have := hrow _ h; omega)).cell 5, (HIt0.out.env henv).six⟩, hb.cell 4, hb.cell 5⟩
          have HKS : Hid (∀ W, Fr (fun k => ((Value.slice ra R.length rc).ownBlock = some k ∨ (Value.slice va R.length vc).ownBlock = some k) ∨ k = w.heap.size + 3) w9 W → ((fun W => W.cell? ⟨wr.heap.size, 5, none⟩ = some (.slice (some ⟨ib, io, none⟩) A.length ic) ∧ sixB W ib (io + i * 6) ea.2.2) W)) := fun W fr => by
            have hrow : ∀ k, ((Value.slice ra R.length rc).ownBlock = some k ∨ (Value.slice va R.length vc).ownBlock = some k) → w.heap.size + 4 ≤ k ∧ k < wr.heap.size := fun k h => by
              rcases h with h | h
              · exact own_lt HK.out.ns k h
              · exact own_lt HK.out.vs k h
            have hbig : w.heap.size + 3 < wr.heap.size := HK.out.bv.lt
            have henv : Env w W := (Env.of (HK.out.fr.trans HF9.out (fun _ h => h.elim))).fr fr (fun k hk => by rcases hk with hk | hk; (· have := hrow k hk; omega); (· omega))
            exact ⟨(fr.blk HW9.out (fun h => by rcases h with h | h; (· have := hrow _ h; omega); (· omega))).cell 5, (HIt0.out.env henv).six⟩
          have HN9 : Hid (w9.ownsRow (w.heap.size + 4) 9 1 (.slice ra R.length rc) (nmE R).length (strC (nmE R))) := owns_of_eq HK.out.ns (fun k hk => HF9.out.block k (own_lt HK.out.ns k hk).2 (fun h => h))
          have HV9 : Hid (w9.ownsRow (w.heap.size + 4) 26 6 (.slice va R.length vc) (vvE R).length (flatV (vvE R))) := owns_of_eq HK.out.vs (fun k hk => HF9.out.block k (own_lt HK.out.vs k hk).2 (fun h => h))
          have HAp := hid (own_apart HN9.out HV9.out (by decide))
          have HSz : Hid (w.heap.size + 4 ≤ w9.heap.size) := by unfold Hid; have h1 := HF9.out.size; have h2 := HK.out.bv.lt; omega
          have HF0 : Hid (Fr (fun k => (Value.slice ra R.length rc).ownBlock = some k ∨ (Value.slice va R.length vc).ownBlock = some k) w9 w9.drew) := (Fr.refl _ w9).drew
          have hRl2 : (nmE R).length ≤ 1000 ∧ (vvE R).length ≤ 1000 := by rw [nmE_len, vvE_len]; omega
          refine wp_region_noPanic ?_
          refine region_till (fun W => W.cell? ⟨wr.heap.size, 5, none⟩ = some (.slice (some ⟨ib, io, none⟩) A.length ic) ∧ sixB W ib (io + i * 6) ea.2.2) (fun W => W.cell? ⟨w.heap.size + 3, 4, none⟩ = some (.slice ra R.length rc) ∧ W.cell? ⟨w.heap.size + 3, 5, none⟩ = some (.slice va R.length vc)) 15 (by kernel_rfl) ?_
          have HNA : Hid (w9.drew.ownsRow (w.heap.size + 4) 9 1 (.slice ra R.length rc) (nmE R).length (strC (nmE R))) := HN9.out
          have HVA : Hid (w9.drew.ownsRow (w.heap.size + 4) 26 6 (.slice va R.length vc) (vvE R).length (flatV (vvE R))) := HV9.out
          have HZA : Hid (w.heap.size + 4 ≤ w9.drew.heap.size) := HSz.out
          generalize w9.drew = W0 at *
          have HFA := HF0
          refine takeT (fun _ => True) (i := 0) (d := some 59) (.pointer (some ⟨w.heap.size + 3, 4, none⟩)) rfl (by kernel_rfl) (by decide) (by kernel_rfl) (by kernel_rfl) (by kernel_rfl) (fun _ _ _ _ h => h) ((HKK.out _ HF0.out).1) (fun _ => (HKK.out _ HF0.out).2) (.inl (fun _ _ => trivial)) (fun o ho => by cases ho; exact .inl ⟨by rfl, fun w hSw => by (go_simp)⟩) ?_
          simp only [Act.put, List.setIfInBounds_toArray, List.set_cons_zero, List.set_cons_succ]
          refine takeT (fun W => W.cell? ⟨w.heap.size + 3, 4, none⟩ = some (.slice ra R.length rc) ∧ W.cell? ⟨w.heap.size + 3, 5, none⟩ = some (.slice va R.length vc)) (i := 1) (d := some 60) (.slice ra R.length rc) rfl (by kernel_rfl) (by decide) (by kernel_rfl) (by kernel_rfl) (by kernel_rfl) (fun _ _ _ _ h => h) ((HKK.out _ HF0.out).1) (fun _ => (HKK.out _ HF0.out).2) (.inr ⟨fun _ h1 h2 => h2, by kernel_rfl, by kernel_rfl⟩) (fun o ho => by cases ho; exact .inl ⟨by rfl, fun w hSw => by (obtain ⟨hs5, hs6⟩ := hSw; go_simp)⟩) ?_
          simp only [Act.put, List.setIfInBounds_toArray, List.set_cons_zero, List.set_cons_succ]
          refine takeT (fun _ => True) (i := 2) (d := some 61) (.string ⟨ea.1.toArray⟩) rfl (by kernel_rfl) (by decide) (by kernel_rfl) (by kernel_rfl) (by kernel_rfl) (fun _ _ _ _ h => h) ((HKK.out _ HF0.out).1) (fun _ => (HKK.out _ HF0.out).2) (.inl (fun _ _ => trivial)) (fun o ho => by cases ho; exact .inl ⟨by rfl, fun w hSw => by (go_simp)⟩) ?_
          simp only [Act.put, List.setIfInBounds_toArray, List.set_cons_zero, List.set_cons_succ]
          refine takeT (fun _ => True) (i := 5) (d := some 64) (.pointer (some ⟨w.heap.size + 3, 5, none⟩)) rfl (by kernel_rfl) (by decide) (by kernel_rfl) (by kernel_rfl) (by kernel_rfl) (fun _ _ _ _ h => h) ((HKK.out _ HF0.out).1) (fun _ => (HKK.out _ HF0.out).2) (.inl (fun _ _ => trivial)) (fun o ho => by cases ho; exact .inl ⟨by rfl, fun w hSw => by (go_simp)⟩) ?_
          simp only [Act.put, List.setIfInBounds_toArray, List.set_cons_zero, List.set_cons_succ]
          refine takeT (fun W => W.cell? ⟨w.heap.size + 3, 4, none⟩ = some (.slice ra R.length rc) ∧ W.cell? ⟨w.heap.size + 3, 5, none⟩ = some (.slice va R.length vc)) (i := 6) (d := some 65) (.slice va R.length vc) rfl (by kernel_rfl) (by decide) (by kernel_rfl) (by kernel_rfl) (by kernel_rfl) (fun _ _ _ _ h => h) ((HKK.out _ HF0.out).1) (fun _ => (HKK.out _ HF0.out).2) (.inr ⟨fun _ h1 h2 => h2, by kernel_rfl, by kernel_rfl⟩) (fun o ho => by cases ho; exact .inl ⟨by rfl, fun w hSw => by (obtain ⟨hs5, hs6⟩ := hSw; go_simp)⟩) ?_
          simp only [Act.put, List.setIfInBounds_toArray, List.set_cons_zero, List.set_cons_succ]
          refine takeT (fun _ => True) (i := 7) (d := some 66) (.pointer (some ⟨wr.heap.size, 5, none⟩)) rfl (by kernel_rfl) (by decide) (by kernel_rfl) (by kernel_rfl) (by kernel_rfl) (fun _ _ _ _ h => h) ((HKK.out _ HF0.out).1) (fun _ => (HKK.out _ HF0.out).2) (.inl (fun _ _ => trivial)) (fun o ho => by cases ho; exact .inl ⟨by rfl, fun w hSw => by (go_simp)⟩) ?_
          simp only [Act.put, List.setIfInBounds_toArray, List.set_cons_zero, List.set_cons_succ]
          refine takeT (fun W => W.cell? ⟨wr.heap.size, 5, none⟩ = some (.slice (some ⟨ib, io, none⟩) A.length ic) ∧ sixB W ib (io + i * 6) ea.2.2) (i := 8) (d := some 67) (.slice (some ⟨ib, io, none⟩) A.length ic) rfl (by kernel_rfl) (by decide) (by kernel_rfl) (by kernel_rfl) (by kernel_rfl) (fun _ _ _ _ h => h) ((HKK.out _ HF0.out).1) (fun _ => (HKK.out _ HF0.out).2) (.inl (fun _ h => h)) (fun o ho => by cases ho; exact .inl ⟨by rfl, fun w hSw => by (obtain ⟨hs5, hs0, hs1, hs2, hs3, hs4, hs6⟩ := hSw; go_simp)⟩) ?_
          simp only [Act.put, List.setIfInBounds_toArray, List.set_cons_zero, List.set_cons_succ]
          refine takeT (fun _ => True) (i := 9) (d := some 68) (.int .i64 (i : Int)) rfl (by kernel_rfl) (by decide) (by kernel_rfl) (by kernel_rfl) (by kernel_rfl) (fun _ _ _ _ h => h) ((HKK.out _ HF0.out).1) (fun _ => (HKK.out _ HF0.out).2) (.inl (fun _ _ => trivial)) (fun o ho => by cases ho; exact .inl ⟨by rfl, fun w hSw => by (go_simp)⟩) ?_
          simp only [Act.put, List.setIfInBounds_toArray, List.set_cons_zero, List.set_cons_succ]
          refine takeT (fun _ => True) (i := 10) (d := some 69) (.pointer (some ⟨ib, io + i * 6, none⟩)) rfl (by kernel_rfl) (by decide) (by kernel_rfl) (by kernel_rfl) (by kernel_rfl) (fun _ _ _ _ h => h) ((HKK.out _ HF0.out).1) (fun _ => (HKK.out _ HF0.out).2) (.inl (fun _ _ => trivial)) (fun o ho => by cases ho; exact .inl ⟨by rfl, fun w hSw => by (go_simp)⟩) ?_
          simp only [Act.put, List.setIfInBounds_toArray, List.set_cons_zero, List.set_cons_succ]
          refine takeT (fun W => W.cell? ⟨wr.heap.size, 5, none⟩ = some (.slice (some ⟨ib, io, none⟩) A.length ic) ∧ sixB W ib (io + i * 6) ea.2.2) (i := 11) (d := some 70) (ea.2.2.v) rfl (by kernel_rfl) (by decide) (by kernel_rfl) (by kernel_rfl) (by kernel_rfl) (fun _ _ _ _ h => h) ((HKK.out _ HF0.out).1) (fun _ => (HKK.out _ HF0.out).2) (.inl (fun _ h => h)) (fun o ho => by cases ho; exact .inl ⟨by rfl, fun w hSw => by (obtain ⟨hs5, hs0, hs1, hs2, hs3, hs4, hs6⟩ := hSw; go_simp)⟩) ?_
          simp only [Act.put, List.setIfInBounds_toArray, List.set_cons_zero, List.set_cons_succ]
          refine twoT (i := 3) (j := 12) (by kernel_rfl) (by decide) (by decide) (fun o ho K' hK => ?_) (fun o ho K' hK => ?_)
          · skip
            cases ho
            rw [if_pos (by rfl)]
            go_simp
            have HFB : Hid (Fr (fun k => (Value.slice ra R.length rc).ownBlock = some k ∨ (Value.slice va R.length vc).ownBlock = some k) w9 (W0.alloc (.cells #[.string ⟨ea.1.toArray⟩] 9))) := HFA.out.alloc _
            have HGN : Hid (Blk (W0.alloc (.cells #[.string ⟨ea.1.toArray⟩] 9)) W0.heap.size 9 [.string ⟨ea.1.toArray⟩]) := Blk.new _ _ _
            have HLN : Hid (w9.heap.size ≤ W0.heap.size) := HFA.out.size
            have HNB : Hid ((W0.alloc (.cells #[.string ⟨ea.1.toArray⟩] 9)).ownsRow _ _ _ _ _ _) := owns_of_eq HNA.out (fun k hk => Below.heap_alloc W0 _ k (own_lt HNA.out k hk).2)
            have HVB : Hid ((W0.alloc (.cells #[.string ⟨ea.1.toArray⟩] 9)).ownsRow _ _ _ _ _ _) := owns_of_eq HVA.out (fun k hk => Below.heap_alloc W0 _ k (own_lt HVA.out k hk).2)
            have HZB : Hid (w.heap.size + 4 ≤ (W0.alloc (.cells #[.string ⟨ea.1.toArray⟩] 9)).heap.size) := Nat.le_trans HZA.out (HFB.out.size |> fun _ => by rw [World.size_alloc]; exact Nat.le_succ _)
            refine hK.out _ _ (HKK.out _ HFB.out).1 (fun _ _ => (HKK.out _ HFB.out).2) ?_
            clear hK K'
            try simp only [Act.put, List.setIfInBounds_toArray, List.set_cons_zero, List.set_cons_succ]
            generalize W0.alloc (.cells #[.string ⟨ea.1.toArray⟩] 9) = WB at *
            refine twoT (i := 4) (j := 12) (by kernel_rfl) (by decide) (by decide) (fun o ho K' hK => ?_) (fun o ho K' hK => ?_)
            · skip
              cases ho
              rw [if_pos (by rfl)]
              refine wp_app_name _ _ rfl (w.heap.size + 4) _ (nmE R) ea.1 _ _ (by rfl) (by rfl) HNB.out (HGN.out.cell 0) HZB.out hRl2.1 ?_
              intro na2 nc2 WC ho2 hg2
              have HFC := hid (HFB.out.grown hg2 (fun k hk => .inl (.inl hk)))
              have HNC := hid ho2
              have HVC := hid (owns_of_eq HVB.out (w' := WC) (fun k hk => hg2.block k (own_lt HVB.out k hk).2 (fun e => HAp.out k e.symm hk)))
              have HZC : Hid (w.heap.size + 4 ≤ WC.heap.size) := Nat.le_trans HZB.out hg2.size
              refine hK.out _ _ (HKK.out _ HFC.out).1 (fun _ _ => (HKK.out _ HFC.out).2) ?_
              clear hK K' hg2
              try simp only [Act.put, List.setIfInBounds_toArray, List.set_cons_zero, List.set_cons_succ]
              refine takeT (fun _ => True) (i := 14) (d := some 73) (.pointer (some ⟨w.heap.size + 3, 4, none⟩)) rfl (by kernel_rfl) (by decide) (by kernel_rfl) (by kernel_rfl) (by kernel_rfl) (fun _ _ _ _ h => h) ((HKK.out _ HFC.out).1) (fun _ => (HKK.out _ HFC.out).2) (.inl (fun _ _ => trivial)) (fun o ho => by cases ho; exact .inl ⟨by rfl, fun w hSw => by (go_simp)⟩) ?_
              simp only [Act.put, List.setIfInBounds_toArray, List.set_cons_zero, List.set_cons_succ]
              refine oneT (i := 12) (by kernel_rfl) (by decide) (fun o ho K' hK => ?_)
              cases ho
              rw [if_pos (by rfl)]
              go_simp
              have HFD : Hid (Fr (fun k => (Value.slice ra R.length rc).ownBlock = some k ∨ (Value.slice va R.length vc).ownBlock = some k) w9 (WC.alloc (.cells #[.int .i64 ea.2.2.k, .int .i64 ea.2.2.n, .float .f64 ea.2.2.f, .string ⟨ea.2.2.t.toArray⟩, .slice ea.2.2.na ea.2.2.nl ea.2.2.nc, .slice ea.2.2.ia ea.2.2.il ea.2.2.ic] 26))) := HFC.out.alloc _
              have HGV : Hid (Blk (WC.alloc (.cells #[.int .i64 ea.2.2.k, .int .i64 ea.2.2.n, .float .f64 ea.2.2.f, .string ⟨ea.2.2.t.toArray⟩, .slice ea.2.2.na ea.2.2.nl ea.2.2.nc, .slice ea.2.2.ia ea.2.2.il ea.2.2.ic] 26)) WC.heap.size 26 ea.2.2.cs) := Blk.new _ _ _
              have HLV : Hid (w9.heap.size ≤ WC.heap.size) := HFC.out.size
              have HND : Hid ((WC.alloc (.cells #[.int .i64 ea.2.2.k, .int .i64 ea.2.2.n, .float .f64 ea.2.2.f, .string ⟨ea.2.2.t.toArray⟩, .slice ea.2.2.na ea.2.2.nl ea.2.2.nc, .slice ea.2.2.ia ea.2.2.il ea.2.2.ic] 26)).ownsRow _ _ _ _ _ _) := owns_of_eq HNC.out (fun k hk => Below.heap_alloc WC _ k (own_lt HNC.out k hk).2)
              have HVD : Hid ((WC.alloc (.cells #[.int .i64 ea.2.2.k, .int .i64 ea.2.2.n, .float .f64 ea.2.2.f, .string ⟨ea.2.2.t.toArray⟩, .slice ea.2.2.na ea.2.2.nl ea.2.2.nc, .slice ea.2.2.ia ea.2.2.il ea.2.2.ic] 26)).ownsRow _ _ _ _ _ _) := owns_of_eq HVC.out (fun k hk => Below.heap_alloc WC _ k (own_lt HVC.out k hk).2)
              have HZD : Hid (w.heap.size + 4 ≤ (WC.alloc (.cells #[.int .i64 ea.2.2.k, .int .i64 ea.2.2.n, .float .f64 ea.2.2.f, .string ⟨ea.2.2.t.toArray⟩, .slice ea.2.2.na ea.2.2.nl ea.2.2.nc, .slice ea.2.2.ia ea.2.2.il ea.2.2.ic] 26)).heap.size) := Nat.le_trans HZC.out (HFD.out.size |> fun _ => by rw [World.size_alloc]; exact Nat.le_succ _)
              refine hK.out _ _ (HKK.out _ HFD.out).1 (fun _ _ => (HKK.out _ HFD.out).2) ?_
              clear hK K'
              try simp only [Act.put, List.setIfInBounds_toArray, List.set_cons_zero, List.set_cons_succ]
              generalize WC.alloc (.cells #[.int .i64 ea.2.2.k, .int .i64 ea.2.2.n, .float .f64 ea.2.2.f, .string ⟨ea.2.2.t.toArray⟩, .slice ea.2.2.na ea.2.2.nl ea.2.2.nc, .slice ea.2.2.ia ea.2.2.il ea.2.2.ic] 26) = WD at *
              refine oneT (i := 13) (by kernel_rfl) (by decide) (fun o ho K' hK => ?_)
              cases ho
              rw [if_pos (by rfl)]
              refine wp_app_value _ _ rfl (w.heap.size + 4) _ (vvE R) ea.2.2 _ _ (by rfl) (by rfl) HVD.out HGV.out HZD.out hRl2.2 ?_
              intro ia2 ic2 WE ho3 hg2
              have HFE := hid (HFD.out.grown hg2 (fun k hk => .inl (.inr hk)))
              have HVE := hid ho3
              have HNE := hid (owns_of_eq HND.out (w' := WE) (fun k hk => hg2.block k (own_lt HND.out k hk).2 (fun e => own_apart HND.out HVD.out (by decide) k hk e.symm)))
              have HZE : Hid (w.heap.size + 4 ≤ WE.heap.size) := Nat.le_trans HZD.out hg2.size
              refine hK.out _ _ (HKK.out _ HFE.out).1 (fun _ _ => (HKK.out _ HFE.out).2) ?_
              clear hK K' hg2
              try simp only [Act.put, List.setIfInBounds_toArray, List.set_cons_zero, List.set_cons_succ]
              have hb4 := HFE.out.blk (HF9.out.blk HK.out.bv (fun h => h)) (fun h => by rcases h with h | h; (· have := (own_lt HK.out.ns _ h).1; omega); (· have := (own_lt HK.out.vs _ h).1; omega))
              have hc4 := hb4.cell 4
              have hz4 := hb4.frozen 4
              have hb5 := hb4.setCell 4 (.slice na2 ((nmE R).length + 1) nc2)
              have hc5 := hb5.cell 5
              have hz5 := hb5.frozen 5
              have HP := hid (po_next (e := ea) HK.out HF9.out HFE.out HNE.out HVE.out)
              have HFs : Hid (Fr (fun k => ((Value.slice ra R.length rc).ownBlock = some k ∨ (Value.slice va R.length vc).ownBlock = some k) ∨ k = w.heap.size + 3) w9 (WE.setCell ⟨w.heap.size + 3, 4, none⟩ (.slice na2 ((nmE R).length + 1) nc2))) := (HFE.out.mono (fun k h => .inl h)).setCell (.inl (.inr rfl)) _
              have HFt : Hid (Fr (fun k => ((Value.slice ra R.length rc).ownBlock = some k ∨ (Value.slice va R.length vc).ownBlock = some k) ∨ k = w.heap.size + 3) w9 ((WE.setCell ⟨w.heap.size + 3, 4, none⟩ (.slice na2 ((nmE R).length + 1) nc2)).setCell ⟨w.heap.size + 3, 5, none⟩ (.slice ia2 ((vvE R).length + 1) ic2))) := HFs.out.setCell (.inl (.inr rfl)) _
              clear hb4 hb5
              refine oneT (i := 15) (by kernel_rfl) (by decide) (fun o ho K' hK => ?_)
              cases ho
              rw [if_pos (by rfl)]
              go_simp
              refine hK.out _ _ (HKS.out _ HFs.out) (fun h => absurd rfl h) ?_
              clear hK K'
              try simp only [Act.put, List.setIfInBounds_toArray, List.set_cons_zero, List.set_cons_succ]
              refine takeT (fun _ => True) (i := 16) (d := some 74) (.pointer (some ⟨w.heap.size + 3, 5, none⟩)) rfl (by kernel_rfl) (by decide) (by kernel_rfl) (by kernel_rfl) (by kernel_rfl) (fun _ _ _ _ h => h) (HKS.out _ HFs.out) (fun h => absurd h (by decide +kernel)) (.inl (fun _ _ => trivial)) (fun o ho => by cases ho; exact .inl ⟨by rfl, fun w hSw => by (go_simp)⟩) ?_
              simp only [Act.put, List.setIfInBounds_toArray, List.set_cons_zero, List.set_cons_succ]
              refine oneT (i := 17) (by kernel_rfl) (by decide) (fun o ho K' hK => ?_)
              cases ho
              rw [if_pos (by rfl)]
              go_simp
              refine hK.out _ _ (HKS.out _ HFt.out) (fun _ h => absurd h (by decide +kernel)) ?_
              clear hK K'
              try simp only [Act.put, List.setIfInBounds_toArray, List.set_cons_zero, List.set_cons_succ]
              refine doneT (by kernel_rfl) (NoPanic.normal ?_)
              generalize (WE.setCell ⟨w.heap.size + 3, 4, none⟩ (.slice na2 ((nmE R).length + 1) nc2)).setCell ⟨w.heap.size + 3, 5, none⟩ (.slice ia2 ((vvE R).length + 1) ic2) = W6 at *
              clear hc4 hz4 hc5 hz5 HFs HFt
              have HQ := hid HP.out.drew
              clear HP
              go_wp2_with fail
              skip
              have HSq : Hid ((fun W => W.cell? ⟨w.heap.size, 4, none⟩ = some (.slice (some ⟨nb, no, none⟩) A.length nc) ∧ W.cell? ⟨w.heap.size + 1, 4, none⟩ = some (.slice na' B.length nc')) W6.drew) := ⟨HQ.out.bx.cell 4, HQ.out.by'.cell 4⟩
              have HXq := hid (HX.out.env (Env.of HQ.out.fr))
              have HYq := hid (HY.out.env (Env.of HQ.out.fr))
              have HBa := behind_any W6.drew (some ⟨nb, no, none⟩) nc (A.map (·.1)) i ea.1 HXq.out.names (by rw [List.length_map]; omega) (by rw [List.length_map]; omega)
              have HBb := behind_any W6.drew na' nc' (B.map (·.1)) B.length ea.1 HYq.out.names (by rw [List.length_map]; omega) (by rw [List.length_map]; omega)
              rw [List.length_map] at HBa HBb
              rw [HS1.out] at HBa
              rw [HS2.out] at HBb
              have HBa' := hid HBa
              have HBb' := hid HBb
              clear HBa HBb
              refine wp_region_noPanic ?_
              refine wp_region_held_drew (S := (fun W => W.cell? ⟨w.heap.size, 4, none⟩ = some (.slice (some ⟨nb, no, none⟩) A.length nc) ∧ W.cell? ⟨w.heap.size + 1, 4, none⟩ = some (.slice na' B.length nc'))) (by kernel_rfl) HSq.out (fun _ => ?_)
              generalize W6.drew = W7 at *
              refine takeH (i := 0) (d := some 75) (.pointer (some ⟨w.heap.size, 4, none⟩)) rfl (by kernel_rfl) (by kernel_rfl) (by kernel_rfl) (fun _ _ _ _ h => h) HSq.out (fun o ho => by cases ho; exact .inl ⟨by rfl, fun w hSw => by (obtain ⟨hs0, hs1⟩ := hSw; go_simp)⟩) ?_
              simp only [Act.put, List.setIfInBounds_toArray, List.set_cons_zero, List.set_cons_succ]
              refine takeH (i := 1) (d := some 76) (.slice (some ⟨nb, no, none⟩) A.length nc) rfl (by kernel_rfl) (by kernel_rfl) (by kernel_rfl) (fun _ _ _ _ h => h) HSq.out (fun o ho => by cases ho; exact .inl ⟨by rfl, fun w hSw => by (obtain ⟨hs0, hs1⟩ := hSw; go_simp)⟩) ?_
              simp only [Act.put, List.setIfInBounds_toArray, List.set_cons_zero, List.set_cons_succ]
              refine takeH (i := 2) (d := some 77) (.int .i64 (i : Int)) rfl (by kernel_rfl) (by kernel_rfl) (by kernel_rfl) (fun _ _ _ _ h => h) HSq.out (fun o ho => by cases ho; exact .inl ⟨by rfl, fun w hSw => by (obtain ⟨hs0, hs1⟩ := hSw; go_simp)⟩) ?_
              simp only [Act.put, List.setIfInBounds_toArray, List.set_cons_zero, List.set_cons_succ]
              refine takeH (i := 3) (d := some 78) (.string ⟨ea.1.toArray⟩) rfl (by kernel_rfl) (by kernel_rfl) (by kernel_rfl) (fun _ _ _ _ h => h) HSq.out (fun o ho => by cases ho; exact .inl ⟨by rfl, fun w hSw => by (obtain ⟨hs0, hs1⟩ := hSw; go_simp)⟩) ?_
              simp only [Act.put, List.setIfInBounds_toArray, List.set_cons_zero, List.set_cons_succ]
              refine takeH (i := 5) (d := some 80) (.pointer (some ⟨w.heap.size + 1, 4, none⟩)) rfl (by kernel_rfl) (by kernel_rfl) (by kernel_rfl) (fun _ _ _ _ h => h) HSq.out (fun o ho => by cases ho; exact .inl ⟨by rfl, fun w hSw => by (obtain ⟨hs0, hs1⟩ := hSw; go_simp)⟩) ?_
              simp only [Act.put, List.setIfInBounds_toArray, List.set_cons_zero, List.set_cons_succ]
              refine takeH (i := 6) (d := some 81) (.slice na' B.length nc') rfl (by kernel_rfl) (by kernel_rfl) (by kernel_rfl) (fun _ _ _ _ h => h) HSq.out (fun o ho => by cases ho; exact .inl ⟨by rfl, fun w hSw => by (obtain ⟨hs0, hs1⟩ := hSw; go_simp)⟩) ?_
              simp only [Act.put, List.setIfInBounds_toArray, List.set_cons_zero, List.set_cons_succ]
              refine takeH (i := 7) (d := some 82) (.int .i64 ((B.length : Nat) : Int)) rfl (by kernel_rfl) (by kernel_rfl) (by kernel_rfl) (fun _ _ _ _ h => h) HSq.out (fun o ho => by cases ho; exact .inl ⟨by rfl, fun w hSw => by (obtain ⟨hs0, hs1⟩ := hSw; go_simp)⟩) ?_
              simp only [Act.put, List.setIfInBounds_toArray, List.set_cons_zero, List.set_cons_succ]
              refine takeH (i := 8) (d := some 83) (.string ⟨ea.1.toArray⟩) rfl (by kernel_rfl) (by kernel_rfl) (by kernel_rfl) (fun _ _ _ _ h => h) HSq.out (fun o ho => by cases ho; exact .inl ⟨by rfl, fun w hSw => by (obtain ⟨hs0, hs1⟩ := hSw; go_simp)⟩) ?_
              simp only [Act.put, List.setIfInBounds_toArray, List.set_cons_zero, List.set_cons_succ]
              refine oneH (i := 4) (by kernel_rfl) (fun o ho K' hK => ?_) (by decide)
              cases ho
              rw [if_pos (by rfl)]
              go_simp
              refine HBa'.out.mono ?_
              rintro e wz ⟨rfl, rfl⟩
              refine hK.out _ _ HSq.out ?_
              clear hK K'
              try simp only [Act.put, List.setIfInBounds_toArray, List.set_cons_zero, List.set_cons_succ]
              refine oneH (i := 9) (by kernel_rfl) (fun o ho K' hK => ?_) (by decide)
              cases ho
              rw [if_pos (by rfl)]
              go_simp
              refine HBb'.out.mono ?_
              rintro e wz ⟨rfl, rfl⟩
              refine hK.out _ _ HSq.out ?_
              clear hK K'
              try simp only [Act.put, List.setIfInBounds_toArray, List.set_cons_zero, List.set_cons_succ]
              refine takeH (i := 10) (d := some 7) (.int .i64 ((i + 1 : Nat) : Int)) rfl (by kernel_rfl) (by kernel_rfl) (by kernel_rfl) (fun _ _ _ _ h => h) HSq.out (fun o ho => by cases ho; exact .inl ⟨by rfl, fun w hSw => by (obtain ⟨hs0, hs1⟩ := hSw; go_simp)⟩) ?_
              simp only [Act.put, List.setIfInBounds_toArray, List.set_cons_zero, List.set_cons_succ]
              refine takeH (i := 11) (d := some 8) (.int .i64 ((B.length : Nat) : Int)) rfl (by kernel_rfl) (by kernel_rfl) (by kernel_rfl) (fun _ _ _ _ h => h) HSq.out (fun o ho => by cases ho; exact .inl ⟨by rfl, fun w hSw => by (obtain ⟨hs0, hs1⟩ := hSw; go_simp)⟩) ?_
              simp only [Act.put, List.setIfInBounds_toArray, List.set_cons_zero, List.set_cons_succ]
              refine wpAnyH_done (by kernel_rfl) (NoPanic.normal ?_) _
              have HRl : Hid ((R ++ [ea]).length ≤ (i + 1) + (B.length)) := by unfold Hid; rw [List.length_append, List.length_singleton]; omega
              have HRq : Hid ((R ++ [ea]) ++ mg (A.drop (i + 1)) (B.drop (B.length)) = mg A B) := by unfold Hid; rw [← HR.out, HSt.out]; simp
              go_wp2_with fail
              exact ⟨⟨i + 1, B.length, R ++ [ea], na2, ia2, nc2, ic2, by omega, by omega, rfl, rfl, HRq.out, HRl.out, HQ.out⟩, by simp only [intsOf, intOf]; omega⟩
            · skip
              cases ho
              rw [if_pos (by rfl)]
              go_simp
              have HFC : Hid (Fr (fun k => (Value.slice ra R.length rc).ownBlock = some k ∨ (Value.slice va R.length vc).ownBlock = some k) w9 (WB.alloc (.cells #[.int .i64 ea.2.2.k, .int .i64 ea.2.2.n, .float .f64 ea.2.2.f, .string ⟨ea.2.2.t.toArray⟩, .slice ea.2.2.na ea.2.2.nl ea.2.2.nc, .slice ea.2.2.ia ea.2.2.il ea.2.2.ic] 26))) := HFB.out.alloc _
              have HGV : Hid (Blk (WB.alloc (.cells #[.int .i64 ea.2.2.k, .int .i64 ea.2.2.n, .float .f64 ea.2.2.f, .string ⟨ea.2.2.t.toArray⟩, .slice ea.2.2.na ea.2.2.nl ea.2.2.nc, .slice ea.2.2.ia ea.2.2.il ea.2.2.ic] 26)) WB.heap.size 26 ea.2.2.cs) := Blk.new _ _ _
              have HLV : Hid (w9.heap.size ≤ WB.heap.size) := HFB.out.size
              have HNC : Hid ((WB.alloc (.cells #[.int .i64 ea.2.2.k, .int .i64 ea.2.2.n, .float .f64 ea.2.2.f, .string ⟨ea.2.2.t.toArray⟩, .slice ea.2.2.na ea.2.2.nl ea.2.2.nc, .slice ea.2.2.ia ea.2.2.il ea.2.2.ic] 26)).ownsRow _ _ _ _ _ _) := owns_of_eq HNB.out (fun k hk => Below.heap_alloc WB _ k (own_lt HNB.out k hk).2)
              have HVC : Hid ((WB.alloc (.cells #[.int .i64 ea.2.2.k, .int .i64 ea.2.2.n, .float .f64 ea.2.2.f, .string ⟨ea.2.2.t.toArray⟩, .slice ea.2.2.na ea.2.2.nl ea.2.2.nc, .slice ea.2.2.ia ea.2.2.il ea.2.2.ic] 26)).ownsRow _ _ _ _ _ _) := owns_of_eq HVB.out (fun k hk => Below.heap_alloc WB _ k (own_lt HVB.out k hk).2)
              have HZC : Hid (w.heap.size + 4 ≤ (WB.alloc (.cells #[.int .i64 ea.2.2.k, .int .i64 ea.2.2.n, .float .f64 ea.2.2.f, .string ⟨ea.2.2.t.toArray⟩, .slice ea.2.2.na ea.2.2.nl ea.2.2.nc, .slice ea.2.2.ia ea.2.2.il ea.2.2.ic] 26)).heap.size) := Nat.le_trans HZB.out (HFC.out.size |> fun _ => by rw [World.size_alloc]; exact Nat.le_succ _)
              have HGN' := hid (HGN.out.alloc (.cells #[.int .i64 ea.2.2.k, .int .i64 ea.2.2.n, .float .f64 ea.2.2.f, .string ⟨ea.2.2.t.toArray⟩, .slice ea.2.2.na ea.2.2.nl ea.2.2.nc, .slice ea.2.2.ia ea.2.2.il ea.2.2.ic] 26))
              refine hK.out _ _ (HKK.out _ HFC.out).1 (fun _ _ => (HKK.out _ HFC.out).2) ?_
              clear hK K'
              try simp only [Act.put, List.setIfInBounds_toArray, List.set_cons_zero, List.set_cons_succ]
              generalize WB.alloc (.cells #[.int .i64 ea.2.2.k, .int .i64 ea.2.2.n, .float .f64 ea.2.2.f, .string ⟨ea.2.2.t.toArray⟩, .slice ea.2.2.na ea.2.2.nl ea.2.2.nc, .slice ea.2.2.ia ea.2.2.il ea.2.2.ic] 26) = WC at *
              refine oneT (i := 4) (by kernel_rfl) (by decide) (fun o ho K' hK => ?_)
              cases ho
              rw [if_pos (by rfl)]
              refine wp_app_name _ _ rfl (w.heap.size + 4) _ (nmE R) ea.1 _ _ (by rfl) (by rfl) HNC.out (HGN'.out.cell 0) HZC.out hRl2.1 ?_
              intro na2 nc2 WD ho2 hg2
              have HFD := hid (HFC.out.grown hg2 (fun k hk => .inl (.inl hk)))
              have HND := hid ho2
              have HVD := hid (owns_of_eq HVC.out (w' := WD) (fun k hk => hg2.block k (own_lt HVC.out k hk).2 (fun e => HAp.out k e.symm hk)))
              have HGV2 := hid (HGV.out.of_eq (w' := WD) (hg2.block _ HGV.out.lt (fun e => by have h1 := (own_lt HN9.out _ e.symm).2; have h2 := HLV.out; omega)))
              have HZD : Hid (w.heap.size + 4 ≤ WD.heap.size) := Nat.le_trans HZC.out hg2.size
              refine hK.out _ _ (HKK.out _ HFD.out).1 (fun _ _ => (HKK.out _ HFD.out).2) ?_
              clear hK K' hg2
              try simp only [Act.put, List.setIfInBounds_toArray, List.set_cons_zero, List.set_cons_succ]
              refine takeT (fun _ => True) (i := 14) (d := some 73) (.pointer (some ⟨w.heap.size + 3, 4, none⟩)) rfl (by kernel_rfl) (by decide) (by kernel_rfl) (by kernel_rfl) (by kernel_rfl) (fun _ _ _ _ h => h) ((HKK.out _ HFD.out).1) (fun _ => (HKK.out _ HFD.out).2) (.inl (fun _ _ => trivial)) (fun o ho => by cases ho; exact .inl ⟨by rfl, fun w hSw => by (go_simp)⟩) ?_
              simp only [Act.put, List.setIfInBounds_toArray, List.set_cons_zero, List.set_cons_succ]
              refine oneT (i := 13) (by kernel_rfl) (by decide) (fun o ho K' hK => ?_)
              cases ho
              rw [if_pos (by rfl)]
              refine wp_app_value _ _ rfl (w.heap.size + 4) _ (vvE R) ea.2.2 _ _ (by rfl) (by rfl) HVD.out HGV2.out HZD.out hRl2.2 ?_
              intro ia2 ic2 WE ho3 hg2
              have HFE := hid (HFD.out.grown hg2 (fun k hk => .inl (.inr hk)))
              have HVE := hid ho3
              have HNE := hid (owns_of_eq HND.out (w' := WE) (fun k hk => hg2.block k (own_lt HND.out k hk).2 (fun e => own_apart HND.out HVD.out (by decide) k hk e.symm)))
              have HZE : Hid (w.heap.size + 4 ≤ WE.heap.size) := Nat.le_trans HZD.out hg2.size
              refine hK.out _ _ (HKK.out _ HFE.out).1 (fun _ _ => (HKK.out _ HFE.out).2) ?_
              clear hK K' hg2
              try simp only [Act.put, List.setIfInBounds_toArray, List.set_cons_zero, List.set_cons_succ]
              have hb4 := HFE.out.blk (HF9.out.blk HK.out.bv (fun h => h)) (fun h => by rcases h with h | h; (· have := (own_lt HK.out.ns _ h).1; omega); (· have := (own_lt HK.out.vs _ h).1; omega))
              have hc4 := hb4.cell 4
              have hz4 := hb4.frozen 4
              have hb5 := hb4.setCell 4 (.slice na2 ((nmE R).length + 1) nc2)
              have hc5 := hb5.cell 5
              have hz5 := hb5.frozen 5
              have HP := hid (po_next (e := ea) HK.out HF9.out HFE.out HNE.out HVE.out)
              have HFs : Hid (Fr (fun k => ((Value.slice ra R.length rc).ownBlock = some k ∨ (Value.slice va R.length vc).ownBlock = some k) ∨ k = w.heap.size + 3) w9 (WE.setCell ⟨w.heap.size + 3, 4, none⟩ (.slice na2 ((nmE R).length + 1) nc2))) := (HFE.out.mono (fun k h => .inl h)).setCell (.inl (.inr rfl)) _
              have HFt : Hid (Fr (fun k => ((Value.slice ra R.length rc).ownBlock = some k ∨ (Value.slice va R.length vc).ownBlock = some k) ∨ k = w.heap.size + 3) w9 ((WE.setCell ⟨w.heap.size + 3, 4, none⟩ (.slice na2 ((nmE R).length + 1) nc2)).setCell ⟨w.heap.size + 3, 5, none⟩ (.slice ia2 ((vvE R).length + 1) ic2))) := HFs.out.setCell (.inl (.inr rfl)) _
              clear hb4 hb5
              refine oneT (i := 15) (by kernel_rfl) (by decide) (fun o ho K' hK => ?_)
              cases ho
              rw [if_pos (by rfl)]
              go_simp
              refine hK.out _ _ (HKS.out _ HFs.out) (fun h => absurd rfl h) ?_
              clear hK K'
              try simp only [Act.put, List.setIfInBounds_toArray, List.set_cons_zero, List.set_cons_succ]
              refine takeT (fun _ => True) (i := 16) (d := some 74) (.pointer (some ⟨w.heap.size + 3, 5, none⟩)) rfl (by kernel_rfl) (by decide) (by kernel_rfl) (by kernel_rfl) (by kernel_rfl) (fun _ _ _ _ h => h) (HKS.out _ HFs.out) (fun h => absurd h (by decide +kernel)) (.inl (fun _ _ => trivial)) (fun o ho => by cases ho; exact .inl ⟨by rfl, fun w hSw => by (go_simp)⟩) ?_
              simp only [Act.put, List.setIfInBounds_toArray, List.set_cons_zero, List.set_cons_succ]
              refine oneT (i := 17) (by kernel_rfl) (by decide) (fun o ho K' hK => ?_)
              cases ho
              rw [if_pos (by rfl)]
              go_simp
              refine hK.out _ _ (HKS.out _ HFt.out) (fun _ h => absurd h (by decide +kernel)) ?_
              clear hK K'
              try simp only [Act.put, List.setIfInBounds_toArray, List.set_cons_zero, List.set_cons_succ]
              refine doneT (by kernel_rfl) (NoPanic.normal ?_)
              generalize (WE.setCell ⟨w.heap.size + 3, 4, none⟩ (.slice na2 ((nmE R).length + 1) nc2)).setCell ⟨w.heap.size + 3, 5, none⟩ (.slice ia2 ((vvE R).length + 1) ic2) = W6 at *
              clear hc4 hz4 hc5 hz5 HFs HFt
              have HQ := hid HP.out.drew
              clear HP
              go_wp2_with fail
              skip
              have HSq : Hid ((fun W => W.cell? ⟨w.heap.size, 4, none⟩ = some (.slice (some ⟨nb, no, none⟩) A.length nc) ∧ W.cell? ⟨w.heap.size + 1, 4, none⟩ = some (.slice na' B.length nc')) W6.drew) := ⟨HQ.out.bx.cell 4, HQ.out.by'.cell 4⟩
              have HXq := hid (HX.out.env (Env.of HQ.out.fr))
              have HYq := hid (HY.out.env (Env.of HQ.out.fr))
              have HBa := behind_any W6.drew (some ⟨nb, no, none⟩) nc (A.map (·.1)) i ea.1 HXq.out.names (by rw [List.length_map]; omega) (by rw [List.length_map]; omega)
              have HBb := behind_any W6.drew na' nc' (B.map (·.1)) B.length ea.1 HYq.out.names (by rw [List.length_map]; omega) (by rw [List.length_map]; omega)
              rw [List.length_map] at HBa HBb
              rw [HS1.out] at HBa
              rw [HS2.out] at HBb
              have HBa' := hid HBa
              have HBb' := hid HBb
              clear HBa HBb
              refine wp_region_noPanic ?_
              refine wp_region_held_drew (S := (fun W => W.cell? ⟨w.heap.size, 4, none⟩ = some (.slice (some ⟨nb, no, none⟩) A.length nc) ∧ W.cell? ⟨w.heap.size + 1, 4, none⟩ = some (.slice na' B.length nc'))) (by kernel_rfl) HSq.out (fun _ => ?_)
              generalize W6.drew = W7 at *
              refine takeH (i := 0) (d := some 75) (.pointer (some ⟨w.heap.size, 4, none⟩)) rfl (by kernel_rfl) (by kernel_rfl) (by kernel_rfl) (fun _ _ _ _ h => h) HSq.out (fun o ho => by cases ho; exact .inl ⟨by rfl, fun w hSw => by (obtain ⟨hs0, hs1⟩ := hSw; go_simp)⟩) ?_
              simp only [Act.put, List.setIfInBounds_toArray, List.set_cons_zero, List.set_cons_succ]
              refine takeH (i := 1) (d := some 76) (.slice (some ⟨nb, no, none⟩) A.length nc) rfl (by kernel_rfl) (by kernel_rfl) (by kernel_rfl) (fun _ _ _ _ h => h) HSq.out (fun o ho => by cases ho; exact .inl ⟨by rfl, fun w hSw => by (obtain ⟨hs0, hs1⟩ := hSw; go_simp)⟩) ?_
              simp only [Act.put, List.setIfInBounds_toArray, List.set_cons_zero, List.set_cons_succ]
              refine takeH (i := 2) (d := some 77) (.int .i64 (i : Int)) rfl (by kernel_rfl) (by kernel_rfl) (by kernel_rfl) (fun _ _ _ _ h => h) HSq.out (fun o ho => by cases ho; exact .inl ⟨by rfl, fun w hSw => by (obtain ⟨hs0, hs1⟩ := hSw; go_simp)⟩) ?_
              simp only [Act.put, List.setIfInBounds_toArray, List.set_cons_zero, List.set_cons_succ]
              refine takeH (i := 3) (d := some 78) (.string ⟨ea.1.toArray⟩) rfl (by kernel_rfl) (by kernel_rfl) (by kernel_rfl) (fun _ _ _ _ h => h) HSq.out (fun o ho => by cases ho; exact .inl ⟨by rfl, fun w hSw => by (obtain ⟨hs0, hs1⟩ := hSw; go_simp)⟩) ?_
              simp only [Act.put, List.setIfInBounds_toArray, List.set_cons_zero, List.set_cons_succ]
              refine takeH (i := 5) (d := some 80) (.pointer (some ⟨w.heap.size + 1, 4, none⟩)) rfl (by kernel_rfl) (by kernel_rfl) (by kernel_rfl) (fun _ _ _ _ h => h) HSq.out (fun o ho => by cases ho; exact .inl ⟨by rfl, fun w hSw => by (obtain ⟨hs0, hs1⟩ := hSw; go_simp)⟩) ?_
              simp only [Act.put, List.setIfInBounds_toArray, List.set_cons_zero, List.set_cons_succ]
              refine takeH (i := 6) (d := some 81) (.slice na' B.length nc') rfl (by kernel_rfl) (by kernel_rfl) (by kernel_rfl) (fun _ _ _ _ h => h) HSq.out (fun o ho => by cases ho; exact .inl ⟨by rfl, fun w hSw => by (obtain ⟨hs0, hs1⟩ := hSw; go_simp)⟩) ?_
              simp only [Act.put, List.setIfInBounds_toArray, List.set_cons_zero, List.set_cons_succ]
              refine takeH (i := 7) (d := some 82) (.int .i64 ((B.length : Nat) : Int)) rfl (by kernel_rfl) (by kernel_rfl) (by kernel_rfl) (fun _ _ _ _ h => h) HSq.out (fun o ho => by cases ho; exact .inl ⟨by rfl, fun w hSw => by (obtain ⟨hs0, hs1⟩ := hSw; go_simp)⟩) ?_
              simp only [Act.put, List.setIfInBounds_toArray, List.set_cons_zero, List.set_cons_succ]
              refine takeH (i := 8) (d := some 83) (.string ⟨ea.1.toArray⟩) rfl (by kernel_rfl) (by kernel_rfl) (by kernel_rfl) (fun _ _ _ _ h => h) HSq.out (fun o ho => by cases ho; exact .inl ⟨by rfl, fun w hSw => by (obtain ⟨hs0, hs1⟩ := hSw; go_simp)⟩) ?_
              simp only [Act.put, List.setIfInBounds_toArray, List.set_cons_zero, List.set_cons_succ]
              refine oneH (i := 4) (by kernel_rfl) (fun o ho K' hK => ?_) (by decide)
              cases ho
              rw [if_pos (by rfl)]
              go_simp
              refine HBa'.out.mono ?_
              rintro e wz ⟨rfl, rfl⟩
              refine hK.out _ _ HSq.out ?_
              clear hK K'
              try simp only [Act.put, List.setIfInBounds_toArray, List.set_cons_zero, List.set_cons_succ]
              refine oneH (i := 9) (by kernel_rfl) (fun o ho K' hK => ?_) (by decide)
              cases ho
              rw [if_pos (by rfl)]
              go_simp
              refine HBb'.out.mono ?_
              rintro e wz ⟨rfl, rfl⟩
              refine hK.out _ _ HSq.out ?_
              clear hK K'
              try simp only [Act.put, List.setIfInBounds_toArray, List.set_cons_zero, List.set_cons_succ]
              refine takeH (i := 10) (d := some 7) (.int .i64 ((i + 1 : Nat) : Int)) rfl (by kernel_rfl) (by kernel_rfl) (by kernel_rfl) (fun _ _ _ _ h => h) HSq.out (fun o ho => by cases ho; exact .inl ⟨by rfl, fun w hSw => by (obtain ⟨hs0, hs1⟩ := hSw; go_simp)⟩) ?_
              simp only [Act.put, List.setIfInBounds_toArray, List.set_cons_zero, List.set_cons_succ]
              refine takeH (i := 11) (d := some 8) (.int .i64 ((B.length : Nat) : Int)) rfl (by kernel_rfl) (by kernel_rfl) (by kernel_rfl) (fun _ _ _ _ h => h) HSq.out (fun o ho => by cases ho; exact .inl ⟨by rfl, fun w hSw => by (obtain ⟨hs0, hs1⟩ := hSw; go_simp)⟩) ?_
              simp only [Act.put, List.setIfInBounds_toArray, List.set_cons_zero, List.set_cons_succ]
              refine wpAnyH_done (by kernel_rfl) (NoPanic.normal ?_) _
              have HRl : Hid ((R ++ [ea]).length ≤ (i + 1) + (B.length)) := by unfold Hid; rw [List.length_append, List.length_singleton]; omega
              have HRq : Hid ((R ++ [ea]) ++ mg (A.drop (i + 1)) (B.drop (B.length)) = mg A B) := by unfold Hid; rw [← HR.out, HSt.out]; simp
              go_wp2_with fail
              exact ⟨⟨i + 1, B.length, R ++ [ea], na2, ia2, nc2, ic2, by omega, by omega, rfl, rfl, HRq.out, HRl.out, HQ.out⟩, by simp only [intsOf, intOf]; omega⟩
          · skip
            cases ho
            rw [if_pos (by rfl)]
            go_simp
            have HFB : Hid (Fr (fun k => (Value.slice ra R.length rc).ownBlock = some k ∨ (Value.slice va R.length vc).ownBlock = some k) w9 (W0.alloc (.cells #[.int .i64 ea.2.2.k, .int .i64 ea.2.2.n, .float .f64 ea.2.2.f, .string ⟨ea.2.2.t.toArray⟩, .slice ea.2.2.na ea.2.2.nl ea.2.2.nc, .slice ea.2.2.ia ea.2.2.il ea.2.2.ic] 26))) := HFA.out.alloc _
            have HGV : Hid (Blk (W0.alloc (.cells #[.int .i64 ea.2.2.k, .int .i64 ea.2.2.n, .float .f64 ea.2.2.f, .string ⟨ea.2.2.t.toArray⟩, .slice ea.2.2.na ea.2.2.nl ea.2.2.nc, .slice ea.2.2.ia ea.2.2.il ea.2.2.ic] 26)) W0.heap.size 26 ea.2.2.cs) := Blk.new _ _ _
            have HLV : Hid (w9.heap.size ≤ W0.heap.size) := HFA.out.size
            have HNB : Hid ((W0.alloc (.cells #[.int .i64 ea.2.2.k, .int .i64 ea.2.2.n, .float .f64 ea.2.2.f, .string ⟨ea.2.2.t.toArray⟩, .slice ea.2.2.na ea.2.2.nl ea.2.2.nc, .slice ea.2.2.ia ea.2.2.il ea.2.2.ic] 26)).ownsRow _ _ _ _ _ _) := owns_of_eq HNA.out (fun k hk => Below.heap_alloc W0 _ k (own_lt HNA.out k hk).2)
            have HVB : Hid ((W0.alloc (.cells #[.int .i64 ea.2.2.k, .int .i64 ea.2.2.n, .float .f64 ea.2.2.f, .string ⟨ea.2.2.t.toArray⟩, .slice ea.2.2.na ea.2.2.nl ea.2.2.nc, .slice ea.2.2.ia ea.2.2.il ea.2.2.ic] 26)).ownsRow _ _ _ _ _ _) := owns_of_eq HVA.out (fun k hk => Below.heap_alloc W0 _ k (own_lt HVA.out k hk).2)
            have HZB : Hid (w.heap.size + 4 ≤ (W0.alloc (.cells #[.int .i64 ea.2.2.k, .int .i64 ea.2.2.n, .float .f64 ea.2.2.f, .string ⟨ea.2.2.t.toArray⟩, .slice ea.2.2.na ea.2.2.nl ea.2.2.nc, .slice ea.2.2.ia ea.2.2.il ea.2.2.ic] 26)).heap.size) := Nat.le_trans HZA.out (HFB.out.size |> fun _ => by rw [World.size_alloc]; exact Nat.le_succ _)
            refine hK.out _ _ (HKK.out _ HFB.out).1 (fun _ _ => (HKK.out _ HFB.out).2) ?_
            clear hK K'
            try simp only [Act.put, List.setIfInBounds_toArray, List.set_cons_zero, List.set_cons_succ]
            generalize W0.alloc (.cells #[.int .i64 ea.2.2.k, .int .i64 ea.2.2.n, .float .f64 ea.2.2.f, .string ⟨ea.2.2.t.toArray⟩, .slice ea.2.2.na ea.2.2.nl ea.2.2.nc, .slice ea.2.2.ia ea.2.2.il ea.2.2.ic] 26) = WB at *
            refine oneT (i := 3) (by kernel_rfl) (by decide) (fun o ho K' hK => ?_)
            cases ho
            rw [if_pos (by rfl)]
            go_simp
            have HFC : Hid (Fr (fun k => (Value.slice ra R.length rc).ownBlock = some k ∨ (Value.slice va R.length vc).ownBlock = some k) w9 (WB.alloc (.cells #[.string ⟨ea.1.toArray⟩] 9))) := HFB.out.alloc _
            have HGN : Hid (Blk (WB.alloc (.cells #[.string ⟨ea.1.toArray⟩] 9)) WB.heap.size 9 [.string ⟨ea.1.toArray⟩]) := Blk.new _ _ _
            have HLN : Hid (w9.heap.size ≤ WB.heap.size) := HFB.out.size
            have HNC : Hid ((WB.alloc (.cells #[.string ⟨ea.1.toArray⟩] 9)).ownsRow _ _ _ _ _ _) := owns_of_eq HNB.out (fun k hk => Below.heap_alloc WB _ k (own_lt HNB.out k hk).2)
            have HVC : Hid ((WB.alloc (.cells #[.string ⟨ea.1.toArray⟩] 9)).ownsRow _ _ _ _ _ _) := owns_of_eq HVB.out (fun k hk => Below.heap_alloc WB _ k (own_lt HVB.out k hk).2)
            have HZC : Hid (w.heap.size + 4 ≤ (WB.alloc (.cells #[.string ⟨ea.1.toArray⟩] 9)).heap.size) := Nat.le_trans HZB.out (HFC.out.size |> fun _ => by rw [World.size_alloc]; exact Nat.le_succ _)
            have HGV' := hid (HGV.out.alloc (.cells #[.string ⟨ea.1.toArray⟩] 9))
            refine hK.out _ _ (HKK.out _ HFC.out).1 (fun _ _ => (HKK.out _ HFC.out).2) ?_
            clear hK K'
            try simp only [Act.put, List.setIfInBounds_toArray, List.set_cons_zero, List.set_cons_succ]
            generalize WB.alloc (.cells #[.string ⟨ea.1.toArray⟩] 9) = WC at *
            refine oneT (i := 4) (by kernel_rfl) (by decide) (fun o ho K' hK => ?_)
            cases ho
            rw [if_pos (by rfl)]
            refine wp_app_name _ _ rfl (w.heap.size + 4) _ (nmE R) ea.1 _ _ (by rfl) (by rfl) HNC.out (HGN.out.cell 0) HZC.out hRl2.1 ?_
            intro na2 nc2 WD ho2 hg2
            have HFD := hid (HFC.out.grown hg2 (fun k hk => .inl (.inl hk)))
            have HND := hid ho2
            have HVD := hid (owns_of_eq HVC.out (w' := WD) (fun k hk => hg2.block k (own_lt HVC.out k hk).2 (fun e => HAp.out k e.symm hk)))
            have HGV'2 := hid (HGV'.out.of_eq (w' := WD) (hg2.block _ HGV'.out.lt (fun e => by have h1 := (own_lt HN9.out _ e.symm).2; have h2 := HLV.out; omega)))
            have HZD : Hid (w.heap.size + 4 ≤ WD.heap.size) := Nat.le_trans HZC.out hg2.size
            refine hK.out _ _ (HKK.out _ HFD.out).1 (fun _ _ => (HKK.out _ HFD.out).2) ?_
            clear hK K' hg2
            try simp only [Act.put, List.setIfInBounds_toArray, List.set_cons_zero, List.set_cons_succ]
            refine takeT (fun _ => True) (i := 14) (d := some 73) (.pointer (some ⟨w.heap.size + 3, 4, none⟩)) rfl (by kernel_rfl) (by decide) (by kernel_rfl) (by kernel_rfl) (by kernel_rfl) (fun _ _ _ _ h => h) ((HKK.out _ HFD.out).1) (fun _ => (HKK.out _ HFD.out).2) (.inl (fun _ _ => trivial)) (fun o ho => by cases ho; exact .inl ⟨by rfl, fun w hSw => by (go_simp)⟩) ?_
            simp only [Act.put, List.setIfInBounds_toArray, List.set_cons_zero, List.set_cons_succ]
            refine oneT (i := 13) (by kernel_rfl) (by decide) (fun o ho K' hK => ?_)
            cases ho
            rw [if_pos (by rfl)]
            refine wp_app_value _ _ rfl (w.heap.size + 4) _ (vvE R) ea.2.2 _ _ (by rfl) (by rfl) HVD.out HGV'2.out HZD.out hRl2.2 ?_
            intro ia2 ic2 WE ho3 hg2
            have HFE := hid (HFD.out.grown hg2 (fun k hk => .inl (.inr hk)))
            have HVE := hid ho3
            have HNE := hid (owns_of_eq HND.out (w' := WE) (fun k hk => hg2.block k (own_lt HND.out k hk).2 (fun e => own_apart HND.out HVD.out (by decide) k hk e.symm)))
            have HZE : Hid (w.heap.size + 4 ≤ WE.heap.size) := Nat.le_trans HZD.out hg2.size
            refine hK.out _ _ (HKK.out _ HFE.out).1 (fun _ _ => (HKK.out _ HFE.out).2) ?_
            clear hK K' hg2
            try simp only [Act.put, List.setIfInBounds_toArray, List.set_cons_zero, List.set_cons_succ]
            have hb4 := HFE.out.blk (HF9.out.blk HK.out.bv (fun h => h)) (fun h => by rcases h with h | h; (· have := (own_lt HK.out.ns _ h).1; omega); (· have := (own_lt HK.out.vs _ h).1; omega))
            have hc4 := hb4.cell 4
            have hz4 := hb4.frozen 4
            have hb5 := hb4.setCell 4 (.slice na2 ((nmE R).length + 1) nc2)
            have hc5 := hb5.cell 5
            have hz5 := hb5.frozen 5
            have HP := hid (po_next (e := ea) HK.out HF9.out HFE.out HNE.out HVE.out)
            have HFs : Hid (Fr (fun k => ((Value.slice ra R.length rc).ownBlock = some k ∨ (Value.slice va R.length vc).ownBlock = some k) ∨ k = w.heap.size + 3) w9 (WE.setCell ⟨w.heap.size + 3, 4, none⟩ (.slice na2 ((nmE R).length + 1) nc2))) := (HFE.out.mono (fun k h => .inl h)).setCell (.inl (.inr rfl)) _
            have HFt : Hid (Fr (fun k => ((Value.slice ra R.length rc).ownBlock = some k ∨ (Value.slice va R.length vc).ownBlock = some k) ∨ k = w.heap.size + 3) w9 ((WE.setCell ⟨w.heap.size + 3, 4, none⟩ (.slice na2 ((nmE R).length + 1) nc2)).setCell ⟨w.heap.size + 3, 5, none⟩ (.slice ia2 ((vvE R).length + 1) ic2))) := HFs.out.setCell (.inl (.inr rfl)) _
            clear hb4 hb5
            refine oneT (i := 15) (by kernel_rfl) (by decide) (fun o ho K' hK => ?_)
            cases ho
            rw [if_pos (by rfl)]
            go_simp
            refine hK.out _ _ (HKS.out _ HFs.out) (fun h => absurd rfl h) ?_
            clear hK K'
            try simp only [Act.put, List.setIfInBounds_toArray, List.set_cons_zero, List.set_cons_succ]
            refine takeT (fun _ => True) (i := 16) (d := some 74) (.pointer (some ⟨w.heap.size + 3, 5, none⟩)) rfl (by kernel_rfl) (by decide) (by kernel_rfl) (by kernel_rfl) (by kernel_rfl) (fun _ _ _ _ h => h) (HKS.out _ HFs.out) (fun h => absurd h (by decide +kernel)) (.inl (fun _ _ => trivial)) (fun o ho => by cases ho; exact .inl ⟨by rfl, fun w hSw => by (go_simp)⟩) ?_
            simp only [Act.put, List.setIfInBounds_toArray, List.set_cons_zero, List.set_cons_succ]
            refine oneT (i := 17) (by kernel_rfl) (by decide) (fun o ho K' hK => ?_)
            cases ho
            rw [if_pos (by rfl)]
            go_simp
            refine hK.out _ _ (HKS.out _ HFt.out) (fun _ h => absurd h (by decide +kernel)) ?_
            clear hK K'
            try simp only [Act.put, List.setIfInBounds_toArray, List.set_cons_zero, List.set_cons_succ]
            refine doneT (by kernel_rfl) (NoPanic.normal ?_)
            generalize (WE.setCell ⟨w.heap.size + 3, 4, none⟩ (.slice na2 ((nmE R).length + 1) nc2)).setCell ⟨w.heap.size + 3, 5, none⟩ (.slice ia2 ((vvE R).length + 1) ic2) = W6 at *
            clear hc4 hz4 hc5 hz5 HFs HFt
            have HQ := hid HP.out.drew
            clear HP
            go_wp2_with fail
            skip
            have HSq : Hid ((fun W => W.cell? ⟨w.heap.size, 4, none⟩ = some (.slice (some ⟨nb, no, none⟩) A.length nc) ∧ W.cell? ⟨w.heap.size + 1, 4, none⟩ = some (.slice na' B.length nc')) W6.drew) := ⟨HQ.out.bx.cell 4, HQ.out.by'.cell 4⟩
            have HXq := hid (HX.out.env (Env.of HQ.out.fr))
            have HYq := hid (HY.out.env (Env.of HQ.out.fr))
            have HBa := behind_any W6.drew (some ⟨nb, no, none⟩) nc (A.map (·.1)) i ea.1 HXq.out.names (by rw [List.length_map]; omega) (by rw [List.length_map]; omega)
            have HBb := behind_any W6.drew na' nc' (B.map (·.1)) B.length ea.1 HYq.out.names (by rw [List.length_map]; omega) (by rw [List.length_map]; omega)
            rw [List.length_map] at HBa HBb
            rw [HS1.out] at HBa
            rw [HS2.out] at HBb
            have HBa' := hid HBa
            have HBb' := hid HBb
            clear HBa HBb
            refine wp_region_noPanic ?_
            refine wp_region_held_drew (S := (fun W => W.cell? ⟨w.heap.size, 4, none⟩ = some (.slice (some ⟨nb, no, none⟩) A.length nc) ∧ W.cell? ⟨w.heap.size + 1, 4, none⟩ = some (.slice na' B.length nc'))) (by kernel_rfl) HSq.out (fun _ => ?_)
            generalize W6.drew = W7 at *
            refine takeH (i := 0) (d := some 75) (.pointer (some ⟨w.heap.size, 4, none⟩)) rfl (by kernel_rfl) (by kernel_rfl) (by kernel_rfl) (fun _ _ _ _ h => h) HSq.out (fun o ho => by cases ho; exact .inl ⟨by rfl, fun w hSw => by (obtain ⟨hs0, hs1⟩ := hSw; go_simp)⟩) ?_
            simp only [Act.put, List.setIfInBounds_toArray, List.set_cons_zero, List.set_cons_succ]
            refine takeH (i := 1) (d := some 76) (.slice (some ⟨nb, no, none⟩) A.length nc) rfl (by kernel_rfl) (by kernel_rfl) (by kernel_rfl) (fun _ _ _ _ h => h) HSq.out (fun o ho => by cases ho; exact .inl ⟨by rfl, fun w hSw => by (obtain ⟨hs0, hs1⟩ := hSw; go_simp)⟩) ?_
            simp only [Act.put, List.setIfInBounds_toArray, List.set_cons_zero, List.set_cons_succ]
            refine takeH (i := 2) (d := some 77) (.int .i64 (i : Int)) rfl (by kernel_rfl) (by kernel_rfl) (by kernel_rfl) (fun _ _ _ _ h => h) HSq.out (fun o ho => by cases ho; exact .inl ⟨by rfl, fun w hSw => by (obtain ⟨hs0, hs1⟩ := hSw; go_simp)⟩) ?_
            simp only [Act.put, List.setIfInBounds_toArray, List.set_cons_zero, List.set_cons_succ]
            refine takeH (i := 3) (d := some 78) (.string ⟨ea.1.toArray⟩) rfl (by kernel_rfl) (by kernel_rfl) (by kernel_rfl) (fun _ _ _ _ h => h) HSq.out (fun o ho => by cases ho; exact .inl ⟨by rfl, fun w hSw => by (obtain ⟨hs0, hs1⟩ := hSw; go_simp)⟩) ?_
            simp only [Act.put, List.setIfInBounds_toArray, List.set_cons_zero, List.set_cons_succ]
            refine takeH (i := 5) (d := some 80) (.pointer (some ⟨w.heap.size + 1, 4, none⟩)) rfl (by kernel_rfl) (by kernel_rfl) (by kernel_rfl) (fun _ _ _ _ h => h) HSq.out (fun o ho => by cases ho; exact .inl ⟨by rfl, fun w hSw => by (obtain ⟨hs0, hs1⟩ := hSw; go_simp)⟩) ?_
            simp only [Act.put, List.setIfInBounds_toArray, List.set_cons_zero, List.set_cons_succ]
            refine takeH (i := 6) (d := some 81) (.slice na' B.length nc') rfl (by kernel_rfl) (by kernel_rfl) (by kernel_rfl) (fun _ _ _ _ h => h) HSq.out (fun o ho => by cases ho; exact .inl ⟨by rfl, fun w hSw => by (obtain ⟨hs0, hs1⟩ := hSw; go_simp)⟩) ?_
            simp only [Act.put, List.setIfInBounds_toArray, List.set_cons_zero, List.set_cons_succ]
            refine takeH (i := 7) (d := some 82) (.int .i64 ((B.length : Nat) : Int)) rfl (by kernel_rfl) (by kernel_rfl) (by kernel_rfl) (fun _ _ _ _ h => h) HSq.out (fun o ho => by cases ho; exact .inl ⟨by rfl, fun w hSw => by (obtain ⟨hs0, hs1⟩ := hSw; go_simp)⟩) ?_
            simp only [Act.put, List.setIfInBounds_toArray, List.set_cons_zero, List.set_cons_succ]
            refine takeH (i := 8) (d := some 83) (.string ⟨ea.1.toArray⟩) rfl (by kernel_rfl) (by kernel_rfl) (by kernel_rfl) (fun _ _ _ _ h => h) HSq.out (fun o ho => by cases ho; exact .inl ⟨by rfl, fun w hSw => by (obtain ⟨hs0, hs1⟩ := hSw; go_simp)⟩) ?_
            simp only [Act.put, List.setIfInBounds_toArray, List.set_cons_zero, List.set_cons_succ]
            refine oneH (i := 4) (by kernel_rfl) (fun o ho K' hK => ?_) (by decide)
            cases ho
            rw [if_pos (by rfl)]
            go_simp
            refine HBa'.out.mono ?_
            rintro e wz ⟨rfl, rfl⟩
            refine hK.out _ _ HSq.out ?_
            clear hK K'
            try simp only [Act.put, List.setIfInBounds_toArray, List.set_cons_zero, List.set_cons_succ]
            refine oneH (i := 9) (by kernel_rfl) (fun o ho K' hK => ?_) (by decide)
            cases ho
            rw [if_pos (by rfl)]
            go_simp
            refine HBb'.out.mono ?_
            rintro e wz ⟨rfl, rfl⟩
            refine hK.out _ _ HSq.out ?_
            clear hK K'
            try simp only [Act.put, List.setIfInBounds_toArray, List.set_cons_zero, List.set_cons_succ]
            refine takeH (i := 10) (d := some 7) (.int .i64 ((i + 1 : Nat) : Int)) rfl (by kernel_rfl) (by kernel_rfl) (by kernel_rfl) (fun _ _ _ _ h => h) HSq.out (fun o ho => by cases ho; exact .inl ⟨by rfl, fun w hSw => by (obtain ⟨hs0, hs1⟩ := hSw; go_simp)⟩) ?_
            simp only [Act.put, List.setIfInBounds_toArray, List.set_cons_zero, List.set_cons_succ]
            refine takeH (i := 11) (d := some 8) (.int .i64 ((B.length : Nat) : Int)) rfl (by kernel_rfl) (by kernel_rfl) (by kernel_rfl) (fun _ _ _ _ h => h) HSq.out (fun o ho => by cases ho; exact .inl ⟨by rfl, fun w hSw => by (obtain ⟨hs0, hs1⟩ := hSw; go_simp)⟩) ?_
            simp only [Act.put, List.setIfInBounds_toArray, List.set_cons_zero, List.set_cons_succ]
            refine wpAnyH_done (by kernel_rfl) (NoPanic.normal ?_) _
            have HRl : Hid ((R ++ [ea]).length ≤ (i + 1) + (B.length)) := by unfold Hid; rw [List.length_append, List.length_singleton]; omega
            have HRq : Hid ((R ++ [ea]) ++ mg (A.drop (i + 1)) (B.drop (B.length)) = mg A B) := by unfold Hid; rw [← HR.out, HSt.out]; simp
            go_wp2_with fail
            exact ⟨⟨i + 1, B.length, R ++ [ea], na2, ia2, nc2, ic2, by omega, by omega, rfl, rfl, HRq.out, HRl.out, HQ.out⟩, by simp only [intsOf, intOf]; omega⟩
      · have hjlt : j < B.length := by
          rcases Nat.lt_or_ge j B.length with h | h
          · exact h
          · exact absurd ⟨(by omega : i < A.length), fun h' => absurd h' (by omega)⟩ hund
        have hless : ∀ hi' : i < A.length, Op.bytesLess (A[i]'hi').1 (B[j]'hjlt).1 = false := fun h => by
          cases hq : Op.bytesLess (A[i]'h).1 (B[j]'hjlt).1 with
          | false => rfl
          | true => exact absurd ⟨h, fun _ => hq⟩ hund
        clear hund hend
        by_cases hilt : i < A.length
        · skip
          obtain ⟨nb, no, en, hn⟩ := HXr.out.name i hilt
          obtain ⟨nb', no', en', hn'⟩ := HYr.out.name j hjlt
          simp only at en en'
          subst en en'
          obtain ⟨ib, io, ei, hit⟩ := HYr.out.item j hjlt
          simp only at ei
          subst ei
          obtain ⟨ib0, io0, ei0, hit0⟩ := HY.out.item j hjlt
          simp only [Option.some.injEq, Addr.mk.injEq, and_true] at ei0
          obtain ⟨rfl, rfl⟩ := ei0
          have HIt0 := hid hit0
          clear hit hit0
          have hi1 : (i : Int) < ((A.length : Nat) : Int) := by omega
          have hj1 : (j : Int) < ((B.length : Nat) : Int) := by omega
          have hj2 : (((j : Nat) : Int) == ((B.length : Nat) : Int)) = false := by simp; omega
          have hj3 : (j == B.length) = false := by simp; omega
          have hj4 : decide (j = B.length) = false := by simp; omega
          have hle : Op.bytesLess A[i].1 B[j].1 = false := hless hilt
          obtain ⟨hst, hs1, hs2, hs3⟩ := step_over hjlt hi hless
          rw [hs1] at hst
          have HSt := hid hst
          have HS1 := hid hs1
          have HS2 := hid hs2
          have HS3 := hid hs3
          clear hst hs1 hs2 hless hs3
          generalize hA : A[i] = ea at *
          generalize hB : B[j] = eb at *
          clear hA hB
          go_wp2_with (refine wpList_storeV ⟨k', n', f', t', some ⟨nb', no', none⟩, B.length, nc', some ⟨ib, io, none⟩, B.length, ic'⟩ (by rfl) _ _ (by rfl) HBz.out (by rfl) (by rfl) ?_; intro w8 b8 f8; have HF8 := hid (bx_fr f8); have HW8 := hid b8; obtain ⟨c0, c1, c2, c3, c4, c5⟩ := (HF8.out.blk HK.out.bx (fun h => h)).six; obtain ⟨d0, d1, d2, d3, d4, d5⟩ := (HF8.out.blk HK.out.by' (fun h => h)).six; have hn8 := (Env.of HF8.out).cell hn; have hn8' := (Env.of HF8.out).cell hn'; clear b8 f8)
          go_quiet (fail)
          have HF9 : Hid (Fr (fun _ => False) wr (w8.drewN nq)) := HF8.out.drewN nq
          have HW9 : Hid (Blk (w8.drewN nq) wr.heap.size 26 (Vv.mk k' n' f' t' (some ⟨nb', no', none⟩) B.length nc' (some ⟨ib, io, none⟩) B.length ic').cs) := HW8.out
          generalize w8.drewN nq = w9 at *
          obtain ⟨q0, q1, q2, q3, q4, q5⟩ := HW9.out.six
          have hn9 := (Env.of HF9.out).cell hn'
          go_wp2_with fail
          have HKK : Hid (∀ W, Fr (fun k => (Value.slice ra R.length rc).ownBlock = some k ∨ (Value.slice va R.length vc).ownBlock = some k) w9 W → ((fun W => W.cell? ⟨wr.heap.size, 5, none⟩ = some (.slice (some ⟨ib, io, none⟩) B.length ic') ∧ sixB W ib (io + j * 6) eb.2.2) W) ∧ ((fun W => W.cell? ⟨w.heap.size + 3, 4, none⟩ = some (.slice ra R.length rc) ∧ W.cell? ⟨w.heap.size + 3, 5, none⟩ = some (.slice va R.length vc)) W)) := fun W fr => by
            have hrow : ∀ k, ((Value.slice ra R.length rc).ownBlock = some k ∨ (Value.slice va R.length vc).ownBlock = some k) → w.heap.size + 4 ≤ k ∧ k < wr.heap.size := fun k h => by
              rcases h with h | h
              · exact own_lt HK.out.ns k h
              · exact own_lt HK.out.vs k h
            have henv : Env w W := (Env.of (HK.out.fr.trans HF9.out (fun _ h => h.elim))).fr fr (fun k hk => by have := hrow k hk; omega)
            have hb := fr.blk (HF9.out.blk HK.out.bv (fun h => h)) (fun h => by have := hrow _ h; omega)
            exact ⟨⟨(fr.blk HW9.out (fun h => by have := hrow _ h; omega)).cell 5, (HIt0.out.env henv).six⟩, hb.cell 4, hb.cell 5⟩
          have HKS : Hid (∀ W, Fr (fun k => ((Value.slice ra R.length rc).ownBlock = some k ∨ (Value.slice va R.length vc).ownBlock = some k) ∨ k = w.heap.size + 3) w9 W → ((fun W => W.cell? ⟨wr.heap.size, 5, none⟩ = some (.slice (some ⟨ib, io, none⟩) B.length ic') ∧ sixB W ib (io + j * 6) eb.2.2) W)) := fun W fr => by
            have hrow : ∀ k, ((Value.slice ra R.length rc).ownBlock = some k ∨ (Value.slice va R.length vc).ownBlock = some k) → w.heap.size + 4 ≤ k ∧ k < wr.heap.size := fun k h => by
              rcases h with h | h
              · exact own_lt HK.out.ns k h
              · exact own_lt HK.out.vs k h
            have hbig : w.heap.size + 3 < wr.heap.size := HK.out.bv.lt
            have henv : Env w W := (Env.of (HK.out.fr.trans HF9.out (fun _ h => h.elim))).fr fr (fun k hk => by rcases hk with hk | hk; (· have := hrow k hk; omega); (· omega))
            exact ⟨(fr.blk HW9.out (fun h => by rcases h with h | h; (· have := hrow _ h; omega); (· omega))).cell 5, (HIt0.out.env henv).six⟩
          have HN9 : Hid (w9.ownsRow (w.heap.size + 4) 9 1 (.slice ra R.length rc) (nmE R).length (strC (nmE R))) := owns_of_eq HK.out.ns (fun k hk => HF9.out.block k (own_lt HK.out.ns k hk).2 (fun h => h))
          have HV9 : Hid (w9.ownsRow (w.heap.size + 4) 26 6 (.slice va R.length vc) (vvE R).length (flatV (vvE R))) := owns_of_eq HK.out.vs (fun k hk => HF9.out.block k (own_lt HK.out.vs k hk).2 (fun h => h))
          have HAp := hid (own_apart HN9.out HV9.out (by decide))
          have HSz : Hid (w.heap.size + 4 ≤ w9.heap.size) := by unfold Hid; have h1 := HF9.out.size; have h2 := HK.out.bv.lt; omega
          have HF0 : Hid (Fr (fun k => (Value.slice ra R.length rc).ownBlock = some k ∨ (Value.slice va R.length vc).ownBlock = some k) w9 w9.drew) := (Fr.refl _ w9).drew
          have hRl2 : (nmE R).length ≤ 1000 ∧ (vvE R).length ≤ 1000 := by rw [nmE_len, vvE_len]; omega
          refine wp_region_noPanic ?_
          refine region_till (fun W => W.cell? ⟨wr.heap.size, 5, none⟩ = some (.slice (some ⟨ib, io, none⟩) B.length ic') ∧ sixB W ib (io + j * 6) eb.2.2) (fun W => W.cell? ⟨w.heap.size + 3, 4, none⟩ = some (.slice ra R.length rc) ∧ W.cell? ⟨w.heap.size + 3, 5, none⟩ = some (.slice va R.length vc)) 15 (by kernel_rfl) ?_
          have HNA : Hid (w9.drew.ownsRow (w.heap.size + 4) 9 1 (.slice ra R.length rc) (nmE R).length (strC (nmE R))) := HN9.out
          have HVA : Hid (w9.drew.ownsRow (w.heap.size + 4) 26 6 (.slice va R.length vc) (vvE R).length (flatV (vvE R))) := HV9.out
          have HZA : Hid (w.heap.size + 4 ≤ w9.drew.heap.size) := HSz.out
          generalize w9.drew = W0 at *
          have HFA := HF0
          refine takeT (fun _ => True) (i := 0) (d := some 59) (.pointer (some ⟨w.heap.size + 3, 4, none⟩)) rfl (by kernel_rfl) (by decide) (by kernel_rfl) (by kernel_rfl) (by kernel_rfl) (fun _ _ _ _ h => h) ((HKK.out _ HF0.out).1) (fun _ => (HKK.out _ HF0.out).2) (.inl (fun _ _ => trivial)) (fun o ho => by cases ho; exact .inl ⟨by rfl, fun w hSw => by (go_simp)⟩) ?_
          simp only [Act.put, List.setIfInBounds_toArray, List.set_cons_zero, List.set_cons_succ]
          refine takeT (fun W => W.cell? ⟨w.heap.size + 3, 4, none⟩ = some (.slice ra R.length rc) ∧ W.cell? ⟨w.heap.size + 3, 5, none⟩ = some (.slice va R.length vc)) (i := 1) (d := some 60) (.slice ra R.length rc) rfl (by kernel_rfl) (by decide) (by kernel_rfl) (by kernel_rfl) (by kernel_rfl) (fun _ _ _ _ h => h) ((HKK.out _ HF0.out).1) (fun _ => (HKK.out _ HF0.out).2) (.inr ⟨fun _ h1 h2 => h2, by kernel_rfl, by kernel_rfl⟩) (fun o ho => by cases ho; exact .inl ⟨by rfl, fun w hSw => by (obtain ⟨hs5, hs6⟩ := hSw; go_simp)⟩) ?_
          simp only [Act.put, List.setIfInBounds_toArray, List.set_cons_zero, List.set_cons_succ]
          refine takeT (fun _ => True) (i := 2) (d := some 61) (.string ⟨eb.1.toArray⟩) rfl (by kernel_rfl) (by decide) (by kernel_rfl) (by kernel_rfl) (by kernel_rfl) (fun _ _ _ _ h => h) ((HKK.out _ HF0.out).1) (fun _ => (HKK.out _ HF0.out).2) (.inl (fun _ _ => trivial)) (fun o ho => by cases ho; exact .inl ⟨by rfl, fun w hSw => by (go_simp)⟩) ?_
          simp only [Act.put, List.setIfInBounds_toArray, List.set_cons_zero, List.set_cons_succ]
          refine takeT (fun _ => True) (i := 5) (d := some 64) (.pointer (some ⟨w.heap.size + 3, 5, none⟩)) rfl (by kernel_rfl) (by decide) (by kernel_rfl) (by kernel_rfl) (by kernel_rfl) (fun _ _ _ _ h => h) ((HKK.out _ HF0.out).1) (fun _ => (HKK.out _ HF0.out).2) (.inl (fun _ _ => trivial)) (fun o ho => by cases ho; exact .inl ⟨by rfl, fun w hSw => by (go_simp)⟩) ?_
          simp only [Act.put, List.setIfInBounds_toArray, List.set_cons_zero, List.set_cons_succ]
          refine takeT (fun W => W.cell? ⟨w.heap.size + 3, 4, none⟩ = some (.slice ra R.length rc) ∧ W.cell? ⟨w.heap.size + 3, 5, none⟩ = some (.slice va R.length vc)) (i := 6) (d := some 65) (.slice va R.length vc) rfl (by kernel_rfl) (by decide) (by kernel_rfl) (by kernel_rfl) (by kernel_rfl) (fun _ _ _ _ h => h) ((HKK.out _ HF0.out).1) (fun _ => (HKK.out _ HF0.out).2) (.inr ⟨fun _ h1 h2 => h2, by kernel_rfl, by kernel_rfl⟩) (fun o ho => by cases ho; exact .inl ⟨by rfl, fun w hSw => by (obtain ⟨hs5, hs6⟩ := hSw; go_simp)⟩) ?_
          simp only [Act.put, List.setIfInBounds_toArray, List.set_cons_zero, List.set_cons_succ]
          refine takeT (fun _ => True) (i := 7) (d := some 66) (.pointer (some ⟨wr.heap.size, 5, none⟩)) rfl (by kernel_rfl) (by decide) (by kernel_rfl) (by kernel_rfl) (by kernel_rfl) (fun _ _ _ _ h => h) ((HKK.out _ HF0.out).1) (fun _ => (HKK.out _ HF0.out).2) (.inl (fun _ _ => trivial)) (fun o ho => by cases ho; exact .inl ⟨by rfl, fun w hSw => by (go_simp)⟩) ?_
          simp only [Act.put, List.setIfInBounds_toArray, List.set_cons_zero, List.set_cons_succ]
          refine takeT (fun W => W.cell? ⟨wr.heap.size, 5, none⟩ = some (.slice (some ⟨ib, io, none⟩) B.length ic') ∧ sixB W ib (io + j * 6) eb.2.2) (i := 8) (d := some 67) (.slice (some ⟨ib, io, none⟩) B.length ic') rfl (by kernel_rfl) (by decide) (by kernel_rfl) (by kernel_rfl) (by kernel_rfl) (fun _ _ _ _ h => h) ((HKK.out _ HF0.out).1) (fun _ => (HKK.out _ HF0.out).2) (.inl (fun _ h => h)) (fun o ho => by cases ho; exact .inl ⟨by rfl, fun w hSw => by (obtain ⟨hs5, hs0, hs1, hs2, hs3, hs4, hs6⟩ := hSw; go_simp)⟩) ?_
          simp only [Act.put, List.setIfInBounds_toArray, List.set_cons_zero, List.set_cons_succ]
          refine takeT (fun _ => True) (i := 9) (d := some 68) (.int .i64 (j : Int)) rfl (by kernel_rfl) (by decide) (by kernel_rfl) (by kernel_rfl) (by kernel_rfl) (fun _ _ _ _ h => h) ((HKK.out _ HF0.out).1) (fun _ => (HKK.out _ HF0.out).2) (.inl (fun _ _ => trivial)) (fun o ho => by cases ho; exact .inl ⟨by rfl, fun w hSw => by (go_simp)⟩) ?_
          simp only [Act.put, List.setIfInBounds_toArray, List.set_cons_zero, List.set_cons_succ]
          refine takeT (fun _ => True) (i := 10) (d := some 69) (.pointer (some ⟨ib, io + j * 6, none⟩)) rfl (by kernel_rfl) (by decide) (by kernel_rfl) (by kernel_rfl) (by kernel_rfl) (fun _ _ _ _ h => h) ((HKK.out _ HF0.out).1) (fun _ => (HKK.out _ HF0.out).2) (.inl (fun _ _ => trivial)) (fun o ho => by cases ho; exact .inl ⟨by rfl, fun w hSw => by (go_simp)⟩) ?_
          simp only [Act.put, List.setIfInBounds_toArray, List.set_cons_zero, List.set_cons_succ]
          refine takeT (fun W => W.cell? ⟨wr.heap.size, 5, none⟩ = some (.slice (some ⟨ib, io, none⟩) B.length ic') ∧ sixB W ib (io + j * 6) eb.2.2) (i := 11) (d := some 70) (eb.2.2.v) rfl (by kernel_rfl) (by decide) (by kernel_rfl) (by kernel_rfl) (by kernel_rfl) (fun _ _ _ _ h => h) ((HKK.out _ HF0.out).1) (fun _ => (HKK.out _ HF0.out).2) (.inl (fun _ h => h)) (fun o ho => by cases ho; exact .inl ⟨by rfl, fun w hSw => by (obtain ⟨hs5, hs0, hs1, hs2, hs3, hs4, hs6⟩ := hSw; go_simp)⟩) ?_
          simp only [Act.put, List.setIfInBounds_toArray, List.set_cons_zero, List.set_cons_succ]
          refine twoT (i := 3) (j := 12) (by kernel_rfl) (by decide) (by decide) (fun o ho K' hK => ?_) (fun o ho K' hK => ?_)
          · skip
            cases ho
            rw [if_pos (by rfl)]
            go_simp
            have HFB : Hid (Fr (fun k => (Value.slice ra R.length rc).ownBlock = some k ∨ (Value.slice va R.length vc).ownBlock = some k) w9 (W0.alloc (.cells #[.string ⟨eb.1.toArray⟩] 9))) := HFA.out.alloc _
            have HGN : Hid (Blk (W0.alloc (.cells #[.string ⟨eb.1.toArray⟩] 9)) W0.heap.size 9 [.string ⟨eb.1.toArray⟩]) := Blk.new _ _ _
            have HLN : Hid (w9.heap.size ≤ W0.heap.size) := HFA.out.size
            have HNB : Hid ((W0.alloc (.cells #[.string ⟨eb.1.toArray⟩] 9)).ownsRow _ _ _ _ _ _) := owns_of_eq HNA.out (fun k hk => Below.heap_alloc W0 _ k (own_lt HNA.out k hk).2)
            have HVB : Hid ((W0.alloc (.cells #[.string ⟨eb.1.toArray⟩] 9)).ownsRow _ _ _ _ _ _) := owns_of_eq HVA.out (fun k hk => Below.heap_alloc W0 _ k (own_lt HVA.out k hk).2)
            have HZB : Hid (w.heap.size + 4 ≤ (W0.alloc (.cells #[.string ⟨eb.1.toArray⟩] 9)).heap.size) := Nat.le_trans HZA.out (HFB.out.size |> fun _ => by rw [World.size_alloc]; exact Nat.le_succ _)
            refine hK.out _ _ (HKK.out _ HFB.out).1 (fun _ _ => (HKK.out _ HFB.out).2) ?_
            clear hK K'
            try simp only [Act.put, List.setIfInBounds_toArray, List.set_cons_zero, List.set_cons_succ]
            generalize W0.alloc (.cells #[.string ⟨eb.1.toArray⟩] 9) = WB at *
            refine twoT (i := 4) (j := 12) (by kernel_rfl) (by decide) (by decide) (fun o ho K' hK => ?_) (fun o ho K' hK => ?_)
            · skip
              cases ho
              rw [if_pos (by rfl)]
              refine wp_app_name _ _ rfl (w.heap.size + 4) _ (nmE R) eb.1 _ _ (by rfl) (by rfl) HNB.out (HGN.out.cell 0) HZB.out hRl2.1 ?_
              intro na2 nc2 WC ho2 hg2
              have HFC := hid (HFB.out.grown hg2 (fun k hk => .inl (.inl hk)))
              have HNC := hid ho2
              have HVC := hid (owns_of_eq HVB.out (w' := WC) (fun k hk => hg2.block k (own_lt HVB.out k hk).2 (fun e => HAp.out k e.symm hk)))
              have HZC : Hid (w.heap.size + 4 ≤ WC.heap.size) := Nat.le_trans HZB.out hg2.size
              refine hK.out _ _ (HKK.out _ HFC.out).1 (fun _ _ => (HKK.out _ HFC.out).2) ?_
              clear hK K' hg2
              try simp only [Act.put, List.setIfInBounds_toArray, List.set_cons_zero, List.set_cons_succ]
              refine takeT (fun _ => True) (i := 14) (d := some 73) (.pointer (some ⟨w.heap.size + 3, 4, none⟩)) rfl (by kernel_rfl) (by decide) (by kernel_rfl) (by kernel_rfl) (by kernel_rfl) (fun _ _ _ _ h => h) ((HKK.out _ HFC.out).1) (fun _ => (HKK.out _ HFC.out).2) (.inl (fun _ _ => trivial)) (fun o ho => by cases ho; exact .inl ⟨by rfl, fun w hSw => by (go_simp)⟩) ?_
              simp only [Act.put, List.setIfInBounds_toArray, List.set_cons_zero, List.set_cons_succ]
              refine oneT (i := 12) (by kernel_rfl) (by decide) (fun o ho K' hK => ?_)
              cases ho
              rw [if_pos (by rfl)]
              go_simp
              have HFD : Hid (Fr (fun k => (Value.slice ra R.length rc).ownBlock = some k ∨ (Value.slice va R.length vc).ownBlock = some k) w9 (WC.alloc (.cells #[.int .i64 eb.2.2.k, .int .i64 eb.2.2.n, .float .f64 eb.2.2.f, .string ⟨eb.2.2.t.toArray⟩, .slice eb.2.2.na eb.2.2.nl eb.2.2.nc, .slice eb.2.2.ia eb.2.2.il eb.2.2.ic] 26))) := HFC.out.alloc _
              have HGV : Hid (Blk (WC.alloc (.cells #[.int .i64 eb.2.2.k, .int .i64 eb.2.2.n, .float .f64 eb.2.2.f, .string ⟨eb.2.2.t.toArray⟩, .slice eb.2.2.na eb.2.2.nl eb.2.2.nc, .slice eb.2.2.ia eb.2.2.il eb.2.2.ic] 26)) WC.heap.size 26 eb.2.2.cs) := Blk.new _ _ _
              have HLV : Hid (w9.heap.size ≤ WC.heap.size) := HFC.out.size
              have HND : Hid ((WC.alloc (.cells #[.int .i64 eb.2.2.k, .int .i64 eb.2.2.n, .float .f64 eb.2.2.f, .string ⟨eb.2.2.t.toArray⟩, .slice eb.2.2.na eb.2.2.nl eb.2.2.nc, .slice eb.2.2.ia eb.2.2.il eb.2.2.ic] 26)).ownsRow _ _ _ _ _ _) := owns_of_eq HNC.out (fun k hk => Below.heap_alloc WC _ k (own_lt HNC.out k hk).2)
              have HVD : Hid ((WC.alloc (.cells #[.int .i64 eb.2.2.k, .int .i64 eb.2.2.n, .float .f64 eb.2.2.f, .string ⟨eb.2.2.t.toArray⟩, .slice eb.2.2.na eb.2.2.nl eb.2.2.nc, .slice eb.2.2.ia eb.2.2.il eb.2.2.ic] 26)).ownsRow _ _ _ _ _ _) := owns_of_eq HVC.out (fun k hk => Below.heap_alloc WC _ k (own_lt HVC.out k hk).2)
              have HZD : Hid (w.heap.size + 4 ≤ (WC.alloc (.cells #[.int .i64 eb.2.2.k, .int .i64 eb.2.2.n, .float .f64 eb.2.2.f, .string ⟨eb.2.2.t.toArray⟩, .slice eb.2.2.na eb.2.2.nl eb.2.2.nc, .slice eb.2.2.ia eb.2.2.il eb.2.2.ic] 26)).heap.size) := Nat.le_trans HZC.out (HFD.out.size |> fun _ => by rw [World.size_alloc]; exact Nat.le_succ _)
              refine hK.out _ _ (HKK.out _ HFD.out).1 (fun _ _ => (HKK.out _ HFD.out).2) ?_
              clear hK K'
              try simp only [Act.put, List.setIfInBounds_toArray, List.set_cons_zero, List.set_cons_succ]
              generalize WC.alloc (.cells #[.int .i64 eb.2.2.k, .int .i64 eb.2.2.n, .float .f64 eb.2.2.f, .string ⟨eb.2.2.t.toArray⟩, .slice eb.2.2.na eb.2.2.nl eb.2.2.nc, .slice eb.2.2.ia eb.2.2.il eb.2.2.ic] 26) = WD at *
              refine oneT (i := 13) (by kernel_rfl) (by decide) (fun o ho K' hK => ?_)
              cases ho
              rw [if_pos (by rfl)]
              refine wp_app_value _ _ rfl (w.heap.size + 4) _ (vvE R) eb.2.2 _ _ (by rfl) (by rfl) HVD.out HGV.out HZD.out hRl2.2 ?_
              intro ia2 ic2 WE ho3 hg2
              have HFE := hid (HFD.out.grown hg2 (fun k hk => .inl (.inr hk)))
              have HVE := hid ho3
              have HNE := hid (owns_of_eq HND.out (w' := WE) (fun k hk => hg2.block k (own_lt HND.out k hk).2 (fun e => own_apart HND.out HVD.out (by decide) k hk e.symm)))
              have HZE : Hid (w.heap.size + 4 ≤ WE.heap.size) := Nat.le_trans HZD.out hg2.size
              refine hK.out _ _ (HKK.out _ HFE.out).1 (fun _ _ => (HKK.out _ HFE.out).2) ?_
              clear hK K' hg2
              try simp only [Act.put, List.setIfInBounds_toArray, List.set_cons_zero, List.set_cons_succ]
              have hb4 := HFE.out.blk (HF9.out.blk HK.out.bv (fun h => h)) (fun h => by rcases h with h | h; (· have := (own_lt HK.out.ns _ h).1; omega); (· have := (own_lt HK.out.vs _ h).1; omega))
              have hc4 := hb4.cell 4
              have hz4 := hb4.frozen 4
              have hb5 := hb4.setCell 4 (.slice na2 ((nmE R).length + 1) nc2)
              have hc5 := hb5.cell 5
              have hz5 := hb5.frozen 5
              have HP := hid (po_next (e := eb) HK.out HF9.out HFE.out HNE.out HVE.out)
              have HFs : Hid (Fr (fun k => ((Value.slice ra R.length rc).ownBlock = some k ∨ (Value.slice va R.length vc).ownBlock = some k) ∨ k = w.heap.size + 3) w9 (WE.setCell ⟨w.heap.size + 3, 4, none⟩ (.slice na2 ((nmE R).length + 1) nc2))) := (HFE.out.mono (fun k h => .inl h)).setCell (.inl (.inr rfl)) _
              have HFt : Hid (Fr (fun k => ((Value.slice ra R.length rc).ownBlock = some k ∨ (Value.slice va R.length vc).ownBlock = some k) ∨ k = w.heap.size + 3) w9 ((WE.setCell ⟨w.heap.size + 3, 4, none⟩ (.slice na2 ((nmE R).length + 1) nc2)).setCell ⟨w.heap.size + 3, 5, none⟩ (.slice ia2 ((vvE R).length + 1) ic2))) := HFs.out.setCell (.inl (.inr rfl)) _
              clear hb4 hb5
              refine oneT (i := 15) (by kernel_rfl) (by decide) (fun o ho K' hK => ?_)
              cases ho
              rw [if_pos (by rfl)]
              go_simp
              refine hK.out _ _ (HKS.out _ HFs.out) (fun h => absurd rfl h) ?_
              clear hK K'
              try simp only [Act.put, List.setIfInBounds_toArray, List.set_cons_zero, List.set_cons_succ]
              refine takeT (fun _ => True) (i := 16) (d := some 74) (.pointer (some ⟨w.heap.size + 3, 5, none⟩)) rfl (by kernel_rfl) (by decide) (by kernel_rfl) (by kernel_rfl) (by kernel_rfl) (fun _ _ _ _ h => h) (HKS.out _ HFs.out) (fun h => absurd h (by decide +kernel)) (.inl (fun _ _ => trivial)) (fun o ho => by cases ho; exact .inl ⟨by rfl, fun w hSw => by (go_simp)⟩) ?_
              simp only [Act.put, List.setIfInBounds_toArray, List.set_cons_zero, List.set_cons_succ]
              refine oneT (i := 17) (by kernel_rfl) (by decide) (fun o ho K' hK => ?_)
              cases ho
              rw [if_pos (by rfl)]
              go_simp
              refine hK.out _ _ (HKS.out _ HFt.out) (fun _ h => absurd h (by decide +kernel)) ?_
              clear hK K'
              try simp only [Act.put, List.setIfInBounds_toArray, List.set_cons_zero, List.set_cons_succ]
              refine doneT (by kernel_rfl) (NoPanic.normal ?_)
              generalize (WE.setCell ⟨w.heap.size + 3, 4, none⟩ (.slice na2 ((nmE R).length + 1) nc2)).setCell ⟨w.heap.size + 3, 5, none⟩ (.slice ia2 ((vvE R).length + 1) ic2) = W6 at *
              clear hc4 hz4 hc5 hz5 HFs HFt
              have HQ := hid HP.out.drew
              clear HP
              go_wp2_with fail
              skip
              have HSq : Hid ((fun W => W.cell? ⟨w.heap.size, 4, none⟩ = some (.slice (some ⟨nb, no, none⟩) A.length nc) ∧ W.cell? ⟨w.heap.size + 1, 4, none⟩ = some (.slice (some ⟨nb', no', none⟩) B.length nc')) W6.drew) := ⟨HQ.out.bx.cell 4, HQ.out.by'.cell 4⟩
              have HXq := hid (HX.out.env (Env.of HQ.out.fr))
              have HYq := hid (HY.out.env (Env.of HQ.out.fr))
              have HBa := behind_any W6.drew (some ⟨nb, no, none⟩) nc (A.map (·.1)) i eb.1 HXq.out.names (by rw [List.length_map]; omega) (by rw [List.length_map]; omega)
              have HBb := behind_any W6.drew (some ⟨nb', no', none⟩) nc' (B.map (·.1)) j eb.1 HYq.out.names (by rw [List.length_map]; omega) (by rw [List.length_map]; omega)
              rw [List.length_map] at HBa HBb
              rw [HS1.out] at HBb
              have HS2' := HS2
              have HS3' := HS3
              have HSt' := HSt
              generalize bh (A.map (·.1)) i eb.1 = m2 at HBa HS2' HS3' HSt'
              have HBa' := hid HBa
              have HBb' := hid HBb
              clear HBa HBb
              refine wp_region_noPanic ?_
              refine wp_region_held_drew (S := (fun W => W.cell? ⟨w.heap.size, 4, none⟩ = some (.slice (some ⟨nb, no, none⟩) A.length nc) ∧ W.cell? ⟨w.heap.size + 1, 4, none⟩ = some (.slice (some ⟨nb', no', none⟩) B.length nc'))) (by kernel_rfl) HSq.out (fun _ => ?_)
              generalize W6.drew = W7 at *
              refine takeH (i := 0) (d := some 75) (.pointer (some ⟨w.heap.size, 4, none⟩)) rfl (by kernel_rfl) (by kernel_rfl) (by kernel_rfl) (fun _ _ _ _ h => h) HSq.out (fun o ho => by cases ho; exact .inl ⟨by rfl, fun w hSw => by (obtain ⟨hs0, hs1⟩ := hSw; go_simp)⟩) ?_
              simp only [Act.put, List.setIfInBounds_toArray, List.set_cons_zero, List.set_cons_succ]
              refine takeH (i := 1) (d := some 76) (.slice (some ⟨nb, no, none⟩) A.length nc) rfl (by kernel_rfl) (by kernel_rfl) (by kernel_rfl) (fun _ _ _ _ h => h) HSq.out (fun o ho => by cases ho; exact .inl ⟨by rfl, fun w hSw => by (obtain ⟨hs0, hs1⟩ := hSw; go_simp)⟩) ?_
              simp only [Act.put, List.setIfInBounds_toArray, List.set_cons_zero, List.set_cons_succ]
              refine takeH (i := 2) (d := some 77) (.int .i64 (i : Int)) rfl (by kernel_rfl) (by kernel_rfl) (by kernel_rfl) (fun _ _ _ _ h => h) HSq.out (fun o ho => by cases ho; exact .inl ⟨by rfl, fun w hSw => by (obtain ⟨hs0, hs1⟩ := hSw; go_simp)⟩) ?_
              simp only [Act.put, List.setIfInBounds_toArray, List.set_cons_zero, List.set_cons_succ]
              refine takeH (i := 3) (d := some 78) (.string ⟨eb.1.toArray⟩) rfl (by kernel_rfl) (by kernel_rfl) (by kernel_rfl) (fun _ _ _ _ h => h) HSq.out (fun o ho => by cases ho; exact .inl ⟨by rfl, fun w hSw => by (obtain ⟨hs0, hs1⟩ := hSw; go_simp)⟩) ?_
              simp only [Act.put, List.setIfInBounds_toArray, List.set_cons_zero, List.set_cons_succ]
              refine takeH (i := 5) (d := some 80) (.pointer (some ⟨w.heap.size + 1, 4, none⟩)) rfl (by kernel_rfl) (by kernel_rfl) (by kernel_rfl) (fun _ _ _ _ h => h) HSq.out (fun o ho => by cases ho; exact .inl ⟨by rfl, fun w hSw => by (obtain ⟨hs0, hs1⟩ := hSw; go_simp)⟩) ?_
              simp only [Act.put, List.setIfInBounds_toArray, List.set_cons_zero, List.set_cons_succ]
              refine takeH (i := 6) (d := some 81) (.slice (some ⟨nb', no', none⟩) B.length nc') rfl (by kernel_rfl) (by kernel_rfl) (by kernel_rfl) (fun _ _ _ _ h => h) HSq.out (fun o ho => by cases ho; exact .inl ⟨by rfl, fun w hSw => by (obtain ⟨hs0, hs1⟩ := hSw; go_simp)⟩) ?_
              simp only [Act.put, List.setIfInBounds_toArray, List.set_cons_zero, List.set_cons_succ]
              refine takeH (i := 7) (d := some 82) (.int .i64 (j : Int)) rfl (by kernel_rfl) (by kernel_rfl) (by kernel_rfl) (fun _ _ _ _ h => h) HSq.out (fun o ho => by cases ho; exact .inl ⟨by rfl, fun w hSw => by (obtain ⟨hs0, hs1⟩ := hSw; go_simp)⟩) ?_
              simp only [Act.put, List.setIfInBounds_toArray, List.set_cons_zero, List.set_cons_succ]
              refine takeH (i := 8) (d := some 83) (.string ⟨eb.1.toArray⟩) rfl (by kernel_rfl) (by kernel_rfl) (by kernel_rfl) (fun _ _ _ _ h => h) HSq.out (fun o ho => by cases ho; exact .inl ⟨by rfl, fun w hSw => by (obtain ⟨hs0, hs1⟩ := hSw; go_simp)⟩) ?_
              simp only [Act.put, List.setIfInBounds_toArray, List.set_cons_zero, List.set_cons_succ]
              refine oneH (i := 4) (by kernel_rfl) (fun o ho K' hK => ?_) (by decide)
              cases ho
              rw [if_pos (by rfl)]
              go_simp
              refine HBa'.out.mono ?_
              rintro e wz ⟨rfl, rfl⟩
              refine hK.out _ _ HSq.out ?_
              clear hK K'
              try simp only [Act.put, List.setIfInBounds_toArray, List.set_cons_zero, List.set_cons_succ]
              refine oneH (i := 9) (by kernel_rfl) (fun o ho K' hK => ?_) (by decide)
              cases ho
              rw [if_pos (by rfl)]
              go_simp
              refine HBb'.out.mono ?_
              rintro e wz ⟨rfl, rfl⟩
              refine hK.out _ _ HSq.out ?_
              clear hK K'
              try simp only [Act.put, List.setIfInBounds_toArray, List.set_cons_zero, List.set_cons_succ]
              refine takeH (i := 10) (d := some 7) (.int .i64 ((m2 : Nat) : Int)) rfl (by kernel_rfl) (by kernel_rfl) (by kernel_rfl) (fun _ _ _ _ h => h) HSq.out (fun o ho => by cases ho; exact .inl ⟨by rfl, fun w hSw => by (obtain ⟨hs0, hs1⟩ := hSw; go_simp)⟩) ?_
              simp only [Act.put, List.setIfInBounds_toArray, List.set_cons_zero, List.set_cons_succ]
              refine takeH (i := 11) (d := some 8) (.int .i64 ((j + 1 : Nat) : Int)) rfl (by kernel_rfl) (by kernel_rfl) (by kernel_rfl) (fun _ _ _ _ h => h) HSq.out (fun o ho => by cases ho; exact .inl ⟨by rfl, fun w hSw => by (obtain ⟨hs0, hs1⟩ := hSw; go_simp)⟩) ?_
              simp only [Act.put, List.setIfInBounds_toArray, List.set_cons_zero, List.set_cons_succ]
              refine wpAnyH_done (by kernel_rfl) (NoPanic.normal ?_) _
              have HRl : Hid ((R ++ [eb]).length ≤ (m2) + (j + 1)) := by unfold Hid; rw [List.length_append, List.length_singleton]; have h2 := HS2'.out; omega
              have HRq : Hid ((R ++ [eb]) ++ mg (A.drop (m2)) (B.drop (j + 1)) = mg A B) := by unfold Hid; rw [← HR.out, HSt'.out]; simp
              go_wp2_with fail
              exact ⟨⟨m2, j + 1, R ++ [eb], na2, ia2, nc2, ic2, by exact HS3'.out, by omega, rfl, rfl, HRq.out, HRl.out, HQ.out⟩, by simp only [intsOf, intOf]; have h2 := HS2'.out; omega⟩
            · skip
              cases ho
              rw [if_pos (by rfl)]
              go_simp
              have HFC : Hid (Fr (fun k => (Value.slice ra R.length rc).ownBlock = some k ∨ (Value.slice va R.length vc).ownBlock = some k) w9 (WB.alloc (.cells #[.int .i64 eb.2.2.k, .int .i64 eb.2.2.n, .float .f64 eb.2.2.f, .string ⟨eb.2.2.t.toArray⟩, .slice eb.2.2.na eb.2.2.nl eb.2.2.nc, .slice eb.2.2.ia eb.2.2.il eb.2.2.ic] 26))) := HFB.out.alloc _
              have HGV : Hid (Blk (WB.alloc (.cells #[.int .i64 eb.2.2.k, .int .i64 eb.2.2.n, .float .f64 eb.2.2.f, .string ⟨eb.2.2.t.toArray⟩, .slice eb.2.2.na eb.2.2.nl eb.2.2.nc, .slice eb.2.2.ia eb.2.2.il eb.2.2.ic] 26)) WB.heap.size 26 eb.2.2.cs) := Blk.new _ _ _
              have HLV : Hid (w9.heap.size ≤ WB.heap.size) := HFB.out.size
              have HNC : Hid ((WB.alloc (.cells #[.int .i64 eb.2.2.k, .int .i64 eb.2.2.n, .float .f64 eb.2.2.f, .string ⟨eb.2.2.t.toArray⟩, .slice eb.2.2.na eb.2.2.nl eb.2.2.nc, .slice eb.2.2.ia eb.2.2.il eb.2.2.ic] 26)).ownsRow _ _ _ _ _ _) := owns_of_eq HNB.out (fun k hk => Below.heap_alloc WB _ k (own_lt HNB.out k hk).2)
              have HVC : Hid ((WB.alloc (.cells #[.int .i64 eb.2.2.k, .int .i64 eb.2.2.n, .float .f64 eb.2.2.f, .string ⟨eb.2.2.t.toArray⟩, .slice eb.2.2.na eb.2.2.nl eb.2.2.nc, .slice eb.2.2.ia eb.2.2.il eb.2.2.ic] 26)).ownsRow _ _ _ _ _ _) := owns_of_eq HVB.out (fun k hk => Below.heap_alloc WB _ k (own_lt HVB.out k hk).2)
              have HZC : Hid (w.heap.size + 4 ≤ (WB.alloc (.cells #[.int .i64 eb.2.2.k, .int .i64 eb.2.2.n, .float .f64 eb.2.2.f, .string ⟨eb.2.2.t.toArray⟩, .slice eb.2.2.na eb.2.2.nl eb.2.2.nc, .slice eb.2.2.ia eb.2.2.il eb.2.2.ic] 26)).heap.size) := Nat.le_trans HZB.out (HFC.out.size |> fun _ => by rw [World.size_alloc]; exact Nat.le_succ _)
              have HGN' := hid (HGN.out.alloc (.cells #[.int .i64 eb.2.2.k, .int .i64 eb.2.2.n, .float .f64 eb.2.2.f, .string ⟨eb.2.2.t.toArray⟩, .slice eb.2.2.na eb.2.2.nl eb.2.2.nc, .slice eb.2.2.ia eb.2.2.il eb.2.2.ic] 26))
              refine hK.out _ _ (HKK.out _ HFC.out).1 (fun _ _ => (HKK.out _ HFC.out).2) ?_
              clear hK K'
              try simp only [Act.put, List.setIfInBounds_toArray, List.set_cons_zero, List.set_cons_succ]
              generalize WB.alloc (.cells #[.int .i64 eb.2.2.k, .int .i64 eb.2.2.n, .float .f64 eb.2.2.f, .string ⟨eb.2.2.t.toArray⟩, .slice eb.2.2.na eb.2.2.nl eb.2.2.nc, .slice eb.2.2.ia eb.2.2.il eb.2.2.ic] 26) = WC at *
              refine oneT (i := 4) (by kernel_rfl) (by decide) (fun o ho K' hK => ?_)
              cases ho
              rw [if_pos (by rfl)]
              refine wp_app_name _ _ rfl (w.heap.size + 4) _ (nmE R) eb.1 _ _ (by rfl) (by rfl) HNC.out (HGN'.out.cell 0) HZC.out hRl2.1 ?_
              intro na2 nc2 WD ho2 hg2
              have HFD := hid (HFC.out.grown hg2 (fun k hk => .inl (.inl hk)))
              have HND := hid ho2
              have HVD := hid (owns_of_eq HVC.out (w' := WD) (fun k hk => hg2.block k (own_lt HVC.out k hk).2 (fun e => HAp.out k e.symm hk)))
              have HGV2 := hid (HGV.out.of_eq (w' := WD) (hg2.block _ HGV.out.lt (fun e => by have h1 := (own_lt HN9.out _ e.symm).2; have h2 := HLV.out; omega)))
              have HZD : Hid (w.heap.size + 4 ≤ WD.heap.size) := Nat.le_trans HZC.out hg2.size
              refine hK.out _ _ (HKK.out _ HFD.out).1 (fun _ _ => (HKK.out _ HFD.out).2) ?_
              clear hK K' hg2
              try simp only [Act.put, List.setIfInBounds_toArray, List.set_cons_zero, List.set_cons_succ]
              refine takeT (fun _ => True) (i := 14) (d := some 73) (.pointer (some ⟨w.heap.size + 3, 4, none⟩)) rfl (by kernel_rfl) (by decide) (by kernel_rfl) (by kernel_rfl) (by kernel_rfl) (fun _ _ _ _ h => h) ((HKK.out _ HFD.out).1) (fun _ => (HKK.out _ HFD.out).2) (.inl (fun _ _ => trivial)) (fun o ho => by cases ho; exact .inl ⟨by rfl, fun w hSw => by (go_simp)⟩) ?_
              simp only [Act.put, List.setIfInBounds_toArray, List.set_cons_zero, List.set_cons_succ]
              refine oneT (i := 13) (by kernel_rfl) (by decide) (fun o ho K' hK => ?_)
              cases ho
              rw [if_pos (by rfl)]
              refine wp_app_value _ _ rfl (w.heap.size + 4) _ (vvE R) eb.2.2 _ _ (by rfl) (by rfl) HVD.out HGV2.out HZD.out hRl2.2 ?_
              intro ia2 ic2 WE ho3 hg2
              have HFE := hid (HFD.out.grown hg2 (fun k hk => .inl (.inr hk)))
              have HVE := hid ho3
              have HNE := hid (owns_of_eq HND.out (w' := WE) (fun k hk => hg2.block k (own_lt HND.out k hk).2 (fun e => own_apart HND.out HVD.out (by decide) k hk e.symm)))
              have HZE : Hid (w.heap.size + 4 ≤ WE.heap.size) := Nat.le_trans HZD.out hg2.size
              refine hK.out _ _ (HKK.out _ HFE.out).1 (fun _ _ => (HKK.out _ HFE.out).2) ?_
              clear hK K' hg2
              try simp only [Act.put, List.setIfInBounds_toArray, List.set_cons_zero, List.set_cons_succ]
              have hb4 := HFE.out.blk (HF9.out.blk HK.out.bv (fun h => h)) (fun h => by rcases h with h | h; (· have := (own_lt HK.out.ns _ h).1; omega); (· have := (own_lt HK.out.vs _ h).1; omega))
              have hc4 := hb4.cell 4
              have hz4 := hb4.frozen 4
              have hb5 := hb4.setCell 4 (.slice na2 ((nmE R).length + 1) nc2)
              have hc5 := hb5.cell 5
              have hz5 := hb5.frozen 5
              have HP := hid (po_next (e := eb) HK.out HF9.out HFE.out HNE.out HVE.out)
              have HFs : Hid (Fr (fun k => ((Value.slice ra R.length rc).ownBlock = some k ∨ (Value.slice va R.length vc).ownBlock = some k) ∨ k = w.heap.size + 3) w9 (WE.setCell ⟨w.heap.size + 3, 4, none⟩ (.slice na2 ((nmE R).length + 1) nc2))) := (HFE.out.mono (fun k h => .inl h)).setCell (.inl (.inr rfl)) _
              have HFt : Hid (Fr (fun k => ((Value.slice ra R.length rc).ownBlock = some k ∨ (Value.slice va R.length vc).ownBlock = some k) ∨ k = w.heap.size + 3) w9 ((WE.setCell ⟨w.heap.size + 3, 4, none⟩ (.slice na2 ((nmE R).length + 1) nc2)).setCell ⟨w.heap.size + 3, 5, none⟩ (.slice ia2 ((vvE R).length + 1) ic2))) := HFs.out.setCell (.inl (.inr rfl)) _
              clear hb4 hb5
              refine oneT (i := 15) (by kernel_rfl) (by decide) (fun o ho K' hK => ?_)
              cases ho
              rw [if_pos (by rfl)]
              go_simp
              refine hK.out _ _ (HKS.out _ HFs.out) (fun h => absurd rfl h) ?_
              clear hK K'
              try simp only [Act.put, List.setIfInBounds_toArray, List.set_cons_zero, List.set_cons_succ]
              refine takeT (fun _ => True) (i := 16) (d := some 74) (.pointer (some ⟨w.heap.size + 3, 5, none⟩)) rfl (by kernel_rfl) (by decide) (by kernel_rfl) (by kernel_rfl) (by kernel_rfl) (fun _ _ _ _ h => h) (HKS.out _ HFs.out) (fun h => absurd h (by decide +kernel)) (.inl (fun _ _ => trivial)) (fun o ho => by cases ho; exact .inl ⟨by rfl, fun w hSw => by (go_simp)⟩) ?_
              simp only [Act.put, List.setIfInBounds_toArray, List.set_cons_zero, List.set_cons_succ]
              refine oneT (i := 17) (by kernel_rfl) (by decide) (fun o ho K' hK => ?_)
              cases ho
              rw [if_pos (by rfl)]
              go_simp
              refine hK.out _ _ (HKS.out _ HFt.out) (fun _ h => absurd h (by decide +kernel)) ?_
              clear hK K'
              try simp only [Act.put, List.setIfInBounds_toArray, List.set_cons_zero, List.set_cons_succ]
              refine doneT (by kernel_rfl) (NoPanic.normal ?_)
              generalize (WE.setCell ⟨w.heap.size + 3, 4, none⟩ (.slice na2 ((nmE R).length + 1) nc2)).setCell ⟨w.heap.size + 3, 5, none⟩ (.slice ia2 ((vvE R).length + 1) ic2) = W6 at *
              clear hc4 hz4 hc5 hz5 HFs HFt
              have HQ := hid HP.out.drew
              clear HP
              go_wp2_with fail
              skip
              have HSq : Hid ((fun W => W.cell? ⟨w.heap.size, 4, none⟩ = some (.slice (some ⟨nb, no, none⟩) A.length nc) ∧ W.cell? ⟨w.heap.size + 1, 4, none⟩ = some (.slice (some ⟨nb', no', none⟩) B.length nc')) W6.drew) := ⟨HQ.out.bx.cell 4, HQ.out.by'.cell 4⟩
              have HXq := hid (HX.out.env (Env.of HQ.out.fr))
              have HYq := hid (HY.out.env (Env.of HQ.out.fr))
              have HBa := behind_any W6.drew (some ⟨nb, no, none⟩) nc (A.map (·.1)) i eb.1 HXq.out.names (by rw [List.length_map]; omega) (by rw [List.length_map]; omega)
              have HBb := behind_any W6.drew (some ⟨nb', no', none⟩) nc' (B.map (·.1)) j eb.1 HYq.out.names (by rw [List.length_map]; omega) (by rw [List.length_map]; omega)
              rw [List.length_map] at HBa HBb
              rw [HS1.out] at HBb
              have HS2' := HS2
              have HS3' := HS3
              have HSt' := HSt
              generalize bh (A.map (·.1)) i eb.1 = m2 at HBa HS2' HS3' HSt'
              have HBa' := hid HBa
              have HBb' := hid HBb
              clear HBa HBb
              refine wp_region_noPanic ?_
              refine wp_region_held_drew (S := (fun W => W.cell? ⟨w.heap.size, 4, none⟩ = some (.slice (some ⟨nb, no, none⟩) A.length nc) ∧ W.cell? ⟨w.heap.size + 1, 4, none⟩ = some (.slice (some ⟨nb', no', none⟩) B.length nc'))) (by kernel_rfl) HSq.out (fun _ => ?_)
              generalize W6.drew = W7 at *
              refine takeH (i := 0) (d := some 75) (.pointer (some ⟨w.heap.size, 4, none⟩)) rfl (by kernel_rfl) (by kernel_rfl) (by kernel_rfl) (fun _ _ _ _ h => h) HSq.out (fun o ho => by cases ho; exact .inl ⟨by rfl, fun w hSw => by (obtain ⟨hs0, hs1⟩ := hSw; go_simp)⟩) ?_
              simp only [Act.put, List.setIfInBounds_toArray, List.set_cons_zero, List.set_cons_succ]
              refine takeH (i := 1) (d := some 76) (.slice (some ⟨nb, no, none⟩) A.length nc) rfl (by kernel_rfl) (by kernel_rfl) (by kernel_rfl) (fun _ _ _ _ h => h) HSq.out (fun o ho => by cases ho; exact .inl ⟨by rfl, fun w hSw => by (obtain ⟨hs0, hs1⟩ := hSw; go_simp)⟩) ?_
              simp only [Act.put, List.setIfInBounds_toArray, List.set_cons_zero, List.set_cons_succ]
              refine takeH (i := 2) (d := some 77) (.int .i64 (i : Int)) rfl (by kernel_rfl) (by kernel_rfl) (by kernel_rfl) (fun _ _ _ _ h => h) HSq.out (fun o ho => by cases ho; exact .inl ⟨by rfl, fun w hSw => by (obtain ⟨hs0, hs1⟩ := hSw; go_simp)⟩) ?_
              simp only [Act.put, List.setIfInBounds_toArray, List.set_cons_zero, List.set_cons_succ]
              refine takeH (i := 3) (d := some 78) (.string ⟨eb.1.toArray⟩) rfl (by kernel_rfl) (by kernel_rfl) (by kernel_rfl) (fun _ _ _ _ h => h) HSq.out (fun o ho => by cases ho; exact .inl ⟨by rfl, fun w hSw => by (obtain ⟨hs0, hs1⟩ := hSw; go_simp)⟩) ?_
              simp only [Act.put, List.setIfInBounds_toArray, List.set_cons_zero, List.set_cons_succ]
              refine takeH (i := 5) (d := some 80) (.pointer (some ⟨w.heap.size + 1, 4, none⟩)) rfl (by kernel_rfl) (by kernel_rfl) (by kernel_rfl) (fun _ _ _ _ h => h) HSq.out (fun o ho => by cases ho; exact .inl ⟨by rfl, fun w hSw => by (obtain ⟨hs0, hs1⟩ := hSw; go_simp)⟩) ?_
              simp only [Act.put, List.setIfInBounds_toArray, List.set_cons_zero, List.set_cons_succ]
              refine takeH (i := 6) (d := some 81) (.slice (some ⟨nb', no', none⟩) B.length nc') rfl (by kernel_rfl) (by kernel_rfl) (by kernel_rfl) (fun _ _ _ _ h => h) HSq.out (fun o ho => by cases ho; exact .inl ⟨by rfl, fun w hSw => by (obtain ⟨hs0, hs1⟩ := hSw; go_simp)⟩) ?_
              simp only [Act.put, List.setIfInBounds_toArray, List.set_cons_zero, List.set_cons_succ]
              refine takeH (i := 7) (d := some 82) (.int .i64 (j : Int)) rfl (by kernel_rfl) (by kernel_rfl) (by kernel_rfl) (fun _ _ _ _ h => h) HSq.out (fun o ho => by cases ho; exact .inl ⟨by rfl, fun w hSw => by (obtain ⟨hs0, hs1⟩ := hSw; go_simp)⟩) ?_
              simp only [Act.put, List.setIfInBounds_toArray, List.set_cons_zero, List.set_cons_succ]
              refine takeH (i := 8) (d := some 83) (.string ⟨eb.1.toArray⟩) rfl (by kernel_rfl) (by kernel_rfl) (by kernel_rfl) (fun _ _ _ _ h => h) HSq.out (fun o ho => by cases ho; exact .inl ⟨by rfl, fun w hSw => by (obtain ⟨hs0, hs1⟩ := hSw; go_simp)⟩) ?_
              simp only [Act.put, List.setIfInBounds_toArray, List.set_cons_zero, List.set_cons_succ]
              refine oneH (i := 4) (by kernel_rfl) (fun o ho K' hK => ?_) (by decide)
              cases ho
              rw [if_pos (by rfl)]
              go_simp
              refine HBa'.out.mono ?_
              rintro e wz ⟨rfl, rfl⟩
              refine hK.out _ _ HSq.out ?_
              clear hK K'
              try simp only [Act.put, List.setIfInBounds_toArray, List.set_cons_zero, List.set_cons_succ]
              refine oneH (i := 9) (by kernel_rfl) (fun o ho K' hK => ?_) (by decide)
              cases ho
              rw [if_pos (by rfl)]
              go_simp
              refine HBb'.out.mono ?_
              rintro e wz ⟨rfl, rfl⟩
              refine hK.out _ _ HSq.out ?_
              clear hK K'
              try simp only [Act.put, List.setIfInBounds_toArray, List.set_cons_zero, List.set_cons_succ]
              refine takeH (i := 10) (d := some 7) (.int .i64 ((m2 : Nat) : Int)) rfl (by kernel_rfl) (by kernel_rfl) (by kernel_rfl) (fun _ _ _ _ h => h) HSq.out (fun o ho => by cases ho; exact .inl ⟨by rfl, fun w hSw => by (obtain ⟨hs0, hs1⟩ := hSw; go_simp)⟩) ?_
              simp only [Act.put, List.setIfInBounds_toArray, List.set_cons_zero, List.set_cons_succ]
              refine takeH (i := 11) (d := some 8) (.int .i64 ((j + 1 : Nat) : Int)) rfl (by kernel_rfl) (by kernel_rfl) (by kernel_rfl) (fun _ _ _ _ h => h) HSq.out (fun o ho => by cases ho; exact .inl ⟨by rfl, fun w hSw => by (obtain ⟨hs0, hs1⟩ := hSw; go_simp)⟩) ?_
              simp only [Act.put, List.setIfInBounds_toArray, List.set_cons_zero, List.set_cons_succ]
              refine wpAnyH_done (by kernel_rfl) (NoPanic.normal ?_) _
              have HRl : Hid ((R ++ [eb]).length ≤ (m2) + (j + 1)) := by unfold Hid; rw [List.length_append, List.length_singleton]; have h2 := HS2'.out; omega
              have HRq : Hid ((R ++ [eb]) ++ mg (A.drop (m2)) (B.drop (j + 1)) = mg A B) := by unfold Hid; rw [← HR.out, HSt'.out]; simp
              go_wp2_with fail
              exact ⟨⟨m2, j + 1, R ++ [eb], na2, ia2, nc2, ic2, by exact HS3'.out, by omega, rfl, rfl, HRq.out, HRl.out, HQ.out⟩, by simp only [intsOf, intOf]; have h2 := HS2'.out; omega⟩
          · skip
            cases ho
            rw [if_pos (by rfl)]
            go_simp
            have HFB : Hid (Fr (fun k => (Value.slice ra R.length rc).ownBlock = some k ∨ (Value.slice va R.length vc).ownBlock = some k) w9 (W0.alloc (.cells #[.int .i64 eb.2.2.k, .int .i64 eb.2.2.n, .float .f64 eb.2.2.f, .string ⟨eb.2.2.t.toArray⟩, .slice eb.2.2.na eb.2.2.nl eb.2.2.nc, .slice eb.2.2.ia eb.2.2.il eb.2.2.ic] 26))) := HFA.out.alloc _
            have HGV : Hid (Blk (W0.alloc (.cells #[.int .i64 eb.2.2.k, .int .i64 eb.2.2.n, .float .f64 eb.2.2.f, .string ⟨eb.2.2.t.toArray⟩, .slice eb.2.2.na eb.2.2.nl eb.2.2.nc, .slice eb.2.2.ia eb.2.2.il eb.2.2.ic] 26)) W0.heap.size 26 eb.2.2.cs) := Blk.new _ _ _
            have HLV : Hid (w9.heap.size ≤ W0.heap.size) := HFA.out.size
            have HNB : Hid ((W0.alloc (.cells #[.int .i64 eb.2.2.k, .int .i64 eb.2.2.n, .float .f64 eb.2.2.f, .string ⟨eb.2.2.t.toArray⟩, .slice eb.2.2.na eb.2.2.nl eb.2.2.nc, .slice eb.2.2.ia eb.2.2.il eb.2.2.ic] 26)).ownsRow _ _ _ _ _ _) := owns_of_eq HNA.out (fun k hk => Below.heap_alloc W0 _ k (own_lt HNA.out k hk).2)
            have HVB : Hid ((W0.alloc (.cells #[.int .i64 eb.2.2.k, .int .i64 eb.2.2.n, .float .f64 eb.2.2.f, .string ⟨eb.2.2.t.toArray⟩, .slice eb.2.2.na eb.2.2.nl eb.2.2.nc, .slice eb.2.2.ia eb.2.2.il eb.2.2.ic] 26)).ownsRow _ _ _ _ _ _) := owns_of_eq HVA.out (fun k hk => Below.heap_alloc W0 _ k (own_lt HVA.out k hk).2)
            have HZB : Hid (w.heap.size + 4 ≤ (W0.alloc (.cells #[.int .i64 eb.2.2.k, .int .i64 eb.2.2.n, .float .f64 eb.2.2.f, .string ⟨eb.2.2.t.toArray⟩, .slice eb.2.2.na eb.2.2.nl eb.2.2.nc, .slice eb.2.2.ia eb.2.2.il eb.2.2.ic] 26)).heap.size) := Nat.le_trans HZA.out (HFB.out.size |> fun _ => by rw [World.size_alloc]; exact Nat.le_succ _)
            refine hK.out _ _ (HKK.out _ HFB.out).1 (fun _ _ => (HKK.out _ HFB.out).2) ?_
            clear hK K'
            try simp only [Act.put, List.setIfInBounds_toArray, List.set_cons_zero, List.set_cons_succ]
            generalize W0.alloc (.cells #[.int .i64 eb.2.2.k, .int .i64 eb.2.2.n, .float .f64 eb.2.2.f, .string ⟨eb.2.2.t.toArray⟩, .slice eb.2.2.na eb.2.2.nl eb.2.2.nc, .slice eb.2.2.ia eb.2.2.il eb.2.2.ic] 26) = WB at *
            refine oneT (i := 3) (by kernel_rfl) (by decide) (fun o ho K' hK => ?_)
            cases ho
            rw [if_pos (by rfl)]
            go_simp
            have HFC : Hid (Fr (fun k => (Value.slice ra R.length rc).ownBlock = some k ∨ (Value.slice va R.length vc).ownBlock = some k) w9 (WB.alloc (.cells #[.string ⟨eb.1.toArray⟩] 9))) := HFB.out.alloc _
            have HGN : Hid (Blk (WB.alloc (.cells #[.string ⟨eb.1.toArray⟩] 9)) WB.heap.size 9 [.string ⟨eb.1.toArray⟩]) := Blk.new _ _ _
            have HLN : Hid (w9.heap.size ≤ WB.heap.size) := HFB.out.size
            have HNC : Hid ((WB.alloc (.cells #[.string ⟨eb.1.toArray⟩] 9)).ownsRow _ _ _ _ _ _) := owns_of_eq HNB.out (fun k hk => Below.heap_alloc WB _ k (own_lt HNB.out k hk).2)
            have HVC : Hid ((WB.alloc (.cells #[.string ⟨eb.1.toArray⟩] 9)).ownsRow _ _ _ _ _ _) := owns_of_eq HVB.out (fun k hk => Below.heap_alloc WB _ k (own_lt HVB.out k hk).2)
            have HZC : Hid (w.heap.size + 4 ≤ (WB.alloc (.cells #[.string ⟨eb.1.toArray⟩] 9)).heap.size) := Nat.le_trans HZB.out (HFC.out.size |> fun _ => by rw [World.size_alloc]; exact Nat.le_succ _)
            have HGV' := hid (HGV.out.alloc (.cells #[.string ⟨eb.1.toArray⟩] 9))
            refine hK.out _ _ (HKK.out _ HFC.out).1 (fun _ _ => (HKK.out _ HFC.out).2) ?_
            clear hK K'
            try simp only [Act.put, List.setIfInBounds_toArray, List.set_cons_zero, List.set_cons_succ]
            generalize WB.alloc (.cells #[.string ⟨eb.1.toArray⟩] 9) = WC at *
            refine oneT (i := 4) (by kernel_rfl) (by decide) (fun o ho K' hK => ?_)
            cases ho
            rw [if_pos (by rfl)]
            refine wp_app_name _ _ rfl (w.heap.size + 4) _ (nmE R) eb.1 _ _ (by rfl) (by rfl) HNC.out (HGN.out.cell 0) HZC.out hRl2.1 ?_
            intro na2 nc2 WD ho2 hg2
            have HFD := hid (HFC.out.grown hg2 (fun k hk => .inl (.inl hk)))
            have HND := hid ho2
            have HVD := hid (owns_of_eq HVC.out (w' := WD) (fun k hk => hg2.block k (own_lt HVC.out k hk).2 (fun e => HAp.out k e.symm hk)))
            have HGV'2 := hid (HGV'.out.of_eq (w' := WD) (hg2.block _ HGV'.out.lt (fun e => by have h1 := (own_lt HN9.out _ e.symm).2; have h2 := HLV.out; omega)))
            have HZD : Hid (w.heap.size + 4 ≤ WD.heap.size) := Nat.le_trans HZC.out hg2.size
            refine hK.out _ _ (HKK.out _ HFD.out).1 (fun _ _ => (HKK.out _ HFD.out).2) ?_
            clear hK K' hg2
            try simp only [Act.put, List.setIfInBounds_toArray, List.set_cons_zero, List.set_cons_succ]
            refine takeT (fun _ => True) (i := 14) (d := some 73) (.pointer (some ⟨w.heap.size + 3, 4, none⟩)) rfl (by kernel_rfl) (by decide) (by kernel_rfl) (by kernel_rfl) (by kernel_rfl) (fun _ _ _ _ h => h) ((HKK.out _ HFD.out).1) (fun _ => (HKK.out _ HFD.out).2) (.inl (fun _ _ => trivial)) (fun o ho => by cases ho; exact .inl ⟨by rfl, fun w hSw => by (go_simp)⟩) ?_
            simp only [Act.put, List.setIfInBounds_toArray, List.set_cons_zero, List.set_cons_succ]
            refine oneT (i := 13) (by kernel_rfl) (by decide) (fun o ho K' hK => ?_)
            cases ho
            rw [if_pos (by rfl)]
            refine wp_app_value _ _ rfl (w.heap.size + 4) _ (vvE R) eb.2.2 _ _ (by rfl) (by rfl) HVD.out HGV'2.out HZD.out hRl2.2 ?_
            intro ia2 ic2 WE ho3 hg2
            have HFE := hid (HFD.out.grown hg2 (fun k hk => .inl (.inr hk)))
            have HVE := hid ho3
            have HNE := hid (owns_of_eq HND.out (w' := WE) (fun k hk => hg2.block k (own_lt HND.out k hk).2 (fun e => own_apart HND.out HVD.out (by decide) k hk e.symm)))
            have HZE : Hid (w.heap.size + 4 ≤ WE.heap.size) := Nat.le_trans HZD.out hg2.size
            refine hK.out _ _ (HKK.out _ HFE.out).1 (fun _ _ => (HKK.out _ HFE.out).2) ?_
            clear hK K' hg2
            try simp only [Act.put, List.setIfInBounds_toArray, List.set_cons_zero, List.set_cons_succ]
            have hb4 := HFE.out.blk (HF9.out.blk HK.out.bv (fun h => h)) (fun h => by rcases h with h | h; (· have := (own_lt HK.out.ns _ h).1; omega); (· have := (own_lt HK.out.vs _ h).1; omega))
            have hc4 := hb4.cell 4
            have hz4 := hb4.frozen 4
            have hb5 := hb4.setCell 4 (.slice na2 ((nmE R).length + 1) nc2)
            have hc5 := hb5.cell 5
            have hz5 := hb5.frozen 5
            have HP := hid (po_next (e := eb) HK.out HF9.out HFE.out HNE.out HVE.out)
            have HFs : Hid (Fr (fun k => ((Value.slice ra R.length rc).ownBlock = some k ∨ (Value.slice va R.length vc).ownBlock = some k) ∨ k = w.heap.size + 3) w9 (WE.setCell ⟨w.heap.size + 3, 4, none⟩ (.slice na2 ((nmE R).length + 1) nc2))) := (HFE.out.mono (fun k h => .inl h)).setCell (.inl (.inr rfl)) _
            have HFt : Hid (Fr (fun k => ((Value.slice ra R.length rc).ownBlock = some k ∨ (Value.slice va R.length vc).ownBlock = some k) ∨ k = w.heap.size + 3) w9 ((WE.setCell ⟨w.heap.size + 3, 4, none⟩ (.slice na2 ((nmE R).length + 1) nc2)).setCell ⟨w.heap.size + 3, 5, none⟩ (.slice ia2 ((vvE R).length + 1) ic2))) := HFs.out.setCell (.inl (.inr rfl)) _
            clear hb4 hb5
            refine oneT (i := 15) (by kernel_rfl) (by decide) (fun o ho K' hK => ?_)
            cases ho
            rw [if_pos (by rfl)]
            go_simp
            refine hK.out _ _ (HKS.out _ HFs.out) (fun h => absurd rfl h) ?_
            clear hK K'
            try simp only [Act.put, List.setIfInBounds_toArray, List.set_cons_zero, List.set_cons_succ]
            refine takeT (fun _ => True) (i := 16) (d := some 74) (.pointer (some ⟨w.heap.size + 3, 5, none⟩)) rfl (by kernel_rfl) (by decide) (by kernel_rfl) (by kernel_rfl) (by kernel_rfl) (fun _ _ _ _ h => h) (HKS.out _ HFs.out) (fun h => absurd h (by decide +kernel)) (.inl (fun _ _ => trivial)) (fun o ho => by cases ho; exact .inl ⟨by rfl, fun w hSw => by (go_simp)⟩) ?_
            simp only [Act.put, List.setIfInBounds_toArray, List.set_cons_zero, List.set_cons_succ]
            refine oneT (i := 17) (by kernel_rfl) (by decide) (fun o ho K' hK => ?_)
            cases ho
            rw [if_pos (by rfl)]
            go_simp
            refine hK.out _ _ (HKS.out _ HFt.out) (fun _ h => absurd h (by decide +kernel)) ?_
            clear hK K'
            try simp only [Act.put, List.setIfInBounds_toArray, List.set_cons_zero, List.set_cons_succ]
            refine doneT (by kernel_rfl) (NoPanic.normal ?_)
            generalize (WE.setCell ⟨w.heap.size + 3, 4, none⟩ (.slice na2 ((nmE R).length + 1) nc2)).setCell ⟨w.heap.size + 3, 5, none⟩ (.slice ia2 ((vvE R).length + 1) ic2) = W6 at *
            clear hc4 hz4 hc5 hz5 HFs HFt
            have HQ := hid HP.out.drew
            clear HP
            go_wp2_with fail
            skip
            have HSq : Hid ((fun W => W.cell? ⟨w.heap.size, 4, none⟩ = some (.slice (some ⟨nb, no, none⟩) A.length nc) ∧ W.cell? ⟨w.heap.size + 1, 4, none⟩ = some (.slice (some ⟨nb', no', none⟩) B.length nc')) W6.drew) := ⟨HQ.out.bx.cell 4, HQ.out.by'.cell 4⟩
            have HXq := hid (HX.out.env (Env.of HQ.out.fr))
            have HYq := hid (HY.out.env (Env.of HQ.out.fr))
            have HBa := behind_any W6.drew (some ⟨nb, no, none⟩) nc (A.map (·.1)) i eb.1 HXq.out.names (by rw [List.length_map]; omega) (by rw [List.length_map]; omega)
            have HBb := behind_any W6.drew (some ⟨nb', no', none⟩) nc' (B.map (·.1)) j eb.1 HYq.out.names (by rw [List.length_map]; omega) (by rw [List.length_map]; omega)
            rw [List.length_map] at HBa HBb
            rw [HS1.out] at HBb
            have HS2' := HS2
            have HS3' := HS3
            have HSt' := HSt
            generalize bh (A.map (·.1)) i eb.1 = m2 at HBa HS2' HS3' HSt'
            have HBa' := hid HBa
            have HBb' := hid HBb
            clear HBa HBb
            refine wp_region_noPanic ?_
            refine wp_region_held_drew (S := (fun W => W.cell? ⟨w.heap.size, 4, none⟩ = some (.slice (some ⟨nb, no, none⟩) A.length nc) ∧ W.cell? ⟨w.heap.size + 1, 4, none⟩ = some (.slice (some ⟨nb', no', none⟩) B.length nc'))) (by kernel_rfl) HSq.out (fun _ => ?_)
            generalize W6.drew = W7 at *
            refine takeH (i := 0) (d := some 75) (.pointer (some ⟨w.heap.size, 4, none⟩)) rfl (by kernel_rfl) (by kernel_rfl) (by kernel_rfl) (fun _ _ _ _ h => h) HSq.out (fun o ho => by cases ho; exact .inl ⟨by rfl, fun w hSw => by (obtain ⟨hs0, hs1⟩ := hSw; go_simp)⟩) ?_
            simp only [Act.put, List.setIfInBounds_toArray, List.set_cons_zero, List.set_cons_succ]
            refine takeH (i := 1) (d := some 76) (.slice (some ⟨nb, no, none⟩) A.length nc) rfl (by kernel_rfl) (by kernel_rfl) (by kernel_rfl) (fun _ _ _ _ h => h) HSq.out (fun o ho => by cases ho; exact .inl ⟨by rfl, fun w hSw => by (obtain ⟨hs0, hs1⟩ := hSw; go_simp)⟩) ?_
            simp only [Act.put, List.setIfInBounds_toArray, List.set_cons_zero, List.set_cons_succ]
            refine takeH (i := 2) (d := some 77) (.int .i64 (i : Int)) rfl (by kernel_rfl) (by kernel_rfl) (by kernel_rfl) (fun _ _ _ _ h => h) HSq.out (fun o ho => by cases ho; exact .inl ⟨by rfl, fun w hSw => by (obtain ⟨hs0, hs1⟩ := hSw; go_simp)⟩) ?_
            simp only [Act.put, List.setIfInBounds_toArray, List.set_cons_zero, List.set_cons_succ]
            refine takeH (i := 3) (d := some 78) (.string ⟨eb.1.toArray⟩) rfl (by kernel_rfl) (by kernel_rfl) (by kernel_rfl) (fun _ _ _ _ h => h) HSq.out (fun o ho => by cases ho; exact .inl ⟨by rfl, fun w hSw => by (obtain ⟨hs0, hs1⟩ := hSw; go_simp)⟩) ?_
            simp only [Act.put, List.setIfInBounds_toArray, List.set_cons_zero, List.set_cons_succ]
            refine takeH (i := 5) (d := some 80) (.pointer (some ⟨w.heap.size + 1, 4, none⟩)) rfl (by kernel_rfl) (by kernel_rfl) (by kernel_rfl) (fun _ _ _ _ h => h) HSq.out (fun o ho => by cases ho; exact .inl ⟨by rfl, fun w hSw => by (obtain ⟨hs0, hs1⟩ := hSw; go_simp)⟩) ?_
            simp only [Act.put, List.setIfInBounds_toArray, List.set_cons_zero, List.set_cons_succ]
            refine takeH (i := 6) (d := some 81) (.slice (some ⟨nb', no', none⟩) B.length nc') rfl (by kernel_rfl) (by kernel_rfl) (by kernel_rfl) (fun _ _ _ _ h => h) HSq.out (fun o ho => by cases ho; exact .inl ⟨by rfl, fun w hSw => by (obtain ⟨hs0, hs1⟩ := hSw; go_simp)⟩) ?_
            simp only [Act.put, List.setIfInBounds_toArray, List.set_cons_zero, List.set_cons_succ]
            refine takeH (i := 7) (d := some 82) (.int .i64 (j : Int)) rfl (by kernel_rfl) (by kernel_rfl) (by kernel_rfl) (fun _ _ _ _ h => h) HSq.out (fun o ho => by cases ho; exact .inl ⟨by rfl, fun w hSw => by (obtain ⟨hs0, hs1⟩ := hSw; go_simp)⟩) ?_
            simp only [Act.put, List.setIfInBounds_toArray, List.set_cons_zero, List.set_cons_succ]
            refine takeH (i := 8) (d := some 83) (.string ⟨eb.1.toArray⟩) rfl (by kernel_rfl) (by kernel_rfl) (by kernel_rfl) (fun _ _ _ _ h => h) HSq.out (fun o ho => by cases ho; exact .inl ⟨by rfl, fun w hSw => by (obtain ⟨hs0, hs1⟩ := hSw; go_simp)⟩) ?_
            simp only [Act.put, List.setIfInBounds_toArray, List.set_cons_zero, List.set_cons_succ]
            refine oneH (i := 4) (by kernel_rfl) (fun o ho K' hK => ?_) (by decide)
            cases ho
            rw [if_pos (by rfl)]
            go_simp
            refine HBa'.out.mono ?_
            rintro e wz ⟨rfl, rfl⟩
            refine hK.out _ _ HSq.out ?_
            clear hK K'
            try simp only [Act.put, List.setIfInBounds_toArray, List.set_cons_zero, List.set_cons_succ]
            refine oneH (i := 9) (by kernel_rfl) (fun o ho K' hK => ?_) (by decide)
            cases ho
            rw [if_pos (by rfl)]
            go_simp
            refine HBb'.out.mono ?_
            rintro e wz ⟨rfl, rfl⟩
            refine hK.out _ _ HSq.out ?_
            clear hK K'
            try simp only [Act.put, List.setIfInBounds_toArray, List.set_cons_zero, List.set_cons_succ]
            refine takeH (i := 10) (d := some 7) (.int .i64 ((m2 : Nat) : Int)) rfl (by kernel_rfl) (by kernel_rfl) (by kernel_rfl) (fun _ _ _ _ h => h) HSq.out (fun o ho => by cases ho; exact .inl ⟨by rfl, fun w hSw => by (obtain ⟨hs0, hs1⟩ := hSw; go_simp)⟩) ?_
            simp only [Act.put, List.setIfInBounds_toArray, List.set_cons_zero, List.set_cons_succ]
            refine takeH (i := 11) (d := some 8) (.int .i64 ((j + 1 : Nat) : Int)) rfl (by kernel_rfl) (by kernel_rfl) (by kernel_rfl) (fun _ _ _ _ h => h) HSq.out (fun o ho => by cases ho; exact .inl ⟨by rfl, fun w hSw => by (obtain ⟨hs0, hs1⟩ := hSw; go_simp)⟩) ?_
            simp only [Act.put, List.setIfInBounds_toArray, List.set_cons_zero, List.set_cons_succ]
            refine wpAnyH_done (by kernel_rfl) (NoPanic.normal ?_) _
            have HRl : Hid ((R ++ [eb]).length ≤ (m2) + (j + 1)) := by unfold Hid; rw [List.length_append, List.length_singleton]; have h2 := HS2'.out; omega
            have HRq : Hid ((R ++ [eb]) ++ mg (A.drop (m2)) (B.drop (j + 1)) = mg A B) := by unfold Hid; rw [← HR.out, HSt'.out]; simp
            go_wp2_with fail
            exact ⟨⟨m2, j + 1, R ++ [eb], na2, ia2, nc2, ic2, by exact HS3'.out, by omega, rfl, rfl, HRq.out, HRl.out, HQ.out⟩, by simp only [intsOf, intOf]; have h2 := HS2'.out; omega⟩
        · skip
          obtain ⟨nb', no', en', hn'⟩ := HYr.out.name j hjlt
          simp only at en'
          subst en'
          obtain ⟨ib, io, ei, hit⟩ := HYr.out.item j hjlt
          simp only at ei
          subst ei
          obtain ⟨ib0, io0, ei0, hit0⟩ := HY.out.item j hjlt
          simp only [Option.some.injEq, Addr.mk.injEq, and_true] at ei0
          obtain ⟨rfl, rfl⟩ := ei0
          have HIt0 := hid hit0
          clear hit hit0
          have hi1 : ¬ ((i : Int) < ((A.length : Nat) : Int)) := by omega
          have hi2 : decide (i < A.length) = false := by simp; omega
          have hj1 : (j : Int) < ((B.length : Nat) : Int) := by omega
          have hj2 : (((j : Nat) : Int) == ((B.length : Nat) : Int)) = false := by simp; omega
          have hj3 : (j == B.length) = false := by simp; omega
          have hj4 : decide (j = B.length) = false := by simp; omega
          obtain ⟨hst, hs1, hs2, hs3⟩ := step_over hjlt hi hless
          rw [hs1] at hst
          have HSt := hid hst
          have HS1 := hid hs1
          have HS2 := hid hs2
          have HS3 := hid hs3
          clear hst hs1 hs2 hless hs3
          generalize hB : B[j] = eb at *
          clear hB
          go_wp2_with (refine wpList_storeV ⟨k', n', f', t', some ⟨nb', no', none⟩, B.length, nc', some ⟨ib, io, none⟩, B.length, ic'⟩ (by rfl) _ _ (by rfl) HBz.out (by rfl) (by rfl) ?_; intro w8 b8 f8; have HF8 := hid (bx_fr f8); have HW8 := hid b8; obtain ⟨c0, c1, c2, c3, c4, c5⟩ := (HF8.out.blk HK.out.bx (fun h => h)).six; obtain ⟨d0, d1, d2, d3, d4, d5⟩ := (HF8.out.blk HK.out.by' (fun h => h)).six; have hn8' := (Env.of HF8.out).cell hn'; clear b8 f8)
          go_quiet (fail)
          have HF9 : Hid (Fr (fun _ => False) wr (w8.drewN nq)) := HF8.out.drewN nq
          have HW9 : Hid (Blk (w8.drewN nq) wr.heap.size 26 (Vv.mk k' n' f' t' (some ⟨nb', no', none⟩) B.length nc' (some ⟨ib, io, none⟩) B.length ic').cs) := HW8.out
          generalize w8.drewN nq = w9 at *
          obtain ⟨q0, q1, q2, q3, q4, q5⟩ := HW9.out.six
          have hn9 := (Env.of HF9.out).cell hn'
          go_wp2_with fail
          have HKK : Hid (∀ W, Fr (fun k => (Value.slice ra R.length rc).ownBlock = some k ∨ (Value.slice va R.length vc).ownBlock = some k) w9 W → ((fun W => W.cell? ⟨wr.heap.size, 5, none⟩ = some (.slice (some ⟨ib, io, none⟩) B.length ic') ∧ sixB W ib (io + j * 6) eb.2.2) W) ∧ ((fun W => W.cell? ⟨w.heap.size + 3, 4, none⟩ = some (.slice ra R.length rc) ∧ W.cell? ⟨w.heap.size + 3, 5, none⟩ = some (.slice va R.length vc)) W)) := fun W fr => by
            have hrow : ∀ k, ((Value.slice ra R.length rc).ownBlock = some k ∨ (Value.slice va R.length vc).ownBlock = some k) → w.heap.size + 4 ≤ k ∧ k < wr.heap.size := fun k h => by
              rcases h with h | h
              · exact own_lt HK.out.ns k h
              · exact own_lt HK.out.vs k h
            have henv : Env w W := (Env.of (HK.out.fr.trans HF9.out (fun _ h => h.elim))).fr fr (fun k hk => by have := hrow k hk; omega)
            have hb := fr.blk (HF9.out.blk HK.out.bv (fun h => h)) (fun h => by have := hrow _ h; omega)
            exact ⟨⟨(fr.blk HW9.out (fun h => by have := hrow _ h; omega)).cell 5, (HIt0.out.env henv).six⟩, hb.cell 4, hb.cell 5⟩
          have HKS : Hid (∀ W, Fr (fun k => ((Value.slice ra R.length rc).ownBlock = some k ∨ (Value.slice va R.length vc).ownBlock = some k) ∨ k = w.heap.size + 3) w9 W → ((fun W => W.cell? ⟨wr.heap.size, 5, none⟩ = some (.slice (some ⟨ib, io, none⟩) B.length ic') ∧ sixB W ib (io + j * 6) eb.2.2) W)) := fun W fr => by
            have hrow : ∀ k, ((Value.slice ra R.length rc).ownBlock = some k ∨ (Value.slice va R.length vc).ownBlock = some k) → w.heap.size + 4 ≤ k ∧ k < wr.heap.size := fun k h => by
              rcases h with h | h
              · exact own_lt HK.out.ns k h
              · exact own_lt HK.out.vs k h
            have hbig : w.heap.size + 3 < wr.heap.size := HK.out.bv.lt
            have henv : Env w W := (Env.of (HK.out.fr.trans HF9.out (fun _ h => h.elim))).fr fr (fun k hk => by rcases hk with hk | hk; (· have := hrow k hk; omega); (· omega))
            exact ⟨(fr.blk HW9.out (fun h => by rcases h with h | h; (· have := hrow _ h; omega); (· omega))).cell 5, (HIt0.out.env henv).six⟩
          have HN9 : Hid (w9.ownsRow (w.heap.size + 4) 9 1 (.slice ra R.length rc) (nmE R).length (strC (nmE R))) := owns_of_eq HK.out.ns (fun k hk => HF9.out.block k (own_lt HK.out.ns k hk).2 (fun h => h))
          have HV9 : Hid (w9.ownsRow (w.heap.size + 4) 26 6 (.slice va R.length vc) (vvE R).length (flatV (vvE R))) := owns_of_eq HK.out.vs (fun k hk => HF9.out.block k (own_lt HK.out.vs k hk).2 (fun h => h))
          have HAp := hid (own_apart HN9.out HV9.out (by decide))
          have HSz : Hid (w.heap.size + 4 ≤ w9.heap.size) := by unfold Hid; have h1 := HF9.out.size; have h2 := HK.out.bv.lt; omega
          have HF0 : Hid (Fr (fun k => (Value.slice ra R.length rc).ownBlock = some k ∨ (Value.slice va R.length vc).ownBlock = some k) w9 w9.drew) := (Fr.refl _ w9).drew
          have hRl2 : (nmE R).length ≤ 1000 ∧ (vvE R).length ≤ 1000 := by rw [nmE_len, vvE_len]; omega
          refine wp_region_noPanic ?_
          refine region_till (fun W => W.cell? ⟨wr.heap.size, 5, none⟩ = some (.slice (some ⟨ib, io, none⟩) B.length ic') ∧ sixB W ib (io + j * 6) eb.2.2) (fun W => W.cell? ⟨w.heap.size + 3, 4, none⟩ = some (.slice ra R.length rc) ∧ W.cell? ⟨w.heap.size + 3, 5, none⟩ = some (.slice va R.length vc)) 15 (by kernel_rfl) ?_
          have HNA : Hid (w9.drew.ownsRow (w.heap.size + 4) 9 1 (.slice ra R.length rc) (nmE R).length (strC (nmE R))) := HN9.out
          have HVA : Hid (w9.drew.ownsRow (w.heap.size + 4) 26 6 (.slice va R.length vc) (vvE R).length (flatV (vvE R))) := HV9.out
          have HZA : Hid (w.heap.size + 4 ≤ w9.drew.heap.size) := HSz.out
          generalize w9.drew = W0 at *
          have HFA := HF0
          refine takeT (fun _ => True) (i := 0) (d := some 59) (.pointer (some ⟨w.heap.size + 3, 4, none⟩)) rfl (by kernel_rfl) (by decide) (by kernel_rfl) (by kernel_rfl) (by kernel_rfl) (fun _ _ _ _ h => h) ((HKK.out _ HF0.out).1) (fun _ => (HKK.out _ HF0.out).2) (.inl (fun _ _ => trivial)) (fun o ho => by cases ho; exact .inl ⟨by rfl, fun w hSw => by (go_simp)⟩) ?_
          simp only [Act.put, List.setIfInBounds_toArray, List.set_cons_zero, List.set_cons_succ]
          refine takeT (fun W => W.cell? ⟨w.heap.size + 3, 4, none⟩ = some (.slice ra R.length rc) ∧ W.cell? ⟨w.heap.size + 3, 5, none⟩ = some (.slice va R.length vc)) (i := 1) (d := some 60) (.slice ra R.length rc) rfl (by kernel_rfl) (by decide) (by kernel_rfl) (by kernel_rfl) (by kernel_rfl) (fun _ _ _ _ h => h) ((HKK.out _ HF0.out).1) (fun _ => (HKK.out _ HF0.out).2) (.inr ⟨fun _ h1 h2 => h2, by kernel_rfl, by kernel_rfl⟩) (fun o ho => by cases ho; exact .inl ⟨by rfl, fun w hSw => by (obtain ⟨hs5, hs6⟩ := hSw; go_simp)⟩) ?_
          simp only [Act.put, List.setIfInBounds_toArray, List.set_cons_zero, List.set_cons_succ]
          refine takeT (fun _ => True) (i := 2) (d := some 61) (.string ⟨eb.1.toArray⟩) rfl (by kernel_rfl) (by decide) (by kernel_rfl) (by kernel_rfl) (by kernel_rfl) (fun _ _ _ _ h => h) ((HKK.out _ HF0.out).1) (fun _ => (HKK.out _ HF0.out).2) (.inl (fun _ _ => trivial)) (fun o ho => by cases ho; exact .inl ⟨by rfl, fun w hSw => by (go_simp)⟩) ?_
          simp only [Act.put, List.setIfInBounds_toArray, List.set_cons_zero, List.set_cons_succ]
          refine takeT (fun _ => True) (i := 5) (d := some 64) (.pointer (some ⟨w.heap.size + 3, 5, none⟩)) rfl (by kernel_rfl) (by decide) (by kernel_rfl) (by kernel_rfl) (by kernel_rfl) (fun _ _ _ _ h => h) ((HKK.out _ HF0.out).1) (fun _ => (HKK.out _ HF0.out).2) (.inl (fun _ _ => trivial)) (fun o ho => by cases ho; exact .inl ⟨by rfl, fun w hSw => by (go_simp)⟩) ?_
          simp only [Act.put, List.setIfInBounds_toArray, List.set_cons_zero, List.set_cons_succ]
          refine takeT (fun W => W.cell? ⟨w.heap.size + 3, 4, none⟩ = some (.slice ra R.length rc) ∧ W.cell? ⟨w.heap.size + 3, 5, none⟩ = some (.slice va R.length vc)) (i := 6) (d := some 65) (.slice va R.length vc) rfl (by kernel_rfl) (by decide) (by kernel_rfl) (by kernel_rfl) (by kernel_rfl) (fun _ _ _ _ h => h) ((HKK.out _ HF0.out).1) (fun _ => (HKK.out _ HF0.out).2) (.inr ⟨fun _ h1 h2 => h2, by kernel_rfl, by kernel_rfl⟩) (fun o ho => by cases ho; exact .inl ⟨by rfl, fun w hSw => by (obtain ⟨hs5, hs6⟩ := hSw; go_simp)⟩) ?_
          simp only [Act.put, List.setIfInBounds_toArray, List.set_cons_zero, List.set_cons_succ]
          refine takeT (fun _ => True) (i := 7) (d := some 66) (.pointer (some ⟨wr.heap.size, 5, none⟩)) rfl (by kernel_rfl) (by decide) (by kernel_rfl) (by kernel_rfl) (by kernel_rfl) (fun _ _ _ _ h => h) ((HKK.out _ HF0.out).1) (fun _ => (HKK.out _ HF0.out).2) (.inl (fun _ _ => trivial)) (fun o ho => by cases ho; exact .inl ⟨by rfl, fun w hSw => by (go_simp)⟩) ?_
          simp only [Act.put, List.setIfInBounds_toArray, List.set_cons_zero, List.set_cons_succ]
          refine takeT (fun W => W.cell? ⟨wr.heap.size, 5, none⟩ = some (.slice (some ⟨ib, io, none⟩) B.length ic') ∧ sixB W ib (io + j * 6) eb.2.2) (i := 8) (d := some 67) (.slice (some ⟨ib, io, none⟩) B.length ic') rfl (by kernel_rfl) (by decide) (by kernel_rfl) (by kernel_rfl) (by kernel_rfl) (fun _ _ _ _ h => h) ((HKK.out _ HF0.out).1) (fun _ => (HKK.out _ HF0.out).2) (.inl (fun _ h => h)) (fun o ho => by cases ho; exact .inl ⟨by rfl, fun w hSw => by (obtain ⟨hs5, hs0, hs1, hs2, hs3, hs4, hs6⟩ := hSw; go_simp)⟩) ?_
          simp only [Act.put, List.setIfInBounds_toArray, List.set_cons_zero, List.set_cons_succ]
          refine takeT (fun _ => True) (i := 9) (d := some 68) (.int .i64 (j : Int)) rfl (by kernel_rfl) (by decide) (by kernel_rfl) (by kernel_rfl) (by kernel_rfl) (fun _ _ _ _ h => h) ((HKK.out _ HF0.out).1) (fun _ => (HKK.out _ HF0.out).2) (.inl (fun _ _ => trivial)) (fun o ho => by cases ho; exact .inl ⟨by rfl, fun w hSw => by (go_simp)⟩) ?_
          simp only [Act.put, List.setIfInBounds_toArray, List.set_cons_zero, List.set_cons_succ]
          refine takeT (fun _ => True) (i := 10) (d := some 69) (.pointer (some ⟨ib, io + j * 6, none⟩)) rfl (by kernel_rfl) (by decide) (by kernel_rfl) (by kernel_rfl) (by kernel_rfl) (fun _ _ _ _ h => h) ((HKK.out _ HF0.out).1) (fun _ => (HKK.out _ HF0.out).2) (.inl (fun _ _ => trivial)) (fun o ho => by cases ho; exact .inl ⟨by rfl, fun w hSw => by (go_simp)⟩) ?_
          simp only [Act.put, List.setIfInBounds_toArray, List.set_cons_zero, List.set_cons_succ]
          refine takeT (fun W => W.cell? ⟨wr.heap.size, 5, none⟩ = some (.slice (some ⟨ib, io, none⟩) B.length ic') ∧ sixB W ib (io + j * 6) eb.2.2) (i := 11) (d := some 70) (eb.2.2.v) rfl (by kernel_rfl) (by decide) (by kernel_rfl) (by kernel_rfl) (by kernel_rfl) (fun _ _ _ _ h => h) ((HKK.out _ HF0.out).1) (fun _ => (HKK.out _ HF0.out).2) (.inl (fun _ h => h)) (fun o ho => by cases ho; exact .inl ⟨by rfl, fun w hSw => by (obtain ⟨hs5, hs0, hs1, hs2, hs3, hs4, hs6⟩ := hSw; go_simp)⟩) ?_
          simp only [Act.put, List.setIfInBounds_toArray, List.set_cons_zero, List.set_cons_succ]
          refine twoT (i := 3) (j := 12) (by kernel_rfl) (by decide) (by decide) (fun o ho K' hK => ?_) (fun o ho K' hK => ?_)
          · skip
            cases ho
            rw [if_pos (by rfl)]
            go_simp
            have HFB : Hid (Fr (fun k => (Value.slice ra R.length rc).ownBlock = some k ∨ (Value.slice va R.length vc).ownBlock = some k) w9 (W0.alloc (.cells #[.string ⟨eb.1.toArray⟩] 9))) := HFA.out.alloc _
            have HGN : Hid (Blk (W0.alloc (.cells #[.string ⟨eb.1.toArray⟩] 9)) W0.heap.size 9 [.string ⟨eb.1.toArray⟩]) := Blk.new _ _ _
            have HLN : Hid (w9.heap.size ≤ W0.heap.size) := HFA.out.size
            have HNB : Hid ((W0.alloc (.cells #[.string ⟨eb.1.toArray⟩] 9)).ownsRow _ _ _ _ _ _) := owns_of_eq HNA.out (fun k hk => Below.heap_alloc W0 _ k (own_lt HNA.out k hk).2)
            have HVB : Hid ((W0.alloc (.cells #[.string ⟨eb.1.toArray⟩] 9)).ownsRow _ _ _ _ _ _) := owns_of_eq HVA.out (fun k hk => Below.heap_alloc W0 _ k (own_lt HVA.out k hk).2)
            have HZB : Hid (w.heap.size + 4 ≤ (W0.alloc (.cells #[.string ⟨eb.1.toArray⟩] 9)).heap.size) := Nat.le_trans HZA.out (HFB.out.size |> fun _ => by rw [World.size_alloc]; exact Nat.le_succ _)
            refine hK.out _ _ (HKK.out _ HFB.out).1 (fun _ _ => (HKK.out _ HFB.out).2) ?_
            clear hK K'
            try simp only [Act.put, List.setIfInBounds_toArray, List.set_cons_zero, List.set_cons_succ]
            generalize W0.alloc (.cells #[.string ⟨eb.1.toArray⟩] 9) = WB at *
            refine twoT (i := 4) (j := 12) (by kernel_rfl) (by decide) (by decide) (fun o ho K' hK => ?_) (fun o ho K' hK => ?_)
            · skip
              cases ho
              rw [if_pos (by rfl)]
              refine wp_app_name _ _ rfl (w.heap.size + 4) _ (nmE R) eb.1 _ _ (by rfl) (by rfl) HNB.out (HGN.out.cell 0) HZB.out hRl2.1 ?_
              intro na2 nc2 WC ho2 hg2
              have HFC := hid (HFB.out.grown hg2 (fun k hk => .inl (.inl hk)))
              have HNC := hid ho2
              have HVC := hid (owns_of_eq HVB.out (w' := WC) (fun k hk => hg2.block k (own_lt HVB.out k hk).2 (fun e => HAp.out k e.symm hk)))
              have HZC : Hid (w.heap.size + 4 ≤ WC.heap.size) := Nat.le_trans HZB.out hg2.size
              refine hK.out _ _ (HKK.out _ HFC.out).1 (fun _ _ => (HKK.out _ HFC.out).2) ?_
              clear hK K' hg2
              try simp only [Act.put, List.setIfInBounds_toArray, List.set_cons_zero, List.set_cons_succ]
              refine takeT (fun _ => True) (i := 14) (d := some 73) (.pointer (some ⟨w.heap.size + 3, 4, none⟩)) rfl (by kernel_rfl) (by decide) (by kernel_rfl) (by kernel_rfl) (by kernel_rfl) (fun _ _ _ _ h => h) ((HKK.out _ HFC.out).1) (fun _ => (HKK.out _ HFC.out).2) (.inl (fun _ _ => trivial)) (fun o ho => by cases ho; exact .inl ⟨by rfl, fun w hSw => by (go_simp)⟩) ?_
              simp only [Act.put, List.setIfInBounds_toArray, List.set_cons_zero, List.set_cons_succ]
              refine oneT (i := 12) (by kernel_rfl) (by decide) (fun o ho K' hK => ?_)
              cases ho
              rw [if_pos (by rfl)]
              go_simp
              have HFD : Hid (Fr (fun k => (Value.slice ra R.length rc).ownBlock = some k ∨ (Value.slice va R.length vc).ownBlock = some k) w9 (WC.alloc (.cells #[.int .i64 eb.2.2.k, .int .i64 eb.2.2.n, .float .f64 eb.2.2.f, .string ⟨eb.2.2.t.toArray⟩, .slice eb.2.2.na eb.2.2.nl eb.2.2.nc, .slice eb.2.2.ia eb.2.2.il eb.2.2.ic] 26))) := HFC.out.alloc _
              have HGV : Hid (Blk (WC.alloc (.cells #[.int .i64 eb.2.2.k, .int .i64 eb.2.2.n, .float .f64 eb.2.2.f, .string ⟨eb.2.2.t.toArray⟩, .slice eb.2.2.na eb.2.2.nl eb.2.2.nc, .slice eb.2.2.ia eb.2.2.il eb.2.2.ic] 26)) WC.heap.size 26 eb.2.2.cs) := Blk.new _ _ _
              have HLV : Hid (w9.heap.size ≤ WC.heap.size) := HFC.out.size
              have HND : Hid ((WC.alloc (.cells #[.int .i64 eb.2.2.k, .int .i64 eb.2.2.n, .float .f64 eb.2.2.f, .string ⟨eb.2.2.t.toArray⟩, .slice eb.2.2.na eb.2.2.nl eb.2.2.nc, .slice eb.2.2.ia eb.2.2.il eb.2.2.ic] 26)).ownsRow _ _ _ _ _ _) := owns_of_eq HNC.out (fun k hk => Below.heap_alloc WC _ k (own_lt HNC.out k hk).2)
              have HVD : Hid ((WC.alloc (.cells #[.int .i64 eb.2.2.k, .int .i64 eb.2.2.n, .float .f64 eb.2.2.f, .string ⟨eb.2.2.t.toArray⟩, .slice eb.2.2.na eb.2.2.nl eb.2.2.nc, .slice eb.2.2.ia eb.2.2.il eb.2.2.ic] 26)).ownsRow _ _ _ _ _ _) := owns_of_eq HVC.out (fun k hk => Below.heap_alloc WC _ k (own_lt HVC.out k hk).2)
              have HZD : Hid (w.heap.size + 4 ≤ (WC.alloc (.cells #[.int .i64 eb.2.2.k, .int .i64 eb.2.2.n, .float .f64 eb.2.2.f, .string ⟨eb.2.2.t.toArray⟩, .slice eb.2.2.na eb.2.2.nl eb.2.2.nc, .slice eb.2.2.ia eb.2.2.il eb.2.2.ic] 26)).heap.size) := Nat.le_trans HZC.out (HFD.out.size |> fun _ => by rw [World.size_alloc]; exact Nat.le_succ _)
              refine hK.out _ _ (HKK.out _ HFD.out).1 (fun _ _ => (HKK.out _ HFD.out).2) ?_
              clear hK K'
              try simp only [Act.put, List.setIfInBounds_toArray, List.set_cons_zero, List.set_cons_succ]
              generalize WC.alloc (.cells #[.int .i64 eb.2.2.k, .int .i64 eb.2.2.n, .float .f64 eb.2.2.f, .string ⟨eb.2.2.t.toArray⟩, .slice eb.2.2.na eb.2.2.nl eb.2.2.nc, .slice eb.2.2.ia eb.2.2.il eb.2.2.ic] 26) = WD at *
              refine oneT (i := 13) (by kernel_rfl) (by decide) (fun o ho K' hK => ?_)
              cases ho
              rw [if_pos (by rfl)]
              refine wp_app_value _ _ rfl (w.heap.size + 4) _ (vvE R) eb.2.2 _ _ (by rfl) (by rfl) HVD.out HGV.out HZD.out hRl2.2 ?_
              intro ia2 ic2 WE ho3 hg2
              have HFE := hid (HFD.out.grown hg2 (fun k hk => .inl (.inr hk)))
              have HVE := hid ho3
              have HNE := hid (owns_of_eq HND.out (w' := WE) (fun k hk => hg2.block k (own_lt HND.out k hk).2 (fun e => own_apart HND.out HVD.out (by decide) k hk e.symm)))
              have HZE : Hid (w.heap.size + 4 ≤ WE.heap.size) := Nat.le_trans HZD.out hg2.size
              refine hK.out _ _ (HKK.out _ HFE.out).1 (fun _ _ => (HKK.out _ HFE.out).2) ?_
              clear hK K' hg2
              try simp only [Act.put, List.setIfInBounds_toArray, List.set_cons_zero, List.set_cons_succ]
              have hb4 := HFE.out.blk (HF9.out.blk HK.out.bv (fun h => h)) (fun h => by rcases h with h | h; (· have := (own_lt HK.out.ns _ h).1; omega); (· have := (own_lt HK.out.vs _ h).1; omega))
              have hc4 := hb4.cell 4
              have hz4 := hb4.frozen 4
              have hb5 := hb4.setCell 4 (.slice na2 ((nmE R).length + 1) nc2)
              have hc5 := hb5.cell 5
              have hz5 := hb5.frozen 5
              have HP := hid (po_next (e := eb) HK.out HF9.out HFE.out HNE.out HVE.out)
              have HFs : Hid (Fr (fun k => ((Value.slice ra R.length rc).ownBlock = some k ∨ (Value.slice va R.length vc).ownBlock = some k) ∨ k = w.heap.size + 3) w9 (WE.setCell ⟨w.heap.size + 3, 4, none⟩ (.slice na2 ((nmE R).length + 1) nc2))) := (HFE.out.mono (fun k h => .inl h)).setCell (.inl (.inr rfl)) _
              have HFt : Hid (Fr (fun k => ((Value.slice ra R.length rc).ownBlock = some k ∨ (Value.slice va R.length vc).ownBlock = some k) ∨ k = w.heap.size + 3) w9 ((WE.setCell ⟨w.heap.size + 3, 4, none⟩ (.slice na2 ((nmE R).length + 1) nc2)).setCell ⟨w.heap.size + 3, 5, none⟩ (.slice ia2 ((vvE R).length + 1) ic2))) := HFs.out.setCell (.inl (.inr rfl)) _
              clear hb4 hb5
              refine oneT (i := 15) (by kernel_rfl) (by decide) (fun o ho K' hK => ?_)
              cases ho
              rw [if_pos (by rfl)]
              go_simp
              refine hK.out _ _ (HKS.out _ HFs.out) (fun h => absurd rfl h) ?_
              clear hK K'
              try simp only [Act.put, List.setIfInBounds_toArray, List.set_cons_zero, List.set_cons_succ]
              refine takeT (fun _ => True) (i := 16) (d := some 74) (.pointer (some ⟨w.heap.size + 3, 5, none⟩)) rfl (by kernel_rfl) (by decide) (by kernel_rfl) (by kernel_rfl) (by kernel_rfl) (fun _ _ _ _ h => h) (HKS.out _ HFs.out) (fun h => absurd h (by decide +kernel)) (.inl (fun _ _ => trivial)) (fun o ho => by cases ho; exact .inl ⟨by rfl, fun w hSw => by (go_simp)⟩) ?_
              simp only [Act.put, List.setIfInBounds_toArray, List.set_cons_zero, List.set_cons_succ]
              refine oneT (i := 17) (by kernel_rfl) (by decide) (fun o ho K' hK => ?_)
              cases ho
              rw [if_pos (by rfl)]
              go_simp
              refine hK.out _ _ (HKS.out _ HFt.out) (fun _ h => absurd h (by decide +kernel)) ?_
              clear hK K'
              try simp only [Act.put, List.setIfInBounds_toArray, List.set_cons_zero, List.set_cons_succ]
              refine doneT (by kernel_rfl) (NoPanic.normal ?_)
              generalize (WE.setCell ⟨w.heap.size + 3, 4, none⟩ (.slice na2 ((nmE R).length + 1) nc2)).setCell ⟨w.heap.size + 3, 5, none⟩ (.slice ia2 ((vvE R).length + 1) ic2) = W6 at *
              clear hc4 hz4 hc5 hz5 HFs HFt
              have HQ := hid HP.out.drew
              clear HP
              go_wp2_with fail
              skip
              have HSq : Hid ((fun W => W.cell? ⟨w.heap.size, 4, none⟩ = some (.slice na A.length nc) ∧ W.cell? ⟨w.heap.size + 1, 4, none⟩ = some (.slice (some ⟨nb', no', none⟩) B.length nc')) W6.drew) := ⟨HQ.out.bx.cell 4, HQ.out.by'.cell 4⟩
              have HXq := hid (HX.out.env (Env.of HQ.out.fr))
              have HYq := hid (HY.out.env (Env.of HQ.out.fr))
              have HBa := behind_any W6.drew na nc (A.map (·.1)) i eb.1 HXq.out.names (by rw [List.length_map]; omega) (by rw [List.length_map]; omega)
              have HBb := behind_any W6.drew (some ⟨nb', no', none⟩) nc' (B.map (·.1)) j eb.1 HYq.out.names (by rw [List.length_map]; omega) (by rw [List.length_map]; omega)
              rw [List.length_map] at HBa HBb
              rw [HS1.out] at HBb
              have HS2' := HS2
              have HS3' := HS3
              have HSt' := HSt
              generalize bh (A.map (·.1)) i eb.1 = m2 at HBa HS2' HS3' HSt'
              have HBa' := hid HBa
              have HBb' := hid HBb
              clear HBa HBb
              refine wp_region_noPanic ?_
              refine wp_region_held_drew (S := (fun W => W.cell? ⟨w.heap.size, 4, none⟩ = some (.slice na A.length nc) ∧ W.cell? ⟨w.heap.size + 1, 4, none⟩ = some (.slice (some ⟨nb', no', none⟩) B.length nc'))) (by kernel_rfl) HSq.out (fun _ => ?_)
              generalize W6.drew = W7 at *
              refine takeH (i := 0) (d := some 75) (.pointer (some ⟨w.heap.size, 4, none⟩)) rfl (by kernel_rfl) (by kernel_rfl) (by kernel_rfl) (fun _ _ _ _ h => h) HSq.out (fun o ho => by cases ho; exact .inl ⟨by rfl, fun w hSw => by (obtain ⟨hs0, hs1⟩ := hSw; go_simp)⟩) ?_
              simp only [Act.put, List.setIfInBounds_toArray, List.set_cons_zero, List.set_cons_succ]
              refine takeH (i := 1) (d := some 76) (.slice na A.length nc) rfl (by kernel_rfl) (by kernel_rfl) (by kernel_rfl) (fun _ _ _ _ h => h) HSq.out (fun o ho => by cases ho; exact .inl ⟨by rfl, fun w hSw => by (obtain ⟨hs0, hs1⟩ := hSw; go_simp)⟩) ?_
              simp only [Act.put, List.setIfInBounds_toArray, List.set_cons_zero, List.set_cons_succ]
              refine takeH (i := 2) (d := some 77) (.int .i64 (i : Int)) rfl (by kernel_rfl) (by kernel_rfl) (by kernel_rfl) (fun _ _ _ _ h => h) HSq.out (fun o ho => by cases ho; exact .inl ⟨by rfl, fun w hSw => by (obtain ⟨hs0, hs1⟩ := hSw; go_simp)⟩) ?_
              simp only [Act.put, List.setIfInBounds_toArray, List.set_cons_zero, List.set_cons_succ]
              refine takeH (i := 3) (d := some 78) (.string ⟨eb.1.toArray⟩) rfl (by kernel_rfl) (by kernel_rfl) (by kernel_rfl) (fun _ _ _ _ h => h) HSq.out (fun o ho => by cases ho; exact .inl ⟨by rfl, fun w hSw => by (obtain ⟨hs0, hs1⟩ := hSw; go_simp)⟩) ?_
              simp only [Act.put, List.setIfInBounds_toArray, List.set_cons_zero, List.set_cons_succ]
              refine takeH (i := 5) (d := some 80) (.pointer (some ⟨w.heap.size + 1, 4, none⟩)) rfl (by kernel_rfl) (by kernel_rfl) (by kernel_rfl) (fun _ _ _ _ h => h) HSq.out (fun o ho => by cases ho; exact .inl ⟨by rfl, fun w hSw => by (obtain ⟨hs0, hs1⟩ := hSw; go_simp)⟩) ?_
              simp only [Act.put, List.setIfInBounds_toArray, List.set_cons_zero, List.set_cons_succ]
              refine takeH (i := 6) (d := some 81) (.slice (some ⟨nb', no', none⟩) B.length nc') rfl (by kernel_rfl) (by kernel_rfl) (by kernel_rfl) (fun _ _ _ _ h => h) HSq.out (fun o ho => by cases ho; exact .inl ⟨by rfl, fun w hSw => by (obtain ⟨hs0, hs1⟩ := hSw; go_simp)⟩) ?_
              simp only [Act.put, List.setIfInBounds_toArray, List.set_cons_zero, List.set_cons_succ]
              refine takeH (i := 7) (d := some 82) (.int .i64 (j : Int)) rfl (by kernel_rfl) (by kernel_rfl) (by kernel_rfl) (fun _ _ _ _ h => h) HSq.out (fun o ho => by cases ho; exact .inl ⟨by rfl, fun w hSw => by (obtain ⟨hs0, hs1⟩ := hSw; go_simp)⟩) ?_
              simp only [Act.put, List.setIfInBounds_toArray, List.set_cons_zero, List.set_cons_succ]
              refine takeH (i := 8) (d := some 83) (.string ⟨eb.1.toArray⟩) rfl (by kernel_rfl) (by kernel_rfl) (by kernel_rfl) (fun _ _ _ _ h => h) HSq.out (fun o ho => by cases ho; exact .inl ⟨by rfl, fun w hSw => by (obtain ⟨hs0, hs1⟩ := hSw; go_simp)⟩) ?_
              simp only [Act.put, List.setIfInBounds_toArray, List.set_cons_zero, List.set_cons_succ]
              refine oneH (i := 4) (by kernel_rfl) (fun o ho K' hK => ?_) (by decide)
              cases ho
              rw [if_pos (by rfl)]
              go_simp
              refine HBa'.out.mono ?_
              rintro e wz ⟨rfl, rfl⟩
              refine hK.out _ _ HSq.out ?_
              clear hK K'
              try simp only [Act.put, List.setIfInBounds_toArray, List.set_cons_zero, List.set_cons_succ]
              refine oneH (i := 9) (by kernel_rfl) (fun o ho K' hK => ?_) (by decide)
              cases ho
              rw [if_pos (by rfl)]
              go_simp
              refine HBb'.out.mono ?_
              rintro e wz ⟨rfl, rfl⟩
              refine hK.out _ _ HSq.out ?_
              clear hK K'
              try simp only [Act.put, List.setIfInBounds_toArray, List.set_cons_zero, List.set_cons_succ]
              refine takeH (i := 10) (d := some 7) (.int .i64 ((m2 : Nat) : Int)) rfl (by kernel_rfl) (by kernel_rfl) (by kernel_rfl) (fun _ _ _ _ h => h) HSq.out (fun o ho => by cases ho; exact .inl ⟨by rfl, fun w hSw => by (obtain ⟨hs0, hs1⟩ := hSw; go_simp)⟩) ?_
              simp only [Act.put, List.setIfInBounds_toArray, List.set_cons_zero, List.set_cons_succ]
              refine takeH (i := 11) (d := some 8) (.int .i64 ((j + 1 : Nat) : Int)) rfl (by kernel_rfl) (by kernel_rfl) (by kernel_rfl) (fun _ _ _ _ h => h) HSq.out (fun o ho => by cases ho; exact .inl ⟨by rfl, fun w hSw => by (obtain ⟨hs0, hs1⟩ := hSw; go_simp)⟩) ?_
              simp only [Act.put, List.setIfInBounds_toArray, List.set_cons_zero, List.set_cons_succ]
              refine wpAnyH_done (by kernel_rfl) (NoPanic.normal ?_) _
              have HRl : Hid ((R ++ [eb]).length ≤ (m2) + (j + 1)) := by unfold Hid; rw [List.length_append, List.length_singleton]; have h2 := HS2'.out; omega
              have HRq : Hid ((R ++ [eb]) ++ mg (A.drop (m2)) (B.drop (j + 1)) = mg A B) := by unfold Hid; rw [← HR.out, HSt'.out]; simp
              go_wp2_with fail
              exact ⟨⟨m2, j + 1, R ++ [eb], na2, ia2, nc2, ic2, by exact HS3'.out, by omega, rfl, rfl, HRq.out, HRl.out, HQ.out⟩, by simp only [intsOf, intOf]; have h2 := HS2'.out; omega⟩
            · skip
              cases ho
              rw [if_pos (by rfl)]
              go_simp
              have HFC : Hid (Fr (fun k => (Value.slice ra R.length rc).ownBlock = some k ∨ (Value.slice va R.length vc).ownBlock = some k) w9 (WB.alloc (.cells #[.int .i64 eb.2.2.k, .int .i64 eb.2.2.n, .float .f64 eb.2.2.f, .string ⟨eb.2.2.t.toArray⟩, .slice eb.2.2.na eb.2.2.nl eb.2.2.nc, .slice eb.2.2.ia eb.2.2.il eb.2.2.ic] 26))) := HFB.out.alloc _
              have HGV : Hid (Blk (WB.alloc (.cells #[.int .i64 eb.2.2.k, .int .i64 eb.2.2.n, .float .f64 eb.2.2.f, .string ⟨eb.2.2.t.toArray⟩, .slice eb.2.2.na eb.2.2.nl eb.2.2.nc, .slice eb.2.2.ia eb.2.2.il eb.2.2.ic] 26)) WB.heap.size 26 eb.2.2.cs) := Blk.new _ _ _
              have HLV : Hid (w9.heap.size ≤ WB.heap.size) := HFB.out.size
              have HNC : Hid ((WB.alloc (.cells #[.int .i64 eb.2.2.k, .int .i64 eb.2.2.n, .float .f64 eb.2.2.f, .string ⟨eb.2.2.t.toArray⟩, .slice eb.2.2.na eb.2.2.nl eb.2.2.nc, .slice eb.2.2.ia eb.2.2.il eb.2.2.ic] 26)).ownsRow _ _ _ _ _ _) := owns_of_eq HNB.out (fun k hk => Below.heap_alloc WB _ k (own_lt HNB.out k hk).2)
              have HVC : Hid ((WB.alloc (.cells #[.int .i64 eb.2.2.k, .int .i64 eb.2.2.n, .float .f64 eb.2.2.f, .string ⟨eb.2.2.t.toArray⟩, .slice eb.2.2.na eb.2.2.nl eb.2.2.nc, .slice eb.2.2.ia eb.2.2.il eb.2.2.ic] 26)).ownsRow _ _ _ _ _ _) := owns_of_eq HVB.out (fun k hk => Below.heap_alloc WB _ k (own_lt HVB.out k hk).2)
              have HZC : Hid (w.heap.size + 4 ≤ (WB.alloc (.cells #[.int .i64 eb.2.2.k, .int .i64 eb.2.2.n, .float .f64 eb.2.2.f, .string ⟨eb.2.2.t.toArray⟩, .slice eb.2.2.na eb.2.2.nl eb.2.2.nc, .slice eb.2.2.ia eb.2.2.il eb.2.2.ic] 26)).heap.size) := Nat.le_trans HZB.out (HFC.out.size |> fun _ => by rw [World.size_alloc]; exact Nat.le_succ _)
              have HGN' := hid (HGN.out.alloc (.cells #[.int .i64 eb.2.2.k, .int .i64 eb.2.2.n, .float .f64 eb.2.2.f, .string ⟨eb.2.2.t.toArray⟩, .slice eb.2.2.na eb.2.2.nl eb.2.2.nc, .slice eb.2.2.ia eb.2.2.il eb.2.2.ic] 26))
              refine hK.out _ _ (HKK.out _ HFC.out).1 (fun _ _ => (HKK.out _ HFC.out).2) ?_
              clear hK K'
              try simp only [Act.put, List.setIfInBounds_toArray, List.set_cons_zero, List.set_cons_succ]
              generalize WB.alloc (.cells #[.int .i64 eb.2.2.k, .int .i64 eb.2.2.n, .float .f64 eb.2.2.f, .string ⟨eb.2.2.t.toArray⟩, .slice eb.2.2.na eb.2.2.nl eb.2.2.nc, .slice eb.2.2.ia eb.2.2.il eb.2.2.ic] 26) = WC at *
              refine oneT (i := 4) (by kernel_rfl) (by decide) (fun o ho K' hK => ?_)
              cases ho
              rw [if_pos (by rfl)]
              refine wp_app_name _ _ rfl (w.heap.size + 4) _ (nmE R) eb.1 _ _ (by rfl) (by rfl) HNC.out (HGN'.out.cell 0) HZC.out hRl2.1 ?_
              intro na2 nc2 WD ho2 hg2
              have HFD := hid (HFC.out.grown hg2 (fun k hk => .inl (.inl hk)))
              have HND := hid ho2
              have HVD := hid (owns_of_eq HVC.out (w' := WD) (fun k hk => hg2.block k (own_lt HVC.out k hk).2 (fun e => HAp.out k e.symm hk)))
              have HGV2 := hid (HGV.out.of_eq (w' := WD) (hg2.block _ HGV.out.lt (fun e => by have h1 := (own_lt HN9.out _ e.symm).2; have h2 := HLV.out; omega)))
              have HZD : Hid (w.heap.size + 4 ≤ WD.heap.size) := Nat.le_trans HZC.out hg2.size
              refine hK.out _ _ (HKK.out _ HFD.out).1 (fun _ _ => (HKK.out _ HFD.out).2) ?_
              clear hK K' hg2
              try simp only [Act.put, List.setIfInBounds_toArray, List.set_cons_zero, List.set_cons_succ]
              refine takeT (fun _ => True) (i := 14) (d := some 73) (.pointer (some ⟨w.heap.size + 3, 4, none⟩)) rfl (by kernel_rfl) (by decide) (by kernel_rfl) (by kernel_rfl) (by kernel_rfl) (fun _ _ _ _ h => h) ((HKK.out _ HFD.out).1) (fun _ => (HKK.out _ HFD.out).2) (.inl (fun _ _ => trivial)) (fun o ho => by cases ho; exact .inl ⟨by rfl, fun w hSw => by (go_simp)⟩) ?_
              simp only [Act.put, List.setIfInBounds_toArray, List.set_cons_zero, List.set_cons_succ]
              refine oneT (i := 13) (by kernel_rfl) (by decide) (fun o ho K' hK => ?_)
              cases ho
              rw [if_pos (by rfl)]
              refine wp_app_value _ _ rfl (w.heap.size + 4) _ (vvE R) eb.2.2 _ _ (by rfl) (by rfl) HVD.out HGV2.out HZD.out hRl2.2 ?_
              intro ia2 ic2 WE ho3 hg2
              have HFE := hid (HFD.out.grown hg2 (fun k hk => .inl (.inr hk)))
              have HVE := hid ho3
              have HNE := hid (owns_of_eq HND.out (w' := WE) (fun k hk => hg2.block k (own_lt HND.out k hk).2 (fun e => own_apart HND.out HVD.out (by decide) k hk e.symm)))
              have HZE : Hid (w.heap.size + 4 ≤ WE.heap.size) := Nat.le_trans HZD.out hg2.size
              refine hK.out _ _ (HKK.out _ HFE.out).1 (fun _ _ => (HKK.out _ HFE.out).2) ?_
              clear hK K' hg2
              try simp only [Act.put, List.setIfInBounds_toArray, List.set_cons_zero, List.set_cons_succ]
              have hb4 := HFE.out.blk (HF9.out.blk HK.out.bv (fun h => h)) (fun h => by rcases h with h | h; (· have := (own_lt HK.out.ns _ h).1; omega); (· have := (own_lt HK.out.vs _ h).1; omega))
              have hc4 := hb4.cell 4
              have hz4 := hb4.frozen 4
              have hb5 := hb4.setCell 4 (.slice na2 ((nmE R).length + 1) nc2)
              have hc5 := hb5.cell 5
              have hz5 := hb5.frozen 5
              have HP := hid (po_next (e := eb) HK.out HF9.out HFE.out HNE.out HVE.out)
              have HFs : Hid (Fr (fun k => ((Value.slice ra R.length rc).ownBlock = some k ∨ (Value.slice va R.length vc).ownBlock = some k) ∨ k = w.heap.size + 3) w9 (WE.setCell ⟨w.heap.size + 3, 4, none⟩ (.slice na2 ((nmE R).length + 1) nc2))) := (HFE.out.mono (fun k h => .inl h)).setCell (.inl (.inr rfl)) _
              have HFt : Hid (Fr (fun k => ((Value.slice ra R.length rc).ownBlock = some k ∨ (Value.slice va R.length vc).ownBlock = some k) ∨ k = w.heap.size + 3) w9 ((WE.setCell ⟨w.heap.size + 3, 4, none⟩ (.slice na2 ((nmE R).length + 1) nc2)).setCell ⟨w.heap.size + 3, 5, none⟩ (.slice ia2 ((vvE R).length + 1) ic2))) := HFs.out.setCell (.inl (.inr rfl)) _
              clear hb4 hb5
              refine oneT (i := 15) (by kernel_rfl) (by decide) (fun o ho K' hK => ?_)
              cases ho
              rw [if_pos (by rfl)]
              go_simp
              refine hK.out _ _ (HKS.out _ HFs.out) (fun h => absurd rfl h) ?_
              clear hK K'
              try simp only [Act.put, List.setIfInBounds_toArray, List.set_cons_zero, List.set_cons_succ]
              refine takeT (fun _ => True) (i := 16) (d := some 74) (.pointer (some ⟨w.heap.size + 3, 5, none⟩)) rfl (by kernel_rfl) (by decide) (by kernel_rfl) (by kernel_rfl) (by kernel_rfl) (fun _ _ _ _ h => h) (HKS.out _ HFs.out) (fun h => absurd h (by decide +kernel)) (.inl (fun _ _ => trivial)) (fun o ho => by cases ho; exact .inl ⟨by rfl, fun w hSw => by (go_simp)⟩) ?_
              simp only [Act.put, List.setIfInBounds_toArray, List.set_cons_zero, List.set_cons_succ]
              refine oneT (i := 17) (by kernel_rfl) (by decide) (fun o ho K' hK => ?_)
              cases ho
              rw [if_pos (by rfl)]
              go_simp
              refine hK.out _ _ (HKS.out _ HFt.out) (fun _ h => absurd h (by decide +kernel)) ?_
              clear hK K'
              try simp only [Act.put, List.setIfInBounds_toArray, List.set_cons_zero, List.set_cons_succ]
              refine doneT (by kernel_rfl) (NoPanic.normal ?_)
              generalize (WE.setCell ⟨w.heap.size + 3, 4, none⟩ (.slice na2 ((nmE R).length + 1) nc2)).setCell ⟨w.heap.size + 3, 5, none⟩ (.slice ia2 ((vvE R).length + 1) ic2) = W6 at *
              clear hc4 hz4 hc5 hz5 HFs HFt
              have HQ := hid HP.out.drew
              clear HP
              go_wp2_with fail
              skip
              have HSq : Hid ((fun W => W.cell? ⟨w.heap.size, 4, none⟩ = some (.slice na A.length nc) ∧ W.cell? ⟨w.heap.size + 1, 4, none⟩ = some (.slice (some ⟨nb', no', none⟩) B.length nc')) W6.drew) := ⟨HQ.out.bx.cell 4, HQ.out.by'.cell 4⟩
              have HXq := hid (HX.out.env (Env.of HQ.out.fr))
              have HYq := hid (HY.out.env (Env.of HQ.out.fr))
              have HBa := behind_any W6.drew na nc (A.map (·.1)) i eb.1 HXq.out.names (by rw [List.length_map]; omega) (by rw [List.length_map]; omega)
              have HBb := behind_any W6.drew (some ⟨nb', no', none⟩) nc' (B.map (·.1)) j eb.1 HYq.out.names (by rw [List.length_map]; omega) (by rw [List.length_map]; omega)
              rw [List.length_map] at HBa HBb
              rw [HS1.out] at HBb
              have HS2' := HS2
              have HS3' := HS3
              have HSt' := HSt
              generalize bh (A.map (·.1)) i eb.1 = m2 at HBa HS2' HS3' HSt'
              have HBa' := hid HBa
              have HBb' := hid HBb
              clear HBa HBb
              refine wp_region_noPanic ?_
              refine wp_region_held_drew (S := (fun W => W.cell? ⟨w.heap.size, 4, none⟩ = some (.slice na A.length nc) ∧ W.cell? ⟨w.heap.size + 1, 4, none⟩ = some (.slice (some ⟨nb', no', none⟩) B.length nc'))) (by kernel_rfl) HSq.out (fun _ => ?_)
              generalize W6.drew = W7 at *
              refine takeH (i := 0) (d := some 75) (.pointer (some ⟨w.heap.size, 4, none⟩)) rfl (by kernel_rfl) (by kernel_rfl) (by kernel_rfl) (fun _ _ _ _ h => h) HSq.out (fun o ho => by cases ho; exact .inl ⟨by rfl, fun w hSw => by (obtain ⟨hs0, hs1⟩ := hSw; go_simp)⟩) ?_
              simp only [Act.put, List.setIfInBounds_toArray, List.set_cons_zero, List.set_cons_succ]
              refine takeH (i := 1) (d := some 76) (.slice na A.length nc) rfl (by kernel_rfl) (by kernel_rfl) (by kernel_rfl) (fun _ _ _ _ h => h) HSq.out (fun o ho => by cases ho; exact .inl ⟨by rfl, fun w hSw => by (obtain ⟨hs0, hs1⟩ := hSw; go_simp)⟩) ?_
              simp only [Act.put, List.setIfInBounds_toArray, List.set_cons_zero, List.set_cons_succ]
              refine takeH (i := 2) (d := some 77) (.int .i64 (i : Int)) rfl (by kernel_rfl) (by kernel_rfl) (by kernel_rfl) (fun _ _ _ _ h => h) HSq.out (fun o ho => by cases ho; exact .inl ⟨by rfl, fun w hSw => by (obtain ⟨hs0, hs1⟩ := hSw; go_simp)⟩) ?_
              simp only [Act.put, List.setIfInBounds_toArray, List.set_cons_zero, List.set_cons_succ]
              refine takeH (i := 3) (d := some 78) (.string ⟨eb.1.toArray⟩) rfl (by kernel_rfl) (by kernel_rfl) (by kernel_rfl) (fun _ _ _ _ h => h) HSq.out (fun o ho => by cases ho; exact .inl ⟨by rfl, fun w hSw => by (obtain ⟨hs0, hs1⟩ := hSw; go_simp)⟩) ?_
              simp only [Act.put, List.setIfInBounds_toArray, List.set_cons_zero, List.set_cons_succ]
              refine takeH (i := 5) (d := some 80) (.pointer (some ⟨w.heap.size + 1, 4, none⟩)) rfl (by kernel_rfl) (by kernel_rfl) (by kernel_rfl) (fun _ _ _ _ h => h) HSq.out (fun o ho => by cases ho; exact .inl ⟨by rfl, fun w hSw => by (obtain ⟨hs0, hs1⟩ := hSw; go_simp)⟩) ?_
              simp only [Act.put, List.setIfInBounds_toArray, List.set_cons_zero, List.set_cons_succ]
              refine takeH (i := 6) (d := some 81) (.slice (some ⟨nb', no', none⟩) B.length nc') rfl (by kernel_rfl) (by kernel_rfl) (by kernel_rfl) (fun _ _ _ _ h => h) HSq.out (fun o ho => by cases ho; exact .inl ⟨by rfl, fun w hSw => by (obtain ⟨hs0, hs1⟩ := hSw; go_simp)⟩) ?_
              simp only [Act.put, List.setIfInBounds_toArray, List.set_cons_zero, List.set_cons_succ]
              refine takeH (i := 7) (d := some 82) (.int .i64 (j : Int)) rfl (by kernel_rfl) (by kernel_rfl) (by kernel_rfl) (fun _ _ _ _ h => h) HSq.out (fun o ho => by cases ho; exact .inl ⟨by rfl, fun w hSw => by (obtain ⟨hs0, hs1⟩ := hSw; go_simp)⟩) ?_
              simp only [Act.put, List.setIfInBounds_toArray, List.set_cons_zero, List.set_cons_succ]
              refine takeH (i := 8) (d := some 83) (.string ⟨eb.1.toArray⟩) rfl (by kernel_rfl) (by kernel_rfl) (by kernel_rfl) (fun _ _ _ _ h => h) HSq.out (fun o ho => by cases ho; exact .inl ⟨by rfl, fun w hSw => by (obtain ⟨hs0, hs1⟩ := hSw; go_simp)⟩) ?_
              simp only [Act.put, List.setIfInBounds_toArray, List.set_cons_zero, List.set_cons_succ]
              refine oneH (i := 4) (by kernel_rfl) (fun o ho K' hK => ?_) (by decide)
              cases ho
              rw [if_pos (by rfl)]
              go_simp
              refine HBa'.out.mono ?_
              rintro e wz ⟨rfl, rfl⟩
              refine hK.out _ _ HSq.out ?_
              clear hK K'
              try simp only [Act.put, List.setIfInBounds_toArray, List.set_cons_zero, List.set_cons_succ]
              refine oneH (i := 9) (by kernel_rfl) (fun o ho K' hK => ?_) (by decide)
              cases ho
              rw [if_pos (by rfl)]
              go_simp
              refine HBb'.out.mono ?_
              rintro e wz ⟨rfl, rfl⟩
              refine hK.out _ _ HSq.out ?_
              clear hK K'
              try simp only [Act.put, List.setIfInBounds_toArray, List.set_cons_zero, List.set_cons_succ]
              refine takeH (i := 10) (d := some 7) (.int .i64 ((m2 : Nat) : Int)) rfl (by kernel_rfl) (by kernel_rfl) (by kernel_rfl) (fun _ _ _ _ h => h) HSq.out (fun o ho => by cases ho; exact .inl ⟨by rfl, fun w hSw => by (obtain ⟨hs0, hs1⟩ := hSw; go_simp)⟩) ?_
              simp only [Act.put, List.setIfInBounds_toArray, List.set_cons_zero, List.set_cons_succ]
              refine takeH (i := 11) (d := some 8) (.int .i64 ((j + 1 : Nat) : Int)) rfl (by kernel_rfl) (by kernel_rfl) (by kernel_rfl) (fun _ _ _ _ h => h) HSq.out (fun o ho => by cases ho; exact .inl ⟨by rfl, fun w hSw => by (obtain ⟨hs0, hs1⟩ := hSw; go_simp)⟩) ?_
              simp only [Act.put, List.setIfInBounds_toArray, List.set_cons_zero, List.set_cons_succ]
              refine wpAnyH_done (by kernel_rfl) (NoPanic.normal ?_) _
              have HRl : Hid ((R ++ [eb]).length ≤ (m2) + (j + 1)) := by unfold Hid; rw [List.length_append, List.length_singleton]; have h2 := HS2'.out; omega
              have HRq : Hid ((R ++ [eb]) ++ mg (A.drop (m2)) (B.drop (j + 1)) = mg A B) := by unfold Hid; rw [← HR.out, HSt'.out]; simp
              go_wp2_with fail
              exact ⟨⟨m2, j + 1, R ++ [eb], na2, ia2, nc2, ic2, by exact HS3'.out, by omega, rfl, rfl, HRq.out, HRl.out, HQ.out⟩, by simp only [intsOf, intOf]; have h2 := HS2'.out; omega⟩
          · skip
            cases ho
            rw [if_pos (by rfl)]
            go_simp
            have HFB : Hid (Fr (fun k => (Value.slice ra R.length rc).ownBlock = some k ∨ (Value.slice va R.length vc).ownBlock = some k) w9 (W0.alloc (.cells #[.int .i64 eb.2.2.k, .int .i64 eb.2.2.n, .float .f64 eb.2.2.f, .string ⟨eb.2.2.t.toArray⟩, .slice eb.2.2.na eb.2.2.nl eb.2.2.nc, .slice eb.2.2.ia eb.2.2.il eb.2.2.ic] 26))) := HFA.out.alloc _
            have HGV : Hid (Blk (W0.alloc (.cells #[.int .i64 eb.2.2.k, .int .i64 eb.2.2.n, .float .f64 eb.2.2.f, .string ⟨eb.2.2.t.toArray⟩, .slice eb.2.2.na eb.2.2.nl eb.2.2.nc, .slice eb.2.2.ia eb.2.2.il eb.2.2.ic] 26)) W0.heap.size 26 eb.2.2.cs) := Blk.new _ _ _
            have HLV : Hid (w9.heap.size ≤ W0.heap.size) := HFA.out.size
            have HNB : Hid ((W0.alloc (.cells #[.int .i64 eb.2.2.k, .int .i64 eb.2.2.n, .float .f64 eb.2.2.f, .string ⟨eb.2.2.t.toArray⟩, .slice eb.2.2.na eb.2.2.nl eb.2.2.nc, .slice eb.2.2.ia eb.2.2.il eb.2.2.ic] 26)).ownsRow _ _ _ _ _ _) := owns_of_eq HNA.out (fun k hk => Below.heap_alloc W0 _ k (own_lt HNA.out k hk).2)
            have HVB : Hid ((W0.alloc (.cells #[.int .i64 eb.2.2.k, .int .i64 eb.2.2.n, .float .f64 eb.2.2.f, .string ⟨eb.2.2.t.toArray⟩, .slice eb.2.2.na eb.2.2.nl eb.2.2.nc, .slice eb.2.2.ia eb.2.2.il eb.2.2.ic] 26)).ownsRow _ _ _ _ _ _) := owns_of_eq HVA.out (fun k hk => Below.heap_alloc W0 _ k (own_lt HVA.out k hk).2)
            have HZB : Hid (w.heap.size + 4 ≤ (W0.alloc (.cells #[.int .i64 eb.2.2.k, .int .i64 eb.2.2.n, .float .f64 eb.2.2.f, .string ⟨eb.2.2.t.toArray⟩, .slice eb.2.2.na eb.2.2.nl eb.2.2.nc, .slice eb.2.2.ia eb.2.2.il eb.2.2.ic] 26)).heap.size) := Nat.le_trans HZA.out (HFB.out.size |> fun _ => by rw [World.size_alloc]; exact Nat.le_succ _)
            refine hK.out _ _ (HKK.out _ HFB.out).1 (fun _ _ => (HKK.out _ HFB.out).2) ?_
            clear hK K'
            try simp only [Act.put, List.setIfInBounds_toArray, List.set_cons_zero, List.set_cons_succ]
            generalize W0.alloc (.cells #[.int .i64 eb.2.2.k, .int .i64 eb.2.2.n, .float .f64 eb.2.2.f, .string ⟨eb.2.2.t.toArray⟩, .slice eb.2.2.na eb.2.2.nl eb.2.2.nc, .slice eb.2.2.ia eb.2.2.il eb.2.2.ic] 26) = WB at *
            refine oneT (i := 3) (by kernel_rfl) (by decide) (fun o ho K' hK => ?_)
            cases ho
            rw [if_pos (by rfl)]
            go_simp
            have HFC : Hid (Fr (fun k => (Value.slice ra R.length rc).ownBlock = some k ∨ (Value.slice va R.length vc).ownBlock = some k) w9 (WB.alloc (.cells #[.string ⟨eb.1.toArray⟩] 9))) := HFB.out.alloc _
            have HGN : Hid (Blk (WB.alloc (.cells #[.string ⟨eb.1.toArray⟩] 9)) WB.heap.size 9 [.string ⟨eb.1.toArray⟩]) := Blk.new _ _ _
            have HLN : Hid (w9.heap.size ≤ WB.heap.size) := HFB.out.size
            have HNC : Hid ((WB.alloc (.cells #[.string ⟨eb.1.toArray⟩] 9)).ownsRow _ _ _ _ _ _) := owns_of_eq HNB.out (fun k hk => Below.heap_alloc WB _ k (own_lt HNB.out k hk).2)
            have HVC : Hid ((WB.alloc (.cells #[.string ⟨eb.1.toArray⟩] 9)).ownsRow _ _ _ _ _ _) := owns_of_eq HVB.out (fun k hk => Below.heap_alloc WB _ k (own_lt HVB.out k hk).2)
            have HZC : Hid (w.heap.size + 4 ≤ (WB.alloc (.cells #[.string ⟨eb.1.toArray⟩] 9)).heap.size) := Nat.le_trans HZB.out (HFC.out.size |> fun _ => by rw [World.size_alloc]; exact Nat.le_succ _)
            have HGV' := hid (HGV.out.alloc (.cells #[.string ⟨eb.1.toArray⟩] 9))
            refine hK.out _ _ (HKK.out _ HFC.out).1 (fun _ _ => (HKK.out _ HFC.out).2) ?_
            clear hK K'
            try simp only [Act.put, List.setIfInBounds_toArray, List.set_cons_zero, List.set_cons_succ]
            generalize WB.alloc (.cells #[.string ⟨eb.1.toArray⟩] 9) = WC at *
            refine oneT (i := 4) (by kernel_rfl) (by decide) (fun o ho K' hK => ?_)
            cases ho
            rw [if_pos (by rfl)]
            refine wp_app_name _ _ rfl (w.heap.size + 4) _ (nmE R) eb.1 _ _ (by rfl) (by rfl) HNC.out (HGN.out.cell 0) HZC.out hRl2.1 ?_
            intro na2 nc2 WD ho2 hg2
            have HFD := hid (HFC.out.grown hg2 (fun k hk => .inl (.inl hk)))
            have HND := hid ho2
            have HVD := hid (owns_of_eq HVC.out (w' := WD) (fun k hk => hg2.block k (own_lt HVC.out k hk).2 (fun e => HAp.out k e.symm hk)))
            have HGV'2 := hid (HGV'.out.of_eq (w' := WD) (hg2.block _ HGV'.out.lt (fun e => by have h1 := (own_lt HN9.out _ e.symm).2; have h2 := HLV.out; omega)))
            have HZD : Hid (w.heap.size + 4 ≤ WD.heap.size) := Nat.le_trans HZC.out hg2.size
            refine hK.out _ _ (HKK.out _ HFD.out).1 (fun _ _ => (HKK.out _ HFD.out).2) ?_
            clear hK K' hg2
            try simp only [Act.put, List.setIfInBounds_toArray, List.set_cons_zero, List.set_cons_succ]
            refine takeT (fun _ => True) (i := 14) (d := some 73) (.pointer (some ⟨w.heap.size + 3, 4, none⟩)) rfl (by kernel_rfl) (by decide) (by kernel_rfl) (by kernel_rfl) (by kernel_rfl) (fun _ _ _ _ h => h) ((HKK.out _ HFD.out).1) (fun _ => (HKK.out _ HFD.out).2) (.inl (fun _ _ => trivial)) (fun o ho => by cases ho; exact .inl ⟨by rfl, fun w hSw => by (go_simp)⟩) ?_
            simp only [Act.put, List.setIfInBounds_toArray, List.set_cons_zero, List.set_cons_succ]
            refine oneT (i := 13) (by kernel_rfl) (by decide) (fun o ho K' hK => ?_)
            cases ho
            rw [if_pos (by rfl)]
            refine wp_app_value _ _ rfl (w.heap.size + 4) _ (vvE R) eb.2.2 _ _ (by rfl) (by rfl) HVD.out HGV'2.out HZD.out hRl2.2 ?_
            intro ia2 ic2 WE ho3 hg2
            have HFE := hid (HFD.out.grown hg2 (fun k hk => .inl (.inr hk)))
            have HVE := hid ho3
            have HNE := hid (owns_of_eq HND.out (w' := WE) (fun k hk => hg2.block k (own_lt HND.out k hk).2 (fun e => own_apart HND.out HVD.out (by decide) k hk e.symm)))
            have HZE : Hid (w.heap.size + 4 ≤ WE.heap.size) := Nat.le_trans HZD.out hg2.size
            refine hK.out _ _ (HKK.out _ HFE.out).1 (fun _ _ => (HKK.out _ HFE.out).2) ?_
            clear hK K' hg2
            try simp only [Act.put, List.setIfInBounds_toArray, List.set_cons_zero, List.set_cons_succ]
            have hb4 := HFE.out.blk (HF9.out.blk HK.out.bv (fun h => h)) (fun h => by rcases h with h | h; (· have := (own_lt HK.out.ns _ h).1; omega); (· have := (own_lt HK.out.vs _ h).1; omega))
            have hc4 := hb4.cell 4
            have hz4 := hb4.frozen 4
            have hb5 := hb4.setCell 4 (.slice na2 ((nmE R).length + 1) nc2)
            have hc5 := hb5.cell 5
            have hz5 := hb5.frozen 5
            have HP := hid (po_next (e := eb) HK.out HF9.out HFE.out HNE.out HVE.out)
            have HFs : Hid (Fr (fun k => ((Value.slice ra R.length rc).ownBlock = some k ∨ (Value.slice va R.length vc).ownBlock = some k) ∨ k = w.heap.size + 3) w9 (WE.setCell ⟨w.heap.size + 3, 4, none⟩ (.slice na2 ((nmE R).length + 1) nc2))) := (HFE.out.mono (fun k h => .inl h)).setCell (.inl (.inr rfl)) _
            have HFt : Hid (Fr (fun k => ((Value.slice ra R.length rc).ownBlock = some k ∨ (Value.slice va R.length vc).ownBlock = some k) ∨ k = w.heap.size + 3) w9 ((WE.setCell ⟨w.heap.size + 3, 4, none⟩ (.slice na2 ((nmE R).length + 1) nc2)).setCell ⟨w.heap.size + 3, 5, none⟩ (.slice ia2 ((vvE R).length + 1) ic2))) := HFs.out.setCell (.inl (.inr rfl)) _
            clear hb4 hb5
            refine oneT (i := 15) (by kernel_rfl) (by decide) (fun o ho K' hK => ?_)
            cases ho
            rw [if_pos (by rfl)]
            go_simp
            refine hK.out _ _ (HKS.out _ HFs.out) (fun h => absurd rfl h) ?_
            clear hK K'
            try simp only [Act.put, List.setIfInBounds_toArray, List.set_cons_zero, List.set_cons_succ]
            refine takeT (fun _ => True) (i := 16) (d := some 74) (.pointer (some ⟨w.heap.size + 3, 5, none⟩)) rfl (by kernel_rfl) (by decide) (by kernel_rfl) (by kernel_rfl) (by kernel_rfl) (fun _ _ _ _ h => h) (HKS.out _ HFs.out) (fun h => absurd h (by decide +kernel)) (.inl (fun _ _ => trivial)) (fun o ho => by cases ho; exact .inl ⟨by rfl, fun w hSw => by (go_simp)⟩) ?_
            simp only [Act.put, List.setIfInBounds_toArray, List.set_cons_zero, List.set_cons_succ]
            refine oneT (i := 17) (by kernel_rfl) (by decide) (fun o ho K' hK => ?_)
            cases ho
            rw [if_pos (by rfl)]
            go_simp
            refine hK.out _ _ (HKS.out _ HFt.out) (fun _ h => absurd h (by decide +kernel)) ?_
            clear hK K'
            try simp only [Act.put, List.setIfInBounds_toArray, List.set_cons_zero, List.set_cons_succ]
            refine doneT (by kernel_rfl) (NoPanic.normal ?_)
            generalize (WE.setCell ⟨w.heap.size + 3, 4, none⟩ (.slice na2 ((nmE R).length + 1) nc2)).setCell ⟨w.heap.size + 3, 5, none⟩ (.slice ia2 ((vvE R).length + 1) ic2) = W6 at *
            clear hc4 hz4 hc5 hz5 HFs HFt
            have HQ := hid HP.out.drew
            clear HP
            go_wp2_with fail
            skip
            have HSq : Hid ((fun W => W.cell? ⟨w.heap.size, 4, none⟩ = some (.slice na A.length nc) ∧ W.cell? ⟨w.heap.size + 1, 4, none⟩ = some (.slice (some ⟨nb', no', none⟩) B.length nc')) W6.drew) := ⟨HQ.out.bx.cell 4, HQ.out.by'.cell 4⟩
            have HXq := hid (HX.out.env (Env.of HQ.out.fr))
            have HYq := hid (HY.out.env (Env.of HQ.out.fr))
            have HBa := behind_any W6.drew na nc (A.map (·.1)) i eb.1 HXq.out.names (by rw [List.length_map]; omega) (by rw [List.length_map]; omega)
            have HBb := behind_any W6.drew (some ⟨nb', no', none⟩) nc' (B.map (·.1)) j eb.1 HYq.out.names (by rw [List.length_map]; omega) (by rw [List.length_map]; omega)
            rw [List.length_map] at HBa HBb
            rw [HS1.out] at HBb
            have HS2' := HS2
            have HS3' := HS3
            have HSt' := HSt
            generalize bh (A.map (·.1)) i eb.1 = m2 at HBa HS2' HS3' HSt'
            have HBa' := hid HBa
            have HBb' := hid HBb
            clear HBa HBb
            refine wp_region_noPanic ?_
            refine wp_region_held_drew (S := (fun W => W.cell? ⟨w.heap.size, 4, none⟩ = some (.slice na A.length nc) ∧ W.cell? ⟨w.heap.size + 1, 4, none⟩ = some (.slice (some ⟨nb', no', none⟩) B.length nc'))) (by kernel_rfl) HSq.out (fun _ => ?_)
            generalize W6.drew = W7 at *
            refine takeH (i := 0) (d := some 75) (.pointer (some ⟨w.heap.size, 4, none⟩)) rfl (by kernel_rfl) (by kernel_rfl) (by kernel_rfl) (fun _ _ _ _ h => h) HSq.out (fun o ho => by cases ho; exact .inl ⟨by rfl, fun w hSw => by (obtain ⟨hs0, hs1⟩ := hSw; go_simp)⟩) ?_
            simp only [Act.put, List.setIfInBounds_toArray, List.set_cons_zero, List.set_cons_succ]
            refine takeH (i := 1) (d := some 76) (.slice na A.length nc) rfl (by kernel_rfl) (by kernel_rfl) (by kernel_rfl) (fun _ _ _ _ h => h) HSq.out (fun o ho => by cases ho; exact .inl ⟨by rfl, fun w hSw => by (obtain ⟨hs0, hs1⟩ := hSw; go_simp)⟩) ?_
            simp only [Act.put, List.setIfInBounds_toArray, List.set_cons_zero, List.set_cons_succ]
            refine takeH (i := 2) (d := some 77) (.int .i64 (i : Int)) rfl (by kernel_rfl) (by kernel_rfl) (by kernel_rfl) (fun _ _ _ _ h => h) HSq.out (fun o ho => by cases ho; exact .inl ⟨by rfl, fun w hSw => by (obtain ⟨hs0, hs1⟩ := hSw; go_simp)⟩) ?_
            simp only [Act.put, List.setIfInBounds_toArray, List.set_cons_zero, List.set_cons_succ]
            refine takeH (i := 3) (d := some 78) (.string ⟨eb.1.toArray⟩) rfl (by kernel_rfl) (by kernel_rfl) (by kernel_rfl) (fun _ _ _ _ h => h) HSq.out (fun o ho => by cases ho; exact .inl ⟨by rfl, fun w hSw => by (obtain ⟨hs0, hs1⟩ := hSw; go_simp)⟩) ?_
            simp only [Act.put, List.setIfInBounds_toArray, List.set_cons_zero, List.set_cons_succ]
            refine takeH (i := 5) (d := some 80) (.pointer (some ⟨w.heap.size + 1, 4, none⟩)) rfl (by kernel_rfl) (by kernel_rfl) (by kernel_rfl) (fun _ _ _ _ h => h) HSq.out (fun o ho => by cases ho; exact .inl ⟨by rfl, fun w hSw => by (obtain ⟨hs0, hs1⟩ := hSw; go_simp)⟩) ?_
            simp only [Act.put, List.setIfInBounds_toArray, List.set_cons_zero, List.set_cons_succ]
            refine takeH (i := 6) (d := some 81) (.slice (some ⟨nb', no', none⟩) B.length nc') rfl (by kernel_rfl) (by kernel_rfl) (by kernel_rfl) (fun _ _ _ _ h => h) HSq.out (fun o ho => by cases ho; exact .inl ⟨by rfl, fun w hSw => by (obtain ⟨hs0, hs1⟩ := hSw; go_simp)⟩) ?_
            simp only [Act.put, List.setIfInBounds_toArray, List.set_cons_zero, List.set_cons_succ]
            refine takeH (i := 7) (d := some 82) (.int .i64 (j : Int)) rfl (by kernel_rfl) (by kernel_rfl) (by kernel_rfl) (fun _ _ _ _ h => h) HSq.out (fun o ho => by cases ho; exact .inl ⟨by rfl, fun w hSw => by (obtain ⟨hs0, hs1⟩ := hSw; go_simp)⟩) ?_
            simp only [Act.put, List.setIfInBounds_toArray, List.set_cons_zero, List.set_cons_succ]
            refine takeH (i := 8) (d := some 83) (.string ⟨eb.1.toArray⟩) rfl (by kernel_rfl) (by kernel_rfl) (by kernel_rfl) (fun _ _ _ _ h => h) HSq.out (fun o ho => by cases ho; exact .inl ⟨by rfl, fun w hSw => by (obtain ⟨hs0, hs1⟩ := hSw; go_simp)⟩) ?_
            simp only [Act.put, List.setIfInBounds_toArray, List.set_cons_zero, List.set_cons_succ]
            refine oneH (i := 4) (by kernel_rfl) (fun o ho K' hK => ?_) (by decide)
            cases ho
            rw [if_pos (by rfl)]
            go_simp
            refine HBa'.out.mono ?_
            rintro e wz ⟨rfl, rfl⟩
            refine hK.out _ _ HSq.out ?_
            clear hK K'
            try simp only [Act.put, List.setIfInBounds_toArray, List.set_cons_zero, List.set_cons_succ]
            refine oneH (i := 9) (by kernel_rfl) (fun o ho K' hK => ?_) (by decide)
            cases ho
            rw [if_pos (by rfl)]
            go_simp
            refine HBb'.out.mono ?_
            rintro e wz ⟨rfl, rfl⟩
            refine hK.out _ _ HSq.out ?_
            clear hK K'
            try simp only [Act.put, List.setIfInBounds_toArray, List.set_cons_zero, List.set_cons_succ]
            refine takeH (i := 10) (d := some 7) (.int .i64 ((m2 : Nat) : Int)) rfl (by kernel_rfl) (by kernel_rfl) (by kernel_rfl) (fun _ _ _ _ h => h) HSq.out (fun o ho => by cases ho; exact .inl ⟨by rfl, fun w hSw => by (obtain ⟨hs0, hs1⟩ := hSw; go_simp)⟩) ?_
            simp only [Act.put, List.setIfInBounds_toArray, List.set_cons_zero, List.set_cons_succ]
            refine takeH (i := 11) (d := some 8) (.int .i64 ((j + 1 : Nat) : Int)) rfl (by kernel_rfl) (by kernel_rfl) (by kernel_rfl) (fun _ _ _ _ h => h) HSq.out (fun o ho => by cases ho; exact .inl ⟨by rfl, fun w hSw => by (obtain ⟨hs0, hs1⟩ := hSw; go_simp)⟩) ?_
            simp only [Act.put, List.setIfInBounds_toArray, List.set_cons_zero, List.set_cons_succ]
            refine wpAnyH_done (by kernel_rfl) (NoPanic.normal ?_) _
            have HRl : Hid ((R ++ [eb]).length ≤ (m2) + (j + 1)) := by unfold Hid; rw [List.length_append, List.length_singleton]; have h2 := HS2'.out; omega
            have HRq : Hid ((R ++ [eb]) ++ mg (A.drop (m2)) (B.drop (j + 1)) = mg A B) := by unfold Hid; rw [← HR.out, HSt'.out]; simp
            go_wp2_with fail
            exact ⟨⟨m2, j + 1, R ++ [eb], na2, ia2, nc2, ic2, by exact HS3'.out, by omega, rfl, rfl, HRq.out, HRl.out, HQ.out⟩, by simp only [intsOf, intOf]; have h2 := HS2'.out; omega⟩
end Go.Proofs.YtlepjghfcpgbcaaGreatDoor.Tr
