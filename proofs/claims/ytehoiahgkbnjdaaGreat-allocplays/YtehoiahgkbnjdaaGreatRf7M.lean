import Derived.Test.YtehoiahgkbnjdaaGreatOpsM
/- The reference space: how it lies; Stage. -/
namespace Go.Proofs.YtehoiahgkbnjdaaGreat.Al
open Go.RowKit Go.Shelf Dk Wl

structure Rs where
  blk : List Bool
  ino : List Bool
  stg : List Nat

def boolC (l : List Bool) : List Value := l.map fun b => .bool b
def ryC (n : Nat) : List Value := [.int .i64 (n : Int), .int .i64 ((lay n).ll : Int), .int .i64 ((lay n).mp : Int), .int .i64 ((lay n).nd : Int), .int .i64 ((lay n).tb : Int), .int .i64 ((lay n).no : Int), .int .i64 ((lay n).da : Int)]

structure RRep (w : World) (rp n : Nat) (bv iv sv : Value) (R : Rs) : Prop where
  h : Blk w rp 73 (ryC n ++ [bv, iv, sv])
  b : w.ownsRow 0 4 1 bv R.blk.length (boolC R.blk)
  i : w.ownsRow 0 4 1 iv R.ino.length (boolC R.ino)
  s : w.ownsRow 0 3 1 sv R.stg.length (intC R.stg)
  hb : bv.ownBlock ≠ some rp
  hi : iv.ownBlock ≠ some rp
  hs : sv.ownBlock ≠ some rp
  bi : ∀ k, bv.ownBlock = some k → iv.ownBlock ≠ some k
  bs : ∀ k, bv.ownBlock = some k → sv.ownBlock ≠ some k
  is : ∀ k, iv.ownBlock = some k → sv.ownBlock ≠ some k
  lb : R.blk.length = n - (lay n).da
  li : R.ino.length = (lay n).no
def rfoot (rp : Nat) (bv iv sv : Value) (k : Nat) : Prop := k = rp ∨ bv.ownBlock = some k ∨ iv.ownBlock = some k ∨ sv.ownBlock = some k
theorem RRep.lt {w : World} {rp n : Nat} {bv iv sv : Value} {R : Rs} (h : RRep w rp n bv iv sv R) (k : Nat) (hk : rfoot rp bv iv sv k) : k < w.heap.size := by
  rcases hk with rfl | hk | hk | hk
  · exact h.h.lt
  · exact (h.b.lt k hk).2
  · exact (h.i.lt k hk).2
  · exact (h.s.lt k hk).2
theorem RRep.of_same {w w' : World} {rp n : Nat} {bv iv sv : Value} {R : Rs} (h : RRep w rp n bv iv sv R) (he : ∀ k, rfoot rp bv iv sv k → w'.heap[k]? = w.heap[k]?) : RRep w' rp n bv iv sv R :=
  { h with h := h.h.of_eq (he rp (.inl rfl)), b := owns_of_eq h.b (fun k hk => he k (.inr (.inl hk))), i := owns_of_eq h.i (fun k hk => he k (.inr (.inr (.inl hk)))), s := owns_of_eq h.s (fun k hk => he k (.inr (.inr (.inr hk)))) }
theorem RRep.nw {w w' : World} {rp n : Nat} {bv iv sv : Value} {R : Rs} (h : RRep w rp n bv iv sv R) (f : Nw w w') : RRep w' rp n bv iv sv R := h.of_same (fun k hk => f.block k (h.lt k hk) id)

theorem info3r : (Tryz.prog.info? 3).map (fun i => (i.zero, i.size, i.bytes)) = some (some (.int .i64 0), 1, 8) := by kernel_rfl
def Rs.canB (R : Rs) (n a : Nat) : Bool := decide (a ∈ R.stg) || decide (cost (R.stg.length + 1) ≤ (lay n).ll - 1)
def Rs.stage (R : Rs) (n a : Nat) : Rs := if a ∈ R.stg then R else if cost (R.stg.length + 1) ≤ (lay n).ll - 1 then { R with stg := R.stg ++ [a] } else R

theorem intC_get (l : List Nat) (k : Nat) (hk : k < l.length) : (intC l)[k]? = some (.int .i64 (l[k] : Int)) := by simp [intC, hk]
theorem newI (W : World) (c : Int) : ∀ j u, [Value.int .i64 c][j]? = some u → (W.alloc (.cells #[.int .i64 c] 3)).cell? ((⟨W.heap.size, 0, none⟩ : Addr).add j) = some u :=
  World.news_of_block (cs := #[.int .i64 c]) (heap_alloc_new W _)
/-- What Stage may leave. -/
def RSt (w : World) (rp n : Nat) (bv iv sv : Value) (R' : Rs) (w' : World) : Prop := ∃ sv', RRep w' rp n bv iv sv' R' ∧ (∀ k, sv'.ownBlock = some k → sv.ownBlock = some k ∨ w.heap.size ≤ k) ∧ Fr (fun k => k = rp ∨ sv.ownBlock = some k) w w'
theorem RSt.refl {w : World} {rp n : Nat} {bv iv sv : Value} {R : Rs} (h : RRep w rp n bv iv sv R) : RSt w rp n bv iv sv R w := ⟨sv, h, fun _ hk => .inl hk, Fr.refl _ w⟩
theorem RSt.push {w w2 : World} {rp n : Nat} {bv iv sv : Value} {R : Rs} (h : RRep w rp n bv iv sv R) (a : Nat) {g cap : Nat} {ob : Obj}
    (hown : w2.ownsRow 0 3 1 (.slice (some ⟨g, 0, none⟩) (R.stg.length + 1) cap) (R.stg.length + 1) (intC R.stg ++ [.int .i64 (a : Int)])) (hgrow : (w.alloc ob).grownBy w2 sv.ownBlock) (hat : sv.ownBlock = some g ∨ g = w.heap.size + 1) :
    RSt w rp n bv iv sv { R with stg := R.stg ++ [a] } (w2.setCell ⟨rp, 9, none⟩ (.slice (some ⟨g, 0, none⟩) (R.stg.length + 1) cap)) := by
  have hsz := hgrow.size
  have hsz2 : (w.alloc ob).heap.size = w.heap.size + 1 := by simp
  have keep : ∀ k, k < w.heap.size → sv.ownBlock ≠ some k → w2.heap[k]? = w.heap[k]? := fun k hk hn =>
    (hgrow.block k (by rw [hsz2]; omega) (fun e => hn e.symm)).trans (Below.heap_alloc w ob k hk)
  have ng : ∀ k, k < w.heap.size → sv.ownBlock ≠ some k → g ≠ k := fun k hk hn e => by
    subst e
    rcases hat with h1 | h1
    · exact hn h1
    · omega
  have hrp := h.h.lt
  have gr : g ≠ rp := ng rp hrp h.hs
  have gb : ∀ k, bv.ownBlock = some k → g ≠ k := fun k hk => ng k (h.b.lt k hk).2 (h.bs k hk)
  have gi : ∀ k, iv.ownBlock = some k → g ≠ k := fun k hk => ng k (h.i.lt k hk).2 (h.is k hk)
  have far : ∀ k, k ≠ rp → (w2.setCell ⟨rp, 9, none⟩ (.slice (some ⟨g, 0, none⟩) (R.stg.length + 1) cap)).heap[k]? = w2.heap[k]? := fun k hk => Below.heap_setCell w2 _ _ k hk
  refine ⟨.slice (some ⟨g, 0, none⟩) (R.stg.length + 1) cap, ⟨?_, ?_, ?_, ?_, h.hb, h.hi, ?_, h.bi, ?_, ?_, h.lb, h.li⟩, ?_, ?_⟩
  · have := (h.h.of_eq (keep rp hrp h.hs)).setCell 9 (.slice (some ⟨g, 0, none⟩) (R.stg.length + 1) cap)
    exact this
  · exact owns_of_eq h.b (fun k hk => (far k (fun e => h.hb (e ▸ hk))).trans (keep k (h.b.lt k hk).2 (h.bs k hk)))
  · exact owns_of_eq h.i (fun k hk => (far k (fun e => h.hi (e ▸ hk))).trans (keep k (h.i.lt k hk).2 (h.is k hk)))
  · have e : intC (R.stg ++ [a]) = intC R.stg ++ [.int .i64 (a : Int)] := by simp [intC]
    show World.ownsRow _ 0 3 1 _ (R.stg ++ [a]).length (intC (R.stg ++ [a]))
    rw [e, List.length_append]
    exact owns_of_eq hown (fun k hk => far k (fun e => gr (by simp [Value.ownBlock] at hk; omega)))
  · intro e; simp [Value.ownBlock] at e; exact gr e
  · intro k hk e; simp [Value.ownBlock] at e; exact gb k hk e
  · intro k hk e; simp [Value.ownBlock] at e; exact gi k hk e
  · intro k hk
    simp [Value.ownBlock] at hk
    subst hk
    rcases hat with h1 | h1
    · exact .inl h1
    · exact .inr (by omega)
  · refine Fr.setCell (((Fr.refl (fun k => k = rp ∨ sv.ownBlock = some k) w).alloc ob).grown hgrow (fun k e => .inl (.inr e))) (p := ⟨rp, 9, none⟩) (.inl (.inl rfl)) _

set_option maxRecDepth 100000 in
set_option maxHeartbeats 4000000 in
theorem rstage_any {w : World} {rp n : Nat} {bv iv sv : Value} {R : Rs} (h : RRep w rp n bv iv sv R) (hl : R.stg.length ≤ 1024) (h2 : n ≤ 1024) (a : Nat) :
    Calls Tryz.prog 66 #[pv rp, .int .i64 (a : Int)] w fun e w' => e = .returned (.bool (R.canB n a)) ∧ RSt w rp n bv iv sv (R.stage n a) w' := by
  have hll := lay_ll n h2
  obtain ⟨ad, cap, rfl, hcell⟩ : ∃ ad cap, sv = .slice ad R.stg.length cap ∧ ∀ k, (hk : k < R.stg.length) → ∃ g, ad = some ⟨g, 0, none⟩ ∧ w.cell? ⟨g, k, none⟩ = some (.int .i64 (R.stg[k] : Int)) := by
    rcases h.s.2 with ⟨e, e2⟩ | ⟨g, cap, cur, e, _⟩
    · exact ⟨none, 0, by rw [e, e2], fun k hk => by omega⟩
    · refine ⟨some ⟨g, 0, none⟩, cap, e, fun k hk => ⟨g, rfl, ?_⟩⟩
      have := h.s.cells (g := g) (by rw [e]; rfl) k _ (intC_get _ k hk)
      rwa [Addr.add_mid, Nat.zero_add] at this
  have c9 : w.cell? ⟨rp, 9, none⟩ = some (.slice ad R.stg.length cap) := h.h.cell 9
  have c1 : w.cell? ⟨rp, 1, none⟩ = some (.int .i64 ((lay n).ll : Int)) := h.h.cell 1
  have z9 := h.h.frozen 9
  obtain ⟨i0, hi0, hz0, hz1, hz2⟩ := info_parts info3r
  have Hlt := hid h.h.lt
  have HH := hid h
  have Hc := hid hcell
  clear hcell h
  go_enter Tryz.func66, Tryz.ntmps66
  go_wp2_with fail
  go_loopw [5] (fun i wr => wr = w ∧ ∃ k : Nat, k ≤ R.stg.length ∧ i = .int .i64 (k : Int) ∧ a ∉ R.stg.take k) (fun i _ => R.stg.length - (intOf i).toNat)
  case atStart => exact ⟨rfl, 0, Nat.zero_le _, rfl, by simp⟩
  case round =>
    obtain ⟨hw, k, hkl, rfl, hna⟩ := hrel
    replace hw := hw.symm
    subst hw
    have Hna := hid hna
    clear hna
    by_cases hlt : k < R.stg.length
    · have hk1 : (k : Int) < (R.stg.length : Int) := by omega
      have hk0 : (0 : Int) ≤ (k : Int) := Int.natCast_nonneg _
      have hk2 : k < R.stg.length := hlt
      obtain ⟨g, rfl, cg⟩ := Hc.out k hk2
      by_cases he : R.stg[k] = a
      · have hbe : ((R.stg[k] : Int) == (a : Int)) = true := by simp [he]
        have hmem : a ∈ R.stg := by rw [← he]; exact List.getElem_mem hk2
        have HP : Hid (R.canB n a = true ∧ RSt w rp n bv iv (.slice (some ⟨g, 0, none⟩) R.stg.length cap) (R.stage n a) w) := by
          refine ⟨by simp [Rs.canB, hmem], ?_⟩
          have e : R.stage n a = R := by simp [Rs.stage, hmem]
          rw [e]; exact RSt.refl HH.out
        clear he hmem Hc
        generalize (R.stg[k] : Int) = v at *
        go_wp2
        go_ret
        exact ⟨by rw [HP.out.1]; rfl, HP.out.2⟩
      · have hbe : ((R.stg[k] : Int) == (a : Int)) = false := by simp; omega
        have HN : Hid (a ∉ R.stg.take (k + 1)) := by
          unfold Hid
          rw [List.take_succ_eq_append_getElem hk2]
          simp only [List.mem_append, List.mem_singleton, not_or]
          exact ⟨Hna.out, fun e => he e.symm⟩
        clear he Hc
        generalize (R.stg[k] : Int) = v at *
        go_wp2
        exact ⟨⟨trivial, k + 1, by omega, by go_num, HN.out⟩, by simp [intOf]; omega⟩
    · obtain rfl : k = R.stg.length := by omega
      have hna : a ∉ R.stg := by have := Hna.out; rwa [List.take_length] at this
      have Hnm := hid hna
      have hnl : ¬ (R.stg.length : Int) < (R.stg.length : Int) := by omega
      clear hna Hna Hc
      go_wp2_with fail
      go_loopw [7, 8] (fun c i wr => wr = w ∧ ∃ j : Nat, 60 * j < R.stg.length + 1 + 60 ∧ i = .int .i64 ((60 * j : Nat) : Int) ∧ c = .int .i64 ((R.stg.length + 1 + j : Nat) : Int)) (fun _ i _ => R.stg.length + 61 - (intOf i).toNat)
      case atStart => exact ⟨rfl, 0, by omega, rfl, by simp⟩
      case round =>
        obtain ⟨hw, j, hj, rfl, rfl⟩ := hrel
        replace hw := hw.symm
        subst hw
        by_cases hlt2 : 60 * j < R.stg.length + 1
        · have hj1 : ((60 * j : Nat) : Int) < (R.stg.length : Int) + 1 := by omega
          go_wp2
          exact ⟨⟨trivial, j + 1, by omega, congrArg (Value.int .i64) (by omega), congrArg (Value.int .i64) (by omega)⟩, by simp [intOf]; omega⟩
        · have hj1 : ¬ ((60 * j : Nat) : Int) < (R.stg.length : Int) + 1 := by omega
          have hcost : cost (R.stg.length + 1) = R.stg.length + 1 + j := by unfold cost; omega
          have HH9 : Hid (∀ w2 : World, (w.alloc (.cells #[.int .i64 (a : Int)] 3)).grownBy w2 (Value.slice ad R.stg.length cap).ownBlock → Blk w2 rp 73 (ryC n ++ [bv, iv, .slice ad R.stg.length cap])) := fun w2 hg =>
            HH.out.h.of_eq ((hg.block rp (by have := Hlt.out; simp; omega) (fun e => HH.out.hs e.symm)).trans (Below.heap_alloc w _ rp Hlt.out))
          by_cases hc : cost (R.stg.length + 1) ≤ (lay n).ll - 1
          · have HPq : Hid (R.canB n a = true ∧ R.stage n a = { R with stg := R.stg ++ [a] }) := ⟨by simp [Rs.canB, hc], by simp [Rs.stage, hc, Hnm.out]⟩
            have hc1 : ¬ ((R.stg.length : Int) + 1 + (j : Int)) > ((lay n).ll : Int) - 1 := by omega
            have hl1 : (16 : Int) ≤ ((lay n).ll : Int) ∧ ((lay n).ll : Int) ≤ 128 := by omega
            clear hc hcost
            go_wp2_with (at_builtin; refine wpList_append_lies _ (by rfl) _ _ _ (by rfl) 0 3 i0 _ 1 8 Tryz.underlying47 hi0 hz0 hz1 hz2 rfl (by omega) _ R.stg.length (intC R.stg) (by rfl) (by exact HH.out.s.alloc _) ⟨w.heap.size, 0, none⟩ 1 1 [.int .i64 (a : Int)] (by rfl) rfl (by exact newI w a) (by simp [Value.oneCell']) (by omega) (by unfold maxLen; omega) (by omega) (by omega) (w.heap.size + 1) (by simp) ?_; intro g cap2 w2 hown hgrow hat hlt2; have hB := HH9.out w2 hgrow; have c9' := hB.cell 9; have z9' := hB.frozen 9; have HP := hid (RSt.push HH.out a hown hgrow hat); clear hown hgrow hat hlt2 hB)
            go_ret
            exact ⟨by rw [HPq.out.1]; rfl, by rw [HPq.out.2]; exact HP.out⟩
          · have HPq : Hid (R.canB n a = false ∧ R.stage n a = R) := ⟨by simp [Rs.canB, hc, Hnm.out], by simp [Rs.stage, hc, Hnm.out]⟩
            have hc1 : ((R.stg.length : Int) + 1 + (j : Int)) > ((lay n).ll : Int) - 1 := by omega
            have hl1 : (16 : Int) ≤ ((lay n).ll : Int) ∧ ((lay n).ll : Int) ≤ 128 := by omega
            clear hc hcost
            go_wp2
            go_ret
            exact ⟨by rw [HPq.out.1]; rfl, by rw [HPq.out.2]; exact RSt.refl HH.out⟩

end Go.Proofs.YtehoiahgkbnjdaaGreat.Al
/- The reference space: Take, Free. -/
namespace Go.Proofs.YtehoiahgkbnjdaaGreat.Al
open Go.RowKit Go.Shelf Dk Wl

theorem owns_set {w : World} {B : Nat} {e : TypeId} {g n cap : Nat} {xs : List Value} (h : w.ownsRow B e 1 (.slice (some ⟨g, 0, none⟩) n cap) n xs) (i : Nat) (v : Value) :
    (w.setCell ⟨g, i, none⟩ v).ownsRow B e 1 (.slice (some ⟨g, 0, none⟩) n cap) n (xs.set i v) := by
  refine ⟨by rw [List.length_set]; exact h.1, ?_⟩
  rcases h.2 with ⟨e1, _⟩ | ⟨g', cap', cur, e1, hb, hg, h1, h2, h3, h4⟩
  · cases e1
  · simp only [Value.slice.injEq, Option.some.injEq, Addr.mk.injEq, true_and, and_true] at e1
    obtain ⟨rfl, rfl⟩ := e1
    have hB : Blk w g e cur.toList := by unfold Blk; simpa using hg
    have := hB.setCell i v
    refine .inr ⟨g, cap, (cur.toList.set i v).toArray, rfl, hb, this, h1, h2, by simpa using h3, ?_⟩
    rw [← h4]
    simp only [Nat.mul_one]
    rw [List.take_set]

def RDid (w : World) (rp n : Nat) (bv iv sv : Value) (R' : Rs) (w' : World) : Prop := ∃ sv', RRep w' rp n bv iv sv' R' ∧ (∀ k, sv'.ownBlock = some k → sv.ownBlock = some k ∨ w.heap.size ≤ k) ∧ Fr (rfoot rp bv iv sv) w w'
section
variable {w w' : World} {rp n : Nat} {bv iv sv : Value} {R : Rs}
theorem RSt.did (h : RSt w rp n bv iv sv R w') : RDid w rp n bv iv sv R w' := by
  obtain ⟨sv', h1, h2, h3⟩ := h
  exact ⟨sv', h1, h2, h3.mono (fun k hk => hk.elim .inl (fun e => .inr (.inr (.inr e))))⟩
theorem RDid.refl (h : RRep w rp n bv iv sv R) : RDid w rp n bv iv sv R w := (RSt.refl h).did
theorem RDid.step {w1 w2 : World} {R2 : Rs} {sv1 : Value} (a2 : ∀ k, sv1.ownBlock = some k → sv.ownBlock = some k ∨ w.heap.size ≤ k) (a3 : Fr (rfoot rp bv iv sv) w w1) (d : RDid w1 rp n bv iv sv1 R2 w2) : RDid w rp n bv iv sv R2 w2 := by
  obtain ⟨sv2, b1, b2, b3⟩ := d
  refine ⟨sv2, b1, fun k hk => ?_, Fr.trans a3 b3 (fun k hk => ?_)⟩
  · rcases b2 k hk with h | h
    · exact a2 k h
    · exact .inr (Nat.le_trans a3.size h)
  · rcases hk with h | h | h | h
    · exact .inl (.inl h)
    · exact .inl (.inr (.inl h))
    · exact .inl (.inr (.inr (.inl h)))
    · rcases a2 k h with h | h
      · exact .inl (.inr (.inr (.inr h)))
      · exact .inr h
theorem RRep.setB {g cap : Nat} (h : RRep w rp n (.slice (some ⟨g, 0, none⟩) R.blk.length cap) iv sv R) (i : Nat) (b : Bool) : RDid w rp n (.slice (some ⟨g, 0, none⟩) R.blk.length cap) iv sv { R with blk := R.blk.set i b } (w.setCell ⟨g, i, none⟩ (.bool b)) := by
  have far : ∀ k, k ≠ g → (w.setCell ⟨g, i, none⟩ (.bool b)).heap[k]? = w.heap[k]? := fun k hk => Below.heap_setCell w _ _ k hk
  have eg : (Value.slice (some ⟨g, 0, none⟩) R.blk.length cap).ownBlock = some g := rfl
  refine ⟨sv, ⟨h.h.of_eq (far rp (fun e => h.hb (e ▸ eg))), ?_, owns_of_eq h.i (fun k hk => far k (fun e => h.bi g eg (e ▸ hk))), owns_of_eq h.s (fun k hk => far k (fun e => h.bs g eg (e ▸ hk))), h.hb, h.hi, h.hs, h.bi, h.bs, h.is, by simp only [List.length_set]; exact h.lb, h.li⟩, fun _ hk => .inl hk, ?_⟩
  · have := owns_set h.b i (.bool b)
    show World.ownsRow _ 0 4 1 _ (R.blk.set i b).length (boolC (R.blk.set i b))
    rw [List.length_set]
    have e : boolC (R.blk.set i b) = (boolC R.blk).set i (.bool b) := by simp [boolC, List.map_set]
    rw [e]
    exact this
  · exact Fr.setCell (Fr.refl _ w) (p := ⟨g, i, none⟩) (.inl (.inr (.inl eg))) _
theorem RRep.setI {g cap : Nat} (h : RRep w rp n bv (.slice (some ⟨g, 0, none⟩) R.ino.length cap) sv R) (i : Nat) (b : Bool) : RDid w rp n bv (.slice (some ⟨g, 0, none⟩) R.ino.length cap) sv { R with ino := R.ino.set i b } (w.setCell ⟨g, i, none⟩ (.bool b)) := by
  have far : ∀ k, k ≠ g → (w.setCell ⟨g, i, none⟩ (.bool b)).heap[k]? = w.heap[k]? := fun k hk => Below.heap_setCell w _ _ k hk
  have eg : (Value.slice (some ⟨g, 0, none⟩) R.ino.length cap).ownBlock = some g := rfl
  refine ⟨sv, ⟨h.h.of_eq (far rp (fun e => h.hi (e ▸ eg))), owns_of_eq h.b (fun k hk => far k (fun e => h.bi k hk (e ▸ eg))), ?_, owns_of_eq h.s (fun k hk => far k (fun e => h.is g eg (e ▸ hk))), h.hb, h.hi, h.hs, h.bi, h.bs, h.is, h.lb, by simp only [List.length_set]; exact h.li⟩, fun _ hk => .inl hk, ?_⟩
  · have := owns_set h.i i (.bool b)
    show World.ownsRow _ 0 4 1 _ (R.ino.set i b).length (boolC (R.ino.set i b))
    rw [List.length_set]
    have e : boolC (R.ino.set i b) = (boolC R.ino).set i (.bool b) := by simp [boolC, List.map_set]
    rw [e]
    exact this
  · exact Fr.setCell (Fr.refl _ w) (p := ⟨g, i, none⟩) (.inl (.inr (.inr (.inl eg)))) _
end

theorem row_form {w : World} {v : Value} {l : List Bool} (h : w.ownsRow 0 4 1 v l.length (boolC l)) (hl : 0 < l.length) : ∃ g cap, v = .slice (some ⟨g, 0, none⟩) l.length cap ∧ ∀ k, (hk : k < l.length) → w.cell? ⟨g, k, none⟩ = some (.bool l[k]) := by
  rcases h.2 with ⟨_, e2⟩ | ⟨g, cap, cur, e, _⟩
  · omega
  · refine ⟨g, cap, e, fun k hk => ?_⟩
    have := h.cells (g := g) (by rw [e]; rfl) k (.bool l[k]) (by simp [boolC, hk])
    rwa [Addr.add_mid, Nat.zero_add] at this
theorem row_frozen {w : World} {n cap g : Nat} {xs : List Value} (h : w.ownsRow 0 4 1 (.slice (some ⟨g, 0, none⟩) n cap) n xs) (k : Nat) : w.frozen? ⟨g, k, none⟩ = false := by
  rcases h.2 with ⟨e1, _⟩ | ⟨g', cap', cur, e1, hb, hg, h1, h2, h3, h4⟩
  · cases e1
  · simp only [Value.slice.injEq, Option.some.injEq, Addr.mk.injEq, true_and, and_true] at e1
    obtain ⟨rfl, rfl⟩ := e1
    have hB : Blk w g 4 cur.toList := by unfold Blk; simpa using hg
    exact hB.frozen k

end Go.Proofs.YtehoiahgkbnjdaaGreat.Al
/- The reference space: Take. -/
namespace Go.Proofs.YtehoiahgkbnjdaaGreat.Al
open Go.RowKit Go.Shelf Dk Wl

def Rs.took (R : Rs) (n i : Nat) : Rs := { R.stage n (lay n).mp with blk := R.blk.set i true }
theorem stage_blk (R : Rs) (n a : Nat) : (R.stage n a).blk = R.blk ∧ (R.stage n a).ino = R.ino ∧ (R.stage n a).stg.length ≤ R.stg.length + 1 := by
  unfold Rs.stage
  split
  · exact ⟨rfl, rfl, by omega⟩
  · split
    · exact ⟨rfl, rfl, by simp⟩
    · exact ⟨rfl, rfl, by omega⟩
def RTk (w : World) (rp n : Nat) (bv iv sv : Value) (R : Rs) (i : Nat) (e : Ending) (w' : World) : Prop :=
  if R.canB n (lay n).mp then
    if (R.took n i).canB n ((lay n).da + i) then e = .returned (.tuple #[.int .i64 (((lay n).da + i : Nat) : Int), .int .i64 0]) ∧ RDid w rp n bv iv sv ((R.took n i).stage n ((lay n).da + i)) w'
    else e = .returned (.tuple #[.int .i64 0, .int .i64 45]) ∧ RDid w rp n bv iv sv (R.took n i) w'
  else e = .returned (.tuple #[.int .i64 0, .int .i64 45]) ∧ RDid w rp n bv iv sv R w'

set_option maxRecDepth 100000 in
set_option maxHeartbeats 1000000 in
theorem rtake_none {w : World} {rp n : Nat} {bv iv sv : Value} {R : Rs} (h : RRep w rp n bv iv sv R) (hlen : R.blk.length ≤ 1024) (hall : ∀ k, (hk : k < R.blk.length) → R.blk[k] = true) (hpos : 0 < R.blk.length) :
    Calls Tryz.prog 34 #[pv rp] w fun e w' => e = .returned (.tuple #[.int .i64 0, .int .i64 47]) ∧ w' = w := by
  obtain ⟨g, cap, rfl, hcell⟩ := row_form h.b hpos
  have c7 : w.cell? ⟨rp, 7, none⟩ = some (.slice (some ⟨g, 0, none⟩) R.blk.length cap) := h.h.cell 7
  have Hc := hid hcell
  have Ha := hid hall
  clear hcell hall h
  go_enter Tryz.func34, Tryz.ntmps34
  go_wp2_with fail
  go_loopw [4] (fun i wr => wr = w ∧ ∃ k : Nat, k ≤ R.blk.length ∧ i = .int .i64 (k : Int)) (fun i _ => R.blk.length - (intOf i).toNat)
  case atStart => exact ⟨rfl, 0, Nat.zero_le _, rfl⟩
  case round =>
    obtain ⟨hw, k, hkl, rfl⟩ := hrel
    replace hw := hw.symm
    subst hw
    by_cases hlt : k < R.blk.length
    · have hk1 : (k : Int) < (R.blk.length : Int) := by omega
      have hk0 : (0 : Int) ≤ (k : Int) := Int.natCast_nonneg _
      have cg : w.cell? ⟨g, k, none⟩ = some (.bool true) := by rw [Hc.out k hlt, Ha.out k hlt]
      go_wp2
      exact ⟨⟨trivial, k + 1, by omega, by go_num⟩, by simp [intOf]; omega⟩
    · have hk1 : ¬ (k : Int) < (R.blk.length : Int) := by omega
      go_wp2
      go_ret2
      exact ⟨rfl, rfl⟩

set_option maxRecDepth 100000 in
set_option maxHeartbeats 4000000 in
theorem rtake_some {w : World} {rp n : Nat} {bv iv sv : Value} {R : Rs} (h : RRep w rp n bv iv sv R) (hlen : R.blk.length ≤ 1024) (hl : R.stg.length ≤ 1000) (h2 : n ≤ 1024) (i : Nat) (hi : i < R.blk.length) (hf : R.blk[i] = false) (hb : ∀ k, (hk : k < i) → R.blk[k] = true) (hda : (lay n).da ≤ 1024) :
    Calls Tryz.prog 34 #[pv rp] w (RTk w rp n bv iv sv R i) := by
  obtain ⟨g, cap, rfl, hcell⟩ := row_form h.b (by omega)
  have c7 : w.cell? ⟨rp, 7, none⟩ = some (.slice (some ⟨g, 0, none⟩) R.blk.length cap) := h.h.cell 7
  have c2 : w.cell? ⟨rp, 2, none⟩ = some (.int .i64 ((lay n).mp : Int)) := h.h.cell 2
  have Hc := hid hcell
  have Hb := hid hb
  have Hf := hid hf
  have HH := hid h
  have HS1 := hid (rstage_any h (by omega) h2 (lay n).mp)
  clear hcell hb h hf
  have hii : ((lay n).da : Int) + (i : Int) = (((lay n).da + i : Nat) : Int) := by omega
  have Hadd := hid hii
  clear hii
  go_enter Tryz.func34, Tryz.ntmps34
  go_wp2_with fail
  go_loopw [4] (fun x wr => wr = w ∧ ∃ k : Nat, k ≤ i ∧ x = .int .i64 (k : Int)) (fun x _ => R.blk.length - (intOf x).toNat)
  case atStart => exact ⟨rfl, 0, Nat.zero_le _, rfl⟩
  case round =>
    obtain ⟨hw, k, hkl, rfl⟩ := hrel
    replace hw := hw.symm
    subst hw
    have hk1 : (k : Int) < (R.blk.length : Int) := by omega
    have hk0 : (0 : Int) ≤ (k : Int) := Int.natCast_nonneg _
    by_cases hlt : k < i
    · have cg : w.cell? ⟨g, k, none⟩ = some (.bool true) := by rw [Hc.out k (by omega), Hb.out k hlt]
      go_wp2
      exact ⟨⟨trivial, k + 1, by omega, by go_num⟩, by simp [intOf]; omega⟩
    · obtain rfl : k = i := by omega
      have cg : w.cell? ⟨g, k, none⟩ = some (.bool false) := by rw [Hc.out k (by omega), Hf.out]
      clear Hc Hb
      go_wp2_with fail
      refine HS1.out.mono ?_
      rintro x w1 ⟨rfl, s1⟩
      have HT := hid s1
      clear s1 HS1
      by_cases hc1 : R.canB n (lay n).mp = true
      · rw [hc1]
        obtain ⟨sv1, r1, q1, f1⟩ := HT.out.did
        have hbk := (stage_blk R n (lay n).mp)
        have c7b : w1.cell? ⟨rp, 7, none⟩ = some (.slice (some ⟨g, 0, none⟩) R.blk.length cap) := r1.h.cell 7
        have rb := r1.b
        rw [hbk.1] at rb
        have cgb : w1.cell? ⟨g, k, none⟩ = some (.bool false) := by
          have := rb.cells (g := g) rfl k (.bool R.blk[k]) (by simp [boolC, hi])
          rw [Addr.add_mid, Nat.zero_add, Hf.out] at this
          exact this
        have zgb := row_frozen rb k
        have hbl : (R.stage n (lay n).mp).blk.length = R.blk.length := by rw [hbk.1]
        rw [← hbl] at r1
        have d1 := RRep.setB r1 k true
        rw [hbk.1] at d1
        obtain ⟨sv2, r2, q2, f2⟩ := RDid.step (w := w) (sv := sv) q1 f1 d1
        have c6b : (w1.setCell ⟨g, k, none⟩ (.bool true)).cell? ⟨rp, 6, none⟩ = some (.int .i64 ((lay n).da : Int)) := r2.h.cell 6
        have HS2 := hid (rstage_any r2 (by have := hbk.2.2; show (R.stage n (lay n).mp).stg.length ≤ 1024; omega) h2 ((lay n).da + k))
        rw [← Hadd.out] at HS2
        have HC6 : Hid (∀ W, RSt (w1.setCell ⟨g, k, none⟩ (.bool true)) rp n (.slice (some ⟨g, 0, none⟩) R.blk.length cap) iv sv2 ((R.took n k).stage n ((lay n).da + k)) W → RDid w rp n (.slice (some ⟨g, 0, none⟩) R.blk.length cap) iv sv ((R.took n k).stage n ((lay n).da + k)) W ∧ W.cell? ⟨rp, 6, none⟩ = some (.int .i64 ((lay n).da : Int))) := fun W hW => by
          have := RDid.step (w := w) (sv := sv) q2 f2 hW.did
          refine ⟨this, ?_⟩
          obtain ⟨sv3, r3, _⟩ := hW
          exact r3.h.cell 6
        have e0 : ({ R.stage n (lay n).mp with blk := R.blk.set k true } : Rs) = R.took n k := rfl
        rw [e0] at HS2
        have hK : (R.stage n (lay n).mp) = R.stage n (lay n).mp := rfl
        clear r1 q1 f1 d1 r2 q2 f2 rb hbl hbk HT hK e0
        have hs1 : IntKind.i64.wrap (((lay n).da : Int) + (k : Int)) = ((lay n).da : Int) + (k : Int) := by
          simp [IntKind.wrap, IntKind.bits, IntKind.signed]; omega
        go_wp2_with fail
        refine HS2.out.mono ?_
        rintro x w3 ⟨rfl, s3⟩
        have c6c := (HC6.out w3 s3).2
        have HF := hid (HC6.out w3 s3).1
        clear s3 HS2 HC6
        by_cases hc2 : (R.took n k).canB n ((lay n).da + k) = true
        · rw [hc2]
          go_wp2
          go_ret2
          unfold RTk
          rw [if_pos hc1, if_pos hc2]
          exact ⟨by rw [← Hadd.out]; rfl, HF.out⟩
        · have hc2' : (R.took n k).canB n ((lay n).da + k) = false := by simpa using hc2
          have HE : Hid ((R.took n k).stage n ((lay n).da + k) = R.took n k) := by
            unfold Hid Rs.stage
            unfold Rs.canB at hc2'
            simp only [Bool.or_eq_false_iff, decide_eq_false_iff_not] at hc2'
            rw [if_neg hc2'.1, if_neg hc2'.2]
          rw [HE.out] at HF
          rw [hc2']
          go_wp2
          go_ret2
          unfold RTk
          rw [if_pos hc1, if_neg hc2]
          exact ⟨rfl, HF.out⟩
      · have hc1' : R.canB n (lay n).mp = false := by simpa using hc1
        have HE : Hid (R.stage n (lay n).mp = R) := by
          unfold Hid Rs.stage
          unfold Rs.canB at hc1'
          simp only [Bool.or_eq_false_iff, decide_eq_false_iff_not] at hc1'
          rw [if_neg hc1'.1, if_neg hc1'.2]
        rw [HE.out] at HT
        rw [hc1']
        go_wp2
        go_ret2
        unfold RTk
        rw [if_neg hc1]
        exact ⟨rfl, HT.out.did⟩

end Go.Proofs.YtehoiahgkbnjdaaGreat.Al
/- The reference space: Free, FreeInode, Count. -/
namespace Go.Proofs.YtehoiahgkbnjdaaGreat.Al
open Go.RowKit Go.Shelf Dk Wl

def falses : List Bool → Nat
  | [] => 0
  | b :: r => (if b then 0 else 1) + falses r
theorem falses_le : ∀ l, falses l ≤ l.length
  | [] => Nat.le_refl _
  | b :: r => by
    have := falses_le r
    unfold falses
    simp only [List.length_cons]
    split <;> omega
theorem falses_take (l : List Bool) (k : Nat) (hk : k < l.length) : falses (l.take (k + 1)) = falses (l.take k) + (if l[k] then 0 else 1) := by
  induction l generalizing k with
  | nil => simp at hk
  | cons b r ih =>
    cases k with
    | zero => simp [falses]
    | succ k =>
      simp only [List.take_succ_cons, falses, List.getElem_cons_succ]
      rw [ih k (by simpa using hk)]
      omega

set_option maxRecDepth 100000 in
set_option maxHeartbeats 1000000 in
theorem rcount_any {w : World} {v : Value} {l : List Bool} (h : w.ownsRow 0 4 1 v l.length (boolC l)) (hl : l.length ≤ 1024) (hp : 0 < l.length) :
    Calls Tryz.prog 39 #[v] w fun e w' => e = .returned (.int .i64 (falses l : Int)) ∧ w' = w := by
  obtain ⟨g, cap, rfl, hcell⟩ := row_form h hp
  have Hc := hid hcell
  clear hcell h
  go_enter Tryz.func39, Tryz.ntmps39
  go_wp2_with fail
  go_loopw [3, 4] (fun c x wr => wr = w ∧ ∃ k : Nat, k ≤ l.length ∧ x = .int .i64 (k : Int) ∧ c = .int .i64 ((falses (l.take k) : Nat) : Int)) (fun _ x _ => l.length - (intOf x).toNat)
  case atStart => exact ⟨rfl, 0, Nat.zero_le _, rfl, rfl⟩
  case round =>
    obtain ⟨hw, k, hkl, rfl, rfl⟩ := hrel
    replace hw := hw.symm
    subst hw
    by_cases hlt : k < l.length
    · have hk1 : (k : Int) < (l.length : Int) := by omega
      have hk0 : (0 : Int) ≤ (k : Int) := Int.natCast_nonneg _
      have cg := Hc.out k hlt
      have HT := hid (falses_take l k hlt)
      have hfl := falses_le (l.take k)
      have htl : (l.take k).length ≤ 1024 := by rw [List.length_take]; omega
      have hfb : falses (l.take k) ≤ 1024 := by omega
      clear hfl htl
      generalize hF1 : falses (l.take (k + 1)) = F1 at *
      have HF1 := hid hF1
      generalize falses (l.take k) = F at *
      cases hb : l[k] with
      | true =>
        rw [hb] at cg HT
        clear hb Hc hF1
        go_wp2
        exact ⟨⟨trivial, k + 1, by omega, by go_num, by rw [HF1.out, HT.out]; simp⟩, by simp [intOf]; omega⟩
      | false =>
        rw [hb] at cg HT
        clear hb Hc hF1
        go_wp2
        exact ⟨⟨trivial, k + 1, by omega, by go_num, by rw [HF1.out, HT.out]; simp⟩, by simp [intOf]; omega⟩
    · have hk1 : ¬ (k : Int) < (l.length : Int) := by omega
      obtain rfl : k = l.length := by omega
      go_wp2
      go_ret
      exact ⟨rfl, rfl⟩

/-- Free: of one that is not in use, or no block. -/
def Rs.inB (R : Rs) (n : Nat) (k : Int) : Bool := decide (((lay n).da : Int) ≤ k) && R.blk.getD (k - (lay n).da).toNat false
def Rs.inI (R : Rs) (k : Int) : Bool := decide (1 ≤ k) && R.ino.getD k.toNat false

def RFrB (w : World) (rp n : Nat) (bv iv sv : Value) (R : Rs) (k : Int) (e : Ending) (w' : World) : Prop :=
  if R.inB n k = true then (if R.canB n (lay n).mp = true then e = .returned (.int .i64 0) ∧ RDid w rp n bv iv sv { R.stage n (lay n).mp with blk := R.blk.set (k - (lay n).da).toNat false } w' else e = .returned (.int .i64 45) ∧ RDid w rp n bv iv sv R w') else e = .returned (.int .i64 48) ∧ RDid w rp n bv iv sv R w'
def RFrI (w : World) (rp n : Nat) (bv iv sv : Value) (R : Rs) (k : Int) (e : Ending) (w' : World) : Prop :=
  if R.inI k = true then (if R.canB n (lay n).nd = true then e = .returned (.int .i64 0) ∧ RDid w rp n bv iv sv { R.stage n (lay n).nd with ino := R.ino.set k.toNat false } w' else e = .returned (.int .i64 45) ∧ RDid w rp n bv iv sv R w') else e = .returned (.int .i64 49) ∧ RDid w rp n bv iv sv R w'

set_option maxRecDepth 100000 in
set_option maxHeartbeats 4000000 in
theorem rfree_any {w : World} {rp n : Nat} {bv iv sv : Value} {R : Rs} (h : RRep w rp n bv iv sv R) (hp : 0 < R.blk.length) (hl : R.stg.length ≤ 1000) (h2 : n ≤ 1024) (k : Int) (hk0 : -9223372036854775808 ≤ k) (hk1 : k ≤ 9223372036854775807) (hda : (lay n).da ≤ 1024) :
    Calls Tryz.prog 35 #[pv rp, .int .i64 k] w (RFrB w rp n bv iv sv R k) := by
  obtain ⟨g, cap, rfl, hcell⟩ := row_form h.b hp
  have c7 : w.cell? ⟨rp, 7, none⟩ = some (.slice (some ⟨g, 0, none⟩) R.blk.length cap) := h.h.cell 7
  have c2 : w.cell? ⟨rp, 2, none⟩ = some (.int .i64 ((lay n).mp : Int)) := h.h.cell 2
  have c6 : w.cell? ⟨rp, 6, none⟩ = some (.int .i64 ((lay n).da : Int)) := h.h.cell 6
  have HH := hid h
  have HS1 := hid (rstage_any h (by omega) h2 (lay n).mp)
  by_cases hlt : k < ((lay n).da : Int)
  · have HN : Hid (R.inB n k = false) := by unfold Hid Rs.inB; simp; intro; omega
    clear hcell h HS1
    go_enter Tryz.func35, Tryz.ntmps35
    go_wp2
    go_ret
    unfold RFrB
    rw [HN.out, if_neg (by simp)]
    exact ⟨rfl, RDid.refl HH.out⟩
  · obtain ⟨q, hq⟩ := Int.eq_ofNat_of_zero_le (show 0 ≤ k - ((lay n).da : Int) by omega)
    obtain rfl : k = ((lay n).da : Int) + (q : Int) := by omega
    have hwq : IntKind.i64.wrap (q : Int) = (q : Int) := by simp [IntKind.wrap, IntKind.bits, IntKind.signed]; omega
    have hwq2 : IntKind.i64.wrap (((lay n).da : Int) + (q : Int) - ((lay n).da : Int)) = (q : Int) := by rw [show ((lay n).da : Int) + (q : Int) - ((lay n).da : Int) = (q : Int) by omega]; exact hwq
    have Htn : Hid ((((lay n).da : Int) + (q : Int) - ((lay n).da : Int)).toNat = q) := by unfold Hid; omega
    have hq0 : (0 : Int) ≤ (q : Int) := Int.natCast_nonneg _
    clear hq
    by_cases hql : q < R.blk.length
    · have hq1 : ¬ (q : Int) ≥ (R.blk.length : Int) := by omega
      have hq2 : (q : Int) < (R.blk.length : Int) := by omega
      have cg := hcell q hql
      have HIn : Hid (R.inB n (((lay n).da : Int) + (q : Int)) = R.blk[q]) := by
        unfold Hid Rs.inB
        rw [Htn.out, List.getD_eq_getElem?_getD, List.getElem?_eq_getElem hql]
        have : ((lay n).da : Int) ≤ ((lay n).da : Int) + (q : Int) := by omega
        simp [this]
      cases hb : R.blk[q] with
      | false =>
        rw [hb] at cg HIn
        clear hcell h HS1 hb
        go_enter Tryz.func35, Tryz.ntmps35
        go_wp2
        go_ret
        unfold RFrB
        rw [HIn.out, if_neg (by simp)]
        exact ⟨rfl, RDid.refl HH.out⟩
      | true =>
        rw [hb] at cg HIn
        have Hb := hid hb
        clear hcell h hb
        go_enter Tryz.func35, Tryz.ntmps35
        go_wp2_with fail
        refine HS1.out.mono ?_
        rintro x w1 ⟨rfl, s1⟩
        have HT := hid s1
        clear s1 HS1
        by_cases hc1 : R.canB n (lay n).mp = true
        · rw [hc1]
          obtain ⟨sv1, r1, q1, f1⟩ := HT.out.did
          have hbk := (stage_blk R n (lay n).mp)
          have c7b : w1.cell? ⟨rp, 7, none⟩ = some (.slice (some ⟨g, 0, none⟩) R.blk.length cap) := r1.h.cell 7
          have rb := r1.b
          rw [hbk.1] at rb
          have cgb : w1.cell? ⟨g, q, none⟩ = some (.bool true) := by
            have := rb.cells (g := g) rfl q (.bool R.blk[q]) (by simp [boolC, hql])
            rw [Addr.add_mid, Nat.zero_add, Hb.out] at this
            exact this
          have zgb := row_frozen rb q
          have hbl : (R.stage n (lay n).mp).blk.length = R.blk.length := by rw [hbk.1]
          rw [← hbl] at r1
          have d1 := RRep.setB r1 q false
          rw [hbk.1] at d1
          have HD := hid (RDid.step (w := w) (sv := sv) q1 f1 d1)
          clear r1 q1 f1 d1 rb hbl hbk HT
          go_wp2
          go_ret
          unfold RFrB
          rw [HIn.out, Htn.out]
          simp only [if_true, hc1]
          exact ⟨rfl, HD.out⟩
        · have hc1' : R.canB n (lay n).mp = false := by simpa using hc1
          have HE : Hid (R.stage n (lay n).mp = R) := by
            unfold Hid Rs.stage
            unfold Rs.canB at hc1'
            simp only [Bool.or_eq_false_iff, decide_eq_false_iff_not] at hc1'
            rw [if_neg hc1'.1, if_neg hc1'.2]
          rw [HE.out] at HT
          rw [hc1']
          go_wp2
          go_ret
          unfold RFrB
          rw [HIn.out, if_pos rfl, if_neg hc1]
          exact ⟨rfl, HT.out.did⟩
    · have hq1 : (q : Int) ≥ (R.blk.length : Int) := by omega
      have HN : Hid (R.inB n (((lay n).da : Int) + (q : Int)) = false) := by
        unfold Hid Rs.inB
        rw [Htn.out, List.getD_eq_getElem?_getD, List.getElem?_eq_none (by omega)]
        simp
      clear hcell h HS1
      go_enter Tryz.func35, Tryz.ntmps35
      go_wp2
      go_ret
      unfold RFrB
      rw [HN.out, if_neg (by simp)]
      exact ⟨rfl, RDid.refl HH.out⟩

set_option maxRecDepth 100000 in
set_option maxHeartbeats 4000000 in
theorem rfreeI_any {w : World} {rp n : Nat} {bv iv sv : Value} {R : Rs} (h : RRep w rp n bv iv sv R) (hp : 0 < R.ino.length) (hl : R.stg.length ≤ 1000) (h2 : n ≤ 1024) (k : Int) :
    Calls Tryz.prog 37 #[pv rp, .int .i64 k] w (RFrI w rp n bv iv sv R k) := by
  obtain ⟨g, cap, rfl, hcell⟩ := row_form h.i hp
  have c8 : w.cell? ⟨rp, 8, none⟩ = some (.slice (some ⟨g, 0, none⟩) R.ino.length cap) := h.h.cell 8
  have c3 : w.cell? ⟨rp, 3, none⟩ = some (.int .i64 ((lay n).nd : Int)) := h.h.cell 3
  have HH := hid h
  have HS1 := hid (rstage_any h (by omega) h2 (lay n).nd)
  by_cases hlt : k < 1
  · have HN : Hid (R.inI k = false) := by unfold Hid Rs.inI; simp; intro; omega
    clear hcell h HS1
    go_enter Tryz.func37, Tryz.ntmps37
    go_wp2
    go_ret
    unfold RFrI
    rw [HN.out, if_neg (by simp)]
    exact ⟨rfl, RDid.refl HH.out⟩
  · obtain ⟨q, rfl⟩ := Int.eq_ofNat_of_zero_le (show 0 ≤ k by omega)
    have Htn : Hid (((q : Int)).toNat = q) := by unfold Hid; omega
    have hq0 : (0 : Int) ≤ (q : Int) := Int.natCast_nonneg _
    by_cases hql : q < R.ino.length
    · have hq1 : ¬ (q : Int) ≥ (R.ino.length : Int) := by omega
      have hq2 : (q : Int) < (R.ino.length : Int) := by omega
      have cg := hcell q hql
      have HIn : Hid (R.inI (q : Int) = R.ino[q]) := by
        unfold Hid Rs.inI
        rw [Htn.out, List.getD_eq_getElem?_getD, List.getElem?_eq_getElem hql]
        have : (1 : Int) ≤ (q : Int) := by omega
        simp [this]
      cases hb : R.ino[q] with
      | false =>
        rw [hb] at cg HIn
        clear hcell h HS1 hb
        go_enter Tryz.func37, Tryz.ntmps37
        go_wp2
        go_ret
        unfold RFrI
        rw [HIn.out, if_neg (by simp)]
        exact ⟨rfl, RDid.refl HH.out⟩
      | true =>
        rw [hb] at cg HIn
        have Hb := hid hb
        clear hcell h hb
        go_enter Tryz.func37, Tryz.ntmps37
        go_wp2_with fail
        refine HS1.out.mono ?_
        rintro x w1 ⟨rfl, s1⟩
        have HT := hid s1
        clear s1 HS1
        by_cases hc1 : R.canB n (lay n).nd = true
        · rw [hc1]
          obtain ⟨sv1, r1, q1, f1⟩ := HT.out.did
          have hbk := (stage_blk R n (lay n).nd)
          have c8b : w1.cell? ⟨rp, 8, none⟩ = some (.slice (some ⟨g, 0, none⟩) R.ino.length cap) := r1.h.cell 8
          have rb := r1.i
          rw [hbk.2.1] at rb
          have cgb : w1.cell? ⟨g, q, none⟩ = some (.bool true) := by
            have := rb.cells (g := g) rfl q (.bool R.ino[q]) (by simp [boolC, hql])
            rw [Addr.add_mid, Nat.zero_add, Hb.out] at this
            exact this
          have zgb := row_frozen rb q
          have hbl : (R.stage n (lay n).nd).ino.length = R.ino.length := by rw [hbk.2.1]
          rw [← hbl] at r1
          have d1 := RRep.setI r1 q false
          rw [hbk.2.1] at d1
          have HD := hid (RDid.step (w := w) (sv := sv) q1 f1 d1)
          clear r1 q1 f1 d1 rb hbl hbk HT
          go_wp2
          go_ret
          unfold RFrI
          rw [HIn.out, Htn.out]
          simp only [if_true, hc1]
          exact ⟨rfl, HD.out⟩
        · have hc1' : R.canB n (lay n).nd = false := by simpa using hc1
          have HE : Hid (R.stage n (lay n).nd = R) := by
            unfold Hid Rs.stage
            unfold Rs.canB at hc1'
            simp only [Bool.or_eq_false_iff, decide_eq_false_iff_not] at hc1'
            rw [if_neg hc1'.1, if_neg hc1'.2]
          rw [HE.out] at HT
          rw [hc1']
          go_wp2
          go_ret
          unfold RFrI
          rw [HIn.out, if_pos rfl, if_neg hc1]
          exact ⟨rfl, HT.out.did⟩
    · have hq1 : (q : Int) ≥ (R.ino.length : Int) := by omega
      have HN : Hid (R.inI (q : Int) = false) := by
        unfold Hid Rs.inI
        rw [Htn.out, List.getD_eq_getElem?_getD, List.getElem?_eq_none (by omega)]
        simp
      clear hcell h HS1
      go_enter Tryz.func37, Tryz.ntmps37
      go_wp2
      go_ret
      unfold RFrI
      rw [HN.out, if_neg (by simp)]
      exact ⟨rfl, RDid.refl HH.out⟩

end Go.Proofs.YtehoiahgkbnjdaaGreat.Al
/- The reference space: TakeInode. -/
namespace Go.Proofs.YtehoiahgkbnjdaaGreat.Al
open Go.RowKit Go.Shelf Dk Wl

def Rs.tookI (R : Rs) (n i : Nat) : Rs := { R.stage n (lay n).nd with ino := R.ino.set i true }
def RTkI (w : World) (rp n : Nat) (bv iv sv : Value) (R : Rs) (i : Nat) (e : Ending) (w' : World) : Prop :=
  if R.canB n (lay n).nd then
    if (R.tookI n i).canB n ((lay n).tb + i / 4) then e = .returned (.tuple #[.int .i64 (i : Int), .int .i64 0]) ∧ RDid w rp n bv iv sv ((R.tookI n i).stage n ((lay n).tb + i / 4)) w'
    else e = .returned (.tuple #[.int .i64 0, .int .i64 45]) ∧ RDid w rp n bv iv sv (R.tookI n i) w'
  else e = .returned (.tuple #[.int .i64 0, .int .i64 45]) ∧ RDid w rp n bv iv sv R w'

set_option maxRecDepth 100000 in
set_option maxHeartbeats 1000000 in
theorem rtakeI_none {w : World} {rp n : Nat} {bv iv sv : Value} {R : Rs} (h : RRep w rp n bv iv sv R) (hlen : R.ino.length ≤ 1024) (hall : ∀ k, (hk : k < R.ino.length) → R.ino[k] = true) (hpos : 0 < R.ino.length) :
    Calls Tryz.prog 36 #[pv rp] w fun e w' => e = .returned (.tuple #[.int .i64 0, .int .i64 47]) ∧ w' = w := by
  obtain ⟨g, cap, rfl, hcell⟩ := row_form h.i hpos
  have c8 : w.cell? ⟨rp, 8, none⟩ = some (.slice (some ⟨g, 0, none⟩) R.ino.length cap) := h.h.cell 8
  have Hc := hid hcell
  have Ha := hid hall
  clear hcell hall h
  go_enter Tryz.func36, Tryz.ntmps36
  go_wp2_with fail
  go_loopw [4] (fun i wr => wr = w ∧ ∃ k : Nat, k ≤ R.ino.length ∧ i = .int .i64 (k : Int)) (fun i _ => R.ino.length - (intOf i).toNat)
  case atStart => exact ⟨rfl, 0, Nat.zero_le _, rfl⟩
  case round =>
    obtain ⟨hw, k, hkl, rfl⟩ := hrel
    replace hw := hw.symm
    subst hw
    by_cases hlt : k < R.ino.length
    · have hk1 : (k : Int) < (R.ino.length : Int) := by omega
      have hk0 : (0 : Int) ≤ (k : Int) := Int.natCast_nonneg _
      have cg : w.cell? ⟨g, k, none⟩ = some (.bool true) := by rw [Hc.out k hlt, Ha.out k hlt]
      go_wp2
      exact ⟨⟨trivial, k + 1, by omega, by go_num⟩, by simp [intOf]; omega⟩
    · have hk1 : ¬ (k : Int) < (R.ino.length : Int) := by omega
      go_wp2
      go_ret2
      exact ⟨rfl, rfl⟩

set_option maxRecDepth 100000 in
set_option maxHeartbeats 4000000 in
theorem rtakeI_some {w : World} {rp n : Nat} {bv iv sv : Value} {R : Rs} (h : RRep w rp n bv iv sv R) (hlen : R.ino.length ≤ 1024) (hl : R.stg.length ≤ 1000) (h2 : n ≤ 1024) (i : Nat) (hi : i < R.ino.length) (hf : R.ino[i] = false) (hb : ∀ k, (hk : k < i) → R.ino[k] = true) (hda : (lay n).tb ≤ 1024) :
    Calls Tryz.prog 36 #[pv rp] w (RTkI w rp n bv iv sv R i) := by
  obtain ⟨g, cap, rfl, hcell⟩ := row_form h.i (by omega)
  have c8 : w.cell? ⟨rp, 8, none⟩ = some (.slice (some ⟨g, 0, none⟩) R.ino.length cap) := h.h.cell 8
  have c3 : w.cell? ⟨rp, 3, none⟩ = some (.int .i64 ((lay n).nd : Int)) := h.h.cell 3
  have Hc := hid hcell
  have Hb := hid hb
  have Hf := hid hf
  have HH := hid h
  have HS1 := hid (rstage_any h (by omega) h2 (lay n).nd)
  clear hcell hb h hf
  have hii : ((lay n).tb : Int) + (i : Int) / 4 = (((lay n).tb + i / 4 : Nat) : Int) := by omega
  have Hadd := hid hii
  clear hii
  go_enter Tryz.func36, Tryz.ntmps36
  go_wp2_with fail
  go_loopw [4] (fun x wr => wr = w ∧ ∃ k : Nat, k ≤ i ∧ x = .int .i64 (k : Int)) (fun x _ => R.ino.length - (intOf x).toNat)
  case atStart => exact ⟨rfl, 0, Nat.zero_le _, rfl⟩
  case round =>
    obtain ⟨hw, k, hkl, rfl⟩ := hrel
    replace hw := hw.symm
    subst hw
    have hk1 : (k : Int) < (R.ino.length : Int) := by omega
    have hk0 : (0 : Int) ≤ (k : Int) := Int.natCast_nonneg _
    by_cases hlt : k < i
    · have cg : w.cell? ⟨g, k, none⟩ = some (.bool true) := by rw [Hc.out k (by omega), Hb.out k hlt]
      go_wp2
      exact ⟨⟨trivial, k + 1, by omega, by go_num⟩, by simp [intOf]; omega⟩
    · obtain rfl : k = i := by omega
      have cg : w.cell? ⟨g, k, none⟩ = some (.bool false) := by rw [Hc.out k (by omega), Hf.out]
      clear Hc Hb
      go_wp2_with fail
      refine HS1.out.mono ?_
      rintro x w1 ⟨rfl, s1⟩
      have HT := hid s1
      clear s1 HS1
      by_cases hc1 : R.canB n (lay n).nd = true
      · rw [hc1]
        obtain ⟨sv1, r1, q1, f1⟩ := HT.out.did
        have hbk := (stage_blk R n (lay n).nd)
        have c8b : w1.cell? ⟨rp, 8, none⟩ = some (.slice (some ⟨g, 0, none⟩) R.ino.length cap) := r1.h.cell 8
        have rb := r1.i
        rw [hbk.2.1] at rb
        have cgb : w1.cell? ⟨g, k, none⟩ = some (.bool false) := by
          have := rb.cells (g := g) rfl k (.bool R.ino[k]) (by simp [boolC, hi])
          rw [Addr.add_mid, Nat.zero_add, Hf.out] at this
          exact this
        have zgb := row_frozen rb k
        have hbl : (R.stage n (lay n).nd).ino.length = R.ino.length := by rw [hbk.2.1]
        rw [← hbl] at r1
        have d1 := RRep.setI r1 k true
        rw [hbk.2.1] at d1
        obtain ⟨sv2, r2, q2, f2⟩ := RDid.step (w := w) (sv := sv) q1 f1 d1
        have c4b : (w1.setCell ⟨g, k, none⟩ (.bool true)).cell? ⟨rp, 4, none⟩ = some (.int .i64 ((lay n).tb : Int)) := r2.h.cell 4
        have HS2 := hid (rstage_any r2 (by have := hbk.2.2; show (R.stage n (lay n).nd).stg.length ≤ 1024; omega) h2 ((lay n).tb + k / 4))
        rw [← Hadd.out] at HS2
        have HC6 : Hid (∀ W, RSt (w1.setCell ⟨g, k, none⟩ (.bool true)) rp n bv (.slice (some ⟨g, 0, none⟩) R.ino.length cap) sv2 ((R.tookI n k).stage n ((lay n).tb + k / 4)) W → RDid w rp n bv (.slice (some ⟨g, 0, none⟩) R.ino.length cap) sv ((R.tookI n k).stage n ((lay n).tb + k / 4)) W ∧ W.cell? ⟨rp, 4, none⟩ = some (.int .i64 ((lay n).tb : Int))) := fun W hW => by
          have := RDid.step (w := w) (sv := sv) q2 f2 hW.did
          refine ⟨this, ?_⟩
          obtain ⟨sv3, r3, _⟩ := hW
          exact r3.h.cell 4
        have e0 : ({ R.stage n (lay n).nd with ino := R.ino.set k true } : Rs) = R.tookI n k := rfl
        rw [e0] at HS2
        have hK : (R.stage n (lay n).nd) = R.stage n (lay n).nd := rfl
        clear r1 q1 f1 d1 r2 q2 f2 rb hbl hbk HT hK e0
        have hs1 : IntKind.i64.wrap (((lay n).tb : Int) + (k : Int) / 4) = ((lay n).tb : Int) + (k : Int) / 4 := by
          simp [IntKind.wrap, IntKind.bits, IntKind.signed]; omega
        go_wp2_with fail
        refine HS2.out.mono ?_
        rintro x w3 ⟨rfl, s3⟩
        have c4c := (HC6.out w3 s3).2
        have HF := hid (HC6.out w3 s3).1
        clear s3 HS2 HC6
        by_cases hc2 : (R.tookI n k).canB n ((lay n).tb + k / 4) = true
        · rw [hc2]
          go_wp2
          go_ret2
          unfold RTkI
          rw [if_pos hc1, if_pos hc2]
          exact ⟨rfl, HF.out⟩
        · have hc2' : (R.tookI n k).canB n ((lay n).tb + k / 4) = false := by simpa using hc2
          have HE : Hid ((R.tookI n k).stage n ((lay n).tb + k / 4) = R.tookI n k) := by
            unfold Hid Rs.stage
            unfold Rs.canB at hc2'
            simp only [Bool.or_eq_false_iff, decide_eq_false_iff_not] at hc2'
            rw [if_neg hc2'.1, if_neg hc2'.2]
          rw [HE.out] at HF
          rw [hc2']
          go_wp2
          go_ret2
          unfold RTkI
          rw [if_pos hc1, if_neg hc2]
          exact ⟨rfl, HF.out⟩
      · have hc1' : R.canB n (lay n).nd = false := by simpa using hc1
        have HE : Hid (R.stage n (lay n).nd = R) := by
          unfold Hid Rs.stage
          unfold Rs.canB at hc1'
          simp only [Bool.or_eq_false_iff, decide_eq_false_iff_not] at hc1'
          rw [if_neg hc1'.1, if_neg hc1'.2]
        rw [HE.out] at HT
        rw [hc1']
        go_wp2
        go_ret2
        unfold RTkI
        rw [if_neg hc1]
        exact ⟨rfl, HT.out.did⟩

end Go.Proofs.YtehoiahgkbnjdaaGreat.Al
/- The document's own layout. -/
namespace Go.Proofs.YtehoiahgkbnjdaaGreat.Al
open Go.RowKit Go.Shelf Dk Wl

def rC (s ll mp nd tb no da : Int) : List Value := [.int .i64 s, .int .i64 ll, .int .i64 mp, .int .i64 nd, .int .i64 tb, .int .i64 no, .int .i64 da]
theorem size29 : (Tryz.prog.info? 69).map (·.size) = some 7 := by kernel_rfl
theorem resR {fn : Func} {p u : Tmp} (h : fn.results = #[.cell p 69, .tmp u]) {a : Act} {W : World} {b : Nat} {t : TypeId} {cs : List Value} (ha : a.tmps.getD p undef = .pointer (some ⟨b, 0, none⟩)) (hb : Blk W b t cs) (hl : cs.length = 7) :
    (results fn a.tmps).run Tryz.prog W = .ok (.tuple #[.agg cs.toArray, a.tmps.getD u undef]) W := by
  rw [results_cell_tmp h a.tmps Tryz.prog W, ha]
  have e := run_loadVar_mid (P := Tryz.prog) W b 0 69 cs _ (hb.range 0 _ (by simp)) Tryz.underlying69 rfl (by rw [size29, hl])
  simp [asAddr, e, Result.andThen]

set_option maxRecDepth 100000 in
set_option maxHeartbeats 1000000 in
theorem RLay_no (w : World) (n : Int) (h : n < 64 ∨ 1024 < n) : Calls Tryz.prog 33 #[.int .i64 n] w fun e w' => e = .returned (.tuple #[.agg (rC 0 0 0 0 0 0 0).toArray, .bool false]) ∧ Nw w w' := by
  have HF : Hid (Nw w (w.alloc (.cells (rC 0 0 0 0 0 0 0).toArray 69))) := (Fr.refl _ w).alloc _
  rcases Int.lt_or_le n 64 with h1 | h1
  · clear h
    go_enter Tryz.func33, Tryz.ntmps33
    go_wp2
    refine bodyPost_ret (resR (b := w.heap.size) (t := 69) rfl rfl (Blk.new w 69 _) rfl) rfl ⟨rfl, HF.out⟩
  · have h2 : ¬ n < 64 := by omega
    have h3 : n > 1024 := by omega
    clear h
    go_enter Tryz.func33, Tryz.ntmps33
    go_wp2
    refine bodyPost_ret (resR (b := w.heap.size) (t := 69) rfl rfl (Blk.new w 69 _) rfl) rfl ⟨rfl, HF.out⟩

theorem rC_eq {a b c d e f g a' b' c' d' e' f' g' : Int} (h1 : a = a') (h2 : b = b') (h3 : c = c') (h4 : d = d') (h5 : e = e') (h6 : f = f') (h7 : g = g') : (#[.int .i64 a, .int .i64 b, .int .i64 c, .int .i64 d, .int .i64 e, .int .i64 f, .int .i64 g] : Array Value) = #[.int .i64 a', .int .i64 b', .int .i64 c', .int .i64 d', .int .i64 e', .int .i64 f', .int .i64 g'] := by
  subst h1 h2 h3 h4 h5 h6 h7; rfl

set_option maxRecDepth 100000 in
set_option maxHeartbeats 4000000 in
theorem RLay_ok (w : World) (n : Nat) (h1 : 64 ≤ n) (h2 : n ≤ 1024) : Calls Tryz.prog 33 #[.int .i64 (n : Int)] w fun e w' => e = .returned (.tuple #[.agg (rC n (lay n).ll (lay n).mp (lay n).nd (lay n).tb (lay n).no (lay n).da).toArray, .bool true]) ∧ Nw w w' := by
  have hb1 : ¬ (n : Int) < 64 := by omega
  have hb2 : ¬ (n : Int) > 1024 := by omega
  obtain ⟨LL, NO, hLL, hNO, hca⟩ : ∃ LL NO : Nat, (lay n).ll = LL ∧ (lay n).no = NO ∧ ((LL = 16 ∧ NO = n / 4 ∧ n / 8 < 16 ∧ n / 4 ≤ 128) ∨ (LL = n / 8 ∧ NO = n / 4 ∧ 16 ≤ n / 8 ∧ n / 4 ≤ 128) ∨ (LL = n / 8 ∧ NO = 128 ∧ 16 ≤ n / 8 ∧ 128 < n / 4)) := ⟨_, _, rfl, rfl, by simp only [lay]; omega⟩
  have hy := lay_b n h1 h2
  have HY : Hid (rC n (lay n).ll (lay n).mp (lay n).nd (lay n).tb (lay n).no (lay n).da = rC n LL (1 + LL) (2 + LL) (3 + LL) NO (3 + LL + ((NO + 3) / 4 : Nat))) := by
    unfold Hid
    rw [← hLL, ← hNO]
    simp only [rC]
    rw [hy.1, hy.2.1, hy.2.2.1]
    have := hy.2.2.2.2.2.2.2
    have h3 := hy.2.2.1
    simp
    omega
  have HL1 : LL ≤ 128 := by omega
  have HN1 : NO ≤ 128 := by omega
  rw [HY.out]
  clear hLL hNO hy HY
  go_enter Tryz.func33, Tryz.ntmps33
  rcases hca with ⟨hA, hB, hC, hD⟩ | ⟨hA, hB, hC, hD⟩ | ⟨hA, hB, hC, hD⟩
  · have hc1 : (n : Int) / 8 < 16 := by omega
    have hc2 : ¬ (n : Int) / 4 > 128 := by omega
    go_wp2_with fail
    go_loopw [5] (fun i wr => ∃ j : Nat, j ≤ (NO + 3) / 4 ∧ i = .int .i64 (4 * j) ∧ wr = (w.alloc (.cells #[.int .i64 0, .int .i64 0, .int .i64 0, .int .i64 0, .int .i64 0, .int .i64 0, .int .i64 0] 69)).alloc (.cells #[.int .i64 n, .int .i64 LL, .int .i64 (1 + LL), .int .i64 (2 + LL), .int .i64 (3 + LL), .int .i64 NO, .int .i64 (3 + LL + j)] 69)) (fun i _ => (NO + 8 - intOf i).toNat)
    case atStart =>
      refine ⟨0, by omega, rfl, ?_⟩
      refine congrArg (fun q => World.alloc _ (.cells q 69)) (rC_eq ?_ ?_ ?_ ?_ ?_ ?_ ?_) <;> omega
    case round =>
      obtain ⟨j, hj, rfl, rfl⟩ := hrel
      clear hA hB hC hD hc1 hc2
      by_cases hlt : 4 * (j : Int) < NO
      · go_wp2
        exact ⟨⟨j + 1, by omega, by simp [Int.mul_add], congrArg (fun q => World.alloc _ (.cells q 69)) (rC_eq rfl rfl rfl rfl rfl rfl (by omega))⟩, by simp [intOf]; omega⟩
      · have HJ : Hid ((j : Int) = ((NO : Int) + 3) / 4) := by unfold Hid; omega
        go_wp2
        refine bodyPost_ret (resR (b := w.heap.size) (t := 69) rfl rfl ((Blk.new w 69 _).alloc _) rfl) rfl ⟨?_, ((Fr.refl _ w).alloc _).alloc _⟩
        rw [← HJ.out]
        rfl
  · have hc1 : ¬ (n : Int) / 8 < 16 := by omega
    have hc2 : ¬ (n : Int) / 4 > 128 := by omega
    go_wp2_with fail
    go_loopw [5] (fun i wr => ∃ j : Nat, j ≤ (NO + 3) / 4 ∧ i = .int .i64 (4 * j) ∧ wr = (w.alloc (.cells #[.int .i64 0, .int .i64 0, .int .i64 0, .int .i64 0, .int .i64 0, .int .i64 0, .int .i64 0] 69)).alloc (.cells #[.int .i64 n, .int .i64 LL, .int .i64 (1 + LL), .int .i64 (2 + LL), .int .i64 (3 + LL), .int .i64 NO, .int .i64 (3 + LL + j)] 69)) (fun i _ => (NO + 8 - intOf i).toNat)
    case atStart =>
      refine ⟨0, by omega, rfl, ?_⟩
      refine congrArg (fun q => World.alloc _ (.cells q 69)) (rC_eq ?_ ?_ ?_ ?_ ?_ ?_ ?_) <;> omega
    case round =>
      obtain ⟨j, hj, rfl, rfl⟩ := hrel
      clear hA hB hC hD hc1 hc2
      by_cases hlt : 4 * (j : Int) < NO
      · go_wp2
        exact ⟨⟨j + 1, by omega, by simp [Int.mul_add], congrArg (fun q => World.alloc _ (.cells q 69)) (rC_eq rfl rfl rfl rfl rfl rfl (by omega))⟩, by simp [intOf]; omega⟩
      · have HJ : Hid ((j : Int) = ((NO : Int) + 3) / 4) := by unfold Hid; omega
        go_wp2
        refine bodyPost_ret (resR (b := w.heap.size) (t := 69) rfl rfl ((Blk.new w 69 _).alloc _) rfl) rfl ⟨?_, ((Fr.refl _ w).alloc _).alloc _⟩
        rw [← HJ.out]
        rfl
  · have hc1 : ¬ (n : Int) / 8 < 16 := by omega
    have hc2 : (n : Int) / 4 > 128 := by omega
    go_wp2_with fail
    go_loopw [5] (fun i wr => ∃ j : Nat, j ≤ (NO + 3) / 4 ∧ i = .int .i64 (4 * j) ∧ wr = (w.alloc (.cells #[.int .i64 0, .int .i64 0, .int .i64 0, .int .i64 0, .int .i64 0, .int .i64 0, .int .i64 0] 69)).alloc (.cells #[.int .i64 n, .int .i64 LL, .int .i64 (1 + LL), .int .i64 (2 + LL), .int .i64 (3 + LL), .int .i64 NO, .int .i64 (3 + LL + j)] 69)) (fun i _ => (NO + 8 - intOf i).toNat)
    case atStart =>
      refine ⟨0, by omega, rfl, ?_⟩
      refine congrArg (fun q => World.alloc _ (.cells q 69)) (rC_eq ?_ ?_ ?_ ?_ ?_ ?_ ?_) <;> omega
    case round =>
      obtain ⟨j, hj, rfl, rfl⟩ := hrel
      clear hA hB hC hD hc1 hc2
      by_cases hlt : 4 * (j : Int) < NO
      · go_wp2
        exact ⟨⟨j + 1, by omega, by simp [Int.mul_add], congrArg (fun q => World.alloc _ (.cells q 69)) (rC_eq rfl rfl rfl rfl rfl rfl (by omega))⟩, by simp [intOf]; omega⟩
      · have HJ : Hid ((j : Int) = ((NO : Int) + 3) / 4) := by unfold Hid; omega
        go_wp2
        refine bodyPost_ret (resR (b := w.heap.size) (t := 69) rfl rfl ((Blk.new w 69 _).alloc _) rfl) rfl ⟨?_, ((Fr.refl _ w).alloc _).alloc _⟩
        rw [← HJ.out]
        rfl

end Go.Proofs.YtehoiahgkbnjdaaGreat.Al
/- The reference space: New. -/
namespace Go.Proofs.YtehoiahgkbnjdaaGreat.Al
open Go.RowKit Go.Shelf Dk Wl

theorem mkBools (w : World) (m : Nat) (hm : m ≤ 1024) : (Instr.makeSlice 48 (.int .i64 (m : Int)) (.int .i64 (m : Int))).run Tryz.prog w = .ok (.slice (some ⟨w.heap.size, 0, none⟩) m m) (w.alloc (.cells (List.replicate m (Value.bool false)).toArray 4)) := by
  obtain ⟨i, hi⟩ := Option.isSome_iff_exists.1 (by kernel_rfl : (Tryz.prog.info? 4).isSome = true)
  have hz : (Tryz.prog.info? 4).bind (·.zero) = some (.bool false) := by kernel_rfl
  have hs : (Tryz.prog.info? 4).map (·.size) = some 1 := by kernel_rfl
  have hb : (Tryz.prog.info? 4).map (·.bytes) = some 1 := by kernel_rfl
  rw [hi] at hz hs hb
  simp only [Option.bind_some, Option.map_some, Option.some.injEq] at hz hs hb
  have h := run_make (P := Tryz.prog) w 48 4 i (.bool false) Tryz.underlying48 hi hz .i64 .i64 m m (by omega) (Int.le_refl _) (by rw [hb]; omega) (by omega)
  rw [h, hs]
  simp only [Int.toNat_natCast, Nat.mul_one]
  have e : madeCells (Value.bool false).cells m = (List.replicate m (Value.bool false)).toArray := by
    apply Array.toList_inj.1
    exact toList_madeCells_one (.bool false) m
  rw [e]
def Rs.new (n : Nat) : Rs := ⟨List.replicate (n - (lay n).da) false, (List.replicate (lay n).no false).set 0 true, []⟩
def RNew (w : World) (n : Nat) (e : Ending) (w' : World) : Prop := ∃ rp bv iv sv, e = .returned (pv rp) ∧ RRep w' rp n bv iv sv (Rs.new n) ∧ (∀ k, rfoot rp bv iv sv k → w.heap.size ≤ k) ∧ Nw w w'

theorem blk3 (w : World) (o : Obj) (X Y Z : List Value) : Blk ((((w.alloc o).alloc (.cells X.toArray 4)).alloc (.cells Y.toArray 4)).alloc (.cells Z.toArray 73)).drew (w.heap.size + 1) 4 X ∧ Blk ((((w.alloc o).alloc (.cells X.toArray 4)).alloc (.cells Y.toArray 4)).alloc (.cells Z.toArray 73)).drew (w.heap.size + 1 + 1) 4 Y ∧ Blk ((((w.alloc o).alloc (.cells X.toArray 4)).alloc (.cells Y.toArray 4)).alloc (.cells Z.toArray 73)).drew (w.heap.size + 1 + 1 + 1) 73 Z := by
  have s1 : (w.alloc o).heap.size = w.heap.size + 1 := by simp
  have s2 : ((w.alloc o).alloc (.cells X.toArray 4)).heap.size = w.heap.size + 1 + 1 := by simp
  have b1 := Blk.new (w.alloc o) 4 X
  have b2 := Blk.new ((w.alloc o).alloc (.cells X.toArray 4)) 4 Y
  have b3 := Blk.new (((w.alloc o).alloc (.cells X.toArray 4)).alloc (.cells Y.toArray 4)) 73 Z
  have s3 : (((w.alloc o).alloc (.cells X.toArray 4)).alloc (.cells Y.toArray 4)).heap.size = w.heap.size + 1 + 1 + 1 := by simp
  rw [s1] at b1
  rw [s2] at b2
  rw [s3] at b3
  exact ⟨((b1.alloc _).alloc _).drew, (b2.alloc _).drew, b3.drew⟩
theorem owns_made {W : World} {g m : Nat} (h : Blk W g 4 (List.replicate m (Value.bool false))) (hm : m ≤ 1024) : W.ownsRow 0 4 1 (.slice (some ⟨g, 0, none⟩) m m) (List.replicate m false).length (boolC (List.replicate m false)) := by
  have e : boolC (List.replicate m false) = List.replicate m (Value.bool false) := by simp [boolC]
  rw [e, List.length_replicate]
  exact ⟨by simp, .inr ⟨g, m, _, rfl, Nat.zero_le _, h, Nat.le_refl _, by unfold maxLen; omega, by simp, by simp⟩⟩
theorem rrep_made {W : World} {rp n gb gi N : Nat} (hN : n - (lay n).da = N) (h2 : n ≤ 1024) (hno : (lay n).no ≤ 1024)
    (hr : Blk W rp 73 (ryC n ++ [.slice (some ⟨gb, 0, none⟩) N N, .slice (some ⟨gi, 0, none⟩) (lay n).no (lay n).no, .slice none 0 0])) (hb : Blk W gb 4 (List.replicate N (Value.bool false))) (hi : Blk W gi 4 (List.replicate (lay n).no (Value.bool false))) (n1 : gb ≠ rp) (n2 : gi ≠ rp) (n3 : gb ≠ gi) :
    RRep W rp n (.slice (some ⟨gb, 0, none⟩) N N) (.slice (some ⟨gi, 0, none⟩) (lay n).no (lay n).no) (.slice none 0 0) ⟨List.replicate N false, List.replicate (lay n).no false, []⟩ := by
  subst hN
  refine ⟨hr, owns_made hb (by omega), owns_made hi hno, World.ownsRow_nil W 0 3 1, ?_, ?_, ?_, ?_, ?_, ?_, by simp, by simp⟩
  · intro e; simp [Value.ownBlock] at e; exact n1 e
  · intro e; simp [Value.ownBlock] at e; exact n2 e
  · intro e; cases e
  · intro k hk e; simp [Value.ownBlock] at hk e; omega
  · intro k hk e; cases e
  · intro k hk e; cases e
/-- Behind New, on a world that has the new blocks. -/
theorem rnew_end {w w1 W : World} {n rp gb gi N : Nat} (hN : n - (lay n).da = N) (h : RRep W rp n (.slice (some ⟨gb, 0, none⟩) N N) (.slice (some ⟨gi, 0, none⟩) (lay n).no (lay n).no) (.slice none 0 0) ⟨List.replicate N false, List.replicate (lay n).no false, []⟩) (f1 : Nw w w1) (fW : Nw w1 W) (g1 : w1.heap.size ≤ rp) (g2 : w1.heap.size ≤ gb) (g3 : w1.heap.size ≤ gi) (e : Ending) (he : e = .returned (pv rp)) : RNew w n e (W.setCell ⟨gi, 0, none⟩ (.bool true)) := by
  subst hN
  have hl : (List.replicate (lay n).no false).length = (lay n).no := by simp
  have d := RRep.setI (R := ⟨List.replicate (n - (lay n).da) false, List.replicate (lay n).no false, []⟩) (g := gi) (cap := (lay n).no) (by show RRep W rp n _ (.slice (some ⟨gi, 0, none⟩) (List.replicate (lay n).no false).length (lay n).no) _ _; rw [hl]; exact h) 0 true
  obtain ⟨sv', r, q, _⟩ := d
  refine ⟨rp, _, _, sv', he, r, fun k hk => ?_, Fr.setCell (Nw.tr f1 fW) (p := ⟨gi, 0, none⟩) (.inr (Nat.le_trans f1.size g3)) _⟩
  have := f1.size
  have hW := fW.size
  rcases hk with hk | hk | hk | hk
  · omega
  · simp [Value.ownBlock] at hk; omega
  · simp [Value.ownBlock] at hk; omega
  · rcases q k hk with h | h
    · cases h
    · omega

set_option maxRecDepth 100000 in
set_option maxHeartbeats 4000000 in
theorem rnew_ok (w : World) (n : Nat) (h1 : 64 ≤ n) (h2 : n ≤ 1024) : Calls Tryz.prog 9 #[.int .i64 (n : Int)] w (RNew w n) := by
  have hlay := lay_b n h1 h2
  have HL := hid (RLay_ok w n h1 h2)
  obtain ⟨N, hN⟩ : ∃ N, n - (lay n).da = N := ⟨_, rfl⟩
  have hm1 := fun W => mkBools W N (by omega)
  have hm2 := fun W => mkBools W (lay n).no (by omega)
  have hsub : IntKind.i64.wrap ((n : Int) - ((lay n).da : Int)) = (N : Int) := by simp [IntKind.wrap, IntKind.bits, IntKind.signed]; omega
  have hsub2 : wrap64 ((n : Int) - ((lay n).da : Int)) = (N : Int) := by unfold wrap64; omega
  have hno1 : (0 : Int) < ((lay n).no : Int) := by omega
  have HN := hid hN
  have Hlay := hid hlay
  clear hlay hN
  unfold rC at HL
  go_enter Tryz.func9, Tryz.ntmps9
  go_wp2_with fail
  refine HL.out.mono ?_
  rintro x w1 ⟨rfl, f1⟩
  have HF1 := hid f1
  clear HL f1
  go_wp2_with fail
  go_region
  · have HE : Hid (RRep ((((w1.alloc (.cells #[.int .i64 (n : Int), .int .i64 ((lay n).ll : Int), .int .i64 ((lay n).mp : Int), .int .i64 ((lay n).nd : Int), .int .i64 ((lay n).tb : Int), .int .i64 ((lay n).no : Int), .int .i64 ((lay n).da : Int)] 69)).alloc (.cells (Array.replicate N (Value.bool false)) 4)).alloc (.cells (Array.replicate (lay n).no (Value.bool false)) 4)).alloc (.cells #[.int .i64 (n : Int), .int .i64 ((lay n).ll : Int), .int .i64 ((lay n).mp : Int), .int .i64 ((lay n).nd : Int), .int .i64 ((lay n).tb : Int), .int .i64 ((lay n).no : Int), .int .i64 ((lay n).da : Int), .slice (some ⟨w1.heap.size + 1, 0, none⟩) N N, .slice (some ⟨w1.heap.size + 1 + 1, 0, none⟩) (lay n).no (lay n).no, .slice none 0 0] 73)).drew (w1.heap.size + 1 + 1 + 1) n (.slice (some ⟨w1.heap.size + 1, 0, none⟩) N N) (.slice (some ⟨w1.heap.size + 1 + 1, 0, none⟩) (lay n).no (lay n).no) (.slice none 0 0) ⟨List.replicate N false, List.replicate (lay n).no false, []⟩ ∧ Nw w1 ((((w1.alloc (.cells #[.int .i64 (n : Int), .int .i64 ((lay n).ll : Int), .int .i64 ((lay n).mp : Int), .int .i64 ((lay n).nd : Int), .int .i64 ((lay n).tb : Int), .int .i64 ((lay n).no : Int), .int .i64 ((lay n).da : Int)] 69)).alloc (.cells (Array.replicate N (Value.bool false)) 4)).alloc (.cells (Array.replicate (lay n).no (Value.bool false)) 4)).alloc (.cells #[.int .i64 (n : Int), .int .i64 ((lay n).ll : Int), .int .i64 ((lay n).mp : Int), .int .i64 ((lay n).nd : Int), .int .i64 ((lay n).tb : Int), .int .i64 ((lay n).no : Int), .int .i64 ((lay n).da : Int), .slice (some ⟨w1.heap.size + 1, 0, none⟩) N N, .slice (some ⟨w1.heap.size + 1 + 1, 0, none⟩) (lay n).no (lay n).no, .slice none 0 0] 73)).drew ∧ Blk ((((w1.alloc (.cells #[.int .i64 (n : Int), .int .i64 ((lay n).ll : Int), .int .i64 ((lay n).mp : Int), .int .i64 ((lay n).nd : Int), .int .i64 ((lay n).tb : Int), .int .i64 ((lay n).no : Int), .int .i64 ((lay n).da : Int)] 69)).alloc (.cells (Array.replicate N (Value.bool false)) 4)).alloc (.cells (Array.replicate (lay n).no (Value.bool false)) 4)).alloc (.cells #[.int .i64 (n : Int), .int .i64 ((lay n).ll : Int), .int .i64 ((lay n).mp : Int), .int .i64 ((lay n).nd : Int), .int .i64 ((lay n).tb : Int), .int .i64 ((lay n).no : Int), .int .i64 ((lay n).da : Int), .slice (some ⟨w1.heap.size + 1, 0, none⟩) N N, .slice (some ⟨w1.heap.size + 1 + 1, 0, none⟩) (lay n).no (lay n).no, .slice none 0 0] 73)).drew (w1.heap.size + 1 + 1) 4 (List.replicate (lay n).no (Value.bool false))) := by
      have hB := blk3 w1 (.cells #[.int .i64 (n : Int), .int .i64 ((lay n).ll : Int), .int .i64 ((lay n).mp : Int), .int .i64 ((lay n).nd : Int), .int .i64 ((lay n).tb : Int), .int .i64 ((lay n).no : Int), .int .i64 ((lay n).da : Int)] 69) (List.replicate N (Value.bool false)) (List.replicate (lay n).no (Value.bool false)) [.int .i64 (n : Int), .int .i64 ((lay n).ll : Int), .int .i64 ((lay n).mp : Int), .int .i64 ((lay n).nd : Int), .int .i64 ((lay n).tb : Int), .int .i64 ((lay n).no : Int), .int .i64 ((lay n).da : Int), .slice (some ⟨w1.heap.size + 1, 0, none⟩) N N, .slice (some ⟨w1.heap.size + 1 + 1, 0, none⟩) (lay n).no (lay n).no, .slice none 0 0]
      rw [List.toArray_replicate, List.toArray_replicate] at hB
      exact ⟨rrep_made HN.out h2 (by have := Hlay.out; omega) hB.2.2 hB.1 hB.2.1 (by omega) (by omega) (by omega), (((((Fr.refl _ w1).alloc _).alloc _).alloc _).alloc _).drew, hB.2.1⟩
    have c8 : World.cell? ((((w1.alloc (.cells #[.int .i64 (n : Int), .int .i64 ((lay n).ll : Int), .int .i64 ((lay n).mp : Int), .int .i64 ((lay n).nd : Int), .int .i64 ((lay n).tb : Int), .int .i64 ((lay n).no : Int), .int .i64 ((lay n).da : Int)] 69)).alloc (.cells (Array.replicate N (Value.bool false)) 4)).alloc (.cells (Array.replicate (lay n).no (Value.bool false)) 4)).alloc (.cells #[.int .i64 (n : Int), .int .i64 ((lay n).ll : Int), .int .i64 ((lay n).mp : Int), .int .i64 ((lay n).nd : Int), .int .i64 ((lay n).tb : Int), .int .i64 ((lay n).no : Int), .int .i64 ((lay n).da : Int), .slice (some ⟨w1.heap.size + 1, 0, none⟩) N N, .slice (some ⟨w1.heap.size + 1 + 1, 0, none⟩) (lay n).no (lay n).no, .slice none 0 0] 73)).drew ⟨w1.heap.size + 1 + 1 + 1, 8, none⟩ = some (.slice (some ⟨w1.heap.size + 1 + 1, 0, none⟩) (lay n).no (lay n).no) := HE.out.1.h.cell 8
    have cg : World.cell? ((((w1.alloc (.cells #[.int .i64 (n : Int), .int .i64 ((lay n).ll : Int), .int .i64 ((lay n).mp : Int), .int .i64 ((lay n).nd : Int), .int .i64 ((lay n).tb : Int), .int .i64 ((lay n).no : Int), .int .i64 ((lay n).da : Int)] 69)).alloc (.cells (Array.replicate N (Value.bool false)) 4)).alloc (.cells (Array.replicate (lay n).no (Value.bool false)) 4)).alloc (.cells #[.int .i64 (n : Int), .int .i64 ((lay n).ll : Int), .int .i64 ((lay n).mp : Int), .int .i64 ((lay n).nd : Int), .int .i64 ((lay n).tb : Int), .int .i64 ((lay n).no : Int), .int .i64 ((lay n).da : Int), .slice (some ⟨w1.heap.size + 1, 0, none⟩) N N, .slice (some ⟨w1.heap.size + 1 + 1, 0, none⟩) (lay n).no (lay n).no, .slice none 0 0] 73)).drew ⟨w1.heap.size + 1 + 1, 0, none⟩ = some (.bool false) := by
      rw [HE.out.2.2.cell, List.getElem?_replicate, if_pos (by have := Hlay.out; omega)]
    have zg := HE.out.2.2.frozen 0
    generalize ((((w1.alloc (.cells #[.int .i64 (n : Int), .int .i64 ((lay n).ll : Int), .int .i64 ((lay n).mp : Int), .int .i64 ((lay n).nd : Int), .int .i64 ((lay n).tb : Int), .int .i64 ((lay n).no : Int), .int .i64 ((lay n).da : Int)] 69)).alloc (.cells (Array.replicate N (Value.bool false)) 4)).alloc (.cells (Array.replicate (lay n).no (Value.bool false)) 4)).alloc (.cells #[.int .i64 (n : Int), .int .i64 ((lay n).ll : Int), .int .i64 ((lay n).mp : Int), .int .i64 ((lay n).nd : Int), .int .i64 ((lay n).tb : Int), .int .i64 ((lay n).no : Int), .int .i64 ((lay n).da : Int), .slice (some ⟨w1.heap.size + 1, 0, none⟩) N N, .slice (some ⟨w1.heap.size + 1 + 1, 0, none⟩) (lay n).no (lay n).no, .slice none 0 0] 73)).drew = W at *
    go_wp2
    go_ret
    exact rnew_end HN.out HE.out.1 HF1.out HE.out.2.1 (by omega) (by omega) (by omega) _ rfl
  · have HE : Hid (RRep ((((w1.alloc (.cells #[.int .i64 (n : Int), .int .i64 ((lay n).ll : Int), .int .i64 ((lay n).mp : Int), .int .i64 ((lay n).nd : Int), .int .i64 ((lay n).tb : Int), .int .i64 ((lay n).no : Int), .int .i64 ((lay n).da : Int)] 69)).alloc (.cells (Array.replicate (lay n).no (Value.bool false)) 4)).alloc (.cells (Array.replicate N (Value.bool false)) 4)).alloc (.cells #[.int .i64 (n : Int), .int .i64 ((lay n).ll : Int), .int .i64 ((lay n).mp : Int), .int .i64 ((lay n).nd : Int), .int .i64 ((lay n).tb : Int), .int .i64 ((lay n).no : Int), .int .i64 ((lay n).da : Int), .slice (some ⟨w1.heap.size + 1 + 1, 0, none⟩) N N, .slice (some ⟨w1.heap.size + 1, 0, none⟩) (lay n).no (lay n).no, .slice none 0 0] 73)).drew (w1.heap.size + 1 + 1 + 1) n (.slice (some ⟨w1.heap.size + 1 + 1, 0, none⟩) N N) (.slice (some ⟨w1.heap.size + 1, 0, none⟩) (lay n).no (lay n).no) (.slice none 0 0) ⟨List.replicate N false, List.replicate (lay n).no false, []⟩ ∧ Nw w1 ((((w1.alloc (.cells #[.int .i64 (n : Int), .int .i64 ((lay n).ll : Int), .int .i64 ((lay n).mp : Int), .int .i64 ((lay n).nd : Int), .int .i64 ((lay n).tb : Int), .int .i64 ((lay n).no : Int), .int .i64 ((lay n).da : Int)] 69)).alloc (.cells (Array.replicate (lay n).no (Value.bool false)) 4)).alloc (.cells (Array.replicate N (Value.bool false)) 4)).alloc (.cells #[.int .i64 (n : Int), .int .i64 ((lay n).ll : Int), .int .i64 ((lay n).mp : Int), .int .i64 ((lay n).nd : Int), .int .i64 ((lay n).tb : Int), .int .i64 ((lay n).no : Int), .int .i64 ((lay n).da : Int), .slice (some ⟨w1.heap.size + 1 + 1, 0, none⟩) N N, .slice (some ⟨w1.heap.size + 1, 0, none⟩) (lay n).no (lay n).no, .slice none 0 0] 73)).drew ∧ Blk ((((w1.alloc (.cells #[.int .i64 (n : Int), .int .i64 ((lay n).ll : Int), .int .i64 ((lay n).mp : Int), .int .i64 ((lay n).nd : Int), .int .i64 ((lay n).tb : Int), .int .i64 ((lay n).no : Int), .int .i64 ((lay n).da : Int)] 69)).alloc (.cells (Array.replicate (lay n).no (Value.bool false)) 4)).alloc (.cells (Array.replicate N (Value.bool false)) 4)).alloc (.cells #[.int .i64 (n : Int), .int .i64 ((lay n).ll : Int), .int .i64 ((lay n).mp : Int), .int .i64 ((lay n).nd : Int), .int .i64 ((lay n).tb : Int), .int .i64 ((lay n).no : Int), .int .i64 ((lay n).da : Int), .slice (some ⟨w1.heap.size + 1 + 1, 0, none⟩) N N, .slice (some ⟨w1.heap.size + 1, 0, none⟩) (lay n).no (lay n).no, .slice none 0 0] 73)).drew (w1.heap.size + 1) 4 (List.replicate (lay n).no (Value.bool false))) := by
      have hB := blk3 w1 (.cells #[.int .i64 (n : Int), .int .i64 ((lay n).ll : Int), .int .i64 ((lay n).mp : Int), .int .i64 ((lay n).nd : Int), .int .i64 ((lay n).tb : Int), .int .i64 ((lay n).no : Int), .int .i64 ((lay n).da : Int)] 69) (List.replicate (lay n).no (Value.bool false)) (List.replicate N (Value.bool false)) [.int .i64 (n : Int), .int .i64 ((lay n).ll : Int), .int .i64 ((lay n).mp : Int), .int .i64 ((lay n).nd : Int), .int .i64 ((lay n).tb : Int), .int .i64 ((lay n).no : Int), .int .i64 ((lay n).da : Int), .slice (some ⟨w1.heap.size + 1 + 1, 0, none⟩) N N, .slice (some ⟨w1.heap.size + 1, 0, none⟩) (lay n).no (lay n).no, .slice none 0 0]
      rw [List.toArray_replicate, List.toArray_replicate] at hB
      exact ⟨rrep_made HN.out h2 (by have := Hlay.out; omega) hB.2.2 hB.2.1 hB.1 (by omega) (by omega) (by omega), (((((Fr.refl _ w1).alloc _).alloc _).alloc _).alloc _).drew, hB.1⟩
    have c8 : World.cell? ((((w1.alloc (.cells #[.int .i64 (n : Int), .int .i64 ((lay n).ll : Int), .int .i64 ((lay n).mp : Int), .int .i64 ((lay n).nd : Int), .int .i64 ((lay n).tb : Int), .int .i64 ((lay n).no : Int), .int .i64 ((lay n).da : Int)] 69)).alloc (.cells (Array.replicate (lay n).no (Value.bool false)) 4)).alloc (.cells (Array.replicate N (Value.bool false)) 4)).alloc (.cells #[.int .i64 (n : Int), .int .i64 ((lay n).ll : Int), .int .i64 ((lay n).mp : Int), .int .i64 ((lay n).nd : Int), .int .i64 ((lay n).tb : Int), .int .i64 ((lay n).no : Int), .int .i64 ((lay n).da : Int), .slice (some ⟨w1.heap.size + 1 + 1, 0, none⟩) N N, .slice (some ⟨w1.heap.size + 1, 0, none⟩) (lay n).no (lay n).no, .slice none 0 0] 73)).drew ⟨w1.heap.size + 1 + 1 + 1, 8, none⟩ = some (.slice (some ⟨w1.heap.size + 1, 0, none⟩) (lay n).no (lay n).no) := HE.out.1.h.cell 8
    have cg : World.cell? ((((w1.alloc (.cells #[.int .i64 (n : Int), .int .i64 ((lay n).ll : Int), .int .i64 ((lay n).mp : Int), .int .i64 ((lay n).nd : Int), .int .i64 ((lay n).tb : Int), .int .i64 ((lay n).no : Int), .int .i64 ((lay n).da : Int)] 69)).alloc (.cells (Array.replicate (lay n).no (Value.bool false)) 4)).alloc (.cells (Array.replicate N (Value.bool false)) 4)).alloc (.cells #[.int .i64 (n : Int), .int .i64 ((lay n).ll : Int), .int .i64 ((lay n).mp : Int), .int .i64 ((lay n).nd : Int), .int .i64 ((lay n).tb : Int), .int .i64 ((lay n).no : Int), .int .i64 ((lay n).da : Int), .slice (some ⟨w1.heap.size + 1 + 1, 0, none⟩) N N, .slice (some ⟨w1.heap.size + 1, 0, none⟩) (lay n).no (lay n).no, .slice none 0 0] 73)).drew ⟨w1.heap.size + 1, 0, none⟩ = some (.bool false) := by
      rw [HE.out.2.2.cell, List.getElem?_replicate, if_pos (by have := Hlay.out; omega)]
    have zg := HE.out.2.2.frozen 0
    generalize ((((w1.alloc (.cells #[.int .i64 (n : Int), .int .i64 ((lay n).ll : Int), .int .i64 ((lay n).mp : Int), .int .i64 ((lay n).nd : Int), .int .i64 ((lay n).tb : Int), .int .i64 ((lay n).no : Int), .int .i64 ((lay n).da : Int)] 69)).alloc (.cells (Array.replicate (lay n).no (Value.bool false)) 4)).alloc (.cells (Array.replicate N (Value.bool false)) 4)).alloc (.cells #[.int .i64 (n : Int), .int .i64 ((lay n).ll : Int), .int .i64 ((lay n).mp : Int), .int .i64 ((lay n).nd : Int), .int .i64 ((lay n).tb : Int), .int .i64 ((lay n).no : Int), .int .i64 ((lay n).da : Int), .slice (some ⟨w1.heap.size + 1 + 1, 0, none⟩) N N, .slice (some ⟨w1.heap.size + 1, 0, none⟩) (lay n).no (lay n).no, .slice none 0 0] 73)).drew = W at *
    go_wp2
    go_ret
    exact rnew_end HN.out HE.out.1 HF1.out HE.out.2.1 (by omega) (by omega) (by omega) _ rfl

end Go.Proofs.YtehoiahgkbnjdaaGreat.Al
/- The reference space: Clone, of one of which nothing is staged. -/
namespace Go.Proofs.YtehoiahgkbnjdaaGreat.Al
open Go.RowKit Go.Shelf Dk Wl

/-- What lies at k. -/
def hp (w : World) (k : Nat) : Option Obj := w.heap[k]?
theorem hp_al (w : World) (o : Obj) (k : Nat) : hp (w.alloc o) k = if k = w.heap.size then some o else hp w k := by
  unfold hp
  by_cases h : k = w.heap.size
  · rw [if_pos h, h]; exact heap_alloc_new w o
  · rw [if_neg h]
    by_cases h2 : k < w.heap.size
    · exact Below.heap_alloc w o k h2
    · rw [Array.getElem?_eq_none (by simp; omega), Array.getElem?_eq_none (by omega)]
theorem hp_dr (w : World) (k : Nat) : hp w.drew k = hp w k := rfl
theorem hp_gr {w w' : World} {row : Option Nat} (h : w.grownBy w' row) {k : Nat} (hk : k < w.heap.size) (hn : some k ≠ row) : hp w' k = hp w k := h.block k hk hn

theorem info4r : (Tryz.prog.info? 4).map (fun i => (i.zero, i.size, i.bytes)) = some (some (.bool false), 1, 1) := by kernel_rfl
theorem boolC_one (l : List Bool) : ∀ u ∈ boolC l, u.oneCell' = true := by
  intro u hu
  simp only [boolC, List.mem_map] at hu
  obtain ⟨x, _, rfl⟩ := hu
  rfl
/-- 'append([]bool{}, l...)' in a region that draws its order. -/
theorem step_appB {ops : Array Oper} {o : Oper} {a : Act} {W : World} {K : Act → World → Prop} {Q : Exit → Act → World → Prop} {E : Prop} (hgd : o.guard = none) (s x : Operand)
    (ho : o.op = .call { callee := .builtin .append, args := #[s, x], argTypes := #[48, 48] }) (base H : Nat) (hs : a.eval s = .slice (some ⟨H, 0, none⟩) 0 0) (hE : W.heap[H]? = some (.cells #[] 4 (0, 0))) (hb : base ≤ H) (l : List Bool) (g c : Nat)
    (hx : a.eval x = .slice (some ⟨g, 0, none⟩) l.length c) (hrow : ∀ k, (hk : k < l.length) → W.cell? ⟨g, k, none⟩ = some (.bool l[k])) (hp : 0 < l.length) (hl : l.length ≤ 1024)
    (h : ∀ g' cap W', W'.ownsRow base 4 1 (.slice (some ⟨g', 0, none⟩) l.length cap) l.length (boolC l) → W.grownBy W' (some H) → (g' = H ∨ g' = W.heap.size) → g' < W'.heap.size → K (a.put o.dst (.slice (some ⟨g', 0, none⟩) l.length cap)) W') :
    if Region.wanted o (yielded ops a.tmps) = true then Oper.wp Tryz.prog o a W K Q else E := by
  obtain ⟨i0, hi0, hz0, hz1, hz2⟩ := info_parts info4r
  have hlt : H < W.heap.size := (Array.getElem?_eq_some_iff.1 hE).1
  refine step_append_lies W hgd s x 48 ho base 4 i0 _ 1 1 Tryz.underlying48 hi0 hz0 hz1 hz2 rfl (by omega) (.slice (some ⟨H, 0, none⟩) 0 0) 0 [] hs ⟨by simp, .inr ⟨H, 0, #[], rfl, hb, hE, Nat.le_refl _, by unfold maxLen; omega, by simp, by simp⟩⟩ ⟨g, 0, none⟩ l.length c (boolC l) hx (by simp [boolC]) ?_ (boolC_one l) hp (by unfold maxLen; omega) (by omega) (by omega) W.heap.size rfl ?_
  · intro j u hu
    rw [Addr.add_mid, Nat.zero_add]
    have hj : j < l.length := by
      have := (List.getElem?_eq_some_iff.1 hu).1
      simpa [boolC] using this
    rw [hrow j hj]
    simpa [boolC, hj] using hu
  · intro g' cap W' h1 h2 h3 h4
    rw [Nat.zero_add, List.nil_append] at h1
    have := h g' cap W' h1 h2 (h3.imp (fun e => by simp [Value.ownBlock] at e; exact e.symm) id) h4
    rw [Nat.zero_add]
    exact this

/-- 'append([]int{}, s...)' of none. -/
theorem step_app0 {ops : Array Oper} {o : Oper} {a : Act} {W : World} {K : Act → World → Prop} {Q : Exit → Act → World → Prop} {E : Prop} (hgd : o.guard = none) (s x : Operand)
    (ho : o.op = .call { callee := .builtin .append, args := #[s, x], argTypes := #[47, 47] }) (H : Nat) (hs : a.eval s = .slice (some ⟨H, 0, none⟩) 0 0) (ad : Option Addr) (c : Nat) (hx : a.eval x = .slice ad 0 c) (h : K (a.put o.dst (.slice (some ⟨H, 0, none⟩) 0 0)) W) :
    if Region.wanted o (yielded ops a.tmps) = true then Oper.wp Tryz.prog o a W K Q else E := by
  obtain ⟨i0, hi0, hz0, hz1, hz2⟩ := info_parts info3r
  have hw : Region.wanted o (yielded ops a.tmps) = true := by simp [Region.wanted, hgd]
  rw [if_pos hw]
  have hl : ∀ (x : Addr), (loadCells x 0).run Tryz.prog W = .ok #[] W := fun x => by simpa using run_loadCells_list (P := Tryz.prog) W x [] (by simp)
  have hrun : (Builtin.append_ #[47, 47] o.type #[.slice (some ⟨H, 0, none⟩) 0 0, .slice ad 0 c]).run Tryz.prog W = .ok (.slice (some ⟨H, 0, none⟩) 0 0) W := by
    cases ad <;> simp [Builtin.append_, run_underlying Tryz.underlying47, sizeOf, typeInfo, hi0, Builtin.lenOf, Builtin.firstCells, storeCells, hl]
  unfold Oper.wp
  simp [execOp, ho, resolve, invoke, builtin, hs, hx, hrun, Result.andThen]
  exact h

def RClo (w : World) (n : Nat) (R : Rs) (e : Ending) (w' : World) : Prop := ∃ rq bv' iv' sv', e = .returned (pv rq) ∧ RRep w' rq n bv' iv' sv' R ∧ (∀ k, rfoot rq bv' iv' sv' k → w.heap.size ≤ k) ∧ Nw w w'

theorem rclone_end {w X : World} {n gA capA gB capB Hc : Nat} {R : Rs} (rA : X.ownsRow w.heap.size 4 1 (.slice (some ⟨gA, 0, none⟩) R.blk.length capA) R.blk.length (boolC R.blk)) (rB : X.ownsRow w.heap.size 4 1 (.slice (some ⟨gB, 0, none⟩) R.ino.length capB) R.ino.length (boolC R.ino)) (rC : X.heap[Hc]? = some (.cells #[] 3 (0, 0))) (hc : w.heap.size ≤ Hc)
    (n1 : gA ≠ gB) (n2 : gA ≠ Hc) (n3 : gB ≠ Hc) (F : Nw w X) (hs : R.stg = []) (lb : R.blk.length = n - (lay n).da) (li : R.ino.length = (lay n).no) (e : Ending) (he : e = .returned (pv X.heap.size)) :
    RClo w n R e (X.alloc (.cells #[.int .i64 (n : Int), .int .i64 ((lay n).ll : Int), .int .i64 ((lay n).mp : Int), .int .i64 ((lay n).nd : Int), .int .i64 ((lay n).tb : Int), .int .i64 ((lay n).no : Int), .int .i64 ((lay n).da : Int), .slice (some ⟨gA, 0, none⟩) R.blk.length capA, .slice (some ⟨gB, 0, none⟩) R.ino.length capB, .slice (some ⟨Hc, 0, none⟩) 0 0] 73)) := by
  have a1 := rA.lt gA rfl
  have b1 := rB.lt gB rfl
  have c1 : Hc < X.heap.size := (Array.getElem?_eq_some_iff.1 rC).1
  have fs := F.size
  have zero : ∀ {v : Value} {m : Nat} {xs : List Value}, X.ownsRow w.heap.size 4 1 v m xs → X.ownsRow 0 4 1 v m xs := fun h => ⟨h.1, h.2.imp id (fun ⟨g, cap, cur, x1, _, x3⟩ => ⟨g, cap, cur, x1, Nat.zero_le _, x3⟩)⟩
  have rC' : X.ownsRow 0 3 1 (.slice (some ⟨Hc, 0, none⟩) 0 0) R.stg.length (intC R.stg) := by
    rw [hs]
    exact ⟨by simp [intC], .inr ⟨Hc, 0, #[], rfl, Nat.zero_le _, rC, Nat.le_refl _, by unfold maxLen; omega, by simp, by simp [intC]⟩⟩
  refine ⟨X.heap.size, _, _, _, he, ⟨Blk.new X 73 (ryC n ++ [.slice (some ⟨gA, 0, none⟩) R.blk.length capA, .slice (some ⟨gB, 0, none⟩) R.ino.length capB, .slice (some ⟨Hc, 0, none⟩) 0 0]), (zero rA).alloc _, (zero rB).alloc _, rC'.alloc _, ?_, ?_, ?_, ?_, ?_, ?_, lb, li⟩, fun k hk => ?_, F.alloc _⟩
  · intro e; simp [Value.ownBlock] at e; omega
  · intro e; simp [Value.ownBlock] at e; omega
  · intro e; simp [Value.ownBlock] at e; omega
  · intro k hk e; simp [Value.ownBlock] at hk e; omega
  · intro k hk e; simp [Value.ownBlock] at hk e; omega
  · intro k hk e; simp [Value.ownBlock] at hk e; omega
  · rcases hk with hk | hk | hk | hk
    · omega
    · simp [Value.ownBlock] at hk; omega
    · simp [Value.ownBlock] at hk; omega
    · simp [Value.ownBlock] at hk; omega

set_option maxRecDepth 100000 in
set_option maxHeartbeats 8000000 in
theorem rclone_ok {w : World} {rp n : Nat} {g1 c1 g2 c2 : Nat} {ad : Option Addr} {c3 : Nat} {R : Rs} (h : RRep w rp n (.slice (some ⟨g1, 0, none⟩) R.blk.length c1) (.slice (some ⟨g2, 0, none⟩) R.ino.length c2) (.slice ad 0 c3) R) (hb : 0 < R.blk.length ∧ R.blk.length ≤ 1024) (hi : 0 < R.ino.length ∧ R.ino.length ≤ 1024) (hs : R.stg = []) :
    Calls Tryz.prog 10 #[pv rp] w (RClo w n R) := by
  have d0 : w.cell? ⟨rp, 0, none⟩ = some (.int .i64 (n : Int)) := h.h.cell 0
  have d1 : w.cell? ⟨rp, 1, none⟩ = some (.int .i64 ((lay n).ll : Int)) := h.h.cell 1
  have d2 : w.cell? ⟨rp, 2, none⟩ = some (.int .i64 ((lay n).mp : Int)) := h.h.cell 2
  have d3 : w.cell? ⟨rp, 3, none⟩ = some (.int .i64 ((lay n).nd : Int)) := h.h.cell 3
  have d4 : w.cell? ⟨rp, 4, none⟩ = some (.int .i64 ((lay n).tb : Int)) := h.h.cell 4
  have d5 : w.cell? ⟨rp, 5, none⟩ = some (.int .i64 ((lay n).no : Int)) := h.h.cell 5
  have d6 : w.cell? ⟨rp, 6, none⟩ = some (.int .i64 ((lay n).da : Int)) := h.h.cell 6
  have c7 : w.cell? ⟨rp, 7, none⟩ = some (.slice (some ⟨g1, 0, none⟩) R.blk.length c1) := h.h.cell 7
  have c8 : w.cell? ⟨rp, 8, none⟩ = some (.slice (some ⟨g2, 0, none⟩) R.ino.length c2) := h.h.cell 8
  have c9 : w.cell? ⟨rp, 9, none⟩ = some (.slice ad 0 c3) := h.h.cell 9
  have HS : Hid (∀ w' : World, Nw w w' → w'.cell? ⟨rp, 0, none⟩ = some (.int .i64 (n : Int)) ∧ w'.cell? ⟨rp, 1, none⟩ = some (.int .i64 ((lay n).ll : Int)) ∧ w'.cell? ⟨rp, 2, none⟩ = some (.int .i64 ((lay n).mp : Int)) ∧ w'.cell? ⟨rp, 3, none⟩ = some (.int .i64 ((lay n).nd : Int)) ∧ w'.cell? ⟨rp, 4, none⟩ = some (.int .i64 ((lay n).tb : Int)) ∧ w'.cell? ⟨rp, 5, none⟩ = some (.int .i64 ((lay n).no : Int)) ∧ w'.cell? ⟨rp, 6, none⟩ = some (.int .i64 ((lay n).da : Int)) ∧ w'.cell? ⟨rp, 7, none⟩ = some (.slice (some ⟨g1, 0, none⟩) R.blk.length c1) ∧ w'.cell? ⟨rp, 8, none⟩ = some (.slice (some ⟨g2, 0, none⟩) R.ino.length c2) ∧ w'.cell? ⟨rp, 9, none⟩ = some (.slice ad 0 c3)) := fun W f => by
    have b := h.h.of_eq (f.block _ h.h.lt id)
    exact ⟨b.cell 0, b.cell 1, b.cell 2, b.cell 3, b.cell 4, b.cell 5, b.cell 6, b.cell 7, b.cell 8, b.cell 9⟩
  have HR1 : Hid (∀ W : World, Nw w W → ∀ k, (hk : k < R.blk.length) → W.cell? ⟨g1, k, none⟩ = some (.bool R.blk[k])) := fun W f k hk => by
    obtain ⟨g, cap, e, hc⟩ := row_form (h.nw f).b hb.1
    simp only [Value.slice.injEq, Option.some.injEq, Addr.mk.injEq, true_and, and_true] at e
    obtain ⟨rfl, rfl⟩ := e
    exact hc k hk
  have HR2 : Hid (∀ W : World, Nw w W → ∀ k, (hk : k < R.ino.length) → W.cell? ⟨g2, k, none⟩ = some (.bool R.ino[k])) := fun W f k hk => by
    obtain ⟨g, cap, e, hc⟩ := row_form (h.nw f).i hi.1
    simp only [Value.slice.injEq, Option.some.injEq, Addr.mk.injEq, true_and, and_true] at e
    obtain ⟨rfl, rfl⟩ := e
    exact hc k hk
  have Hb := hid hb
  have Hi := hid hi
  have HH := hid h
  clear h hb hi
  go_enter Tryz.func10, Tryz.ntmps10
  go_wp2_with fail
  go_region_held3 (fun w' => w'.cell? ⟨rp, 0, none⟩ = some (.int .i64 (n : Int)) ∧ w'.cell? ⟨rp, 1, none⟩ = some (.int .i64 ((lay n).ll : Int)) ∧ w'.cell? ⟨rp, 2, none⟩ = some (.int .i64 ((lay n).mp : Int)) ∧ w'.cell? ⟨rp, 3, none⟩ = some (.int .i64 ((lay n).nd : Int)) ∧ w'.cell? ⟨rp, 4, none⟩ = some (.int .i64 ((lay n).tb : Int)) ∧ w'.cell? ⟨rp, 5, none⟩ = some (.int .i64 ((lay n).no : Int)) ∧ w'.cell? ⟨rp, 6, none⟩ = some (.int .i64 ((lay n).da : Int)) ∧ w'.cell? ⟨rp, 7, none⟩ = some (.slice (some ⟨g1, 0, none⟩) R.blk.length c1) ∧ w'.cell? ⟨rp, 8, none⟩ = some (.slice (some ⟨g2, 0, none⟩) R.ino.length c2) ∧ w'.cell? ⟨rp, 9, none⟩ = some (.slice ad 0 c3))
    (first
      | exact ⟨d0, d1, d2, d3, d4, d5, d6, c7, c8, c9⟩
      | exact HS.out _ (by (first | exact (Fr.refl _ w) | exact (Fr.drew (Fr.refl _ w)) | exact (Fr.alloc (Fr.refl _ w) _) | exact (Fr.drew (Fr.alloc (Fr.refl _ w) _)) | exact (Fr.alloc (Fr.alloc (Fr.refl _ w) _) _) | exact (Fr.drew (Fr.alloc (Fr.alloc (Fr.refl _ w) _) _)) | exact (Fr.alloc (Fr.alloc (Fr.alloc (Fr.refl _ w) _) _) _) | exact (Fr.drew (Fr.alloc (Fr.alloc (Fr.alloc (Fr.refl _ w) _) _) _))))
      | exact HS.out _ (by (first | exact FA | exact (Fr.drew FA) | exact (Fr.alloc FA _) | exact (Fr.drew (Fr.alloc FA _)) | exact (Fr.alloc (Fr.alloc FA _) _) | exact (Fr.drew (Fr.alloc (Fr.alloc FA _) _))))
      | exact HS.out _ (by (first | exact FB | exact (Fr.drew FB) | exact (Fr.alloc FB _) | exact (Fr.drew (Fr.alloc FB _)) | exact (Fr.alloc (Fr.alloc FB _) _) | exact (Fr.drew (Fr.alloc (Fr.alloc FB _) _)))))
    (first
      | (refine step_appB (by rfl) _ _ (by rfl) w.heap.size _ (by rfl) (by show hp _ _ = _; repeat (first | rw [hp_dr] | rw [hp_al, if_pos (by first | omega | (simp; done) | (simp; omega))] | rw [hp_al, if_neg (by first | omega | (simp; done) | (simp; omega))] )) (by first | omega | (simp; done)) R.blk g1 c1 (by rfl) (by exact HR1.out _ (by (first | exact (Fr.refl _ w) | exact (Fr.drew (Fr.refl _ w)) | exact (Fr.alloc (Fr.refl _ w) _) | exact (Fr.drew (Fr.alloc (Fr.refl _ w) _)) | exact (Fr.alloc (Fr.alloc (Fr.refl _ w) _) _) | exact (Fr.drew (Fr.alloc (Fr.alloc (Fr.refl _ w) _) _)) | exact (Fr.alloc (Fr.alloc (Fr.alloc (Fr.refl _ w) _) _) _) | exact (Fr.drew (Fr.alloc (Fr.alloc (Fr.alloc (Fr.refl _ w) _) _) _))))) Hb.out.1 Hb.out.2 ?_
         intro gA capA wA hownA hgrowA hatA hltA
         have FA : Nw w wA := by (first | exact Fr.grown (Fr.refl _ w) hgrowA (fun k e => .inr (by cases e; first | omega | (simp; done))) | exact Fr.grown (Fr.drew (Fr.refl _ w)) hgrowA (fun k e => .inr (by cases e; first | omega | (simp; done))) | exact Fr.grown (Fr.alloc (Fr.refl _ w) _) hgrowA (fun k e => .inr (by cases e; first | omega | (simp; done))) | exact Fr.grown (Fr.drew (Fr.alloc (Fr.refl _ w) _)) hgrowA (fun k e => .inr (by cases e; first | omega | (simp; done))) | exact Fr.grown (Fr.alloc (Fr.alloc (Fr.refl _ w) _) _) hgrowA (fun k e => .inr (by cases e; first | omega | (simp; done))) | exact Fr.grown (Fr.drew (Fr.alloc (Fr.alloc (Fr.refl _ w) _) _)) hgrowA (fun k e => .inr (by cases e; first | omega | (simp; done))) | exact Fr.grown (Fr.alloc (Fr.alloc (Fr.alloc (Fr.refl _ w) _) _) _) hgrowA (fun k e => .inr (by cases e; first | omega | (simp; done))) | exact Fr.grown (Fr.drew (Fr.alloc (Fr.alloc (Fr.alloc (Fr.refl _ w) _) _) _)) hgrowA (fun k e => .inr (by cases e; first | omega | (simp; done))))
         have hsA := hgrowA.size
         try simp at hsA hatA)
      | (refine step_appB (by rfl) _ _ (by rfl) w.heap.size _ (by rfl) (by show hp _ _ = _; repeat (first | rw [hp_dr] | rw [hp_al, if_pos (by first | omega | (simp; done) | (simp; omega))] | rw [hp_al, if_neg (by first | omega | (simp; done) | (simp; omega))] | rw [hp_gr hgrowA (by first | omega | (simp; done) | (simp; omega)) (by first | omega | (simp; done) | (simp; omega))])) (by have := FA.size; first | omega | (simp; done) | (simp; omega)) R.ino g2 c2 (by rfl) (by exact HR2.out _ (by (first | exact FA | exact (Fr.drew FA) | exact (Fr.alloc FA _) | exact (Fr.drew (Fr.alloc FA _)) | exact (Fr.alloc (Fr.alloc FA _) _) | exact (Fr.drew (Fr.alloc (Fr.alloc FA _) _))))) Hi.out.1 Hi.out.2 ?_
         intro gB capB wB hownB hgrowB hatB hltB
         have FB : Nw w wB := by (first | exact Fr.grown FA hgrowB (fun k e => .inr (by cases e; have := FA.size; first | omega | (simp; omega))) | exact Fr.grown (Fr.drew FA) hgrowB (fun k e => .inr (by cases e; have := FA.size; first | omega | (simp; omega))) | exact Fr.grown (Fr.alloc FA _) hgrowB (fun k e => .inr (by cases e; have := FA.size; first | omega | (simp; omega))) | exact Fr.grown (Fr.drew (Fr.alloc FA _)) hgrowB (fun k e => .inr (by cases e; have := FA.size; first | omega | (simp; omega))) | exact Fr.grown (Fr.alloc (Fr.alloc FA _) _) hgrowB (fun k e => .inr (by cases e; have := FA.size; first | omega | (simp; omega))) | exact Fr.grown (Fr.drew (Fr.alloc (Fr.alloc FA _) _)) hgrowB (fun k e => .inr (by cases e; have := FA.size; first | omega | (simp; omega))))
         have hsB := hgrowB.size
         try simp at hsB hatB)
      | (refine step_app0 (by rfl) _ _ (by rfl) _ (by rfl) ad c3 (by rfl) ?_))
  all_goals
    have hsz := FA.size
    have HO : Hid (R.stg = [] ∧ R.blk.length = n - (lay n).da ∧ R.ino.length = (lay n).no) := ⟨hs, HH.out.lb, HH.out.li⟩
    go_wp2
    go_ret
    refine rclone_end (owns_of_eq hownA (fun k hk => ?_)) (by first | exact hownB | exact hownB.alloc _) ?_ (by first | omega | (simp; omega)) (by first | omega | (simp; omega)) (by first | omega | (simp; omega)) (by first | omega | (simp; omega)) (by first | exact FB | exact FB.alloc _) HO.out.1 HO.out.2.1 HO.out.2.2 _ (by first | rfl | simp)
    · have hk' : gA = k := by simpa [Value.ownBlock] using hk
      subst hk'
      show hp _ _ = hp wA _
      repeat (first | rw [hp_dr] | rw [hp_al, if_neg (by first | omega | (simp; done) | (simp; omega))] | rw [hp_gr hgrowB (by first | omega | (simp; done) | (simp; omega)) (by first | omega | (simp; done) | (simp; omega))])
    · show hp _ _ = _
      repeat (first | rw [hp_dr] | rw [hp_al, if_pos (by first | omega | (simp; done) | (simp; omega))] | rw [hp_al, if_neg (by first | omega | (simp; done) | (simp; omega))] | rw [hp_gr hgrowB (by first | omega | (simp; done) | (simp; omega)) (by first | omega | (simp; done) | (simp; omega))] | rw [hp_gr hgrowA (by first | omega | (simp; done) | (simp; omega)) (by first | omega | (simp; done) | (simp; omega))])

end Go.Proofs.YtehoiahgkbnjdaaGreat.Al
