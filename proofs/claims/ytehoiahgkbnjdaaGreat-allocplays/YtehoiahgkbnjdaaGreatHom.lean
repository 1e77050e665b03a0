
/- Home. -/
import Derived.Test.YtehoiahgkbnjdaaGreatRise
namespace Go.Proofs.YtehoiahgkbnjdaaGreat.Wl
open Go.RowKit Dk

theorem keys_encM (m : SMap) : intKeys (encM m) = m.map (fun q => (q.1 : Int)) := by
  simp only [intKeys, encM, List.map_map]
  rfl
def keyC (m : SMap) : List Value := m.map fun q => .int .i64 (q.1 : Int)
/-- A slice of the homes of m, in a block that is known whole. -/
def Homes (w : World) (B : Nat) (ad : Option Addr) (m : SMap) : Prop := (m = [] ∧ ad = none) ∨ ∃ g Z, ad = some ⟨g, 0, none⟩ ∧ B ≤ g ∧ Blk w g 3 (keyC m ++ Z)
/-- Blocks that were not there at w are kept from here on. -/
theorem OwnL.new {G X : Nat → Prop} {w w1 : World} {l p bl bt : Nat} {D : Dsk} {L : Lg} (h : OwnL G w l p bl bt D L) (f : Nw w w1) (hX : ∀ k, X k → w.heap.size ≤ k ∧ k < w1.heap.size) : OwnL (fun k => G k ∨ X k) w1 l p bl bt D L := by
  have h1 := h.nw f
  refine ⟨h1.r, ?_, fun k hk => ?_, h.n⟩
  · obtain ⟨a, b, lv, r, g⟩ := h.d
    refine ⟨a, b, lv, r.of_same (fun k hk => f.block k (r.foot_lt k hk) (fun h => h)), fun k hk => ?_⟩
    rcases hk with (hk | hk) | hk
    · exact ⟨Nat.lt_of_lt_of_le (g k (.inl hk)).1 f.size, (g k (.inl hk)).2⟩
    · exact ⟨(hX k hk).2, fun hf => by have := r.foot_lt k hf; have := (hX k hk).1; omega⟩
    · exact ⟨Nat.lt_of_lt_of_le (g k (.inr hk)).1 f.size, (g k (.inr hk)).2⟩
  · rcases hk with hk | hk
    · exact h.g k hk
    · have := (hX k hk).1; have := h.r.hl.lt; have := h.r.ml.lt; have := h.r.mt.lt
      omega
theorem rising_any {w : World} {b : Nat} {m : SMap} (h : MpT w b m) (hm : m.length < 1048576) : Calls Tryz.prog 79 #[.map (some b)] w fun e w' => ∃ ad cap, e = .returned (.slice ad m.length cap) ∧ m.length ≤ cap ∧ Homes w' w.heap.size ad m ∧ Nw w w' := by
  refine (Tryz.Rising b m.length (encM m) secR w h.1 (by rw [size_encM]; unfold maxLen; omega) (by rw [size_encM]; omega)).mono ?_
  rintro e w' ⟨v, ss, rfl, hp, hr, _, hb⟩
  rw [keys_encM] at hp
  have hs : (m.map (fun q => (q.1 : Int))).Pairwise (fun x y => decide (x ≤ y) = true) := by
    rw [List.pairwise_map]
    exact h.2.1.imp (fun {a c} hac => by simp; omega)
  have e1 : ss.mergeSort (fun x y => decide (x ≤ y)) = m.map (fun q => (q.1 : Int)) := by
    refine List.Perm.eq_of_pairwise (le := fun a b => decide (a ≤ b) = true) (fun a b _ _ h1 h2 => by simp only [decide_eq_true_eq] at h1 h2; omega) (List.pairwise_mergeSort (fun a b c h1 h2 => by simp only [decide_eq_true_eq] at h1 h2 ⊢; omega) (fun a b => by simp; omega) ss) hs ((List.mergeSort_perm ss _).trans hp)
  have e2 : ss.length = m.length := by rw [hp.length_eq]; simp
  rw [e1, e2] at hr
  have hf : Nw w w' := by
    obtain ⟨a1, a2, a3, a4, a5⟩ := hb
    exact ⟨a1, a2, a3, a4, fun k hk _ => a5 k hk⟩
  obtain ⟨_, hr⟩ := hr
  rcases hr with ⟨h1, h2⟩ | ⟨g, cap, cur, hv, hg, hc, h1, h2, h3, h4⟩
  · obtain rfl := List.length_eq_zero_iff.1 h2
    exact ⟨none, 0, by rw [h1]; rfl, Nat.le_refl _, .inl ⟨rfl, rfl⟩, hf⟩
  · refine ⟨some ⟨g, 0, none⟩, cap, by rw [hv], h1, .inr ⟨g, cur.toList.drop m.length, rfl, hg, ?_⟩, hf⟩
    have e3 : keyC m ++ cur.toList.drop m.length = cur.toList := by
      rw [Nat.mul_one] at h4
      have e4 : keyC m = cur.toList.take m.length := by rw [h4, List.map_map]; rfl
      rw [e4, List.take_append_drop]
    unfold Blk
    rw [e3, Array.toArray_toList]
    exact hc

/-- The writes of m, in order, till one fails. -/
def wrs (D : Dsk) : SMap → Dsk × Int
  | [] => (D, 0)
  | q :: r => if D.writeE (q.1 : Int) 128 ≠ 0 then (D.write (q.1 : Int) q.2, D.writeE (q.1 : Int) 128) else wrs (D.write (q.1 : Int) q.2) r
theorem look57f {w : World} {b : Nat} {m : SMap} (h : MpT w b m) (k : Nat) (hk : k < 1048576) (s : Sec) (hs : get m k = some s) : (Instr.lookup 89 (.map (some b)) (.int .i64 (k : Int)) false).run Tryz.prog w = .ok (.agg (bs s).toArray) w := by
  obtain ⟨v, ps, hr, hv⟩ := h.1.lookup int_keyed3 Tryz.underlying89 (zero66 w) zeroS (key57 k hk)
  obtain ⟨s', hl, rfl, he⟩ := secR_inv hv
  rw [atKey_encM, hs] at he
  have : s = s' := by simpa using congrArg Prod.fst he
  subst this
  exact hr

def HomE (D : Dsk) (L : Lg) : Int := if (wrs D L.lg).2 ≠ 0 then (wrs D L.lg).2 else setE (wrs D L.lg).1 L.f (ctl ((L.e + 1) % 18446744073709551616) 0 beg)
def HomD (D : Dsk) (L : Lg) : Dsk := if (wrs D L.lg).2 ≠ 0 then (wrs D L.lg).1 else setD (wrs D L.lg).1 L.f (ctl ((L.e + 1) % 18446744073709551616) 0 beg)
def Lg.homed (L : Lg) : Lg := { L with e := (L.e + 1) % 18446744073709551616, u := 0, p := beg, lg := [] }
def HomL (D : Dsk) (L : Lg) : Lg := if HomE D L = 0 then L.homed else L
def HomPost (G : Nat → Prop) (w : World) (l p bt : Nat) (D : Dsk) (L : Lg) (x : Ending) (w' : World) : Prop :=
  x = .returned (.int .i64 (HomE D L)) ∧ (∃ bl', OwnL G w' l p bl' bt (HomD D L) (HomL D L)) ∧ Kp G w w'

theorem hom_err {D D' : Dsk} {L : Lg} {e : Int} (h : wrs D L.lg = (D', e)) (he : e ≠ 0) : HomE D L = e ∧ HomD D L = D' ∧ HomL D L = L := by
  have h1 : HomE D L = e := by simp [HomE, h, he]
  exact ⟨h1, by simp [HomD, h, he], by simp [HomL, h1, he]⟩
theorem hom_ok {D D' : Dsk} {L : Lg} (h : wrs D L.lg = (D', 0)) : HomE D L = setE D' L.f (ctl ((L.e + 1) % 18446744073709551616) 0 beg) ∧ HomD D L = setD D' L.f (ctl ((L.e + 1) % 18446744073709551616) 0 beg) := by
  simp [HomE, HomD, h]
/-- The log's map of what is logged is a new one. -/
theorem OwnL.fresh {G : Nat → Prop} {w : World} {l p bl bt : Nat} {D : Dsk} {L : Lg} (h : OwnL G w l p bl bt D L) : OwnL G ((w.setCell ⟨l, 7, none⟩ (.map (some w.heap.size))).alloc (.map #[] 0)) l p w.heap.size bt D { L with lg := [] } ∧ Kp G w ((w.setCell ⟨l, 7, none⟩ (.map (some w.heap.size))).alloc (.map #[] 0)) := by
  have hlt := h.r.hl.lt
  have hsz : ((w.setCell ⟨l, 7, none⟩ (.map (some w.heap.size))).alloc (.map #[] 0)).heap.size = w.heap.size + 1 := by simp [World.setCell]
  have he : ∀ k, k ≠ l → k < w.heap.size → ((w.setCell ⟨l, 7, none⟩ (.map (some w.heap.size))).alloc (.map #[] 0)).heap[k]? = w.heap[k]? := fun k hk hk2 =>
    (Below.heap_alloc _ _ k (by simpa [World.setCell] using hk2)).trans (Below.heap_setCell w _ _ k hk)
  refine ⟨⟨⟨?_, ?_, ?_, by omega, h.r.lt, by have := h.r.mt.lt; omega, ?_⟩, ?_, fun k hk => ⟨(h.g k hk).1, by have := h.glt hk; omega, (h.g k hk).2.2⟩, h.n⟩, ?_⟩
  · exact (h.r.hl.setCell 7 (.map (some w.heap.size))).alloc _
  · have := Mp.made (w.setCell ⟨l, 7, none⟩ (.map (some w.heap.size))) Tryz.prog 3
    have e : (w.setCell ⟨l, 7, none⟩ (.map (some w.heap.size))).heap.size = w.heap.size := by simp [World.setCell]
    rw [e] at this
    exact this
  · exact h.r.mt.of_eq (he bt (Ne.symm h.r.lt) h.r.mt.lt)
  · exact ⟨h.r.ok.n1, h.r.ok.n2, h.r.ok.fz, h.r.ok.z, h.r.ok.e, h.r.ok.u, h.r.ok.p, by simp, h.r.ok.th⟩
  · obtain ⟨a1, a2, lv, r, f⟩ := h.d
    refine ⟨a1, a2, lv, r.of_same (fun k hk => he k (fun e => (f k (.inr (.inl e))).2 hk) (r.foot_lt k hk)), fun k hk => ?_⟩
    rw [hsz]
    rcases hk with hk | rfl | rfl | rfl
    · exact ⟨by have := (f k (.inl hk)).1; omega, (f k (.inl hk)).2⟩
    · exact ⟨by omega, (f k (.inr (.inl rfl))).2⟩
    · exact ⟨by omega, fun hf => by have := r.foot_lt _ hf; omega⟩
    · exact ⟨by have := (f k (.inr (.inr (.inr rfl)))).1; omega, (f k (.inr (.inr (.inr rfl)))).2⟩
  · exact ((Fr.refl _ w).setCell (.inl (fun hg => (h.g _ hg).1 rfl)) _).alloc _
/-- In mid-way: the first k writes are done. -/
structure HomMid (G : Nat → Prop) (w wr : World) (l p bl bt : Nat) (D Dk : Dsk) (L : Lg) (ad : Option Addr) (k : Nat) : Prop where
  o : OwnL (fun j => G j ∨ ad = some ⟨j, 0, none⟩) wr l p bl bt Dk L
  kp : Kp G w wr
  sm : Sm Dk (L.lg.length - k + 5)
  eq : wrs D L.lg = wrs Dk (L.lg.drop k)
  hm : Homes wr 0 ad L.lg
theorem wrs_step {Dk : Dsk} {m : SMap} {k : Nat} (hk : k < m.length) : wrs Dk (m.drop k) = if Dk.writeE (m[k].1 : Int) 128 ≠ 0 then (Dk.write (m[k].1 : Int) m[k].2, Dk.writeE (m[k].1 : Int) 128) else wrs (Dk.write (m[k].1 : Int) m[k].2) (m.drop (k + 1)) := by
  rw [List.drop_eq_getElem_cons hk]
  rfl

set_option maxRecDepth 100000 in
set_option maxHeartbeats 4000000 in
theorem home_any {G : Nat → Prop} {w : World} {l p bl bt : Nat} {D : Dsk} {L : Lg} (h : OwnL G w l p bl bt D L) (hD : Sm D (L.lg.length + 5)) (hm : L.lg.length < 1048576) :
    Calls Tryz.prog 77 #[pv l] w (HomPost G w l p bt D L) := by
  have hz := zero66
  have c7 := h.r.hl.cell 7
  unfold Lg.cells at c7
  have HR := hid (rising_any h.r.ml hm)
  have H0 := hid h
  have HD := hid hD
  clear h hD
  go_enter Tryz.func77, Tryz.ntmps77
  go_wp2_with fail
  refine HR.out.mono ?_
  rintro x w1 ⟨ad, cap, rfl, hcap, hv, f1⟩
  have HM : Hid (HomMid G w w1 l p bl bt D D L ad 0) := by
    refine ⟨H0.out.new f1 (fun k hk => ?_), f1.kp, HD.out, by simp, ?_⟩
    · rcases hv with ⟨_, ha⟩ | ⟨g, Z, ha, hg, hb⟩
      · rw [ha] at hk; cases hk
      · rw [ha] at hk
        obtain rfl : g = k := by simpa using hk
        exact ⟨hg, hb.lt⟩
    · rcases hv with hv | ⟨g, Z, ha, _, hb⟩
      · exact .inl hv
      · exact .inr ⟨g, Z, ha, Nat.zero_le _, hb⟩
  clear HR f1 hv c7 H0 HD
  go_wp2_with fail
  go_loopw [14] (fun i wr => ∃ k Dk, k ≤ L.lg.length ∧ i = .int .i64 (k : Int) ∧ HomMid G w wr l p bl bt D Dk L ad k) (fun i _ => L.lg.length - (intOf i).toNat)
  case atStart => exact ⟨0, D, Nat.zero_le _, rfl, HM.out⟩
  case round =>
    obtain ⟨k, Dk, hk, rfl, hM⟩ := hrel
    have HMk := hid hM
    clear hM
    by_cases hlt : k < L.lg.length
    · have hk1 : (k : Int) < (L.lg.length : Int) := by omega
      have hk0 : (0 : Int) ≤ (k : Int) := Int.natCast_nonneg _
      obtain ⟨g, Z, rfl, hb⟩ : ∃ g Z, ad = some ⟨g, 0, none⟩ ∧ Blk wr g 3 (keyC L.lg ++ Z) := by
        rcases HMk.out.hm with ⟨h1, _⟩ | ⟨g, Z, h1, _, h2⟩
        · rw [h1] at hlt; simp at hlt
        · exact ⟨g, Z, h1, h2⟩
      have hcell : wr.cell? ⟨g, k, none⟩ = some (.int .i64 ((L.lg[k]).1 : Int)) := by
        rw [hb.cell, List.getElem?_append_left (by simpa [keyC] using hlt)]
        simp [keyC, hlt]
      have hqm : L.lg[k] ∈ L.lg := List.getElem_mem hlt
      have hhome := HMk.out.o.r.ok.lh _ hqm
      have hq2 : (L.lg[k]).2.length = 128 := HMk.out.o.r.ml.2.2 _ hqm
      have hlk := look57f HMk.out.o.r.ml (L.lg[k]).1 (by have := HMk.out.o.r.ok.z; have := hhome.1; omega) (L.lg[k]).2 (get_of_mem HMk.out.o.r.ml.2.1 hqm)
      have HST := hid (wrs_step (Dk := Dk) hlt)
      have HSm := hid (HMk.out.sm)
      have HB := hid hb
      have Hq2 := hid hq2
      have c7 : wr.cell? ⟨l, 7, none⟩ = some (.map (some bl)) := by simpa [Lg.cells] using HMk.out.o.r.hl.cell 7
      generalize hqq : L.lg[k] = q at *
      obtain ⟨qi, qs⟩ := q
      simp only at hcell hlk HST Hq2 hq2 hhome
      have HO2 := hid (HMk.out.o.more (.cells (bs qs).toArray 81))
      have HB6 := hid (Blk.new wr 81 (bs qs)).drew
      have HBg := hid (hb.alloc (.cells (bs qs).toArray 81)).drew
      have HK2 : Hid (Kp G w (wr.alloc (.cells (bs qs).toArray 81)).drew) := Kp.trans HMk.out.kp (show Kp G _ _ from ((Fr.refl _ wr).alloc _).drew)
      have HW := hid (HO2.out.drew.write (HSm.out.le (by omega)) (qi : Int) qs Hq2.out wr.heap.size 81 128 HB6.out (.inr rfl))
      have HS3 : Hid (Sm (Dk.write (qi : Int) qs) (L.lg.length - (k + 1) + 5)) := (HSm.out.le (by omega)).write _ _
      have Heq := hid HMk.out.eq
      have c0 : (wr.alloc (.cells (bs qs).toArray 81)).drew.cell? ⟨l, 0, none⟩ = some (pv p) := by simpa [Lg.cells] using HO2.out.drew.r.hl.cell 0
      clear hb hqm hhome hq2 HMk hqq HB HM
      rw [HST.out] at Heq
      clear HST
      generalize Dk.writeE (qi : Int) 128 = we at *
      generalize Dk.write (qi : Int) qs = D2 at *
      go_wp2_with (first | (refine store66n (by rfl) _ _ (by rfl) qs Hq2.out zs66 (by rfl) (by rfl) ?_))
      go_region_held3 (fun w' => w'.cell? ⟨l, 0, none⟩ = some (pv p))
        (first
          | exact c0
          | (show _ = _; simpa [Lg.cells] using o3.r.hl.cell 0))
        ((go_at_call 64; refine HW.out.mono ?_; rintro x w3 ⟨rfl, o3, k3⟩))
      have HK3 : Hid (Kp G w w3) := Kp.trans HK2.out (Kp.less k3 (fun _ hk => .inl (.inl hk)))
      have HB3 := hid (Kp.blk k3 HBg.out (.inl (.inr rfl)))
      have HO3 := hid (o3.less (G' := fun j => G j ∨ some (⟨g, 0, none⟩ : Addr) = some ⟨j, 0, none⟩) (fun _ hk => .inl hk))
      clear HW c0 c7 hlk hcell k3 o3 HO2 HBg HK2 HB6
      by_cases h2 : we = 0
      · subst h2
        go_wp2
        refine ⟨⟨k + 1, D2, by omega, by simp, ⟨HO3.out, HK3.out, HS3.out, by rw [Heq.out]; simp, .inr ⟨g, Z, rfl, Nat.zero_le _, HB3.out⟩⟩⟩, by simp [intOf]; omega⟩
      · have hb : (we != 0) = true := by simpa using h2
        have HE := hid (hom_err (L := L) (D := D) (D' := D2) (e := we) (by rw [Heq.out, if_pos h2]) h2)
        go_wp2
        go_ret
        refine ⟨by rw [HE.out.1]; rfl, ⟨bl, ?_⟩, HK3.out⟩
        rw [HE.out.2.1, HE.out.2.2]
        exact HO3.out.less (fun _ hk => .inl hk)
    · obtain rfl : k = L.lg.length := by omega
      have hk1 : ¬ (L.lg.length : Int) < (L.lg.length : Int) := by omega
      have HEq : Hid (wrs D L.lg = (Dk, 0)) := by
        unfold Hid
        rw [HMk.out.eq, List.drop_length]
        rfl
      have HE := hid (hom_ok HEq.out)
      have c4 : wr.cell? ⟨l, 4, none⟩ = some (.int .u64 (L.e : Int)) := by simpa [Lg.cells] using HMk.out.o.r.hl.cell 4
      have hwe : IntKind.u64.wrap ((L.e : Int) + 1) = (((L.e + 1) % 18446744073709551616 : Nat) : Int) := by simp [IntKind.wrap, IntKind.bits, IntKind.signed]
      have HEm := hid (emptied_any wr ((L.e + 1) % 18446744073709551616))
      have HO := hid (HMk.out.o.less (G' := G) (fun _ hk => .inl hk))
      have HK := hid HMk.out.kp
      have HSm := hid (HMk.out.sm)
      have HLt : Hid ((L.e + 1) % 18446744073709551616 < 18446744073709551616) := Nat.mod_lt _ (by omega)
      have HHm : Hid (L.homed = { (L.ctl ((L.e + 1) % 18446744073709551616) 0 beg) with lg := [] }) := rfl
      have hmm := @run_makeMap Tryz.prog
      clear HMk HM HEq
      generalize (L.e + 1) % 18446744073709551616 = e2 at *
      go_wp2_with fail
      refine HEm.out.mono ?_
      rintro x w2 ⟨rfl, f2⟩
      have HO2 := hid (HO.out.nw f2)
      have HK2 : Hid (Kp G w w2) := Kp.trans HK.out f2.kp
      have HSt := hid (settle_any HO2.out (HSm.out.le (by omega)) e2 0 beg (Nat.zero_le _) HLt.out beg_lt)
      clear HEm HO HK f2 c4 hwe
      go_wp2_with fail
      refine HSt.out.mono ?_
      rintro x w3 ⟨rfl, o3, k3⟩
      have HK3 : Hid (Kp G w w3) := Kp.trans HK2.out k3
      have HO3 := hid o3
      clear HSt k3 o3 HO2 HK2
      rw [← HE.out.1, ← HE.out.2] at HO3
      rw [← HE.out.1]
      have HL : Hid (HomL D L = if HomE D L = 0 then L.homed else L) := rfl
      have HPost : Hid (∀ x w', x = .returned (.int .i64 (HomE D L)) → (∃ bl', OwnL G w' l p bl' bt (HomD D L) (HomL D L)) → Kp G w w' → HomPost G w l p bt D L x w') := fun _ _ a b c => ⟨a, b, c⟩
      clear HE
      generalize HomE D L = E at *
      by_cases h3 : E = 0
      · subst h3
        have HO4 : Hid (OwnL G w3 l p bl bt (HomD D L) (L.ctl e2 0 beg)) := by have := HO3.out; rwa [if_pos rfl] at this
        have HO5 := hid HO4.out.fresh
        have c7 : w3.cell? ⟨l, 7, none⟩ = some (.map (some bl)) := by simpa [Lg.cells] using HO4.out.r.hl.cell 7
        have z7 := HO4.out.r.hl.frozen 7
        have hl3 := HO4.out.r.hl.lt
        clear HO3 HO4
        go_wp2
        go_ret
        refine HPost.out _ _ rfl ⟨w3.heap.size, ?_⟩ (Kp.trans HK3.out HO5.out.2)
        rw [HL.out, if_pos trivial, HHm.out]
        exact HO5.out.1
      · have hb : (E != 0) = true := by simpa using h3
        go_wp2
        go_ret
        refine HPost.out _ _ rfl ⟨bl, ?_⟩ HK3.out
        rw [HL.out, if_neg h3]
        have := HO3.out
        rwa [if_neg h3] at this

def HomeE (D : Dsk) (L : Lg) : Int := if L.dead then 40 else if L.u = 0 then 0 else HomE D L
def HomeD (D : Dsk) (L : Lg) : Dsk := if L.dead then D else if L.u = 0 then D else HomD D L
def HomeL (D : Dsk) (L : Lg) : Lg := if L.dead then L else if L.u = 0 then L else (HomL D L).noted (HomE D L)

end Go.Proofs.YtehoiahgkbnjdaaGreat.Wl
