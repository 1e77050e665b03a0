
/- Drop, Stage. -/
import Derived.Test.YtehoiahgkbnjdaaGreatLg
namespace Go.Proofs.YtehoiahgkbnjdaaGreat.Wl
open Go.RowKit Dk

theorem zeroS : secR (arrV zeros) = some (.lit (.string zeros), []) := secR_arr _ zeros_length
theorem key57 (k : Nat) (h : k < 1048576) : keyOf Tryz.prog 3 (.int .i64 (k : Int)) = some (.int .i64 (k : Int)) :=
  Maps.keyOf_int_mk Tryz.underlying3 (by simp [Lit.wf, IntKind.min, IntKind.max, IntKind.bits, IntKind.signed]; omega)
theorem look57 {w : World} {b : Nat} {m : SMap} (h : MpT w b m) (k : Nat) (hk : k < 1048576) : ∃ s : Sec, s.length = 128 ∧ (Instr.lookup 89 (.map (some b)) (.int .i64 (k : Int)) true).run Tryz.prog w = .ok (.tuple #[.agg (bs s).toArray, .bool (get m k).isSome]) w ∧ ∀ s', get m k = some s' → s = s' := by
  obtain ⟨v, ps, hr, hv⟩ := h.1.look_ok int_keyed3 Tryz.underlying89 (zero66 w) zeroS (key57 k hk)
  rw [has_encM] at hr
  obtain ⟨s, hl, rfl, he⟩ := secR_inv hv
  refine ⟨s, hl, hr, fun s' hs' => ?_⟩
  rw [atKey_encM, hs'] at he
  simpa using (congrArg Prod.fst he).symm
theorem upd57 {w : World} {b : Nat} {m : SMap} (h : MpT w b m) (k : Nat) (hk : k < 1048576) (s : Sec) (hs : s.length = 128) (hm : m.length < 1048576) : ∃ w', (Instr.mapUpdate 89 (.map (some b)) (.int .i64 (k : Int)) (.agg (bs s).toArray)).run Tryz.prog w = .ok () w' ∧ MpT w' b (ins k s m) ∧ w.grownBy w' (some b) := by
  obtain ⟨w', hr, ho, hg⟩ := h.1.update int_keyed3 Tryz.underlying89 (by unfold maxLen; omega) (key57 k hk) (secR_arr s hs)
  refine ⟨w', hr, ⟨?_, ins_srt k s m h.2.1, fun q hq => ?_⟩, hg⟩
  · rw [put_encM k s m h.2.1] at ho
    have := tight ho
    rwa [size_encM] at this
  · rcases ins_mem k s m q hq with rfl | hq
    · exact hs
    · exact h.2.2 q hq
theorem store66n {ops : Array Oper} {rest : List Oper} {op : Oper} {a : Act} {W : World} {c : Array Value} {Q : Exit → Act → World → Prop} (hgd : op.guard = none) (x y : Operand) (ho : op.op = .store 81 x y) (s : Sec) (hq : s.length = 128) (hc : c.size = 128)
    (hx : a.eval x = .pointer (some ⟨W.heap.size, 0, none⟩)) (hy : a.eval y = .agg (bs s).toArray) (h : wpList Tryz.prog ops Q rest (a.put op.dst undef) (W.alloc (.cells (bs s).toArray 81))) : wpList Tryz.prog ops Q (op :: rest) a (W.alloc (.cells c 81)) :=
  wpList_plain hgd fun K hK => by
    have hs : (Tryz.prog.info? 81).map (·.size) = some (bs s).toArray.size := by rw [size66]; simp [bs_length, hq]
    unfold Oper.wp execOp
    simp only [ho, hx, hy, run_storeAt_new W 81 c _ hs (by simp [bs_length, hq, hc]) (all_oneCell_toArray (bs_one s)), Sem.run_bind, Sem.run_pure, Result.andThen_ok]
    exact hK _ _ h
theorem zs66 : (bs zeros).toArray.size = 128 := by simp [bs_length, zeros_length]

def Lg.drop (L : Lg) : Lg := { L with st := [] }
def Lg.stageE (L : Lg) (i : Int) (len : Nat) : Int :=
  if L.reach i ≠ 0 then L.reach i else if len ≠ 128 then 44 else if (get L.st i.toNat).isSome = false ∧ L.n - 1 < cost (L.st.length + 1) then 45 else 0
def Lg.stage (L : Lg) (i : Int) (b : Sec) : Lg := if L.stageE i b.length = 0 then { L with st := ins i.toNat b L.st } else L

theorem reach_home {L : Lg} {i : Int} (h : L.reach i = 0) : ∃ k : Nat, i = k ∧ L.home k := by
  unfold Lg.reach at h
  split at h
  · cases h
  · split at h
    · rename_i hh
      simp [isHome] at hh
      exact ⟨i.toNat, by omega, by omega, by omega⟩
    · cases h

set_option maxRecDepth 100000 in
set_option maxHeartbeats 400000 in
theorem drop_any {G : Nat → Prop} {w : World} {l p bl bt : Nat} {D : Dsk} {L : Lg} (h : OwnL G w l p bl bt D L) :
    Calls Tryz.prog 25 #[pv l] w fun x w' => x = .returned (.tuple #[]) ∧ (∃ bt', OwnL G w' l p bl bt' D L.drop) ∧ Kp G w w' := by
  have c8 := h.r.hl.cell 8
  have z8 := h.r.hl.frozen 8
  have hlt := h.r.hl.lt
  unfold Lg.cells at c8
  have hmm := @run_makeMap Tryz.prog
  have H0 := hid h
  clear h
  go_enter Tryz.func25, Tryz.ntmps25
  go_wp2
  refine bodyPost_end (results_none rfl _ _ _) rfl ⟨rfl, ?_⟩
  have h := H0.out
  have hsz : ((w.setCell ⟨l, 8, none⟩ (.map (some w.heap.size))).alloc (.map #[] 0)).heap.size = w.heap.size + 1 := by simp [World.setCell]
  have he : ∀ k, k ≠ l → k < w.heap.size → ((w.setCell ⟨l, 8, none⟩ (.map (some w.heap.size))).alloc (.map #[] 0)).heap[k]? = w.heap[k]? := fun k hk hk2 =>
    (Below.heap_alloc _ _ k (by simpa [World.setCell] using hk2)).trans (Below.heap_setCell w _ _ k hk)
  refine ⟨⟨w.heap.size, ⟨⟨?_, ?_, ?_, h.r.lb, by omega, by have := h.r.ml.lt; omega, ?_⟩, ?_, fun k hk => ⟨(h.g k hk).1, (h.g k hk).2.1, by have := h.glt hk; omega⟩, h.n⟩⟩, ?_⟩
  · exact (h.r.hl.setCell 8 (.map (some w.heap.size))).alloc _
  · exact h.r.ml.of_eq (he bl (Ne.symm h.r.lb) h.r.ml.lt)
  · have := Mp.made (w.setCell ⟨l, 8, none⟩ (.map (some w.heap.size))) Tryz.prog 3
    have e : (w.setCell ⟨l, 8, none⟩ (.map (some w.heap.size))).heap.size = w.heap.size := by simp [World.setCell]
    rw [e] at this
    exact this
  · exact ⟨h.r.ok.n1, h.r.ok.n2, h.r.ok.fz, h.r.ok.z, h.r.ok.e, h.r.ok.u, h.r.ok.p, h.r.ok.lh, by simp [Lg.drop]⟩
  · obtain ⟨a1, a2, lv, r, f⟩ := h.d
    refine ⟨a1, a2, lv, r.of_same (fun k hk => he k (fun e => (f k (.inr (.inl e))).2 hk) (r.foot_lt k hk)), fun k hk => ?_⟩
    rw [hsz]
    rcases hk with hk | rfl | rfl | rfl
    · exact ⟨by have := (f k (.inl hk)).1; omega, (f k (.inl hk)).2⟩
    · exact ⟨by omega, (f k (.inr (.inl rfl))).2⟩
    · exact ⟨by have := (f k (.inr (.inr (.inl rfl)))).1; omega, (f k (.inr (.inr (.inl rfl)))).2⟩
    · exact ⟨by omega, fun hf => by have := r.foot_lt _ hf; omega⟩
  · exact ((Fr.refl _ w).setCell (.inl (fun hg => (h.g _ hg).1 rfl)) _).alloc _

theorem cell_fr {w w' : World} (f : Nw w w') {b o : Nat} (h : b < w.heap.size) : w'.cell? ⟨b, o, none⟩ = w.cell? ⟨b, o, none⟩ := by
  have := f.block b h (fun h => h)
  simp only [World.cell?, this]
theorem info5 : (Tryz.prog.info? 5).map (·.size) = some 1 := by kernel_rfl
/-- What was staged is turned. -/
theorem OwnL.turn {G : Nat → Prop} {w w' : World} {l p bl bt : Nat} {D : Dsk} {L : Lg} {m : SMap} (h : OwnL G w l p bl bt D L) (hm : MpT w' bt m) (hh : ∀ q ∈ m, L.home q.1) (hg : w.grownBy w' (some bt)) : OwnL G w' l p bl bt D { L with st := m } ∧ Kp G w w' := by
  have hb : ∀ k, k < w.heap.size → k ≠ bt → w'.heap[k]? = w.heap[k]? := fun k hk hn => hg.block k hk (fun e => hn (by simpa using e))
  refine ⟨⟨⟨h.r.hl.of_eq (hb l h.r.hl.lt h.r.lt), h.r.ml.of_eq (hb bl h.r.ml.lt h.r.bb), hm, h.r.lb, h.r.lt, h.r.bb, ⟨h.r.ok.n1, h.r.ok.n2, h.r.ok.fz, h.r.ok.z, h.r.ok.e, h.r.ok.u, h.r.ok.p, h.r.ok.lh, hh⟩⟩, ?_, h.g, h.n⟩, ?_⟩
  · exact own_same h.d hg.size (fun k hk hk2 => hb k hk2 (fun e => hk (.inr (.inr (.inr e)))))
  · exact (Fr.refl _ w).grown hg (fun k hk => .inl (fun hG => (h.g k hG).2.2 (by simpa using hk.symm)))
theorem stage_tail {G : Nat → Prop} {W : World} {l p bl bt : Nat} {D : Dsk} {L : Lg} (h : OwnL G W l p bl bt D L) (k : Nat) (hk : L.home k) (b : Sec) (hb : b.length = 128) (ab ao cap : Nat) (hr : W.rangeAt ab ao (bs b)) (hm : L.st.length < 90000) :
    ∃ Wb w3, (Builtin.copy_ #[49, 49] 3 #[.slice (some ⟨W.heap.size, 0, none⟩) 128 128, .slice (some ⟨ab, ao, none⟩) 128 cap]).run Tryz.prog (W.alloc (.cells (bs zeros).toArray 81)) = .ok (goInt 128) Wb ∧
      Wb.drew.cell? ⟨l, 8, none⟩ = some (.map (some bt)) ∧ Wb.drew.rangeAt W.heap.size 0 (bs b) ∧ (Instr.mapUpdate 89 (.map (some bt)) (.int .i64 (k : Int)) (.agg (bs b).toArray)).run Tryz.prog Wb.drew = .ok () w3 ∧
      OwnL G w3 l p bl bt D { L with st := ins k b L.st } ∧ Kp G W w3 ∧ w3.cell? ⟨l, 8, none⟩ = some (.map (some bt)) ∧ w3.rangeAt W.heap.size 0 (bs b) := by
  have B0 := Blk.new W 81 (bs zeros)
  have hlz : (bs zeros).length = 128 := by rw [bs_length, zeros_length]
  have ht := B0.there 0 128 (by omega)
  have hlb : (bs b).length = 128 := by rw [bs_length, hb]
  have hcp := run_copy_cells (P := Tryz.prog) (W.alloc (.cells (bs zeros).toArray 81)) 49 49 3 5 W.heap.size 0 128 128 ⟨ab, ao, none⟩ 128 cap (bs b) Tryz.underlying49 info5 (by rw [hlb]; rfl) (fun j v hv => by
    rw [Addr.add_mid]
    exact (World.rangeAt_alloc hr _) j v hv) (fun j hj => (ht j (by omega)).1) (fun j hj => (ht j (by omega)).2) (bs_one b)
  rw [hlb] at hcp
  have f1 : Nw W ((W.alloc (.cells (bs zeros).toArray 81)).setCells W.heap.size 0 (bs b)) := ((Fr.refl _ W).alloc _).setCells (.inr (Nat.le_refl _)) _ _
  have h1 := (h.nw f1).drew
  have hk' : k < 1048576 := by have := h.r.ok.z; have := hk.1; omega
  obtain ⟨w3, hu, hm3, hg3⟩ := upd57 h1.r.mt k hk' b hb (by omega)
  have B1 := (Blk.all B0 zeros_length hb).drew
  obtain ⟨o3, k3⟩ := h1.turn hm3 (fun q hq => by
    rcases ins_mem k b L.st q hq with rfl | hq
    · exact hk
    · exact h.r.ok.th q hq) hg3
  exact ⟨_, w3, hcp, by have := h1.r.hl.cell 8; simpa [Lg.cells] using this, B1.range 0 _ (by simp), hu, o3, Kp.trans (Kp.trans f1.kp (show Kp G _ _ from (Fr.refl _ _).drew)) k3, by have := o3.r.hl.cell 8; simpa [Lg.cells] using this, (B1.of_eq (hg3.block W.heap.size B1.lt (by have := h.r.mt.lt; simp; omega))).range 0 _ (by simp)⟩

set_option maxRecDepth 100000 in
set_option maxHeartbeats 4000000 in
theorem stage_any {G : Nat → Prop} {w : World} {l p bl bt : Nat} {D : Dsk} {L : Lg} (h : OwnL G w l p bl bt D L) (i : Int) (b : Sec) (ad : Option Addr) (cap : Nat) (hs : b.length = 128 → ∃ ab ao, ad = some ⟨ab, ao, none⟩ ∧ w.rangeAt ab ao (bs b) ∧ ab < w.heap.size) (hm : L.st.length < 90000) :
    Calls Tryz.prog 19 #[pv l, .int .i64 i, .slice ad b.length cap] w fun x w' => x = .returned (.int .i64 (L.stageE i b.length)) ∧ OwnL G w' l p bl bt D (L.stage i b) ∧ Kp G w w' := by
  have HR := hid (lreach_any h.r i)
  have H0 := hid h
  have hz := zero66
  by_cases hr : L.reach i = 0
  · obtain ⟨k, rfl, hk⟩ := reach_home hr
    rw [hr] at HR
    by_cases hb : b.length = 128
    · obtain ⟨ab, ao, rfl, hrg, hab⟩ := hs hb
      have hkz : k < 1048576 := by have := h.r.ok.z; have := hk.1; omega
      have HC := fun W => hid (cost_any W (L.st.length + 1) (by omega))
      have HM := hid hm
      have HK := hid hk
      have HRG := hid hrg
      have HB := hid hb
      have HAB := hid hab
      have hmw : IntKind.i64.wrap ((L.st.length : Int) + 1) = ((L.st.length + 1 : Nat) : Int) := by simp [IntKind.wrap, IntKind.bits, IntKind.signed]; omega
      have HEq : Hid (L.stageE (k : Int) b.length = if (get L.st k).isSome = false ∧ L.n - 1 < cost (L.st.length + 1) then 45 else 0) := by
        simp [Hid, Lg.stageE, hr, hb]
      clear hs hr hrg hab hk
      rw [hb]
      go_enter Tryz.func19, Tryz.ntmps19
      go_wp2_with fail
      refine HR.out.mono ?_
      rintro x w1 ⟨rfl, f1⟩
      have h1 := H0.out.nw f1
      obtain ⟨s0, hs0, hlk, _⟩ := look57 h1.r.mt k hkz
      have c8 := h1.r.hl.cell 8
      unfold Lg.cells at c8
      have HF1 := hid f1
      have H1 := hid h1
      have HS0 := hid hs0
      clear f1 h1 h hs0
      have HT : Hid (∀ W, Nw w W → ∃ Wb w3, (Builtin.copy_ #[49, 49] 3 #[.slice (some ⟨W.heap.size, 0, none⟩) 128 128, .slice (some ⟨ab, ao, none⟩) 128 cap]).run Tryz.prog (W.alloc (.cells (bs zeros).toArray 81)) = .ok (goInt 128) Wb ∧
          Wb.drew.cell? ⟨l, 8, none⟩ = some (.map (some bt)) ∧ Wb.drew.rangeAt W.heap.size 0 (bs b) ∧ (Instr.mapUpdate 89 (.map (some bt)) (.int .i64 (k : Int)) (.agg (bs b).toArray)).run Tryz.prog Wb.drew = .ok () w3 ∧
          OwnL G w3 l p bl bt D { L with st := ins k b L.st } ∧ Kp G w w3 ∧ w3.cell? ⟨l, 8, none⟩ = some (.map (some bt)) ∧ w3.rangeAt W.heap.size 0 (bs b)) := fun W f => by
        obtain ⟨Wb, w3, a1, a2, a3, a4, a5, a6, a7⟩ := stage_tail (H0.out.nw f) k HK.out b HB.out ab ao cap (fun j v hv => by
          have := HRG.out j v hv
          rw [cell_fr f HAB.out]
          exact this) HM.out
        exact ⟨Wb, w3, a1, a2, a3, a4, a5, Kp.trans f.kp a6, a7⟩
      have HF2 : Hid (Nw w (w1.alloc (.cells (bs s0).toArray 81))) := HF1.out.alloc _
      have hu66 := Tryz.underlying81
      have hl66 : (bs b).length = 128 := by rw [bs_length]; exact HB.out
      have hi66 : (Tryz.prog.info? 81).map (·.size) = some (bs b).length := by rw [size66, hl66]
      have H2 := hid (H1.out.alloc (.cells (bs s0).toArray 81))
      have HLn := hid (len57 H2.out.r.mt)
      have HLe := hid (len_any H2.out.r)
      have HCo := hid (cost_any (w1.alloc (.cells (bs s0).toArray 81)) (L.st.length + 1) (by have := HM.out; omega))
      have d8 : (w1.alloc (.cells (bs s0).toArray 81)).cell? ⟨l, 8, none⟩ = some (.map (some bt)) := by have := H2.out.r.hl.cell 8; simpa [Lg.cells] using this
      have HSt : Hid ((get L.st k).isSome = true ∨ ¬ L.n - 1 < cost (L.st.length + 1) → L.stageE (k : Int) 128 = 0 ∧ L.stage (k : Int) b = { L with st := ins k b L.st }) := fun hh => by
        have e : L.stageE (k : Int) b.length = 0 := by
          rw [HEq.out]
          rcases hh with h1 | h1 <;> simp [h1]
        exact ⟨by rw [HB.out] at e; exact e, by simp [Lg.stage, e]⟩
      have HSn : Hid ((get L.st k).isSome = false → L.n - 1 < cost (L.st.length + 1) → L.stageE (k : Int) 128 = 45 ∧ L.stage (k : Int) b = L) := fun h1 h2 => by
        have e : L.stageE (k : Int) b.length = 45 := by
          rw [HEq.out]
          simp [h1, h2]
        exact ⟨by rw [HB.out] at e; exact e, by simp [Lg.stage, e]⟩
      clear HEq
      generalize (get L.st k).isSome = q at *
      clear HR hmw HC
      cases q
      · by_cases hcm : L.n - 1 < cost (L.st.length + 1)
        · have HE := hid (HSn.out rfl hcm)
          have hg : ((L.n - 1 : Nat) : Int) < ((cost (L.st.length + 1) : Nat) : Int) := by omega
          have hln := HLn.out
          have hmw : IntKind.i64.wrap ((L.st.length : Int) + 1) = ((L.st.length + 1 : Nat) : Int) := by have := HM.out; simp [IntKind.wrap, IntKind.bits, IntKind.signed]; omega
          clear HSn HSt
          generalize cost (L.st.length + 1) = C at *
          go_wp2_with (first
            | (refine store66n (by rfl) _ _ (by rfl) s0 HS0.out zs66 (by rfl) (by rfl) ?_)
            | (go_at_call 55; refine HCo.out.mono ?_; rintro x w4 ⟨rfl, rfl⟩)
            | (go_at_call 56; refine HLe.out.mono ?_; rintro x w5 ⟨rfl, f5⟩; have HF5 := hid f5; clear f5))
          go_ret
          exact ⟨by rw [HE.out.1]; rfl, by rw [HE.out.2]; exact H2.out.nw HF5.out, (HF2.out.tr HF5.out).kp⟩
        · have HE := hid (HSt.out (.inr hcm))
          have hg : ¬ ((L.n - 1 : Nat) : Int) < ((cost (L.st.length + 1) : Nat) : Int) := by omega
          have hln := HLn.out
          have hmw : IntKind.i64.wrap ((L.st.length : Int) + 1) = ((L.st.length + 1 : Nat) : Int) := by have := HM.out; simp [IntKind.wrap, IntKind.bits, IntKind.signed]; omega
          clear HSn HSt
          generalize cost (L.st.length + 1) = C at *
          go_wp2_with (first
            | (refine store66n (by rfl) _ _ (by rfl) s0 HS0.out zs66 (by rfl) (by rfl) ?_)
            | (go_at_call 55; refine HCo.out.mono ?_; rintro x w4 ⟨rfl, rfl⟩)
            | (go_at_call 56; refine HLe.out.mono ?_; rintro x w5 ⟨rfl, f5⟩; have HF5 := hid (HF2.out.tr f5); clear f5; obtain ⟨Wb, w3, a1, a2, a3, a4, a5, a6, a7, a8⟩ := HT.out _ HF5.out; have HA5 := hid a5; have HA6 := hid a6; clear a5 a6))
          go_region_held3 (fun w' => w'.cell? ⟨l, 8, none⟩ = some (.map (some bt)) ∧ w'.rangeAt w5.heap.size 0 (bs b)) (first | exact ⟨a2, a3⟩ | exact ⟨a7, a8⟩) (fail)
          go_wp2
          go_ret
          exact ⟨by rw [HE.out.1]; rfl, by rw [HE.out.2]; exact HA5.out, HA6.out⟩
      · have HE := hid (HSt.out (.inl rfl))
        obtain ⟨Wb, w3, a1, a2, a3, a4, a5, a6, a7, a8⟩ := HT.out _ HF2.out
        rw [World.size_alloc] at a1 a3 a8
        have HA5 := hid a5
        have HA6 := hid a6
        clear a5 a6 HSn HSt
        go_wp2_with (first
          | (refine store66n (by rfl) _ _ (by rfl) s0 HS0.out zs66 (by rfl) (by rfl) ?_))
        go_region_held3 (fun w' => w'.cell? ⟨l, 8, none⟩ = some (.map (some bt)) ∧ w'.rangeAt (w1.heap.size + 1) 0 (bs b)) (first | exact ⟨a2, a3⟩ | exact ⟨a7, a8⟩) (fail)
        go_wp2
        go_ret
        exact ⟨by rw [HE.out.1]; rfl, by rw [HE.out.2]; exact HA5.out, HA6.out⟩
    · have HE : Hid (L.stageE (k : Int) b.length = 44) := by simp [Hid, Lg.stageE, hr, hb]
      have HL : Hid (L.stage (k : Int) b = L) := by simp [Hid, Lg.stage, HE.out]
      have hb' : ((b.length : Int) != 128) = true := by simp; omega
      clear h hs
      go_enter Tryz.func19, Tryz.ntmps19
      go_wp2_with fail
      refine HR.out.mono ?_
      rintro x w1 ⟨rfl, f1⟩
      have HF1 := hid f1
      clear f1
      go_wp2
      go_ret
      exact ⟨by rw [HE.out]; rfl, by rw [HL.out]; exact H0.out.nw HF1.out, HF1.out.kp⟩
  · have HE : Hid (L.stageE i b.length = L.reach i) := by simp [Hid, Lg.stageE, hr]
    have HL : Hid (L.stage i b = L) := by simp [Hid, Lg.stage, HE.out, hr]
    have hb : (L.reach i != 0) = true := by simpa using hr
    generalize L.reach i = r at *
    clear h hs
    go_enter Tryz.func19, Tryz.ntmps19
    go_wp2_with fail
    refine HR.out.mono ?_
    rintro x w1 ⟨rfl, f1⟩
    have HF1 := hid f1
    clear f1
    go_wp2
    go_ret
    exact ⟨by rw [HE.out]; rfl, by rw [HL.out]; exact H0.out.nw HF1.out, HF1.out.kp⟩

end Go.Proofs.YtehoiahgkbnjdaaGreat.Wl
