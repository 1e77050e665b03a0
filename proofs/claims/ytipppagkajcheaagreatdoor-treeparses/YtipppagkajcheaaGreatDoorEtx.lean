/- The reader's entry over any bytes: some entry in memory of its own, or none. -/
import Derived.Test.YtipppagkajcheaaGreatDoorRda
namespace Go.Proofs.YtipppagkajcheaaGreatDoor.Tr
open Go.RowKit

/-- A reader somewhere in its bytes. -/
def Rx (B : Nat) (W : World) (rb N : Nat) : Prop := ∃ ad cap M, Rd B W rb ad cap M ∧ (ad = none → cap = 0) ∧ M.length ≤ N
theorem Rx.fr {B : Nat} {W W' : World} {rb N : Nat} (h : Rx B W rb N) (f : Fr (fun _ => False) W W') : Rx B W' rb N := by
  obtain ⟨ad, cap, M, h1, h2, h3⟩ := h
  exact ⟨ad, cap, M, h1.fr f, h2, h3⟩
/-- In mid-way through an entry, whatever stands there. -/
structure EMa (B : Nat) (w W : World) (rb N : Nat) : Prop where
  f : Fr (fun k => k = rb) w W
  eb : Blk W w.heap.size 36 [.string ⟨#[]⟩, .int .i64 0, .slice none 0 0]
  rd : Rx B W rb N
  er : Erc W
theorem EMa.post {w W W' : World} {B rb N : Nat} {M : List UInt8} {v : Value} {e : Ending} (h : EMa B w W rb N) (hr : rb < w.heap.size) (p : RxPost B W rb v M e W') (hM : M.length ≤ N) : e = .returned v ∧ EMa B w W' rb N := by
  obtain ⟨h1, g, ad', cap', hrd, hz⟩ := p
  obtain ⟨ad, cap, M0, h0, _, _⟩ := h.rd
  exact ⟨h1, h.f.trans g (fun _ h => .inl h), g.blk h.eb (by omega), ⟨ad', cap', M, hrd, hz, hM⟩, h.er.rd h0.blk g⟩
theorem EMa.fr {w W W' : World} {B rb N : Nat} (h : EMa B w W rb N) (f : Fr (fun _ => False) W W') : EMa B w W' rb N :=
  ⟨h.f.trans f (fun _ h => h.elim), f.blk h.eb (fun h => h), h.rd.fr f, h.er.fr f⟩
theorem EMa.until {w W : World} {B rb N : Nat} (h : EMa B w W rb N) (hr : rb < w.heap.size) (hN : N ≤ 140737488355328) (c : UInt8) :
    Calls Tryz.prog 41 #[.pointer (some ⟨rb, 0, none⟩), .string ⟨#[c]⟩] W fun e W' => ∃ (u : List UInt8) (ok : Bool), e = .returned (.tuple #[.string ⟨u.toArray⟩, .bool ok]) ∧ u.length ≤ N ∧ EMa B w W' rb N := by
  obtain ⟨ad, cap, M, h1, h2, h3⟩ := h.rd
  refine (until_any B W rb ad cap M c h1 h2 (by omega)).mono (fun e W' hh => ?_)
  obtain ⟨u, ok, M', p, hu, hM⟩ := hh
  obtain ⟨he, hm⟩ := h.post hr p (by omega)
  exact ⟨u, ok, he, by omega, hm⟩

def EtPost (B : Nat) (w : World) (rb N : Nat) (e : Ending) (w' : World) : Prop := ∃ (x : Ent) (ok : Bool) (da : Option Addr) (dc : Nat), e = .returned (.tuple #[entV x da dc, .bool ok]) ∧ (x.path.length ≤ N ∧ x.data.length ≤ 2048 ∧ 0 ≤ x.kind ∧ x.kind ≤ 3) ∧ w'.ownsRow w.heap.size 5 1 (.slice da x.data.length dc) x.data.length (bs x.data) ∧ Fr (fun k => k = rb) w w' ∧ Rx B w' rb N ∧ Erc w'
theorem et_none {B : Nat} {w w' : World} {rb N : Nat} (h : EMa B w w' rb N) : EtPost B w rb N (.returned (.tuple #[.agg #[.string ⟨#[]⟩, .int .i64 0, .slice none 0 0], .bool false])) w' :=
  ⟨⟨[], 0, []⟩, false, none, 0, rfl, ⟨Nat.zero_le _, Nat.zero_le _, by decide, by decide⟩, World.ownsRow_nil _ _ _ _, h.f, h.rd, h.er⟩

theorem EMa.zero {B : Nat} {w W : World} {rb N : Nat} (h : EMa B w W rb N) (hr : rb < w.heap.size) : EMa B w (((W.setCell ⟨w.heap.size, 0, none⟩ (.string ⟨#[]⟩)).setCell ⟨w.heap.size, 1, none⟩ (.int .i64 0)).setCell ⟨w.heap.size, 2, none⟩ (.slice none 0 0)) rb N := by
  have he : ∀ j, j ≠ w.heap.size → (((W.setCell ⟨w.heap.size, 0, none⟩ (.string ⟨#[]⟩)).setCell ⟨w.heap.size, 1, none⟩ (.int .i64 0)).setCell ⟨w.heap.size, 2, none⟩ (.slice none 0 0)).heap[j]? = W.heap[j]? := fun j hj => by
    rw [Below.heap_setCell _ _ _ j (by show j ≠ w.heap.size; exact hj), Below.heap_setCell _ _ _ j (by show j ≠ w.heap.size; exact hj), Below.heap_setCell _ _ _ j (by show j ≠ w.heap.size; exact hj)]
  refine ⟨((h.f.setCell (p := ⟨w.heap.size, 0, none⟩) (.inr (Nat.le_refl _)) _).setCell (p := ⟨w.heap.size, 1, none⟩) (.inr (Nat.le_refl _)) _).setCell (p := ⟨w.heap.size, 2, none⟩) (.inr (Nat.le_refl _)) _, ((h.eb.setCell 0 (.string ⟨#[]⟩)).setCell 1 (.int .i64 0)).setCell 2 (.slice none 0 0), ?_, fun g hg => ?_⟩
  · obtain ⟨ad, cap, M, h1, h2, h3⟩ := h.rd
    exact ⟨ad, cap, M, Rd.off (eb := w.heap.size) h1 he h.eb (by omega), h2, h3⟩
  · obtain ⟨ev, h1, h2⟩ := h.er g hg
    refine ⟨ev, ?_, h2⟩
    have hne : g ≠ w.heap.size := by
      rintro rfl
      have := h.eb.cell 0
      rw [h1] at this
      simp at this
      rcases h2 with rfl | ⟨_, _, rfl⟩ <;> cases this
    rw [World.cell?_of_block (w := W) (he g hne)]
    exact h1

set_option maxRecDepth 100000 in
set_option maxHeartbeats 4000000 in
theorem entry_any (B : Nat) (w : World) (rb N : Nat) (h : Rx B w rb N) (hN : N ≤ 140737488355328) (hE : Erc w) :
    Calls Tryz.prog 28 #[.pointer (some ⟨rb, 0, none⟩)] w (EtPost B w rb N) := by
  have hrb : rb < w.heap.size := by obtain ⟨_, _, _, h1, _, _⟩ := h; exact h1.blk.lt
  have HM0 : Hid (EMa B w (w.alloc (.cells #[.string ⟨#[]⟩, .int .i64 0, .slice none 0 0] 36)) rb N) :=
    ⟨(Fr.refl _ w).alloc _, Blk.new w 36 _, h.fr ((Fr.refl _ w).alloc _), hE.fr ((Fr.refl _ w).alloc _)⟩
  have HU := hid (fun (W : World) (c : UInt8) (hM : EMa B w W rb N) => hM.until hrb hN c)
  have HAt := hid (fun (W : World) (s : List UInt8) (hs : s.length ≤ N) (hW : Erc W) => atoi_all W s (by omega) hW)
  have HKd := hid (fun (W : World) (s : List UInt8) => (kindOf_any W s).mono (R' := fun e w' => ∃ k : Int, e = .returned (.int .i64 k) ∧ (0 ≤ k ∧ k ≤ 3) ∧ W = w') (fun e w' hh => ⟨_, hh.1, by split <;> (try split) <;> decide, hh.2.symm⟩))
  have HN := hid hN
  clear h hE
  go_enter Tryz.func28, Tryz.ntmps28
  go_wp2_with (go_at_call 41; refine (HU.out _ 32 HM0.out).mono ?_; rintro e w1 ⟨u1, ok1, rfl, hu1, hM1⟩; have HM1 := hid hM1; have HU1 := hid hu1; clear hM1 hu1; refine Hid.out ?_)
  refine hid ?_
  clear HM0
  go_wp2_with (go_at_call 41; refine (HU.out _ 32 HM1.out).mono ?_; rintro e w2 ⟨u2, ok2, rfl, hu2, hM2⟩; have HM2 := hid hM2; have HU2 := hid hu2; clear hM2 hu2; refine Hid.out ?_)
  refine hid ?_
  clear HM1
  go_wp2_with (first
    | (go_at_call 41; refine (HU.out _ 10 HM2.out).mono ?_; rintro e w3 ⟨u3, ok3, rfl, hu3, hM3⟩; have HM3 := hid hM3; have HU3 := hid hu3; clear hM3 hu3)
    | (go_at_call 42; refine (HAt.out _ _ HU3.out HM3.out.er).mono ?_; rintro e w4 ⟨n, ev, rfl, hev, f4⟩; have HM4 := hid (HM3.out.fr f4); have HEv := hid hev; clear f4 hev; refine Hid.out ?_))
  refine hid ?_
  clear HM2 HM3 HAt HU HU1 HU3
  have HNo := hid (HM4.out.zero hrb)
  have z0 := HM4.out.eb.cell 0
  have z1 := HM4.out.eb.cell 1
  have z2 := HM4.out.eb.cell 2
  have y0 := HM4.out.eb.frozen 0
  have y1 := HM4.out.eb.frozen 1
  have y2 := HM4.out.eb.frozen 2
  simp only [List.getElem?_cons_zero, List.getElem?_cons_succ] at z0 z1 z2
  cases ok1 with
  | false =>
    go_wp2_with fail
    exact bodyPost_ret (resultsE rfl rfl rfl HNo.out.eb) rfl ⟨⟨[], 0, []⟩, false, none, 0, rfl, ⟨Nat.zero_le _, Nat.zero_le _, by decide, by decide⟩, World.ownsRow_nil _ _ _ _, HNo.out.f, HNo.out.rd, HNo.out.er⟩
  | true =>
  cases ok2 with
  | false =>
    go_wp2_with fail
    exact bodyPost_ret (resultsE rfl rfl rfl HNo.out.eb) rfl ⟨⟨[], 0, []⟩, false, none, 0, rfl, ⟨Nat.zero_le _, Nat.zero_le _, by decide, by decide⟩, World.ownsRow_nil _ _ _ _, HNo.out.f, HNo.out.rd, HNo.out.er⟩
  | true =>
  cases ok3 with
  | false =>
    go_wp2_with fail
    exact bodyPost_ret (resultsE rfl rfl rfl HNo.out.eb) rfl ⟨⟨[], 0, []⟩, false, none, 0, rfl, ⟨Nat.zero_le _, Nat.zero_le _, by decide, by decide⟩, World.ownsRow_nil _ _ _ _, HNo.out.f, HNo.out.rd, HNo.out.er⟩
  | true =>
  rcases HEv.out with rfl | ⟨NN, rfl⟩
  case inr =>
    clear HEv
    go_wp2_with fail
    exact bodyPost_ret (resultsE rfl rfl rfl HNo.out.eb) rfl ⟨⟨[], 0, []⟩, false, none, 0, rfl, ⟨Nat.zero_le _, Nat.zero_le _, by decide, by decide⟩, World.ownsRow_nil _ _ _ _, HNo.out.f, HNo.out.rd, HNo.out.er⟩
  clear HEv
  by_cases hn0 : n < 0
  · go_wp2_with fail
    exact bodyPost_ret (resultsE rfl rfl rfl HNo.out.eb) rfl ⟨⟨[], 0, []⟩, false, none, 0, rfl, ⟨Nat.zero_le _, Nat.zero_le _, by decide, by decide⟩, World.ownsRow_nil _ _ _ _, HNo.out.f, HNo.out.rd, HNo.out.er⟩
  by_cases hn1 : 2048 < n
  · go_wp2_with fail
    exact bodyPost_ret (resultsE rfl rfl rfl HNo.out.eb) rfl ⟨⟨[], 0, []⟩, false, none, 0, rfl, ⟨Nat.zero_le _, Nat.zero_le _, by decide, by decide⟩, World.ownsRow_nil _ _ _ _, HNo.out.f, HNo.out.rd, HNo.out.er⟩
  obtain ⟨d, rfl⟩ : ∃ d : Nat, n = d := ⟨n.toNat, by omega⟩
  obtain ⟨ad4, cap4, M, hr4, hz4, hM4⟩ := HM4.out.rd
  have c4 := hr4.blk.cell 0
  have y4 := hr4.blk.frozen 0
  simp only [List.getElem?_cons_zero] at c4
  by_cases hn2 : ((M.length : Nat) : Int) < (d : Int)
  · clear hr4
    go_wp2_with fail
    exact bodyPost_ret (resultsE rfl rfl rfl HNo.out.eb) rfl ⟨⟨[], 0, []⟩, false, none, 0, rfl, ⟨Nat.zero_le _, Nat.zero_le _, by decide, by decide⟩, World.ownsRow_nil _ _ _ _, HNo.out.f, HNo.out.rd, HNo.out.er⟩
  have hcp4 := hr4.cap
  have hd2 : (d : Int) ≤ ((cap4 : Nat) : Int) := by omega
  have hd0 : (0 : Int) ≤ (d : Int) := Int.natCast_nonneg _
  have hd1 : (d : Int) ≤ ((M.length : Nat) : Int) := by omega
  have hdl : (M.take d).length = d := by rw [List.length_take]; omega
  have hdr : (M.drop d).length = M.length - d := List.length_drop
  have HCl := hid (clone_any w4 ad4 (M.take d) cap4 (hr4.src.take' d) (by omega))
  rw [hdl] at HCl
  have HDl := hid hdl
  have HF4 := hid HM4.out.f
  have HB4 := hid HM4.out.eb
  have HE4 := hid HM4.out.er
  have hrb4 : rb < w4.heap.size := hr4.blk.lt
  have hsz4 : w.heap.size < w4.heap.size := HB4.out.lt
  have HR4 := hid hr4
  have hM4' := hM4
  clear hdl HNo HM4 z0 z1 z2 y0 y1 y2 hr4
  by_cases hca : cap4 = d
  · obtain rfl : d = M.length := by omega
    subst hca
    have HS' : Hid (Src w4 ad4 []) := fun h => absurd rfl h
    have HLo' := hid HR4.out.low
    have HZ' : Hid (ad4 = none → 0 = 0) := fun _ => rfl
    have HSub : Hid (M.length - M.length = 0) := Nat.sub_self _
    have HL' : Hid (([] : List UInt8).length ≤ N) := Nat.zero_le _
    have HC' : Hid (([] : List UInt8).length ≤ 0) := Nat.le_refl _
    generalize hdt : M.take M.length = data at *
    clear hdt
    have HPs := hid (fun (W : World) (h : Rd B W rb ad4 (0) ([])) => pass_any B W rb _ _ ([]) 10 [] h HZ'.out)
    go_wp2_with (first
      | (go_at_call 43; refine HCl.out.mono ?_; rintro e w5 ⟨v5, rfl, ho5, f5⟩; obtain ⟨va5, vc5, rfl⟩ := own_len ho5; have hb5 := f5.blk HR4.out.blk (fun h => h); have c5 := hb5.cell 0; have fz5 := hb5.frozen 0; simp only [List.getElem?_cons_zero] at c5; have HR6 : Hid (Rd B (w5.setCell ⟨rb, 0, none⟩ (.slice ad4 (0) (0))) rb ad4 (0) ([])) := ⟨(hb5.setCell 0 (.slice ad4 0 0)), HC'.out, Rd.keep (HR4.out.fr f5) (fr_set rb (Fr.refl _ _) _) (HS'.out.fr f5), HLo'.out⟩; have HE6 := hid ((HE4.out.fr f5).rd hb5 (fr_set rb (Fr.refl _ w5) (.slice ad4 (0) (0)))); have O5 := hid ho5; have F5 := hid f5; clear ho5 f5 hb5)
      | (go_at_call 44; refine (HKd.out _ _).mono ?_; rintro e w6 ⟨kd, rfl, hkd, rfl⟩; have HKk := hid hkd; clear hkd)
      | (go_at_call 27; refine (HPs.out _ HR6.out).mono ?_; rintro e w7 ⟨ok7, M7, ⟨rfl, g7, ad7, cap7, hr7, hz7⟩, hM7, hx7⟩; clear hx7; have HR7 := hid hr7; have HZ7 := hid hz7; have HM7 := hid hM7; have G7 := hid g7; have HE7 := hid (HE6.out.rd HR6.out.blk g7); have hb7 := g7.blk ((F5.out.blk HB4.out (fun h => h)).setCell_ne (by show w.heap.size ≠ rb; omega) (.slice ad4 (0) (0))) (by omega); have z0 := hb7.cell 0; have z1 := hb7.cell 1; have z2 := hb7.cell 2; have zf0 := hb7.frozen 0; have zf1 := hb7.frozen 1; have zf2 := hb7.frozen 2; simp only [List.getElem?_cons_zero, List.getElem?_cons_succ] at z0 z1 z2; have HB7 := hid hb7; clear hr7 hz7 hM7 g7 hb7; refine Hid.out ?_))
    refine hid ?_
    have HRb := hid (((HB7.out.setCell 0 (.string ⟨u2.toArray⟩)).setCell 1 (.int .i64 kd)).setCell 2 (.slice va5 M.length vc5))
    have hbo : ∀ k, (Value.slice va5 M.length vc5).ownBlock = some k → w4.heap.size ≤ k ∧ k < w5.heap.size := fun k hk => O5.out.lt k hk
    have he8 : ∀ j, j ≠ w.heap.size → (((w7.setCell ⟨w.heap.size, 0, none⟩ (.string ⟨u2.toArray⟩)).setCell ⟨w.heap.size, 1, none⟩ (.int .i64 kd)).setCell ⟨w.heap.size, 2, none⟩ (.slice va5 M.length vc5)).heap[j]? = w7.heap[j]? := fun j hj => by rw [Below.heap_setCell _ _ _ j (by show j ≠ w.heap.size; exact hj), Below.heap_setCell _ _ _ j (by show j ≠ w.heap.size; exact hj), Below.heap_setCell _ _ _ j (by show j ≠ w.heap.size; exact hj)]
    have HO8 : Hid ((((w7.setCell ⟨w.heap.size, 0, none⟩ (.string ⟨u2.toArray⟩)).setCell ⟨w.heap.size, 1, none⟩ (.int .i64 kd)).setCell ⟨w.heap.size, 2, none⟩ (.slice va5 M.length vc5)).ownsRow w.heap.size 5 1 (.slice va5 M.length vc5) M.length (bs data)) := by
      refine owns_of_eq (owns_base O5.out (by omega)) (fun k hk => ?_)
      obtain ⟨k1, k2⟩ := hbo k hk
      rw [he8 k (by omega)]
      have hg := G7.out.block k (Nat.lt_of_lt_of_le k2 (fr_set rb (Fr.refl _ w5) (.slice ad4 (0) (0))).size) (by omega)
      rw [hg, Below.heap_setCell _ _ _ k (by show k ≠ rb; omega)]
    have HF8 : Hid (Fr (fun k => k = rb) w (((w7.setCell ⟨w.heap.size, 0, none⟩ (.string ⟨u2.toArray⟩)).setCell ⟨w.heap.size, 1, none⟩ (.int .i64 kd)).setCell ⟨w.heap.size, 2, none⟩ (.slice va5 M.length vc5))) :=
      (((((HF4.out.trans (fr_set rb F5.out (.slice ad4 (0) (0))) (fun _ h => .inl h)).trans G7.out (fun _ h => .inl h)).setCell (p := ⟨w.heap.size, 0, none⟩) (.inr (Nat.le_refl _)) _).setCell (p := ⟨w.heap.size, 1, none⟩) (.inr (Nat.le_refl _)) _).setCell (p := ⟨w.heap.size, 2, none⟩) (.inr (Nat.le_refl _)) _)
    have HR8 : Hid (Rx B (((w7.setCell ⟨w.heap.size, 0, none⟩ (.string ⟨u2.toArray⟩)).setCell ⟨w.heap.size, 1, none⟩ (.int .i64 kd)).setCell ⟨w.heap.size, 2, none⟩ (.slice va5 M.length vc5)) rb N) :=
      ⟨ad7, cap7, M7, Rd.off (eb := w.heap.size) HR7.out he8 HB7.out (by omega), HZ7.out, Nat.le_trans HM7.out HL'.out⟩
    have HE8 : Hid (Erc (((w7.setCell ⟨w.heap.size, 0, none⟩ (.string ⟨u2.toArray⟩)).setCell ⟨w.heap.size, 1, none⟩ (.int .i64 kd)).setCell ⟨w.heap.size, 2, none⟩ (.slice va5 M.length vc5))) := fun g hg => by
      obtain ⟨ev, h1, h2⟩ := HE7.out g hg
      refine ⟨ev, ?_, h2⟩
      have hne : g ≠ w.heap.size := by
        rintro rfl
        have := HB7.out.cell 0
        rw [h1] at this
        simp at this
        rcases h2 with rfl | ⟨_, _, rfl⟩ <;> cases this
      rw [World.cell?_of_block (w := w7) (he8 g hne)]
      exact h1
    clear HR7 G7 HB7 O5 F5 hbo HR6 HF4 HB4 HR4 HCl HPs he8 HE7 HE6 HE4
    go_wp2_with fail
    refine bodyPost_ret (resultsE rfl rfl rfl HRb.out) rfl ⟨⟨u2, kd, data⟩, ok7, va5, vc5, ?_, ⟨HU2.out, ?_, HKk.out.1, HKk.out.2⟩, ?_, HF8.out, HR8.out, HE8.out⟩
    · show _ = Ending.returned (.tuple #[.agg #[.string ⟨u2.toArray⟩, .int .i64 kd, .slice va5 data.length vc5], .bool ok7])
      rw [HDl.out]; rfl
    · show data.length ≤ 2048
      rw [HDl.out]; omega
    · show World.ownsRow _ _ _ _ (.slice va5 data.length vc5) data.length _
      rw [HDl.out]; exact HO8.out
  · have hax : ∃ ax, ad4 = some ax := by
      cases ad4 with
      | none => have := hz4 rfl; omega
      | some ax => exact ⟨ax, rfl⟩
    obtain ⟨ax, rfl⟩ := hax
    have HLx : Hid (ax.block < B) := HR4.out.low ax rfl
    have HL' : Hid ((M.drop d).length ≤ N) := by unfold Hid; omega
    have HC' : Hid ((M.drop d).length ≤ cap4 - d) := by unfold Hid; omega
    by_cases hMe : M = []
    · have hd00 : d = 0 := by rw [hMe] at hd1; simp at hd1; omega
      subst hd00 hMe
      have HS' : Hid (Src w4 (some (ax.add 0)) []) := fun h => absurd rfl h
      have HLo' : Hid (∀ a, some (ax.add 0) = some a → a.block < B) := fun a ha => by cases ha; exact HLx.out
      have HZ' : Hid (some (ax.add 0) = none → cap4 = 0) := fun h => by cases h
      generalize hdt : ([] : List UInt8).take 0 = data at *
      clear hdt
      have HPs := hid (fun (W : World) (h : Rd B W rb (some (ax.add 0)) (cap4) ([])) => pass_any B W rb _ _ ([]) 10 [] h HZ'.out)
      go_wp2_with (first
        | (go_at_call 43; refine HCl.out.mono ?_; rintro e w5 ⟨v5, rfl, ho5, f5⟩; obtain ⟨va5, vc5, rfl⟩ := own_len ho5; have hb5 := f5.blk HR4.out.blk (fun h => h); have c5 := hb5.cell 0; have fz5 := hb5.frozen 0; simp only [List.getElem?_cons_zero] at c5; have HR6 : Hid (Rd B (w5.setCell ⟨rb, 0, none⟩ (.slice (some (ax.add 0)) (0) (cap4))) rb (some (ax.add 0)) (cap4) ([])) := ⟨(hb5.setCell 0 (.slice (some (ax.add 0)) 0 cap4)), HC'.out, Rd.keep (HR4.out.fr f5) (fr_set rb (Fr.refl _ _) _) (HS'.out.fr f5), HLo'.out⟩; have HE6 := hid ((HE4.out.fr f5).rd hb5 (fr_set rb (Fr.refl _ w5) (.slice (some (ax.add 0)) (0) (cap4)))); have O5 := hid ho5; have F5 := hid f5; clear ho5 f5 hb5)
        | (go_at_call 44; refine (HKd.out _ _).mono ?_; rintro e w6 ⟨kd, rfl, hkd, rfl⟩; have HKk := hid hkd; clear hkd)
        | (go_at_call 27; refine (HPs.out _ HR6.out).mono ?_; rintro e w7 ⟨ok7, M7, ⟨rfl, g7, ad7, cap7, hr7, hz7⟩, hM7, hx7⟩; clear hx7; have HR7 := hid hr7; have HZ7 := hid hz7; have HM7 := hid hM7; have G7 := hid g7; have HE7 := hid (HE6.out.rd HR6.out.blk g7); have hb7 := g7.blk ((F5.out.blk HB4.out (fun h => h)).setCell_ne (by show w.heap.size ≠ rb; omega) (.slice (some (ax.add 0)) (0) (cap4))) (by omega); have z0 := hb7.cell 0; have z1 := hb7.cell 1; have z2 := hb7.cell 2; have zf0 := hb7.frozen 0; have zf1 := hb7.frozen 1; have zf2 := hb7.frozen 2; simp only [List.getElem?_cons_zero, List.getElem?_cons_succ] at z0 z1 z2; have HB7 := hid hb7; clear hr7 hz7 hM7 g7 hb7; refine Hid.out ?_))
      refine hid ?_
      have HRb := hid (((HB7.out.setCell 0 (.string ⟨u2.toArray⟩)).setCell 1 (.int .i64 kd)).setCell 2 (.slice va5 0 vc5))
      have hbo : ∀ k, (Value.slice va5 0 vc5).ownBlock = some k → w4.heap.size ≤ k ∧ k < w5.heap.size := fun k hk => O5.out.lt k hk
      have he8 : ∀ j, j ≠ w.heap.size → (((w7.setCell ⟨w.heap.size, 0, none⟩ (.string ⟨u2.toArray⟩)).setCell ⟨w.heap.size, 1, none⟩ (.int .i64 kd)).setCell ⟨w.heap.size, 2, none⟩ (.slice va5 0 vc5)).heap[j]? = w7.heap[j]? := fun j hj => by rw [Below.heap_setCell _ _ _ j (by show j ≠ w.heap.size; exact hj), Below.heap_setCell _ _ _ j (by show j ≠ w.heap.size; exact hj), Below.heap_setCell _ _ _ j (by show j ≠ w.heap.size; exact hj)]
      have HO8 : Hid ((((w7.setCell ⟨w.heap.size, 0, none⟩ (.string ⟨u2.toArray⟩)).setCell ⟨w.heap.size, 1, none⟩ (.int .i64 kd)).setCell ⟨w.heap.size, 2, none⟩ (.slice va5 0 vc5)).ownsRow w.heap.size 5 1 (.slice va5 0 vc5) 0 (bs data)) := by
        refine owns_of_eq (owns_base O5.out (by omega)) (fun k hk => ?_)
        obtain ⟨k1, k2⟩ := hbo k hk
        rw [he8 k (by omega)]
        have hg := G7.out.block k (Nat.lt_of_lt_of_le k2 (fr_set rb (Fr.refl _ w5) (.slice (some (ax.add 0)) (0) (cap4))).size) (by omega)
        rw [hg, Below.heap_setCell _ _ _ k (by show k ≠ rb; omega)]
      have HF8 : Hid (Fr (fun k => k = rb) w (((w7.setCell ⟨w.heap.size, 0, none⟩ (.string ⟨u2.toArray⟩)).setCell ⟨w.heap.size, 1, none⟩ (.int .i64 kd)).setCell ⟨w.heap.size, 2, none⟩ (.slice va5 0 vc5))) :=
        (((((HF4.out.trans (fr_set rb F5.out (.slice (some (ax.add 0)) (0) (cap4))) (fun _ h => .inl h)).trans G7.out (fun _ h => .inl h)).setCell (p := ⟨w.heap.size, 0, none⟩) (.inr (Nat.le_refl _)) _).setCell (p := ⟨w.heap.size, 1, none⟩) (.inr (Nat.le_refl _)) _).setCell (p := ⟨w.heap.size, 2, none⟩) (.inr (Nat.le_refl _)) _)
      have HR8 : Hid (Rx B (((w7.setCell ⟨w.heap.size, 0, none⟩ (.string ⟨u2.toArray⟩)).setCell ⟨w.heap.size, 1, none⟩ (.int .i64 kd)).setCell ⟨w.heap.size, 2, none⟩ (.slice va5 0 vc5)) rb N) :=
        ⟨ad7, cap7, M7, Rd.off (eb := w.heap.size) HR7.out he8 HB7.out (by omega), HZ7.out, Nat.le_trans HM7.out HL'.out⟩
      have HE8 : Hid (Erc (((w7.setCell ⟨w.heap.size, 0, none⟩ (.string ⟨u2.toArray⟩)).setCell ⟨w.heap.size, 1, none⟩ (.int .i64 kd)).setCell ⟨w.heap.size, 2, none⟩ (.slice va5 0 vc5))) := fun g hg => by
        obtain ⟨ev, h1, h2⟩ := HE7.out g hg
        refine ⟨ev, ?_, h2⟩
        have hne : g ≠ w.heap.size := by
          rintro rfl
          have := HB7.out.cell 0
          rw [h1] at this
          simp at this
          rcases h2 with rfl | ⟨_, _, rfl⟩ <;> cases this
        rw [World.cell?_of_block (w := w7) (he8 g hne)]
        exact h1
      clear HR7 G7 HB7 O5 F5 hbo HR6 HF4 HB4 HR4 HCl HPs he8 HE7 HE6 HE4
      go_wp2_with fail
      refine bodyPost_ret (resultsE rfl rfl rfl HRb.out) rfl ⟨⟨u2, kd, data⟩, ok7, va5, vc5, ?_, ⟨HU2.out, ?_, HKk.out.1, HKk.out.2⟩, ?_, HF8.out, HR8.out, HE8.out⟩
      · show _ = Ending.returned (.tuple #[.agg #[.string ⟨u2.toArray⟩, .int .i64 kd, .slice va5 data.length vc5], .bool ok7])
        rw [HDl.out]; rfl
      · show data.length ≤ 2048
        rw [HDl.out]; omega
      · show World.ownsRow _ _ _ _ (.slice va5 data.length vc5) data.length _
        rw [HDl.out]; exact HO8.out
    · obtain ⟨bb, bo, e, hne4, hlt4⟩ := HR4.out.ne HR4.out.src hMe
      cases e
      have HS' : Hid (Src w4 (some ⟨bb, bo + d, none⟩) (M.drop d)) := HR4.out.src.drop' d
      have HLo' : Hid (∀ a, some (⟨bb, bo + d, none⟩ : Addr) = some a → a.block < B) := fun a ha => by cases ha; exact HLx.out
      have HZ' : Hid (some (⟨bb, bo + d, none⟩ : Addr) = none → cap4 - d = 0) := fun h => by cases h
      generalize hdt : M.take d = data at *
      have HLr := hid hdr
      clear hdt hdr
      generalize hMd : M.drop d = R at *
      clear hMd
      have HPs := hid (fun (W : World) (h : Rd B W rb (some ⟨bb, bo + d, none⟩) (cap4 - d) (R)) => pass_any B W rb _ _ (R) 10 [] h HZ'.out)
      go_wp2_with (first
        | (go_at_call 43; refine HCl.out.mono ?_; rintro e w5 ⟨v5, rfl, ho5, f5⟩; obtain ⟨va5, vc5, rfl⟩ := own_len ho5; have hb5 := f5.blk HR4.out.blk (fun h => h); have c5 := hb5.cell 0; have fz5 := hb5.frozen 0; simp only [List.getElem?_cons_zero] at c5; have HR6 : Hid (Rd B (w5.setCell ⟨rb, 0, none⟩ (.slice (some ⟨bb, bo + d, none⟩) (M.length - d) (cap4 - d))) rb (some ⟨bb, bo + d, none⟩) (cap4 - d) (R)) := ⟨(by have h := hb5.setCell 0 (.slice (some ⟨bb, bo + d, none⟩) (M.length - d) (cap4 - d)); rw [HLr.out]; exact h), HC'.out, Rd.keep (HR4.out.fr f5) (fr_set rb (Fr.refl _ _) _) (HS'.out.fr f5), HLo'.out⟩; have HE6 := hid ((HE4.out.fr f5).rd hb5 (fr_set rb (Fr.refl _ w5) (.slice (some ⟨bb, bo + d, none⟩) (M.length - d) (cap4 - d)))); have O5 := hid ho5; have F5 := hid f5; clear ho5 f5 hb5)
        | (go_at_call 44; refine (HKd.out _ _).mono ?_; rintro e w6 ⟨kd, rfl, hkd, rfl⟩; have HKk := hid hkd; clear hkd)
        | (go_at_call 27; refine (HPs.out _ HR6.out).mono ?_; rintro e w7 ⟨ok7, M7, ⟨rfl, g7, ad7, cap7, hr7, hz7⟩, hM7, hx7⟩; clear hx7; have HR7 := hid hr7; have HZ7 := hid hz7; have HM7 := hid hM7; have G7 := hid g7; have HE7 := hid (HE6.out.rd HR6.out.blk g7); have hb7 := g7.blk ((F5.out.blk HB4.out (fun h => h)).setCell_ne (by show w.heap.size ≠ rb; omega) (.slice (some ⟨bb, bo + d, none⟩) (M.length - d) (cap4 - d))) (by omega); have z0 := hb7.cell 0; have z1 := hb7.cell 1; have z2 := hb7.cell 2; have zf0 := hb7.frozen 0; have zf1 := hb7.frozen 1; have zf2 := hb7.frozen 2; simp only [List.getElem?_cons_zero, List.getElem?_cons_succ] at z0 z1 z2; have HB7 := hid hb7; clear hr7 hz7 hM7 g7 hb7; refine Hid.out ?_))
      refine hid ?_
      have HRb := hid (((HB7.out.setCell 0 (.string ⟨u2.toArray⟩)).setCell 1 (.int .i64 kd)).setCell 2 (.slice va5 d vc5))
      have hbo : ∀ k, (Value.slice va5 d vc5).ownBlock = some k → w4.heap.size ≤ k ∧ k < w5.heap.size := fun k hk => O5.out.lt k hk
      have he8 : ∀ j, j ≠ w.heap.size → (((w7.setCell ⟨w.heap.size, 0, none⟩ (.string ⟨u2.toArray⟩)).setCell ⟨w.heap.size, 1, none⟩ (.int .i64 kd)).setCell ⟨w.heap.size, 2, none⟩ (.slice va5 d vc5)).heap[j]? = w7.heap[j]? := fun j hj => by rw [Below.heap_setCell _ _ _ j (by show j ≠ w.heap.size; exact hj), Below.heap_setCell _ _ _ j (by show j ≠ w.heap.size; exact hj), Below.heap_setCell _ _ _ j (by show j ≠ w.heap.size; exact hj)]
      have HO8 : Hid ((((w7.setCell ⟨w.heap.size, 0, none⟩ (.string ⟨u2.toArray⟩)).setCell ⟨w.heap.size, 1, none⟩ (.int .i64 kd)).setCell ⟨w.heap.size, 2, none⟩ (.slice va5 d vc5)).ownsRow w.heap.size 5 1 (.slice va5 d vc5) d (bs data)) := by
        refine owns_of_eq (owns_base O5.out (by omega)) (fun k hk => ?_)
        obtain ⟨k1, k2⟩ := hbo k hk
        rw [he8 k (by omega)]
        have hg := G7.out.block k (Nat.lt_of_lt_of_le k2 (fr_set rb (Fr.refl _ w5) (.slice (some ⟨bb, bo + d, none⟩) (M.length - d) (cap4 - d))).size) (by omega)
        rw [hg, Below.heap_setCell _ _ _ k (by show k ≠ rb; omega)]
      have HF8 : Hid (Fr (fun k => k = rb) w (((w7.setCell ⟨w.heap.size, 0, none⟩ (.string ⟨u2.toArray⟩)).setCell ⟨w.heap.size, 1, none⟩ (.int .i64 kd)).setCell ⟨w.heap.size, 2, none⟩ (.slice va5 d vc5))) :=
        (((((HF4.out.trans (fr_set rb F5.out (.slice (some ⟨bb, bo + d, none⟩) (M.length - d) (cap4 - d))) (fun _ h => .inl h)).trans G7.out (fun _ h => .inl h)).setCell (p := ⟨w.heap.size, 0, none⟩) (.inr (Nat.le_refl _)) _).setCell (p := ⟨w.heap.size, 1, none⟩) (.inr (Nat.le_refl _)) _).setCell (p := ⟨w.heap.size, 2, none⟩) (.inr (Nat.le_refl _)) _)
      have HR8 : Hid (Rx B (((w7.setCell ⟨w.heap.size, 0, none⟩ (.string ⟨u2.toArray⟩)).setCell ⟨w.heap.size, 1, none⟩ (.int .i64 kd)).setCell ⟨w.heap.size, 2, none⟩ (.slice va5 d vc5)) rb N) :=
        ⟨ad7, cap7, M7, Rd.off (eb := w.heap.size) HR7.out he8 HB7.out (by omega), HZ7.out, Nat.le_trans HM7.out HL'.out⟩
      have HE8 : Hid (Erc (((w7.setCell ⟨w.heap.size, 0, none⟩ (.string ⟨u2.toArray⟩)).setCell ⟨w.heap.size, 1, none⟩ (.int .i64 kd)).setCell ⟨w.heap.size, 2, none⟩ (.slice va5 d vc5))) := fun g hg => by
        obtain ⟨ev, h1, h2⟩ := HE7.out g hg
        refine ⟨ev, ?_, h2⟩
        have hne : g ≠ w.heap.size := by
          rintro rfl
          have := HB7.out.cell 0
          rw [h1] at this
          simp at this
          rcases h2 with rfl | ⟨_, _, rfl⟩ <;> cases this
        rw [World.cell?_of_block (w := w7) (he8 g hne)]
        exact h1
      clear HR7 G7 HB7 O5 F5 hbo HR6 HF4 HB4 HR4 HCl HPs he8 HE7 HE6 HE4
      go_wp2_with fail
      refine bodyPost_ret (resultsE rfl rfl rfl HRb.out) rfl ⟨⟨u2, kd, data⟩, ok7, va5, vc5, ?_, ⟨HU2.out, ?_, HKk.out.1, HKk.out.2⟩, ?_, HF8.out, HR8.out, HE8.out⟩
      · show _ = Ending.returned (.tuple #[.agg #[.string ⟨u2.toArray⟩, .int .i64 kd, .slice va5 data.length vc5], .bool ok7])
        rw [HDl.out]; rfl
      · show data.length ≤ 2048
        rw [HDl.out]; omega
      · show World.ownsRow _ _ _ _ (.slice va5 data.length vc5) data.length _
        rw [HDl.out]; exact HO8.out

end Go.Proofs.YtipppagkajcheaaGreatDoor.Tr
