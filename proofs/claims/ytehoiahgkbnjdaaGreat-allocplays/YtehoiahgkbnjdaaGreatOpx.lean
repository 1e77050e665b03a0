
/- Open of a log in use. -/
import Derived.Test.YtehoiahgkbnjdaaGreatLd
namespace Go.Proofs.YtehoiahgkbnjdaaGreat.Wl
open Go.RowKit Dk

theorem OkRow.to {L L' : Lg} {m : SMap} (h : OkRow L m) (h1 : L'.f = L.f) (h2 : L'.n = L.n) (h3 : L'.z = L.z) : OkRow L' m :=
  ⟨h.ne, h.le, h.srt, fun q hq => by have := h.home q hq; unfold Lg.home at this ⊢; rw [h1, h2, h3]; exact this, h.sec⟩
def Lg.at (f n z e u q : Nat) : Lg := { f := f, n := n, z := z, e := e, u := u, p := q, lg := [], st := [], dead := false }
def OpenNo (G : Nat → Prop) (w : World) (p : Nat) (D : Dsk) (E : Int) (x : Ending) (w' : World) : Prop := x = .returned (.tuple #[.pointer none, .int .i64 E]) ∧ Dk.Own G w' p D ∧ Kp G w w'
def OpenTold (G : Nat → Prop) (w : World) (p : Nat) (D : Dsk) (L : Lg) (E : Int) (x : Ending) (w' : World) : Prop :=
  (E = 0 ∧ OpenPost G w p D L x w') ∨ (E ≠ 0 ∧ OpenNo G w p D E x w')

set_option maxRecDepth 100000 in
set_option maxHeartbeats 4000000 in
theorem Open_ctl {G : Nat → Prop} {w : World} {p : Nat} {D : Dsk} (h : Dk.Own G w p D) (f n e u q : Nat) (hup : D.up = true) (hmb : mayBe (f : Int) (n : Int) (D.n : Int) = true) (he : e < 18446744073709551616) (hu : u ≤ n - 1) (hq : q < 18446744073709551616) (hc : sec D.N f = ctl e u q)
    (L' : Lg) (E : Int) (hE : ((placesOf D f u).foldl upd beg ≠ q ∧ E = 46 ∧ L' = Lg.at f n D.n e u q) ∨ ((placesOf D f u).foldl upd beg = q ∧ E = 0 ∧ ∃ ms, placesOf D f u = flat ms ∧ (∀ m ∈ ms, OkRow (Lg.new f n D.n 0) m) ∧ L' = { Lg.at f n D.n e u q with lg := ms.foldl merge [] })) :
    Calls Tryz.prog 13 #[pv p, .int .i64 (f : Int), .int .i64 (n : Int)] w (OpenTold G w p D L' E) := by
  have hmb' := hmb
  simp only [mayBe, Bool.and_eq_true, decide_eq_true_eq] at hmb'
  have hn1 : 4 ≤ n ∧ n ≤ 255 ∧ f + n ≤ D.n := by omega
  have HOk : Hid ((Lg.at f n D.n e u q).Ok) := ⟨hn1.1, hn1.2.1, hn1.2.2, h.ok.n2, he, hu, hq, by simp [Lg.at], by simp [Lg.at]⟩
  have hz := zero66
  have hmm := @run_makeMap Tryz.prog
  have HL := hid (own_size h)
  have HF1 : Hid (Nw w (w.alloc (.cells #[.int .i64 (f : Int), .int .i64 (n : Int), .int .i64 (D.n : Int)] 79))) := (Fr.refl _ w).alloc _
  have HM := hid (mayBe_any (w.alloc (.cells #[.int .i64 (f : Int), .int .i64 (n : Int), .int .i64 (D.n : Int)] 79)) (f : Int) (n : Int) D.n h.ok.n2)
  rw [hmb] at HM
  have HB8 := hid (Blk.new w 79 [.int .i64 (f : Int), .int .i64 (n : Int), .int .i64 (D.n : Int)])
  have H0 := hid h
  have HRd := hid (fun W (fW : Nw w W) => readSector_ok (own_nw h fW) f hup (by omega))
  rw [hc] at HRd
  have HCt := hid (fun W => controlOf_any W (ctl e u q) (ctl_length e u q))
  have HCp : Hid (∀ W x w', CtlPost (ctl e u q) W x w' → x = .returned (.tuple #[cV e u q, .bool true]) ∧ Nw W w') := fun W x w' hp => by
    obtain ⟨hx, hf⟩ := hp
    rw [isCtl_ctl e u q he (by omega) hq, if_pos rfl, ctlE_ctl e u q he, ctlU_ctl e u q (by omega), ctlP_ctl e u q hq] at hx
    exact ⟨hx, hf⟩
  have Hlen := hid (ctl_length e u q)
  have HRm := hid (fun W => room_any W f n D.n (by omega) hn1.2.1)
  have Hn1 := hid hn1
  unfold rgV at HM HRm
  unfold cV at HCp
  generalize ctl e u q = s at *
  have HE := hid hE
  have HUp := hid hup
  clear h hmb hmb' hc hn1 hE
  go_enter Tryz.func13, Tryz.ntmps13
  go_wp2_with fail
  refine HL.out.mono ?_
  rintro x w1 ⟨rfl, rfl⟩
  clear HL
  go_wp2_with fail
  refine HM.out.mono ?_
  rintro x w2 ⟨rfl, f2⟩
  have HF2 := hid (Nw.tr HF1.out f2)
  have HB82 := hid (Fr.blk f2 HB8.out id)
  clear HM HF1 HB8 f2
  go_wp2_with fail
  refine (HRd.out w2 HF2.out).mono ?_
  rintro x w3 ⟨rfl, f3⟩
  have HF3 := hid ((Nw.tr HF2.out f3).alloc (.cells (bs s).toArray 81))
  have HB83 := hid ((Fr.blk f3 HB82.out id).alloc (.cells (bs s).toArray 81))
  have HB9 := hid (Blk.new w3 81 (bs s))
  clear HRd HF2 HB82 f3
  unfold arrV at HCt ⊢
  go_wp2_with (first
    | (refine store66n (by rfl) _ _ (by rfl) s Hlen.out zs66 (by rfl) (by rfl) ?_)
    | (refine wpList_load_mid (by rfl) 81 _ (by rfl) w3.heap.size 0 (by rfl) (bs s) _ (HB9.out.range 0 _ (by simp)) Tryz.underlying81 rfl (by rw [size66, bs_length, Hlen.out]) ?_))
  refine (HCt.out _).mono ?_
  intro x w4 hpost
  obtain ⟨rfl, f4⟩ := HCp.out _ _ _ hpost
  have HF4 := hid (Nw.tr HF3.out f4)
  have HB84 := hid (Fr.blk f4 HB83.out id)
  clear HCt HCp hpost f4 HF3 HB83 HB9
  go_wp2_with fail
  have hB85 := (HB84.out.alloc (.cells #[.int .u64 (e : Int), .int .i64 (u : Int), .int .u64 (q : Int)] 86)).drew
  have hB11 := (Blk.new w4 86 [.int .u64 (e : Int), .int .i64 (u : Int), .int .u64 (q : Int)]).drew
  have a0 : (w4.alloc (.cells #[.int .u64 (e : Int), .int .i64 (u : Int), .int .u64 (q : Int)] 86)).drew.cell? ⟨w1.heap.size, 0, none⟩ = some (.int .i64 (f : Int)) := hB85.cell 0
  have a1 : (w4.alloc (.cells #[.int .u64 (e : Int), .int .i64 (u : Int), .int .u64 (q : Int)] 86)).drew.cell? ⟨w1.heap.size, 1, none⟩ = some (.int .i64 (n : Int)) := hB85.cell 1
  have a2 : (w4.alloc (.cells #[.int .u64 (e : Int), .int .i64 (u : Int), .int .u64 (q : Int)] 86)).drew.cell? ⟨w1.heap.size, 2, none⟩ = some (.int .i64 (D.n : Int)) := hB85.cell 2
  have a3 : (w4.alloc (.cells #[.int .u64 (e : Int), .int .i64 (u : Int), .int .u64 (q : Int)] 86)).drew.cell? ⟨w4.heap.size, 1, none⟩ = some (.int .i64 (u : Int)) := hB11.cell 1
  have HR := hid (HRm.out (w4.alloc (.cells #[.int .u64 (e : Int), .int .i64 (u : Int), .int .u64 (q : Int)] 86)).drew)
  have HF5 : Hid (Nw w1 (w4.alloc (.cells #[.int .u64 (e : Int), .int .i64 (u : Int), .int .u64 (q : Int)] 86)).drew) := (HF4.out.alloc _).drew
  have HB85 := hid hB85
  have HB11 := hid hB11
  have HHold : Hid (∀ w5, Nw (w4.alloc (.cells #[.int .u64 (e : Int), .int .i64 (u : Int), .int .u64 (q : Int)] 86)).drew w5 → w5.cell? ⟨w1.heap.size, 0, none⟩ = some (.int .i64 (f : Int)) ∧ w5.cell? ⟨w1.heap.size, 1, none⟩ = some (.int .i64 (n : Int)) ∧ w5.cell? ⟨w1.heap.size, 2, none⟩ = some (.int .i64 (D.n : Int)) ∧ w5.cell? ⟨w4.heap.size, 1, none⟩ = some (.int .i64 (u : Int))) := fun w5 f5 => ⟨(Fr.blk f5 hB85 id).cell 0, (Fr.blk f5 hB85 id).cell 1, (Fr.blk f5 hB85 id).cell 2, (Fr.blk f5 hB11 id).cell 1⟩
  have hnn : ¬ ((n - 1 : Nat) : Int) < (u : Int) := by omega
  clear HRm HB84 HF4 hB85 hB11
  go_region_held3 (fun w' => w'.cell? ⟨w1.heap.size, 0, none⟩ = some (.int .i64 (f : Int)) ∧ w'.cell? ⟨w1.heap.size, 1, none⟩ = some (.int .i64 (n : Int)) ∧ w'.cell? ⟨w1.heap.size, 2, none⟩ = some (.int .i64 (D.n : Int)) ∧ w'.cell? ⟨w4.heap.size, 1, none⟩ = some (.int .i64 (u : Int)))
    (first
      | exact ⟨a0, a1, a2, a3⟩
      | exact HHold.out _ f5)
    ((go_at_call 44; refine HR.out.mono ?_; rintro x w5 ⟨rfl, f5⟩))
  have HB86 := Fr.blk f5 HB85.out id
  have HB12 := Fr.blk f5 HB11.out id
  have HF6 := hid (Nw.tr HF5.out f5)
  have d0 := HB86.cell 0
  have d1 := HB86.cell 1
  have d2 := HB86.cell 2
  have g0 := HB12.cell 0
  have g1 := HB12.cell 1
  have g2 := HB12.cell 2
  simp only [List.getElem?_cons_zero, List.getElem?_cons_succ] at d0 d1 d2 g0 g1 g2
  have HO6 := hid (own_log (own_nw H0.out HF6.out) HOk.out (by rfl) rfl rfl)
  have HLd := hid (load_any HO6.out HUp.out (placesOf D f u) rfl L' E (by
    rcases HE.out with ⟨a1, a2, a3⟩ | ⟨a1, a2, ms, a3, a4, a5⟩
    · exact .inl ⟨a1, a2, a3⟩
    · exact .inr ⟨a1, a2, ms, a3, fun m hm => (a4 m hm).to rfl rfl rfl, a5, by simp [Lg.at]⟩))
  have HK6 : Hid (Kp G w1 (((w5.alloc (.map #[] 0)).alloc (.map #[] 0)).alloc (.cells ((Lg.at f n D.n e u q).cells p w5.heap.size (w5.heap.size + 1)).toArray 91))) := (show Nw w1 _ from ((HF6.out.alloc _).alloc _).alloc _).kp
  have Hsz : Hid (w1.heap.size ≤ w5.heap.size) := HF6.out.size
  have Hcells : Hid (((Lg.at f n D.n e u q).cells p w5.heap.size (w5.heap.size + 1)).toArray = #[pv p, .int .i64 (f : Int), .int .i64 (n : Int), .int .i64 (D.n : Int), .int .u64 (e : Int), .int .i64 (u : Int), .int .u64 (q : Int), .map (some w5.heap.size), .map (some (w5.heap.size + 1)), .bool false]) := rfl
  rw [Hcells.out] at HO6 HLd HK6
  clear HB86 HB12 HF5 HB85 HB11 HHold HR f5 a0 a1 a2 a3 Hcells
  have HE0 : Hid (E = 0 ∨ E = 46) := by
    rcases HE.out with ⟨_, a2, _⟩ | ⟨_, a2, _⟩
    · exact .inr a2
    · exact .inl a2
  clear HE
  go_wp2_with fail
  refine HLd.out.mono ?_
  rintro x w7 ⟨rfl, o7, k7⟩
  have HO7 := hid o7
  have HK7 : Hid (Kp G w1 w7) := Kp.trans HK6.out k7
  clear o7 k7 HLd HO6 HK6
  rcases HE0.out with rfl | rfl
  · go_wp2
    go_ret2
    exact .inl ⟨rfl, w5.heap.size + 1 + 1, w5.heap.size, w5.heap.size + 1, rfl, HO7.out, HK7.out, by have := Hsz.out; omega⟩
  · go_wp2
    go_ret2
    exact .inr ⟨by decide, rfl, HO7.out.d.less (fun _ hk => .inl hk), HK7.out⟩

end Go.Proofs.YtehoiahgkbnjdaaGreat.Wl
