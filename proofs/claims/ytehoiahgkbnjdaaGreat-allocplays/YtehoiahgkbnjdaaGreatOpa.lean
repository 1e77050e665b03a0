
/- alloc's Open. -/
import Derived.Test.YtehoiahgkbnjdaaGreatFmt
import Derived.Laws.IdiomStrings
namespace Go.Proofs.YtehoiahgkbnjdaaGreat.Al
open Go.RowKit Go.Shelf Dk Wl

def strB (l : List UInt8) : ByteArray := ⟨l.toArray⟩
theorem conv_blk {w : World} {b : Nat} {t : TypeId} (l : List UInt8) (h : Blk w b t (bs l)) (cap n : Nat) (hn : l.length = n) :
    (convert 49 9 (.slice (some ⟨b, 0, none⟩) n cap)).run Tryz.prog w = .ok (.string (strB l)) w := by
  subst hn
  refine run_convert_bytes_back (P := Tryz.prog) w 49 9 5 ⟨b, 0, none⟩ cap l Tryz.underlying49 Tryz.underlying5 Tryz.underlying9 (fun j hj => ?_)
  rw [Addr.add_mid, Nat.zero_add, h.cell]
  simp [bs, bv, hj]
theorem strB_toList (l : List UInt8) : (strB l).toList = l := by
  simp [strB]

set_option maxRecDepth 100000 in
set_option maxHeartbeats 1000000 in
theorem equal_any {w : World} {a b : Nat} {ta tb : TypeId} (x y : Sec) (ha : Blk w a ta (bs x)) (hb : Blk w b tb (bs y)) (hx : x.length = 128) (hy : y.length = 128) :
    Calls Tryz.prog 47 #[.slice (some ⟨a, 0, none⟩) 128 128, .slice (some ⟨b, 0, none⟩) 128 128] w fun e w' => e = .returned (.bool (decide (x = y))) ∧ w' = w := by
  have c1 := conv_blk x ha 128 128 hx
  have c2 := conv_blk y hb 128 128 hy
  have HE : Hid (((strB x).toList == (strB y).toList) = decide (x = y)) := by
    unfold Hid
    rw [strB_toList, strB_toList]
    by_cases h : x = y
    · simp [h]
    · simp [h]
  clear ha hb
  go_enter Tryz.func47, Tryz.ntmps47
  go_wp2
  go_ret
  exact ⟨by rw [← HE.out]; rfl, rfl⟩

def OpenAl (G : Nat → Prop) (w : World) (l p bl bt : Nat) (D : Dsk) (L : Lg) (y : Ly) (good : Bool) (x : Ending) (w' : World) : Prop :=
  if good then ∃ sp, x = .returned (.tuple #[pv sp, .int .i64 0]) ∧ OwnL (fun k => G k ∨ k = sp) w' l p bl bt D L ∧ Blk w' sp 76 (spcC l y) ∧ ¬ G sp ∧ Kp G w w'
  else x = .returned (.tuple #[.pointer none, .int .i64 46]) ∧ OwnL G w' l p bl bt D L ∧ Kp G w w'

set_option maxRecDepth 100000 in
set_option maxHeartbeats 4000000 in
theorem Open_al {G : Nat → Prop} {w : World} {l p bl bt : Nat} {D : Dsk} {L : Lg} (h : OwnL G w l p bl bt D L) (n : Nat) (h1 : 64 ≤ n) (h2 : n ≤ 1024) (hr : L.reach 0 = 0) (hup : D.up = true) :
    Calls Tryz.prog 14 #[pv l, .int .i64 (n : Int)] w (OpenAl G w l p bl bt D L (lay n) (decide (L.tell D 0 = headB n))) := by
  have hz := zero68
  have HL := hid (Lay_ok w n h1 h2)
  have H0 := hid h
  have HRd := hid (fun W (f : Nw w W) => Read_ok (h.nw f) 0 hr hup)
  have Htl := hid (tell_length h 0 (reach_lt h 0 hr))
  have HHd := hid (fun W => head_any W (lay n))
  have Hhl := hid (headB_length (lay n).s)
  have Hhn : Hid (headB (lay n).s = headB n) := rfl
  rw [Hhn.out] at HHd Hhl
  have HGl : Hid (∀ k, G k → k < w.heap.size) := fun k hk => h.glt hk
  clear h h1 h2 hr hup Hhn
  generalize lay n = y at *
  generalize headB n = hb at *
  generalize L.tell D 0 = b at *
  unfold Ly.v Ly.cells at HL HHd
  go_enter Tryz.func14, Tryz.ntmps14
  go_wp2_with fail
  refine HL.out.mono ?_
  rintro x w1 ⟨rfl, f1⟩
  have HF1 : Hid (Nw w (w1.alloc (.cells #[.int .i64 (y.s : Int), .int .i64 (y.lg : Int), .int .i64 (y.ll : Int), .int .i64 (y.mp : Int), .int .i64 (y.nd : Int), .int .i64 (y.tb : Int), .int .i64 (y.no : Int), .int .i64 (y.da : Int)] 38))) := f1.alloc _
  have HY : Hid (Blk (w1.alloc (.cells #[.int .i64 (y.s : Int), .int .i64 (y.lg : Int), .int .i64 (y.ll : Int), .int .i64 (y.mp : Int), .int .i64 (y.nd : Int), .int .i64 (y.tb : Int), .int .i64 (y.no : Int), .int .i64 (y.da : Int)] 38)) w1.heap.size 38 y.cells) := Blk.new w1 38 y.cells
  have HR1 : Hid (Calls Tryz.prog 18 #[pv l, .int .i64 0] _ (ReadPost _ b)) := HRd.out _ HF1.out
  clear HL f1 HRd
  go_wp2_with fail
  refine HR1.out.mono ?_
  rintro x w2 ⟨g, tg, rfl, bg, hgg, f2⟩
  have HF2 := hid (Nw.tr HF1.out f2)
  have HY2 := hid (Fr.blk f2 HY.out id)
  have HBg := hid bg
  clear HR1 f2 bg hgg HF1 HY
  have y0 : w2.cell? ⟨w1.heap.size, 0, none⟩ = some (.int .i64 (y.s : Int)) := HY2.out.cell 0
  have y1 : w2.cell? ⟨w1.heap.size, 1, none⟩ = some (.int .i64 (y.lg : Int)) := HY2.out.cell 1
  have y2 : w2.cell? ⟨w1.heap.size, 2, none⟩ = some (.int .i64 (y.ll : Int)) := HY2.out.cell 2
  have y3 : w2.cell? ⟨w1.heap.size, 3, none⟩ = some (.int .i64 (y.mp : Int)) := HY2.out.cell 3
  have y4 : w2.cell? ⟨w1.heap.size, 4, none⟩ = some (.int .i64 (y.nd : Int)) := HY2.out.cell 4
  have y5 : w2.cell? ⟨w1.heap.size, 5, none⟩ = some (.int .i64 (y.tb : Int)) := HY2.out.cell 5
  have y6 : w2.cell? ⟨w1.heap.size, 6, none⟩ = some (.int .i64 (y.no : Int)) := HY2.out.cell 6
  have y7 : w2.cell? ⟨w1.heap.size, 7, none⟩ = some (.int .i64 (y.da : Int)) := HY2.out.cell 7
  go_wp2_with fail
  refine (HHd.out _).mono ?_
  rintro x w3 ⟨rfl, f3⟩
  have HF3 : Hid (Nw w (w3.alloc (.cells (bs hb).toArray 92))) := (Nw.tr HF2.out f3).alloc (.cells (bs hb).toArray 92)
  have HY3 := hid ((Fr.blk f3 HY2.out id).alloc (.cells (bs hb).toArray 92))
  have HBg3 := hid ((Fr.blk f3 HBg.out id).alloc (.cells (bs hb).toArray 92))
  have HEq := hid (equal_any b hb HBg3.out (Blk.new w3 92 (bs hb)) Htl.out Hhl.out)
  clear HHd f3 HF2 HY2 HBg HBg3 y0 y1 y2 y3 y4 y5 y6 y7
  unfold arrV
  go_wp2_with (first | (refine store68n (by rfl) _ _ (by rfl) hb Hhl.out zs66 (by rfl) (by rfl) ?_))
  refine HEq.out.mono ?_
  rintro x w4 ⟨rfl, rfl⟩
  clear HEq
  generalize w3.alloc (.cells (bs hb).toArray 92) = W4 at *
  have y0 : W4.cell? ⟨w1.heap.size, 0, none⟩ = some (.int .i64 (y.s : Int)) := HY3.out.cell 0
  have y1 : W4.cell? ⟨w1.heap.size, 1, none⟩ = some (.int .i64 (y.lg : Int)) := HY3.out.cell 1
  have y2 : W4.cell? ⟨w1.heap.size, 2, none⟩ = some (.int .i64 (y.ll : Int)) := HY3.out.cell 2
  have y3 : W4.cell? ⟨w1.heap.size, 3, none⟩ = some (.int .i64 (y.mp : Int)) := HY3.out.cell 3
  have y4 : W4.cell? ⟨w1.heap.size, 4, none⟩ = some (.int .i64 (y.nd : Int)) := HY3.out.cell 4
  have y5 : W4.cell? ⟨w1.heap.size, 5, none⟩ = some (.int .i64 (y.tb : Int)) := HY3.out.cell 5
  have y6 : W4.cell? ⟨w1.heap.size, 6, none⟩ = some (.int .i64 (y.no : Int)) := HY3.out.cell 6
  have y7 : W4.cell? ⟨w1.heap.size, 7, none⟩ = some (.int .i64 (y.da : Int)) := HY3.out.cell 7
  generalize hgd : decide (b = hb) = good at *
  clear hgd
  cases good
  · go_wp2
    go_ret2
    exact ⟨rfl, H0.out.nw HF3.out, Nw.kp HF3.out⟩
  · go_wp2
    go_ret2
    refine ⟨W4.heap.size, rfl, (H0.out.nw HF3.out).more _, Blk.new W4 76 (spcC l y), fun hg => ?_, Kp.trans (Nw.kp HF3.out) (show Kp G _ _ from (Fr.refl _ W4).alloc _)⟩
    have := HGl.out _ hg
    have := HF3.out.size
    omega

end Go.Proofs.YtehoiahgkbnjdaaGreat.Al
