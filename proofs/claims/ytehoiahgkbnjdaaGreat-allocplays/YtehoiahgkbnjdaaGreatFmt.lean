
/- alloc's Format and Open. -/
import Derived.Test.YtehoiahgkbnjdaaGreatHd
namespace Go.Proofs.YtehoiahgkbnjdaaGreat.Al
open Go.RowKit Go.Shelf Dk Wl

def node1 : Sec := 1 :: List.replicate 127 0
theorem node1_length : node1.length = 128 := by simp [node1]
/-- What Format leaves of a log. -/
def fmt1 (L : Lg) (n : Nat) : Lg := L.stage 0 (headB n)
def fmt2 (L : Lg) (n : Nat) : Lg := (fmt1 L n).stage ((lay n).mp : Int) zeros
def fmt3 (L : Lg) (n : Nat) : Lg := (fmt2 L n).stage ((lay n).nd : Int) node1
theorem build68 (w : World) : (Instr.build 92 #[(0, .int .u8 1)]).run Tryz.prog w = .ok (.agg (bs node1).toArray) w := by kernel_rfl

theorem store68n {ops : Array Oper} {rest : List Oper} {op : Oper} {a : Act} {W : World} {c : Array Value} {Q : Exit → Act → World → Prop} (hgd : op.guard = none) (x y : Operand) (ho : op.op = .store 92 x y) (s : Sec) (hq : s.length = 128) (hc : c.size = 128)
    (hx : a.eval x = .pointer (some ⟨W.heap.size, 0, none⟩)) (hy : a.eval y = .agg (bs s).toArray) (h : wpList Tryz.prog ops Q rest (a.put op.dst undef) (W.alloc (.cells (bs s).toArray 92))) : wpList Tryz.prog ops Q (op :: rest) a (W.alloc (.cells c 92)) :=
  wpList_plain hgd fun K hK => by
    have hs : (Tryz.prog.info? 92).map (·.size) = some (bs s).toArray.size := by rw [size68]; simp [bs_length, hq]
    unfold Oper.wp execOp
    simp only [ho, hx, hy, run_storeAt_new W 92 c _ hs (by simp [bs_length, hq, hc]) (all_oneCell_toArray (bs_one s)), Sem.run_bind, Sem.run_pure, Result.andThen_ok]
    exact hK _ _ h

theorem stage_new {G : Nat → Prop} {w : World} {l p bl bt : Nat} {D : Dsk} {L : Lg} (h : OwnL G w l p bl bt D L) (i : Int) (b : Sec) (hb : b.length = 128) (t : TypeId) (hst : L.st.length < 90000) :
    Calls Tryz.prog 19 #[pv l, .int .i64 i, .slice (some ⟨w.heap.size, 0, none⟩) 128 128] (w.alloc (.cells (bs b).toArray t)) fun x w' => x = .returned (.int .i64 (L.stageE i 128)) ∧ OwnL G w' l p bl bt D (L.stage i b) ∧ Kp G w w' := by
  have := stage_any (h.alloc (.cells (bs b).toArray t)) i b (some ⟨w.heap.size, 0, none⟩) 128 (fun _ => ⟨w.heap.size, 0, rfl, (Blk.new w t (bs b)).range 0 _ (by simp), by simp⟩) hst
  rw [hb] at this
  exact this.mono fun x w' ⟨a, b, c⟩ => ⟨a, b, Kp.trans (show Kp G _ _ from (Fr.refl _ w).alloc _) c⟩

set_option maxRecDepth 100000 in
set_option maxHeartbeats 4000000 in
theorem Format_al {G : Nat → Prop} {w : World} {l p bl bt : Nat} {D : Dsk} {L : Lg} (h : OwnL G w l p bl bt D L) (n : Nat) (h1 : 64 ≤ n) (h2 : n ≤ 1024) (e1 : L.stageE 0 128 = 0) (e2 : (fmt1 L n).stageE ((lay n).mp : Int) 128 = 0) (e3 : (fmt2 L n).stageE ((lay n).nd : Int) 128 = 0)
    (s1 : L.st.length < 90000) (s2 : (fmt1 L n).st.length < 90000) (s3 : (fmt2 L n).st.length < 90000) :
    Calls Tryz.prog 32 #[pv l, .int .i64 (n : Int)] w fun x w' => x = .returned (.int .i64 0) ∧ OwnL G w' l p bl bt D (fmt3 L n) ∧ Kp G w w' := by
  have hz := zero68
  have HL := hid (Lay_ok w n h1 h2)
  have H0 := hid h
  have H11 : Hid (L.stage 0 (headB (lay n).s) = fmt1 L n) := rfl
  have H12 : Hid ((fmt1 L n).stage ((lay n).mp : Int) zeros = fmt2 L n) := rfl
  have H13 : Hid ((fmt2 L n).stage ((lay n).nd : Int) node1 = fmt3 L n) := rfl
  have Hhl := hid (headB_length (lay n).s)
  have hbd := build68
  have E1 := hid e1
  have E2 := hid e2
  have E3 := hid e3
  have S1 := hid s1
  have S2 := hid s2
  have S3 := hid s3
  have HHd := hid (fun W => head_any W (lay n))
  clear h h1 h2 e1 e2 e3 s1 s2 s3
  generalize fmt3 L n = L3 at *
  generalize fmt2 L n = L2 at *
  generalize fmt1 L n = L1 at *
  generalize lay n = y at *
  generalize headB y.s = hb at *
  unfold Ly.v Ly.cells at HL HHd
  go_enter Tryz.func32, Tryz.ntmps32
  go_wp2_with fail
  refine HL.out.mono ?_
  rintro x w1 ⟨rfl, f1⟩
  have BY : Blk (w1.alloc (.cells #[.int .i64 (y.s : Int), .int .i64 (y.lg : Int), .int .i64 (y.ll : Int), .int .i64 (y.mp : Int), .int .i64 (y.nd : Int), .int .i64 (y.tb : Int), .int .i64 (y.no : Int), .int .i64 (y.da : Int)] 38)) w1.heap.size 38 y.cells := Blk.new w1 38 y.cells
  have HOY := hid ((H0.out.nw f1).more (.cells #[.int .i64 (y.s : Int), .int .i64 (y.lg : Int), .int .i64 (y.ll : Int), .int .i64 (y.mp : Int), .int .i64 (y.nd : Int), .int .i64 (y.tb : Int), .int .i64 (y.no : Int), .int .i64 (y.da : Int)] 38))
  have HKY : Hid (Kp G w (w1.alloc (.cells #[.int .i64 (y.s : Int), .int .i64 (y.lg : Int), .int .i64 (y.ll : Int), .int .i64 (y.mp : Int), .int .i64 (y.nd : Int), .int .i64 (y.tb : Int), .int .i64 (y.no : Int), .int .i64 (y.da : Int)] 38))) := Kp.trans f1.kp (show Kp G _ _ from (Fr.refl _ w1).alloc _)
  have HY := hid BY
  clear HL f1 BY H0
  go_wp2_with fail
  refine (HHd.out _).mono ?_
  rintro x w2 ⟨rfl, f2⟩
  have HO2 := hid (HOY.out.nw f2)
  have HY2 := hid (Fr.blk f2 HY.out id)
  have HK2 : Hid (Kp G w w2) := Kp.trans HKY.out f2.kp
  have HSg := hid (stage_new HO2.out 0 hb Hhl.out 92 S1.out)
  rw [E1.out, H11.out] at HSg
  clear HHd f2 HOY HY HKY
  unfold arrV
  go_wp2_with (first | (refine store68n (by rfl) _ _ (by rfl) hb Hhl.out zs66 (by rfl) (by rfl) ?_))
  refine HSg.out.mono ?_
  rintro x w3 ⟨rfl, o3, k3⟩
  have HK3 : Hid (Kp G w w3) := Kp.trans HK2.out (Kp.less k3 (fun _ hk => .inl hk))
  have HY3 := hid (Kp.blk k3 HY2.out (.inr rfl))
  have HO3 := hid o3
  have HSg2 : Hid (Calls Tryz.prog 19 #[pv l, .int .i64 (y.mp : Int), .slice (some ⟨w3.heap.size, 0, none⟩) 128 128] (w3.alloc (.cells (bs zeros).toArray 92)).drew fun x w' => x = .returned (.int .i64 (L1.stageE (y.mp : Int) 128)) ∧ OwnL (fun k => G k ∨ k = w1.heap.size) w' l p bl bt D (L1.stage (y.mp : Int) zeros) ∧ Kp (fun k => G k ∨ k = w1.heap.size) w3.drew w') := stage_new o3.drew (y.mp : Int) zeros zeros_length 92 S2.out
  rw [E2.out, H12.out] at HSg2
  have c3 : (w3.alloc (.cells (bs zeros).toArray 92)).drew.cell? ⟨w1.heap.size, 3, none⟩ = some (.int .i64 (y.mp : Int)) := (HY3.out.alloc _).drew.cell 3
  have HcF : Hid (∀ w', Kp (fun k => G k ∨ k = w1.heap.size) w3.drew w' → w'.cell? ⟨w1.heap.size, 3, none⟩ = some (.int .i64 (y.mp : Int))) := fun w' k => (Kp.blk k HY3.out.drew (.inr rfl)).cell 3
  clear HSg o3 k3 HO2 HY2 HK2
  go_wp2_with fail
  go_region_held3 (fun w' => w'.cell? ⟨w1.heap.size, 3, none⟩ = some (.int .i64 (y.mp : Int)))
    (first
      | exact c3
      | exact HcF.out _ k4)
    ((go_at_call 19; refine HSg2.out.mono ?_; rintro x w4 ⟨rfl, o4, k4⟩))
  have HK4 : Hid (Kp G w w4) := Kp.trans HK3.out (Kp.trans (show Kp G _ _ from (Fr.refl _ w3).drew) (Kp.less k4 (fun _ hk => .inl hk)))
  have HY4 := hid (Kp.blk k4 HY3.out.drew (.inr rfl))
  have HSg3 : Hid (Calls Tryz.prog 19 #[pv l, .int .i64 (y.nd : Int), .slice (some ⟨w4.heap.size, 0, none⟩) 128 128] (w4.alloc (.cells (bs node1).toArray 92)).drew fun x w' => x = .returned (.int .i64 (L2.stageE (y.nd : Int) 128)) ∧ OwnL (fun k => G k ∨ k = w1.heap.size) w' l p bl bt D (L2.stage (y.nd : Int) node1) ∧ Kp (fun k => G k ∨ k = w1.heap.size) w4.drew w') := stage_new o4.drew (y.nd : Int) node1 node1_length 92 S3.out
  rw [E3.out, H13.out] at HSg3
  have c4 : (w4.alloc (.cells (bs node1).toArray 92)).drew.cell? ⟨w1.heap.size, 4, none⟩ = some (.int .i64 (y.nd : Int)) := (HY4.out.alloc _).drew.cell 4
  have HcF4 : Hid (∀ w', Kp (fun k => G k ∨ k = w1.heap.size) w4.drew w' → w'.cell? ⟨w1.heap.size, 4, none⟩ = some (.int .i64 (y.nd : Int))) := fun w' k => (Kp.blk k HY4.out.drew (.inr rfl)).cell 4
  clear HSg2 o4 k4 HO3 HY3 HK3 c3 HcF
  go_wp2_with (first | (refine store68n (by rfl) _ _ (by rfl) node1 node1_length zs66 (by rfl) (by rfl) ?_))
  go_region_held3 (fun w' => w'.cell? ⟨w1.heap.size, 4, none⟩ = some (.int .i64 (y.nd : Int)))
    (first
      | exact c4
      | exact HcF4.out _ k5)
    ((go_at_call 19; refine HSg3.out.mono ?_; rintro x w5 ⟨rfl, o5, k5⟩))
  have HK5 : Hid (Kp G w w5) := Kp.trans HK4.out (Kp.trans (show Kp G _ _ from (Fr.refl _ w4).drew) (Kp.less k5 (fun _ hk => .inl hk)))
  have HO5 := hid (o5.less (G' := G) (fun _ hk => .inl hk))
  clear HSg3 o5 k5 HcF4 c4
  go_wp2
  go_ret
  exact ⟨rfl, HO5.out, HK5.out⟩

end Go.Proofs.YtehoiahgkbnjdaaGreat.Al
