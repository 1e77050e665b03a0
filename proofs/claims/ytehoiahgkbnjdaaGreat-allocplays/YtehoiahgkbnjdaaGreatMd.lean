
/- The law's own: made. -/
import Derived.Test.YtehoiahgkbnjdaaGreatAi
namespace Go.Proofs.YtehoiahgkbnjdaaGreat.Al
open Go.RowKit Go.Shelf Dk Wl

def st3 (n : Nat) : SMap := [(0, headB n), ((lay n).mp, zeros), ((lay n).nd, node1)]
def T0 (n : Nat) : Nat → Sec := over (st3 n) (fun _ => zeros)
abbrev newL (n : Nat) : Lg := Lg.new 1 (lay n).ll n 1
structure FmtF (n : Nat) (D : Dsk) : Prop where
  e1 : (newL n).stageE 0 128 = 0
  e2 : (fmt1 (newL n) n).stageE ((lay n).mp : Int) 128 = 0
  e3 : (fmt2 (newL n) n).stageE ((lay n).nd : Int) 128 = 0
  s2 : (fmt1 (newL n) n).st.length < 90000
  s3 : (fmt2 (newL n) n).st.length < 90000
  a : AI n 10000000 (fun _ => zeros) D (fmt3 (newL n) n)
  st : (fmt3 (newL n) n).st = st3 n
theorem fmt_facts (n : Nat) (h1 : 64 ≤ n) (h2 : n ≤ 1024) {D : Dsk} (h : AI n 10000000 (fun _ => zeros) D (newL n)) : FmtF n D := by
  have hll := lay_ll n h2
  have hmp : (lay n).mp = 1 + (lay n).ll := rfl
  have hnd : (lay n).nd = 2 + (lay n).ll := rfl
  have hlen : 3 + (lay n).ll ≤ n := by simp [lay]; omega
  have c1 : cost 1 ≤ (lay n).ll - 1 := by unfold cost; omega
  have c2 : cost 2 ≤ (lay n).ll - 1 := by unfold cost; omega
  have c3 : cost 3 ≤ (lay n).ll - 1 := by unfold cost; omega
  have e1 := h.stageE 0 (by omega) (.inl rfl) c1
  obtain ⟨a1, t1⟩ := h.stage 0 (by omega) (.inl rfl) (headB n) (headB_length n) c1
  have t1' : (fmt1 (newL n) n).st = [(0, headB n)] := t1
  have a1' : AI n 10000000 (fun _ => zeros) D (fmt1 (newL n) n) := a1
  have e2 := a1'.stageE (lay n).mp (by omega) (.inr (by omega)) (by rw [t1']; exact c2)
  obtain ⟨a2, t2⟩ := a1'.stage (lay n).mp (by omega) (.inr (by omega)) zeros zeros_length (by rw [t1']; exact c2)
  have t2' : (fmt2 (newL n) n).st = [(0, headB n), ((lay n).mp, zeros)] := by
    show ((fmt1 (newL n) n).stage ((lay n).mp : Int) zeros).st = _
    rw [t2, t1']
    have : ¬ (lay n).mp < 0 := by omega
    have h0 : ¬ (lay n).mp = 0 := by omega
    simp [ins, h0]
  have a2' : AI n 10000000 (fun _ => zeros) D (fmt2 (newL n) n) := a2
  have e3 := a2'.stageE (lay n).nd (by omega) (.inr (by omega)) (by rw [t2']; exact c3)
  obtain ⟨a3, t3⟩ := a2'.stage (lay n).nd (by omega) (.inr (by omega)) node1 node1_length (by rw [t2']; exact c3)
  refine ⟨e1, e2, e3, by rw [t1']; simp, by rw [t2']; simp, a3, ?_⟩
  show ((fmt2 (newL n) n).stage ((lay n).nd : Int) node1).st = _
  rw [t3, t2']
  have k0 : ¬ (lay n).nd = 0 := by omega
  have k1 : ¬ (lay n).nd < (lay n).mp := by omega
  have k2 : ¬ (lay n).nd = (lay n).mp := by omega
  simp [ins, k0, k1, k2, st3]

def MadeAl (G : Nat → Prop) (w : World) (n : Nat) (x : Ending) (w' : World) : Prop :=
  ∃ p l sp bl bt D L, x = .returned (.tuple #[pv p, pv l, pv sp]) ∧ OwnL (fun k => G k ∨ k = sp) w' l p bl bt D L ∧ Blk w' sp 76 (spcC l (lay n)) ∧ ¬ G sp ∧ Kp G w w' ∧ AI n 9000000 (T0 n) D L ∧ L.st = []

set_option maxRecDepth 100000 in
set_option maxHeartbeats 4000000 in
theorem made_al (G : Nat → Prop) (w : World) (hG : ∀ k, G k → k < w.heap.size) (n : Nat) (h1 : 64 ≤ n) (h2 : n ≤ 1024) :
    Calls Tryz.prog 8 #[.int .i64 (n : Int)] w (MadeAl G w n) := by
  have HNew := hid (own_new G w hG n (by omega) h2)
  obtain ⟨an, fE, fS, fN⟩ := AI.new n h1 h2
  have ff := fmt_facts n h1 h2 an
  have hll := lay_ll n h2
  have hlen : 3 + (lay n).ll ≤ n := by simp [lay]; omega
  have hmb : mayBe ((1 : Nat) : Int) ((lay n).ll : Int) (n : Int) = true := by simp [mayBe]; omega
  have HL := fun W => hid (Lay_ok W n h1 h2)
  have HFo := hid (fun (G : Nat → Prop) W p (o : Dk.Own G W p (Dsk.new n)) => Format_ok o (by exact ⟨by simp [Dsk.new], by simp [Dsk.new]⟩) 1 (lay n).ll hmb)
  rw [fE] at HFo
  have HOp := hid (fun (G : Nat → Prop) W p (o : Dk.Own G W p (fmtD (Dsk.new n) 1)) => Open_fresh o 1 (lay n).ll 1 an.up (by rw [fN]; exact hmb) (by omega) fS)
  rw [fN] at HOp
  have HFa := hid (fun W l p bl bt (o : OwnL G W l p bl bt (fmtD (Dsk.new n) 1) (newL n)) => Format_al o n h1 h2 ff.e1 ff.e2 ff.e3 (by show (0 : Nat) < 90000; omega) ff.s2 ff.s3)
  have HCo := hid (fun W l p bl bt (o : OwnL G W l p bl bt (fmtD (Dsk.new n) 1) (fmt3 (newL n) n)) => Commit_any o (ff.a.sm.le (by omega)) (by have := ff.a.lg; omega) (by rw [ff.st]; simp [st3]) (by rw [ff.a.ln]; exact ff.a.c))
  have HAc := hid (fun (ok : (fmt3 (newL n) n).Ok) hsl hs hq => AI.commit (m := 9000000) ({ ff.a with sm := ff.a.sm.le (by omega) }) h2 ok hsl hs hq)
  have HOa := hid (fun W l p bl bt D L (o : OwnL G W l p bl bt D L) (hr : L.reach 0 = 0) (hup : D.up = true) => Open_al o n h1 h2 hr hup)
  have Hst := hid ff.st
  have Hn1 : Hid (1 ≤ n) := by unfold Hid; omega
  have HT0 : Hid (T0 n 0 = headB n) := rfl
  have Hover : Hid (over (st3 n) (fun _ => zeros) = T0 n) := rfl
  clear h1 h2 an fE fS fN ff hll hlen hmb hG
  unfold Ly.v Ly.cells at HL
  generalize fmt3 (newL n) n = L3 at *
  generalize fmtD (Dsk.new n) 1 = D1 at *
  go_enter Tryz.func8, Tryz.ntmps8
  go_wp2_with fail
  refine HNew.out.mono ?_
  rintro x w1 ⟨p, rfl, o1, k1⟩
  have HO1 := hid o1
  have HK1 := hid k1
  clear HNew o1 k1
  go_wp2_with fail
  refine (HL w1).out.mono ?_
  rintro x w2 ⟨rfl, f2⟩
  have HOY := hid ((own_nw HO1.out f2).more (.cells #[.int .i64 ((lay n).s : Int), .int .i64 ((lay n).lg : Int), .int .i64 ((lay n).ll : Int), .int .i64 ((lay n).mp : Int), .int .i64 ((lay n).nd : Int), .int .i64 ((lay n).tb : Int), .int .i64 ((lay n).no : Int), .int .i64 ((lay n).da : Int)] 38))
  have HY : Hid (Blk (w2.alloc (.cells #[.int .i64 ((lay n).s : Int), .int .i64 ((lay n).lg : Int), .int .i64 ((lay n).ll : Int), .int .i64 ((lay n).mp : Int), .int .i64 ((lay n).nd : Int), .int .i64 ((lay n).tb : Int), .int .i64 ((lay n).no : Int), .int .i64 ((lay n).da : Int)] 38)) w2.heap.size 38 (lay n).cells) := Blk.new w2 38 (lay n).cells
  have HK2 : Hid (Kp G w (w2.alloc (.cells #[.int .i64 ((lay n).s : Int), .int .i64 ((lay n).lg : Int), .int .i64 ((lay n).ll : Int), .int .i64 ((lay n).mp : Int), .int .i64 ((lay n).nd : Int), .int .i64 ((lay n).tb : Int), .int .i64 ((lay n).no : Int), .int .i64 ((lay n).da : Int)] 38))) := Kp.trans HK1.out (Nw.kp (show Nw w1 _ from Fr.alloc f2 _))
  have HF3 := hid (HFo.out _ _ _ HOY.out)
  clear HL f2 HO1 HK1 HFo HOY
  have Hlg : Hid ((lay n).lg = 1) := rfl
  go_wp2_with fail
  refine HF3.out.mono ?_
  rintro x w3 ⟨rfl, o3, k3⟩
  have HY3 := Kp.blk k3 HY.out (.inr rfl)
  have y1 : w3.cell? ⟨w2.heap.size, 1, none⟩ = some (.int .i64 ((lay n).lg : Int)) := HY3.cell 1
  have y2 : w3.cell? ⟨w2.heap.size, 2, none⟩ = some (.int .i64 ((lay n).ll : Int)) := HY3.cell 2
  have HK3 : Hid (Kp G w w3) := Kp.trans HK2.out (Kp.less k3 (fun _ hk => .inl hk))
  have HO4 := hid (HOp.out _ _ _ o3)
  clear HF3 o3 k3 HY3 HY HK2 HOp
  go_wp2_with fail
  refine HO4.out.mono ?_
  rintro x w4 ⟨l, bl, bt, rfl, o4, k4, _⟩
  have HK4 : Hid (Kp G w w4) := Kp.trans HK3.out (Kp.less k4 (fun _ hk => .inl hk))
  have HF5 := hid (HFa.out _ _ _ _ _ (o4.less (fun _ hk => .inl hk)))
  clear HO4 o4 k4 HK3 y1 y2 HFa
  go_wp2_with fail
  refine HF5.out.mono ?_
  rintro x w5 ⟨rfl, o5, k5⟩
  have HK5 := hid (Kp.trans HK4.out k5)
  have HC6 := hid (HCo.out _ _ _ _ _ o5)
  have hac := HAc.out o5.r.ok o5.r.ml.2.1 o5.r.mt.2.1 o5.r.mt.2.2
  rw [hac.1] at HC6
  have HAi := hid hac.2
  rw [Hst.out, Hover.out] at HAi
  clear HF5 o5 k5 HK4 HCo HAc hac
  generalize CommitD D1 L3 = D6 at *
  generalize CommitL D1 L3 = L6 at *
  go_wp2_with fail
  refine HC6.out.mono ?_
  rintro x w6 ⟨rfl, ⟨bl6, bt6, o6⟩, k6⟩
  have HK6 := hid (Kp.trans HK5.out k6)
  have hr0 : L6.reach 0 = 0 := HAi.out.1.reach 0 Hn1.out (.inl rfl)
  have htl : L6.tell D6 0 = headB n := by
    rw [HAi.out.1.tell 0 Hn1.out (.inl rfl), HAi.out.2]
    exact HT0.out
  have HO7 := hid (HOa.out _ _ _ _ _ _ _ o6 hr0 HAi.out.1.up)
  rw [htl, decide_eq_true rfl] at HO7
  unfold OpenAl at HO7
  simp only [if_true] at HO7
  clear HC6 o6 k6 HK5 hr0 htl HOa
  go_wp2_with fail
  refine HO7.out.mono ?_
  rintro x w7 ⟨sp, rfl, o7, b7, hsp, k7⟩
  have HO8 := hid o7
  have HB8 := hid b7
  have HG8 := hid hsp
  have HK8 := hid (Kp.trans HK6.out k7)
  clear HO7 o7 b7 hsp k7 HK6
  go_wp2
  refine bodyPost_ret (results_tmp3 rfl _ _ _) rfl ?_
  exact ⟨p, l, sp, bl6, bt6, D6, L6, rfl, HO8.out, HB8.out, HG8.out, HK8.out, HAi.out.1, HAi.out.2⟩

end Go.Proofs.YtehoiahgkbnjdaaGreat.Al
