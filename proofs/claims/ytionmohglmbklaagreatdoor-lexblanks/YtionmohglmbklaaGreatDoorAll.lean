/- The contract of All. -/
import Derived.Test.YtionmohglmbklaaGreatDoorTkn
import Derived.OwnWalk
namespace Go.Proofs.YtionmohglmbklaaGreatDoor.Tr
open Go.RowKit

theorem infoT : (Tryz.prog.info? 37).map (fun i => (i.zero, i.size, i.bytes)) = some (some (.agg #[.int .i64 0, .string ⟨#[]⟩, .int .i64 0, .float .f64 0, .int .i64 0]), 5, 48) := by kernel_rfl
def toksC (L : List Tok) : List Value := L.flatMap tokC
theorem toksC_snoc (L : List Tok) (x : Tok) : toksC (L ++ [x]) = toksC L ++ tokC x := by simp [toksC]
theorem toksC_len (L : List Tok) : (toksC L).length = L.length * 5 := by
  induction L with
  | nil => rfl
  | cons x r ih => simp only [toksC, List.flatMap_cons, List.length_append, List.length_cons] at ih ⊢; rw [ih]; simp [tokC]; omega

/-- How a text is read on from a place: its tokens, and, if it is wrong, where and why. -/
inductive Run (w0 : World) (t : List UInt8) : Nat → List Tok → Option (Nat × Int) → Prop
  | fin {k k1 k2 : Nat} {x : Tok} : Skp t (upto isBlank t k) k1 → Here w0 t k1 (.tok x k2) → x.kind = 0 → Run w0 t k [x] none
  | bad {k k1 a : Nat} {e : Int} : Skp t (upto isBlank t k) k1 → Here w0 t k1 (.bad a e) → Run w0 t k [] (some (a, e))
  | tok {k k1 k2 : Nat} {x : Tok} {l : List Tok} {o : Option (Nat × Int)} : Skp t (upto isBlank t k) k1 → Here w0 t k1 (.tok x k2) → x.kind ≠ 0 → Run w0 t k2 l o → Run w0 t k (x :: l) o

def AllPost (w : World) (L : List Tok) : Option (Nat × Int) → Ending → World → Prop
  | none, r, w' => ∃ v, r = .returned (.tuple #[v, .nilIface]) ∧ w'.ownsRow w.heap.size 37 5 v L.length (toksC L) ∧ Fr (fun _ => False) w w'
  | some (a, e), r, w' => ∃ fb, r = .returned (.tuple #[.slice none 0 0, fltV fb]) ∧ w.heap.size ≤ fb ∧ Flt w' fb a e ∧ Fr (fun _ => False) w w'

def lenV : Value → Nat
  | .slice _ n _ => n
  | _ => 0

set_option maxRecDepth 100000 in
set_option maxHeartbeats 2000000 in
theorem all_any {w0 w : World} {t : List UInt8} {L : List Tok} {o : Option (Nat × Int)} (hE : Env w0 w) (hl : t.length ≤ 4096) (hr : Run w0 t 0 L o) (hL : L.length ≤ 5000) : Calls Tryz.prog 19 #[.string ⟨t.toArray⟩] w (AllPost w L o) := by
  have HE := hid hE
  have HRun := hid hr
  have HBk := hid (Blk.new w 70 [.string ⟨t.toArray⟩, .int .i64 0])
  have HF := hid ((Fr.refl (fun _ => False) w).alloc (.cells #[.string ⟨t.toArray⟩, .int .i64 0] 70))
  have HSz : Hid ((w.alloc (.cells #[.string ⟨t.toArray⟩, .int .i64 0] 70)).heap.size = w.heap.size + 1) := World.size_alloc _ _
  obtain ⟨iE, hiE, hzE0, hzE1, hzE2⟩ := info_parts infoT
  have HI := hid (And.intro hiE (And.intro hzE0 (And.intro hzE1 hzE2)))
  clear hE hr hiE hzE0 hzE1 hzE2
  have hl4 : decide ((t.length : Int) > 4096) = false := by simp; omega
  generalize hn : w.heap.size = n at *
  go_enter Tryz.func19, Tryz.ntmps19
  go_wp2_with fail
  go_loopw [2, 3, 5, 6, 7] (fun _ _ ov _ _ wr => ∃ (k : Nat) (D R : List Tok), Run w0 t k R o ∧ L = D ++ R ∧ Rd wr n t k ∧ wr.ownsRow (n + 1) 37 5 ov D.length (toksC D) ∧ Fr (fun _ => False) w wr ∧ n + 1 ≤ wr.heap.size) (fun _ _ ov _ _ _ => L.length + 1 - lenV ov)
  case atStart => exact ⟨0, [], L, HRun.out, rfl, ⟨HBk.out, Nat.zero_le _, hl⟩, World.ownsRow_nil _ _ _ _, HF.out, Nat.le_of_eq HSz.out.symm⟩
  case round =>
    obtain ⟨k, D, R, hrun, hLD, hRd, hOw, hF, hN⟩ := hrel
    have HEw := hid (HE.out.fr hF (fun _ h => h.elim))
    have HE0 : Hid (w0.heap.size ≤ n) := by have := HE.out.1; unfold Hid; omega
    have HOw := hid hOw
    have HF2 := hid hF
    have HN1 := hid hN
    have HLD := hid hLD
    have hDl : D.length ≤ 5000 := by rw [hLD, List.length_append] at hL; omega
    clear hOw hF hN HRun HBk HF HSz hLD hL
    cases hrun with
    | @fin _ k1 k2 x hsk hh hx =>
      have HX := hid hx
      clear hx
      have HT := hid (token_any hRd hsk hh HEw.out HE0.out)
      unfold TPost at HT
      clear hsk hh hRd
      go_wp2_with fail
      refine HT.out.mono ?_
      rintro e w2 ⟨rfl, f2, r2⟩
      have hW2 : Rd w2 n t k2 ∧ Fr (fun _ => False) w w2 ∧ n + 1 ≤ w2.heap.size := ⟨r2, HF2.out.trans f2 (fun i hi => .inr (by omega)), Nat.le_trans HN1.out f2.size⟩
      have hO2 : w2.ownsRow (n + 1) 37 5 u5 D.length (toksC D) := owns_of_eq HOw.out (fun k' hk' => f2.block k' (HOw.out.lt k' hk').2 (fun e => by have := (HOw.out.lt k' hk').1; omega))
      have HBm := hid (new_tok w2)
      have HWm : Hid (Rd (w2.alloc (.cells #[.int .i64 0, .string ⟨#[]⟩, .int .i64 0, .float .f64 0, .int .i64 0] 37)) n t k2 ∧ Fr (fun _ => False) w (w2.alloc (.cells #[.int .i64 0, .string ⟨#[]⟩, .int .i64 0, .float .f64 0, .int .i64 0] 37)) ∧ n + 1 ≤ w2.heap.size) := ⟨⟨hW2.1.blk.alloc _, hW2.1.le, hW2.1.len⟩, hW2.2.1.alloc _, hW2.2.2⟩
      have HOm : Hid ((w2.alloc (.cells #[.int .i64 0, .string ⟨#[]⟩, .int .i64 0, .float .f64 0, .int .i64 0] 37)).ownsRow (n + 1) 37 5 u5 D.length (toksC D)) := owns_of_eq hO2 (fun k' hk' => Below.heap_alloc w2 _ k' (hO2.lt k' hk').2)
      have HOl := hid (fun k' hk' => (hO2.lt k' hk').2)
      clear f2 r2 hW2 hO2 HT HOw HF2 HN1
      go_wp2_with (refine wpList_storeT x (by rfl) _ _ (by rfl) HBm.out (by rfl) (by rfl) ?_; refine fun w3 b3 f3 => Hid.out ?_)
      refine hid ?_
      have hW3 : Rd w3 n t k2 ∧ Fr (fun _ => False) w w3 ∧ n + 1 ≤ w2.heap.size ∧ w2.heap.size < w3.heap.size := ⟨HWm.out.1.fr f3 (by have := HWm.out.2.2; omega), HWm.out.2.1.trans f3 (fun i hi => .inr (by have := HWm.out.2.2; omega)), HWm.out.2.2, by have := f3.size; rw [World.size_alloc] at this; omega⟩
      have hO3 : w3.ownsRow (n + 1) 37 5 u5 D.length (toksC D) := owns_of_eq HOm.out (fun k' hk' => f3.block k' (HOm.out.lt k' hk').2 (fun e => by have := HOl.out k' hk'; omega))
      obtain ⟨va, vc, rfl⟩ := own_len hO3
      have k0 := b3.cell 0
      have k1 := b3.cell 1
      have k2' := b3.cell 2
      have k3 := b3.cell 3
      have k4 := b3.cell 4
      simp only [tokC, List.getElem?_cons_zero, List.getElem?_cons_succ] at k0 k1 k2' k3 k4
      have HB4 := hid (b3.alloc (.cells #[.int .i64 x.kind, .string ⟨x.text.toArray⟩, .int .i64 x.int, .float .f64 x.flt, .int .i64 (x.at_ : Int)] 37))
      have HO4 : Hid ((w3.alloc (.cells #[.int .i64 x.kind, .string ⟨x.text.toArray⟩, .int .i64 x.int, .float .f64 x.flt, .int .i64 (x.at_ : Int)] 37)).ownsRow (n + 1) 37 5 (.slice va D.length vc) D.length (toksC D)) := owns_of_eq hO3 (fun k' hk' => Below.heap_alloc w3 _ k' (hO3.lt k' hk').2)
      have HOl4 := hid (fun k' hk' => HOl.out k' hk')
      have HN4 : Hid (∀ j u, (tokC x)[j]? = some u → (w3.alloc (.cells #[.int .i64 x.kind, .string ⟨x.text.toArray⟩, .int .i64 x.int, .float .f64 x.flt, .int .i64 (x.at_ : Int)] 37)).cell? ((⟨w3.heap.size, 0, none⟩ : Addr).add j) = some u) := by
        intro j u hu
        have h2 := (Blk.new w3 37 (tokC x)).cell j
        rw [Addr.add_mid, Nat.zero_add]
        exact h2.trans hu
      have HW4 : Hid (Rd (w3.alloc (.cells #[.int .i64 x.kind, .string ⟨x.text.toArray⟩, .int .i64 x.int, .float .f64 x.flt, .int .i64 (x.at_ : Int)] 37)) n t k2 ∧ Fr (fun _ => False) w (w3.alloc (.cells #[.int .i64 x.kind, .string ⟨x.text.toArray⟩, .int .i64 x.int, .float .f64 x.flt, .int .i64 (x.at_ : Int)] 37)) ∧ n + 1 ≤ w2.heap.size ∧ n + 1 ≤ (w3.alloc (.cells #[.int .i64 x.kind, .string ⟨x.text.toArray⟩, .int .i64 x.int, .float .f64 x.flt, .int .i64 (x.at_ : Int)] 37)).heap.size) := ⟨⟨hW3.1.blk.alloc _, hW3.1.le, hW3.1.len⟩, hW3.2.1.alloc _, hW3.2.2.1, by rw [World.size_alloc]; omega⟩
      clear b3 f3 hW3 hO3 HWm HOm HBm HOl
      go_wp2_with (at_builtin; refine Hid.out ?_)
      refine hid ?_
      generalize hW4 : w3.alloc (.cells #[.int .i64 x.kind, .string ⟨x.text.toArray⟩, .int .i64 x.int, .float .f64 x.flt, .int .i64 (x.at_ : Int)] 37) = w4 at *
      clear hW4
      refine wpList_append_lies _ (by rfl) _ _ 23 (by rfl) (n + 1) 37 iE _ 5 48 Tryz.underlying23 HI.out.1 HI.out.2.1 HI.out.2.2.1 HI.out.2.2.2 rfl (by omega) (.slice va D.length vc) D.length (toksC D) (by rfl) HO4.out ⟨w3.heap.size, 0, none⟩ 1 1 (tokC x) (by rfl) (by rfl) HN4.out (tokC_one x) (by omega) (by unfold maxLen; omega) (by omega) HW4.out.2.2.2 _ rfl ?_
      intro g cap5 w5 hown5 hgrow _ _
      have f5 : Fr (fun k => n + 1 ≤ k) w4 w5 := (Fr.refl _ w4).grown hgrow (fun k' hk' => .inl (HO4.out.lt k' hk').1)
      have hb5 : Blk w5 w2.heap.size 37 (tokC x) := HB4.out.of_eq (hgrow.block _ HB4.out.lt (fun e => by have := HOl4.out _ e.symm; omega))
      have HW5 : Hid (Rd w5 n t k2 ∧ Fr (fun _ => False) w w5 ∧ n + 1 ≤ w5.heap.size) := ⟨HW4.out.1.fr f5 (by omega), HW4.out.2.1.trans f5 (fun i hi => .inr (by omega)), Nat.le_trans HW4.out.2.2.2 f5.size⟩
      have HO5 : Hid (w5.ownsRow (n + 1) 37 5 (.slice (some ⟨g, 0, none⟩) (D.length + 1) cap5) (D ++ [x]).length (toksC (D ++ [x]))) := by
        unfold Hid; rw [toksC_snoc, List.length_append]; exact hown5
      have d0 := hb5.cell 0
      simp only [tokC, List.getElem?_cons_zero] at d0
      clear k0 k1 k2' k3 k4 hown5 hgrow f5 hb5 HB4 HO4 HN4 HW4 HOl4
      have hk0 : (x.kind == 0) = true := by rw [HX.out]; rfl
      generalize x.kind = kd at *
      go_wp2_with fail
      go_ret2
      refine ⟨_, rfl, ?_, HW5.out.2.1⟩
      rw [HLD.out]
      exact ⟨HO5.out.1, HO5.out.2.imp (fun h => h) (fun ⟨g', c', cu, a1, a2, a3⟩ => ⟨g', c', cu, a1, by omega, a3⟩)⟩
    | @bad _ k1 a e hsk hh =>
      have HT := hid (token_any hRd hsk hh HEw.out HE0.out)
      unfold TPost at HT
      clear hsk hh hRd
      go_wp2_with fail
      refine HT.out.mono ?_
      rintro ee w2 ⟨x, fb, rfl, g2, q2, f2⟩
      have HBm := hid (new_tok w2)
      have HWm : Hid (Fr (fun _ => False) w (w2.alloc (.cells #[.int .i64 0, .string ⟨#[]⟩, .int .i64 0, .float .f64 0, .int .i64 0] 37)) ∧ n + 1 ≤ fb ∧ fb < w2.heap.size ∧ n < w2.heap.size) := ⟨(HF2.out.trans f2 (fun i hi => .inr (by omega))).alloc _, Nat.le_trans HN1.out g2, q2.lt, by have := f2.size; have := HN1.out; omega⟩
      have HQm : Hid (Flt (w2.alloc (.cells #[.int .i64 0, .string ⟨#[]⟩, .int .i64 0, .float .f64 0, .int .i64 0] 37)) fb a e) := Blk.alloc q2 _
      clear g2 q2 f2 HT HOw HF2 HN1
      go_wp2_with (refine wpList_storeT x (by rfl) _ _ (by rfl) HBm.out (by rfl) (by rfl) ?_; refine fun w3 b3 f3 => Hid.out ?_)
      refine hid ?_
      have HE3 : Hid (Flt w3 fb a e ∧ Fr (fun _ => False) w w3) := ⟨f3.blk HQm.out (by have := HWm.out; omega), HWm.out.1.trans f3 (fun i hi => .inr (by have := HWm.out; omega))⟩
      have HG := hid HWm.out.2.1
      clear b3 f3 HBm HQm HWm
      go_wp2
      go_ret2
      exact ⟨fb, rfl, by have := HG.out; omega, HE3.out⟩
    | @tok _ k1 k2 x l _ hsk hh hx hrest =>
      have HRest := hid hrest
      clear hrest
      have HX := hid hx
      clear hx
      have HT := hid (token_any hRd hsk hh HEw.out HE0.out)
      unfold TPost at HT
      clear hsk hh hRd
      go_wp2_with fail
      refine HT.out.mono ?_
      rintro e w2 ⟨rfl, f2, r2⟩
      have hW2 : Rd w2 n t k2 ∧ Fr (fun _ => False) w w2 ∧ n + 1 ≤ w2.heap.size := ⟨r2, HF2.out.trans f2 (fun i hi => .inr (by omega)), Nat.le_trans HN1.out f2.size⟩
      have hO2 : w2.ownsRow (n + 1) 37 5 u5 D.length (toksC D) := owns_of_eq HOw.out (fun k' hk' => f2.block k' (HOw.out.lt k' hk').2 (fun e => by have := (HOw.out.lt k' hk').1; omega))
      have HBm := hid (new_tok w2)
      have HWm : Hid (Rd (w2.alloc (.cells #[.int .i64 0, .string ⟨#[]⟩, .int .i64 0, .float .f64 0, .int .i64 0] 37)) n t k2 ∧ Fr (fun _ => False) w (w2.alloc (.cells #[.int .i64 0, .string ⟨#[]⟩, .int .i64 0, .float .f64 0, .int .i64 0] 37)) ∧ n + 1 ≤ w2.heap.size) := ⟨⟨hW2.1.blk.alloc _, hW2.1.le, hW2.1.len⟩, hW2.2.1.alloc _, hW2.2.2⟩
      have HOm : Hid ((w2.alloc (.cells #[.int .i64 0, .string ⟨#[]⟩, .int .i64 0, .float .f64 0, .int .i64 0] 37)).ownsRow (n + 1) 37 5 u5 D.length (toksC D)) := owns_of_eq hO2 (fun k' hk' => Below.heap_alloc w2 _ k' (hO2.lt k' hk').2)
      have HOl := hid (fun k' hk' => (hO2.lt k' hk').2)
      clear f2 r2 hW2 hO2 HT HOw HF2 HN1
      go_wp2_with (refine wpList_storeT x (by rfl) _ _ (by rfl) HBm.out (by rfl) (by rfl) ?_; refine fun w3 b3 f3 => Hid.out ?_)
      refine hid ?_
      have hW3 : Rd w3 n t k2 ∧ Fr (fun _ => False) w w3 ∧ n + 1 ≤ w2.heap.size ∧ w2.heap.size < w3.heap.size := ⟨HWm.out.1.fr f3 (by have := HWm.out.2.2; omega), HWm.out.2.1.trans f3 (fun i hi => .inr (by have := HWm.out.2.2; omega)), HWm.out.2.2, by have := f3.size; rw [World.size_alloc] at this; omega⟩
      have hO3 : w3.ownsRow (n + 1) 37 5 u5 D.length (toksC D) := owns_of_eq HOm.out (fun k' hk' => f3.block k' (HOm.out.lt k' hk').2 (fun e => by have := HOl.out k' hk'; omega))
      obtain ⟨va, vc, rfl⟩ := own_len hO3
      have k0 := b3.cell 0
      have k1 := b3.cell 1
      have k2' := b3.cell 2
      have k3 := b3.cell 3
      have k4 := b3.cell 4
      simp only [tokC, List.getElem?_cons_zero, List.getElem?_cons_succ] at k0 k1 k2' k3 k4
      have HB4 := hid (b3.alloc (.cells #[.int .i64 x.kind, .string ⟨x.text.toArray⟩, .int .i64 x.int, .float .f64 x.flt, .int .i64 (x.at_ : Int)] 37))
      have HO4 : Hid ((w3.alloc (.cells #[.int .i64 x.kind, .string ⟨x.text.toArray⟩, .int .i64 x.int, .float .f64 x.flt, .int .i64 (x.at_ : Int)] 37)).ownsRow (n + 1) 37 5 (.slice va D.length vc) D.length (toksC D)) := owns_of_eq hO3 (fun k' hk' => Below.heap_alloc w3 _ k' (hO3.lt k' hk').2)
      have HOl4 := hid (fun k' hk' => HOl.out k' hk')
      have HN4 : Hid (∀ j u, (tokC x)[j]? = some u → (w3.alloc (.cells #[.int .i64 x.kind, .string ⟨x.text.toArray⟩, .int .i64 x.int, .float .f64 x.flt, .int .i64 (x.at_ : Int)] 37)).cell? ((⟨w3.heap.size, 0, none⟩ : Addr).add j) = some u) := by
        intro j u hu
        have h2 := (Blk.new w3 37 (tokC x)).cell j
        rw [Addr.add_mid, Nat.zero_add]
        exact h2.trans hu
      have HW4 : Hid (Rd (w3.alloc (.cells #[.int .i64 x.kind, .string ⟨x.text.toArray⟩, .int .i64 x.int, .float .f64 x.flt, .int .i64 (x.at_ : Int)] 37)) n t k2 ∧ Fr (fun _ => False) w (w3.alloc (.cells #[.int .i64 x.kind, .string ⟨x.text.toArray⟩, .int .i64 x.int, .float .f64 x.flt, .int .i64 (x.at_ : Int)] 37)) ∧ n + 1 ≤ w2.heap.size ∧ n + 1 ≤ (w3.alloc (.cells #[.int .i64 x.kind, .string ⟨x.text.toArray⟩, .int .i64 x.int, .float .f64 x.flt, .int .i64 (x.at_ : Int)] 37)).heap.size) := ⟨⟨hW3.1.blk.alloc _, hW3.1.le, hW3.1.len⟩, hW3.2.1.alloc _, hW3.2.2.1, by rw [World.size_alloc]; omega⟩
      clear b3 f3 hW3 hO3 HWm HOm HBm HOl
      go_wp2_with (at_builtin; refine Hid.out ?_)
      refine hid ?_
      generalize hW4 : w3.alloc (.cells #[.int .i64 x.kind, .string ⟨x.text.toArray⟩, .int .i64 x.int, .float .f64 x.flt, .int .i64 (x.at_ : Int)] 37) = w4 at *
      clear hW4
      refine wpList_append_lies _ (by rfl) _ _ 23 (by rfl) (n + 1) 37 iE _ 5 48 Tryz.underlying23 HI.out.1 HI.out.2.1 HI.out.2.2.1 HI.out.2.2.2 rfl (by omega) (.slice va D.length vc) D.length (toksC D) (by rfl) HO4.out ⟨w3.heap.size, 0, none⟩ 1 1 (tokC x) (by rfl) (by rfl) HN4.out (tokC_one x) (by omega) (by unfold maxLen; omega) (by omega) HW4.out.2.2.2 _ rfl ?_
      intro g cap5 w5 hown5 hgrow _ _
      have f5 : Fr (fun k => n + 1 ≤ k) w4 w5 := (Fr.refl _ w4).grown hgrow (fun k' hk' => .inl (HO4.out.lt k' hk').1)
      have hb5 : Blk w5 w2.heap.size 37 (tokC x) := HB4.out.of_eq (hgrow.block _ HB4.out.lt (fun e => by have := HOl4.out _ e.symm; omega))
      have HW5 : Hid (Rd w5 n t k2 ∧ Fr (fun _ => False) w w5 ∧ n + 1 ≤ w5.heap.size) := ⟨HW4.out.1.fr f5 (by omega), HW4.out.2.1.trans f5 (fun i hi => .inr (by omega)), Nat.le_trans HW4.out.2.2.2 f5.size⟩
      have HO5 : Hid (w5.ownsRow (n + 1) 37 5 (.slice (some ⟨g, 0, none⟩) (D.length + 1) cap5) (D ++ [x]).length (toksC (D ++ [x]))) := by
        unfold Hid; rw [toksC_snoc, List.length_append]; exact hown5
      have d0 := hb5.cell 0
      simp only [tokC, List.getElem?_cons_zero] at d0
      clear k0 k1 k2' k3 k4 hown5 hgrow f5 hb5 HB4 HO4 HN4 HW4 HOl4
      have hk0 : (x.kind == 0) = false := by simpa using HX.out
      generalize hkd : x.kind = kd at *
      clear hkd
      go_wp2
      refine ⟨⟨k2, D ++ [x], l, HRest.out, by rw [HLD.out]; simp, HW5.out.1, ?_, HW5.out.2⟩, ?_⟩
      · exact HO5.out
      · have : L.length = D.length + (l.length + 1) := by rw [HLD.out]; simp
        simp [lenV]; omega

end Go.Proofs.YtionmohglmbklaaGreatDoor.Tr
