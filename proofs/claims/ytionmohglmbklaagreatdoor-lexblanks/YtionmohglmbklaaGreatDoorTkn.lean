/- The contract of token. -/
import Derived.Test.YtionmohglmbklaaGreatDoorNu4
namespace Go.Proofs.YtionmohglmbklaaGreatDoor.Tr
open Go.RowKit

inductive Step
  | tok (x : Tok) (k : Nat)
  | bad (at_ : Nat) (e : Int)
def endT (t : List UInt8) : Tok := ⟨0, [], 0, 0, t.length⟩
def strStep (k : Nat) : Oc → Step
  | .fin s k' => .tok ⟨4, s, 0, 0, k⟩ k'
  | .err => .bad k 5
  | .bad k' => .bad k' 3
/-- What stands next, from a place behind blanks and remarks. -/
inductive Here (w0 : World) (t : List UInt8) : Nat → Step → Prop
  | fin : Here w0 t t.length (.tok (endT t) t.length)
  | name {k : Nat} : k < t.length → begN (at0 t k) = true → Here w0 t k (.tok (tokN t k) (upto inN t k))
  | flt {k f : Nat} : k < t.length → begN (at0 t k) = false → isDig (at0 t k) = true → (1 < upto isDig t k - k → (at0 t k == 48) = false) → (at0 t (upto isDig t k) == 46) = true → isDig (at0 t (upto isDig t k + 1)) = true →
      PFok w0 (sub t k (fracEnd t (upto isDig t k))) f → Here w0 t k (.tok (tokF t k f) (fracEnd t (upto isDig t k)))
  | str {k : Nat} {o : Oc} : k < t.length → (at0 t k == 34) = true → StrO t (k + 1) [] o → Here w0 t k (strStep k o)
  | fltno {k : Nat} : k < t.length → begN (at0 t k) = false → isDig (at0 t k) = true → (1 < upto isDig t k - k → (at0 t k == 48) = false) → (at0 t (upto isDig t k) == 46) = true → isDig (at0 t (upto isDig t k + 1)) = true →
      PFno w0 (sub t k (fracEnd t (upto isDig t k))) → Here w0 t k (.bad k 4)
  | int {k : Nat} {n : Int} : k < t.length → begN (at0 t k) = false → isDig (at0 t k) = true → (1 < upto isDig t k - k → (at0 t k == 48) = false) → ((at0 t (upto isDig t k) == 46) = true → isDig (at0 t (upto isDig t k + 1)) = false) →
      PIok w0 (sub t k (upto isDig t k)) n → Here w0 t k (.tok (tokI t k n) (upto isDig t k))
  | intno {k : Nat} : k < t.length → begN (at0 t k) = false → isDig (at0 t k) = true → (1 < upto isDig t k - k → (at0 t k == 48) = false) → ((at0 t (upto isDig t k) == 46) = true → isDig (at0 t (upto isDig t k + 1)) = false) →
      PIno w0 (sub t k (upto isDig t k)) → Here w0 t k (.bad k 4)
  | zero {k : Nat} : k < t.length → begN (at0 t k) = false → isDig (at0 t k) = true → 1 < upto isDig t k - k → (at0 t k == 48) = true → Here w0 t k (.bad k 4)
  | byte {k : Nat} : k < t.length → begN (at0 t k) = false → isDig (at0 t k) = false → (at0 t k == 34) = false → signLen t k = 0 → Here w0 t k (.bad k 3)
  | sign {k : Nat} : k < t.length → begN (at0 t k) = false → isDig (at0 t k) = false → (at0 t k == 34) = false → signLen t k ≠ 0 → Here w0 t k (.tok (tokS t k) (k + signLen t k))

def TPost (w : World) (b : Nat) (t : List UInt8) : Step → Ending → World → Prop
  | .tok x k, r, w' => GoodPost w b t x k r w'
  | .bad a e, r, w' => BadPost w b a e r w'

theorem TPost.back {w W w' : World} {b : Nat} {t : List UInt8} {s : Step} {r : Ending} (f : Fr (· = b) w W) (h : TPost W b t s r w') : TPost w b t s r w' := by
  cases s with
  | tok x k => exact ⟨h.1, f.same h.2.1, h.2.2⟩
  | bad a e =>
    obtain ⟨x, fb, h1, h2, h3, h4⟩ := h
    exact ⟨x, fb, h1, Nat.le_trans f.size h2, h3, f.same h4⟩

set_option maxRecDepth 100000 in
set_option maxHeartbeats 2000000 in
theorem token_any {w0 w : World} {b : Nat} {t : List UInt8} {k k1 : Nat} {s : Step} (h : Rd w b t k) (hk : Skp t (upto isBlank t k) k1) (hs : Here w0 t k1 s) (hE : Env w0 w) (hb : w0.heap.size ≤ b) : Calls Tryz.prog 38 #[pv b] w (TPost w b t s) := by
  have HA := hid (new_tok w)
  have HF := hid ((Fr.refl (· = b) w).alloc (.cells #[.int .i64 0, .string ⟨#[]⟩, .int .i64 0, .float .f64 0, .int .i64 0] 37))
  have hR : Rd (w.alloc (.cells #[.int .i64 0, .string ⟨#[]⟩, .int .i64 0, .float .f64 0, .int .i64 0] 37)) b t k := ⟨h.blk.alloc _, h.le, h.len⟩
  have HR := hid hR
  have HB := hid h.blk.lt
  have HSz : Hid ((w.alloc (.cells #[.int .i64 0, .string ⟨#[]⟩, .int .i64 0, .float .f64 0, .int .i64 0] 37)).heap.size = w.heap.size + 1) := World.size_alloc _ _
  have HEnv := hid hE
  have Hb := hid hb
  have HS := hid hs
  have HK := hid hk
  clear h hR hk hs hE hb
  generalize hn : w.heap.size = n at *
  go_enter Tryz.func38, Tryz.ntmps38
  go_wp2_with fail
  refine (skip_any HR.out HK.out).mono ?_
  rintro e w2 ⟨rfl, f2, r2⟩
  have HW2 : Hid (Rd w2 b t k1 ∧ Fr (· = b) w w2 ∧ Blk w2 n 37 (tokC zeroT) ∧ n + 1 ≤ w2.heap.size) := ⟨r2, HF.out.same f2, f2.blk HA.out (by have := HB.out; omega), by have := f2.size; rw [HSz.out] at this; exact this⟩
  clear f2 r2 HR HA HF HSz
  go_wp2_with fail
  refine (peek_any HW2.out.1 0 0 rfl (by omega)).mono ?_
  rintro e w3 ⟨rfl, m, rfl⟩
  have HW3 : Hid (Rd (w2.drewN m) b t k1 ∧ Fr (· = b) w (w2.drewN m) ∧ Blk (w2.drewN m) n 37 (tokC zeroT) ∧ n + 1 ≤ (w2.drewN m).heap.size) := ⟨HW2.out.1.drewN m, HW2.out.2.1.drewN m, HW2.out.2.2.1, HW2.out.2.2.2⟩
  generalize w2.drewN m = w3 at *
  clear HW2
  rw [Nat.add_zero]
  go_wp2_with fail
  refine (ended_any HW3.out.1).mono ?_
  rintro e w4 ⟨rfl, m4, rfl⟩
  have HW4 : Hid (Rd (w3.drewN m4) b t k1 ∧ Fr (· = b) w (w3.drewN m4) ∧ Blk (w3.drewN m4) n 37 (tokC zeroT) ∧ n + 1 ≤ (w3.drewN m4).heap.size) := ⟨HW3.out.1.drewN m4, HW3.out.2.1.drewN m4, HW3.out.2.2.1, HW3.out.2.2.2⟩
  generalize w3.drewN m4 = w4 at *
  clear HW3
  have c1 := HW4.out.1.c1
  have HBg := hid (fun W => begins_any W (at0 t k1))
  have HDg := hid (fun W => digit_any W (at0 t k1))
  cases HS.out with
  | fin =>
    have he : (t.length == t.length) = true := by simp
    rw [he]
    clear he
    go_wp2_with (refine wpList_storeT (endT t) (by rfl) _ _ (by rfl) HW4.out.2.2.1 (by rfl) (by rfl) ?_; intro w5 b5 f5)
    have HB5 := hid b5
    have HE : Hid (Fr (· = b) w w5 ∧ Rd w5 b t t.length) := ⟨HW4.out.2.1.trans f5 (fun i hi => .inr (by omega)), HW4.out.1.fr f5 (by have := HB.out; omega)⟩
    clear b5 f5
    go_wp2_with fail
    exact bodyPost_ret (resultsT rfl rfl rfl HB5.out) rfl ⟨rfl, HE.out⟩
  | name h1 h2 =>
    have he : (k1 == t.length) = false := by simp; omega
    rw [he]
    rw [h2] at HBg
    clear he HDg h2 HS
    have HC := hid (name_any HW4.out.1)
    generalize hcx : at0 t k1 = c at *
    clear hcx
    go_wp2_with fail
    refine (HBg.out _).mono ?_
    rintro e w5 ⟨rfl, rfl⟩
    clear HBg
    go_wp2_with fail
    refine HC.out.mono ?_
    rintro e w5 ⟨rfl, f5, r5⟩
    have HW5 : Hid (Rd w5 b t (upto inN t k1) ∧ Fr (· = b) w w5 ∧ Blk w5 n 37 (tokC zeroT)) := ⟨r5, HW4.out.2.1.same f5, f5.blk HW4.out.2.2.1 (by have := HB.out; omega)⟩
    clear f5 r5 HW4 HC
    go_wp2_with (refine wpList_storeT (tokN t k1) (by rfl) _ _ (by rfl) HW5.out.2.2 (by rfl) (by rfl) ?_; intro w6 b6 f6)
    have HB6 := hid b6
    have HE : Hid (Fr (· = b) w w6 ∧ Rd w6 b t (upto inN t k1)) := ⟨HW5.out.2.1.trans f6 (fun i hi => .inr (by omega)), HW5.out.1.fr f6 (by have := HB.out; omega)⟩
    clear b6 f6
    go_wp2_with fail
    exact bodyPost_ret (resultsT rfl rfl rfl HB6.out) rfl ⟨rfl, HE.out⟩
  | @flt _ f h1 h2 h3 h4 h5 h6 h7 =>
    have he : (k1 == t.length) = false := by simp; omega
    rw [he]
    have HC := hid (number_float HW4.out.1 h1 (by rw [← at0_lt h1]; exact h3) h4 h5 h6 h7 (HEnv.out.fr HW4.out.2.1 (fun j hj => by rw [hj]; exact Hb.out)) Hb.out)
    rw [h2] at HBg
    rw [h3] at HDg
    clear he h1 h2 h3 h4 h5 h6 h7 HS
    generalize hcx : at0 t k1 = c at *
    clear hcx
    go_wp2_with fail
    refine (HBg.out _).mono ?_
    rintro e w5 ⟨rfl, rfl⟩
    clear HBg
    go_wp2_with fail
    refine (HDg.out _).mono ?_
    rintro e w5 ⟨rfl, rfl⟩
    clear HDg
    go_wp2_with fail
    refine HC.out.mono ?_
    rintro e w5 ⟨rfl, f5, r5⟩
    have HW5 : Hid (Rd w5 b t (fracEnd t (upto isDig t k1)) ∧ Fr (· = b) w w5 ∧ Blk w5 n 37 (tokC zeroT)) := ⟨r5, HW4.out.2.1.same f5, f5.blk HW4.out.2.2.1 (by have := HB.out; omega)⟩
    clear f5 r5 HW4
    try clear HC
    go_wp2_with (refine wpList_storeT (tokF t k1 f) (by rfl) _ _ (by rfl) HW5.out.2.2 (by rfl) (by rfl) ?_; intro w6 b6 f6)
    have HB6 := hid b6
    have HE : Hid (Fr (· = b) w w6 ∧ Rd w6 b t (fracEnd t (upto isDig t k1))) := ⟨HW5.out.2.1.trans f6 (fun i hi => .inr (by omega)), HW5.out.1.fr f6 (by have := HB.out; omega)⟩
    clear b6 f6
    go_wp2_with fail
    exact bodyPost_ret (resultsT rfl rfl rfl HB6.out) rfl ⟨rfl, HE.out⟩
  | fltno h1 h2 h3 h4 h5 h6 h7 =>
    have he : (k1 == t.length) = false := by simp; omega
    rw [he]
    have HC := hid (number_floatno HW4.out.1 h1 (by rw [← at0_lt h1]; exact h3) h4 h5 h6 h7 (HEnv.out.fr HW4.out.2.1 (fun j hj => by rw [hj]; exact Hb.out)) Hb.out)
    rw [h2] at HBg
    rw [h3] at HDg
    clear he h1 h2 h3 h4 h5 h6 h7 HS
    generalize hcx : at0 t k1 = c at *
    clear hcx
    go_wp2_with fail
    refine (HBg.out _).mono ?_
    rintro e w5 ⟨rfl, rfl⟩
    clear HBg
    go_wp2_with fail
    refine (HDg.out _).mono ?_
    rintro e w5 ⟨rfl, rfl⟩
    clear HDg
    go_wp2_with fail
    refine HC.out.mono ?_
    rintro e w5 ⟨x, fb, rfl, g5, q5, f5⟩
    have HW5 : Hid (Fr (· = b) w w5 ∧ Blk w5 n 37 (tokC zeroT) ∧ n + 1 ≤ fb) := ⟨HW4.out.2.1.same f5, f5.blk HW4.out.2.2.1 (by have := HB.out; omega), Nat.le_trans HW4.out.2.2.2 g5⟩
    have HQ5 := hid q5
    clear f5 q5 g5 HW4
    try clear HC
    go_wp2_with (refine wpList_storeT x (by rfl) _ _ (by rfl) HW5.out.2.1 (by rfl) (by rfl) ?_; intro w6 b6 f6)
    have HB6 := hid b6
    have HE : Hid (Flt w6 fb k1 4 ∧ Fr (· = b) w w6) := ⟨f6.blk HQ5.out (by have := HW5.out.2.2; omega), HW5.out.1.trans f6 (fun i hi => .inr (by omega))⟩
    clear b6 f6
    go_wp2_with fail
    exact bodyPost_ret (resultsT rfl rfl rfl HB6.out) rfl ⟨x, fb, rfl, by have := HW5.out.2.2; omega, HE.out⟩
  | @int _ n1 h1 h2 h3 h4 h5 h6 =>
    have he : (k1 == t.length) = false := by simp; omega
    rw [he]
    have HC := hid (number_int HW4.out.1 h1 (by rw [← at0_lt h1]; exact h3) h4 h5 h6 (HEnv.out.fr HW4.out.2.1 (fun j hj => by rw [hj]; exact Hb.out)) Hb.out)
    rw [h2] at HBg
    rw [h3] at HDg
    clear he h1 h2 h3 h4 h5 h6 HS
    generalize hcx : at0 t k1 = c at *
    clear hcx
    go_wp2_with fail
    refine (HBg.out _).mono ?_
    rintro e w5 ⟨rfl, rfl⟩
    clear HBg
    go_wp2_with fail
    refine (HDg.out _).mono ?_
    rintro e w5 ⟨rfl, rfl⟩
    clear HDg
    go_wp2_with fail
    refine HC.out.mono ?_
    rintro e w5 ⟨rfl, f5, r5⟩
    have HW5 : Hid (Rd w5 b t (upto isDig t k1) ∧ Fr (· = b) w w5 ∧ Blk w5 n 37 (tokC zeroT)) := ⟨r5, HW4.out.2.1.same f5, f5.blk HW4.out.2.2.1 (by have := HB.out; omega)⟩
    clear f5 r5 HW4
    try clear HC
    go_wp2_with (refine wpList_storeT (tokI t k1 n1) (by rfl) _ _ (by rfl) HW5.out.2.2 (by rfl) (by rfl) ?_; intro w6 b6 f6)
    have HB6 := hid b6
    have HE : Hid (Fr (· = b) w w6 ∧ Rd w6 b t (upto isDig t k1)) := ⟨HW5.out.2.1.trans f6 (fun i hi => .inr (by omega)), HW5.out.1.fr f6 (by have := HB.out; omega)⟩
    clear b6 f6
    go_wp2_with fail
    exact bodyPost_ret (resultsT rfl rfl rfl HB6.out) rfl ⟨rfl, HE.out⟩
  | intno h1 h2 h3 h4 h5 h6 =>
    have he : (k1 == t.length) = false := by simp; omega
    rw [he]
    have HC := hid (number_intno HW4.out.1 h1 (by rw [← at0_lt h1]; exact h3) h4 h5 h6 (HEnv.out.fr HW4.out.2.1 (fun j hj => by rw [hj]; exact Hb.out)) Hb.out)
    rw [h2] at HBg
    rw [h3] at HDg
    clear he h1 h2 h3 h4 h5 h6 HS
    generalize hcx : at0 t k1 = c at *
    clear hcx
    go_wp2_with fail
    refine (HBg.out _).mono ?_
    rintro e w5 ⟨rfl, rfl⟩
    clear HBg
    go_wp2_with fail
    refine (HDg.out _).mono ?_
    rintro e w5 ⟨rfl, rfl⟩
    clear HDg
    go_wp2_with fail
    refine HC.out.mono ?_
    rintro e w5 ⟨x, fb, rfl, g5, q5, f5⟩
    have HW5 : Hid (Fr (· = b) w w5 ∧ Blk w5 n 37 (tokC zeroT) ∧ n + 1 ≤ fb) := ⟨HW4.out.2.1.same f5, f5.blk HW4.out.2.2.1 (by have := HB.out; omega), Nat.le_trans HW4.out.2.2.2 g5⟩
    have HQ5 := hid q5
    clear f5 q5 g5 HW4
    try clear HC
    go_wp2_with (refine wpList_storeT x (by rfl) _ _ (by rfl) HW5.out.2.1 (by rfl) (by rfl) ?_; intro w6 b6 f6)
    have HB6 := hid b6
    have HE : Hid (Flt w6 fb k1 4 ∧ Fr (· = b) w w6) := ⟨f6.blk HQ5.out (by have := HW5.out.2.2; omega), HW5.out.1.trans f6 (fun i hi => .inr (by omega))⟩
    clear b6 f6
    go_wp2_with fail
    exact bodyPost_ret (resultsT rfl rfl rfl HB6.out) rfl ⟨x, fb, rfl, by have := HW5.out.2.2; omega, HE.out⟩
  | zero h1 h2 h3 h4 h5 =>
    have he : (k1 == t.length) = false := by simp; omega
    rw [he]
    have HC := hid (number_zero HW4.out.1 h1 (by rw [← at0_lt h1]; exact h3) h4 h5)
    rw [h2] at HBg
    rw [h3] at HDg
    clear he h1 h2 h3 h4 h5 HS
    generalize hcx : at0 t k1 = c at *
    clear hcx
    go_wp2_with fail
    refine (HBg.out _).mono ?_
    rintro e w5 ⟨rfl, rfl⟩
    clear HBg
    go_wp2_with fail
    refine (HDg.out _).mono ?_
    rintro e w5 ⟨rfl, rfl⟩
    clear HDg
    go_wp2_with fail
    refine HC.out.mono ?_
    rintro e w5 ⟨x, fb, rfl, g5, q5, f5⟩
    have HW5 : Hid (Fr (· = b) w w5 ∧ Blk w5 n 37 (tokC zeroT) ∧ n + 1 ≤ fb) := ⟨HW4.out.2.1.same f5, f5.blk HW4.out.2.2.1 (by have := HB.out; omega), Nat.le_trans HW4.out.2.2.2 g5⟩
    have HQ5 := hid q5
    clear f5 q5 g5 HW4
    try clear HC
    go_wp2_with (refine wpList_storeT x (by rfl) _ _ (by rfl) HW5.out.2.1 (by rfl) (by rfl) ?_; intro w6 b6 f6)
    have HB6 := hid b6
    have HE : Hid (Flt w6 fb k1 4 ∧ Fr (· = b) w w6) := ⟨f6.blk HQ5.out (by have := HW5.out.2.2; omega), HW5.out.1.trans f6 (fun i hi => .inr (by omega))⟩
    clear b6 f6
    go_wp2_with fail
    exact bodyPost_ret (resultsT rfl rfl rfl HB6.out) rfl ⟨x, fb, rfl, by have := HW5.out.2.2; omega, HE.out⟩
  | @str _ o h1 h2 h3 =>
    have he : (k1 == t.length) = false := by simp; omega
    rw [he]
    have HC := hid (quoted_any HW4.out.1 h1 h3)
    have hc34 : at0 t k1 = 34 := by simpa using h2
    rw [hc34] at HBg HDg ⊢
    have b34 : begN 34 = false := by decide
    have d34 : isDig 34 = false := by decide
    rw [b34] at HBg
    rw [d34] at HDg
    clear he h1 h2 h3 HS hc34 b34 d34
    have hq : (((34 : UInt8).toNat : Int) == 34) = true := by decide
    generalize hcx : (34 : UInt8) = c at *
    clear hcx
    cases o with
    | fin s k' =>
      unfold QPost at HC
      go_wp2_with fail
      refine (HBg.out _).mono ?_
      rintro e w5 ⟨rfl, rfl⟩
      clear HBg
      go_wp2_with fail
      refine (HDg.out _).mono ?_
      rintro e w5 ⟨rfl, rfl⟩
      clear HDg
      go_wp2_with fail
      refine HC.out.mono ?_
      rintro e w5 ⟨rfl, f5, r5⟩
      have HW5 : Hid (Rd w5 b t (k') ∧ Fr (· = b) w w5 ∧ Blk w5 n 37 (tokC zeroT)) := ⟨r5, HW4.out.2.1.same f5, f5.blk HW4.out.2.2.1 (by have := HB.out; omega)⟩
      clear f5 r5 HW4
      try clear HC
      go_wp2_with (refine wpList_storeT ⟨4, s, 0, 0, k1⟩ (by rfl) _ _ (by rfl) HW5.out.2.2 (by rfl) (by rfl) ?_; intro w6 b6 f6)
      have HB6 := hid b6
      have HE : Hid (Fr (· = b) w w6 ∧ Rd w6 b t (k')) := ⟨HW5.out.2.1.trans f6 (fun i hi => .inr (by omega)), HW5.out.1.fr f6 (by have := HB.out; omega)⟩
      clear b6 f6
      go_wp2_with fail
      exact bodyPost_ret (resultsT rfl rfl rfl HB6.out) rfl ⟨rfl, HE.out⟩
    | err =>
      unfold QPost at HC
      go_wp2_with fail
      refine (HBg.out _).mono ?_
      rintro e w5 ⟨rfl, rfl⟩
      clear HBg
      go_wp2_with fail
      refine (HDg.out _).mono ?_
      rintro e w5 ⟨rfl, rfl⟩
      clear HDg
      go_wp2_with fail
      refine HC.out.mono ?_
      rintro e w5 ⟨x, fb, rfl, g5, q5, f5⟩
      have HW5 : Hid (Fr (· = b) w w5 ∧ Blk w5 n 37 (tokC zeroT) ∧ n + 1 ≤ fb) := ⟨HW4.out.2.1.same f5, f5.blk HW4.out.2.2.1 (by have := HB.out; omega), Nat.le_trans HW4.out.2.2.2 g5⟩
      have HQ5 := hid q5
      clear f5 q5 g5 HW4
      try clear HC
      go_wp2_with (refine wpList_storeT x (by rfl) _ _ (by rfl) HW5.out.2.1 (by rfl) (by rfl) ?_; intro w6 b6 f6)
      have HB6 := hid b6
      have HE : Hid (Flt w6 fb k1 5 ∧ Fr (· = b) w w6) := ⟨f6.blk HQ5.out (by have := HW5.out.2.2; omega), HW5.out.1.trans f6 (fun i hi => .inr (by omega))⟩
      clear b6 f6
      go_wp2_with fail
      exact bodyPost_ret (resultsT rfl rfl rfl HB6.out) rfl ⟨x, fb, rfl, by have := HW5.out.2.2; omega, HE.out⟩
    | bad k' =>
      unfold QPost at HC
      go_wp2_with fail
      refine (HBg.out _).mono ?_
      rintro e w5 ⟨rfl, rfl⟩
      clear HBg
      go_wp2_with fail
      refine (HDg.out _).mono ?_
      rintro e w5 ⟨rfl, rfl⟩
      clear HDg
      go_wp2_with fail
      refine HC.out.mono ?_
      rintro e w5 ⟨x, fb, rfl, g5, q5, f5⟩
      have HW5 : Hid (Fr (· = b) w w5 ∧ Blk w5 n 37 (tokC zeroT) ∧ n + 1 ≤ fb) := ⟨HW4.out.2.1.same f5, f5.blk HW4.out.2.2.1 (by have := HB.out; omega), Nat.le_trans HW4.out.2.2.2 g5⟩
      have HQ5 := hid q5
      clear f5 q5 g5 HW4
      try clear HC
      go_wp2_with (refine wpList_storeT x (by rfl) _ _ (by rfl) HW5.out.2.1 (by rfl) (by rfl) ?_; intro w6 b6 f6)
      have HB6 := hid b6
      have HE : Hid (Flt w6 fb k' 3 ∧ Fr (· = b) w w6) := ⟨f6.blk HQ5.out (by have := HW5.out.2.2; omega), HW5.out.1.trans f6 (fun i hi => .inr (by omega))⟩
      clear b6 f6
      go_wp2_with fail
      exact bodyPost_ret (resultsT rfl rfl rfl HB6.out) rfl ⟨x, fb, rfl, by have := HW5.out.2.2; omega, HE.out⟩
  | byte h1 h2 h3 h4 h5 =>
    have he : (k1 == t.length) = false := by simp; omega
    rw [he]
    have HC := hid (sign_bad HW4.out.1 h1 h5)
    rw [h2] at HBg
    rw [h3] at HDg
    have hq : (((at0 t k1).toNat : Int) == 34) = false := by
      rw [Bool.eq_false_iff] at h4 ⊢
      intro h; apply h4; rw [u8n]; simp at h; simp; omega
    clear he h1 h2 h3 h4 h5 HS
    generalize hcx : at0 t k1 = c at *
    clear hcx
    go_wp2_with fail
    refine (HBg.out _).mono ?_
    rintro e w5 ⟨rfl, rfl⟩
    clear HBg
    go_wp2_with fail
    refine (HDg.out _).mono ?_
    rintro e w5 ⟨rfl, rfl⟩
    clear HDg
    go_wp2_with fail
    refine HC.out.mono ?_
    rintro e w5 ⟨x, fb, rfl, g5, q5, f5⟩
    have HW5 : Hid (Fr (· = b) w w5 ∧ Blk w5 n 37 (tokC zeroT) ∧ n + 1 ≤ fb) := ⟨HW4.out.2.1.same f5, f5.blk HW4.out.2.2.1 (by have := HB.out; omega), Nat.le_trans HW4.out.2.2.2 g5⟩
    have HQ5 := hid q5
    clear f5 q5 g5 HW4
    try clear HC
    go_wp2_with (refine wpList_storeT x (by rfl) _ _ (by rfl) HW5.out.2.1 (by rfl) (by rfl) ?_; intro w6 b6 f6)
    have HB6 := hid b6
    have HE : Hid (Flt w6 fb k1 3 ∧ Fr (· = b) w w6) := ⟨f6.blk HQ5.out (by have := HW5.out.2.2; omega), HW5.out.1.trans f6 (fun i hi => .inr (by omega))⟩
    clear b6 f6
    go_wp2_with fail
    exact bodyPost_ret (resultsT rfl rfl rfl HB6.out) rfl ⟨x, fb, rfl, by have := HW5.out.2.2; omega, HE.out⟩
  | sign h1 h2 h3 h4 h5 =>
    have he : (k1 == t.length) = false := by simp; omega
    rw [he]
    have HC := hid (sign_good HW4.out.1 h1 h5)
    rw [h2] at HBg
    rw [h3] at HDg
    have hq : (((at0 t k1).toNat : Int) == 34) = false := by
      rw [Bool.eq_false_iff] at h4 ⊢
      intro h; apply h4; rw [u8n]; simp at h; simp; omega
    clear he h1 h2 h3 h4 h5 HS
    generalize hcx : at0 t k1 = c at *
    clear hcx
    go_wp2_with fail
    refine (HBg.out _).mono ?_
    rintro e w5 ⟨rfl, rfl⟩
    clear HBg
    go_wp2_with fail
    refine (HDg.out _).mono ?_
    rintro e w5 ⟨rfl, rfl⟩
    clear HDg
    go_wp2_with fail
    refine HC.out.mono ?_
    rintro e w5 ⟨rfl, f5, r5⟩
    have HW5 : Hid (Rd w5 b t (k1 + signLen t k1) ∧ Fr (· = b) w w5 ∧ Blk w5 n 37 (tokC zeroT)) := ⟨r5, HW4.out.2.1.same f5, f5.blk HW4.out.2.2.1 (by have := HB.out; omega)⟩
    clear f5 r5 HW4
    try clear HC
    go_wp2_with (refine wpList_storeT (tokS t k1) (by rfl) _ _ (by rfl) HW5.out.2.2 (by rfl) (by rfl) ?_; intro w6 b6 f6)
    have HB6 := hid b6
    have HE : Hid (Fr (· = b) w w6 ∧ Rd w6 b t (k1 + signLen t k1)) := ⟨HW5.out.2.1.trans f6 (fun i hi => .inr (by omega)), HW5.out.1.fr f6 (by have := HB.out; omega)⟩
    clear b6 f6
    go_wp2_with fail
    exact bodyPost_ret (resultsT rfl rfl rfl HB6.out) rfl ⟨rfl, HE.out⟩

end Go.Proofs.YtionmohglmbklaaGreatDoor.Tr
