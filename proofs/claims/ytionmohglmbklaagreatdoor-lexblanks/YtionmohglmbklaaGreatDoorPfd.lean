/- ParseFloat where no digit is left out. -/
import Derived.Test.YtionmohglmbklaaGreatDoorPfc
namespace Go.Proofs.YtionmohglmbklaaGreatDoor.Tr
open Go.RowKit

/-- What the library's tables hold. -/
structure Tbs (w : World) (T : Nat → Nat × Nat) (Q : Nat → Nat) : Prop where
  opt : w.cell? ⟨5, 0, none⟩ = some (.bool true)
  tab : Pw w T
  pow : P10 w Q
  lay : 11 < w.heap.size
  rng : Rng w
theorem Tbs.env {w0 W : World} {T : Nat → Nat × Nat} {Q : Nat → Nat} (h : Tbs w0 T Q) (e : Env w0 W) : Tbs W T Q :=
  ⟨e.cell h.1, h.2.env e, h.3.env e, Nat.lt_of_lt_of_le h.4 e.1, h.5.env e⟩

theorem ato_of {w0 : World} {T : Nat → Nat × Nat} {Q : Nat → Nat} (h : Tbs w0 T Q) {t : List UInt8} {p q : Nat} (ht : FTx t p q) (htr : (rfAt t q).tr = false) (dp : Int) (hd0 : -200000 ≤ dp) (hd1 : dp ≤ 200000)
    (hR : ∀ w, Calls Tryz.prog 141 #[.string ⟨t.toArray⟩] w fun e w' => e = .returned (rfV (rfAt t q) t dp) ∧ w' = w) :
    Ato w0 t (atofN T (exF Q) (rfAt t q).m (if (rfAt t q).m = 0 then 0 else dp - ((rfAt t q).nm : Int))) := by
  intro w hE
  have H := h.env hE
  have hi := RI.at ht q (Nat.le_refl _)
  have h0 : 0 < t.length := by have := ht.pq; have := ht.ql; omega
  have hnm := hi.nm
  refine atof_nt H.tab H.lay H.opt (ex_any H.pow) h0 (ht.dg 0 h0 (by have := ht.pq; omega) (by have := ht.pos; omega)) _ _ (pow_le19 hi.mb hi.nm) (by split <;> omega) (by split <;> omega) ?_
  refine (hR w).mono ?_
  rintro e w' ⟨rfl, rfl⟩
  refine ⟨?_, rfl⟩
  unfold rfV
  rw [htr]

theorem ato_plain {w0 : World} {T : Nat → Nat × Nat} {Q : Nat → Nat} (h : Tbs w0 T Q) {t : List UInt8} {p : Nat} (ht : FTx t p t.length) (htr : (rfAt t t.length).tr = false) :
    Ato w0 t (atofN T (exF Q) (rfAt t t.length).m (if (rfAt t t.length).m = 0 then 0 else (rfAt t t.length).dp - ((rfAt t t.length).nm : Int))) := by
  have hi := RI.at ht t.length (Nat.le_refl _)
  have hl := ht.len
  exact ato_of h ht htr _ (by have := hi.lo; omega) (by have := hi.hi; omega) (fun w => readFloat_plain w ht)

theorem ato_exp {w0 : World} {T : Nat → Nat × Nat} {Q : Nat → Nat} (h : Tbs w0 T Q) {t : List UInt8} {p q r : Nat} {sg : Int} (ht : FTx t p q) (hx : EXx t q r sg) (htr : (rfAt t q).tr = false) :
    Ato w0 t (atofN T (exF Q) (rfAt t q).m (if (rfAt t q).m = 0 then 0 else (rfAt t q).dp + (exAt t r t.length : Int) * sg - ((rfAt t q).nm : Int))) := by
  have hi := RI.at ht q (Nat.le_refl _)
  have hl := ht.len
  have hq := ht.ql
  have h1 := hi.lo
  have h2 := hi.hi
  have he := exAt_le hx.dg t.length (Nat.le_of_lt hx.rl) (Nat.le_refl _)
  have hsg : sg = 1 ∨ sg = -1 := by
    rcases hx.rq with ⟨_, e, _⟩ | ⟨_, e, _⟩ | ⟨_, e, _⟩
    · exact .inl e
    · exact .inl e
    · exact .inr e
  refine ato_of h ht htr _ ?_ ?_ (fun w => readFloat_exp w ht hx)
  · rcases hsg with rfl | rfl <;> omega
  · rcases hsg with rfl | rfl <;> omega

/-- ParseFloat answers, or says that the number is out of range. -/
theorem pf_of {w0 : World} {T : Nat → Nat × Nat} {Q : Nat → Nat} (h : Tbs w0 T Q) {t : List UInt8} (hl : t.length ≤ 4096) {R : Nat × Bool} (hA : Ato w0 t R) : (R.2 = false → PFok w0 t R.1) ∧ (R.2 = true → PFno w0 t) := by
  obtain ⟨f, b⟩ := R
  refine ⟨fun e => ?_, fun e => ?_⟩
  · cases e; exact pf_ok hA
  · cases e; exact pf_no h.rng hl hA

end Go.Proofs.YtionmohglmbklaaGreatDoor.Tr
