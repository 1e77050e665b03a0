/- Values as trees in memory. -/
import Derived.Test.YtlepjghfcpgbcaaGreatDoorShn
import Derived.Test.YtlepjghfcpgbcaaGreatDoorHnd
namespace Go.Proofs.YtlepjghfcpgbcaaGreatDoor.Tr
open Go.RowKit

/-- A value: its kind, its number, its float's bits, its text, its names, its items. -/
inductive Vt where
  | mk (k n : Int) (f : Nat) (t : List UInt8) (ns : List (List UInt8)) (its : List Vt)
def Vt.k : Vt → Int | .mk k .. => k
def Vt.n : Vt → Int | .mk _ n .. => n
def Vt.f : Vt → Nat | .mk _ _ f .. => f
def Vt.t : Vt → List UInt8 | .mk _ _ _ t .. => t
def Vt.ns : Vt → List (List UInt8) | .mk _ _ _ _ ns _ => ns
def Vt.its : Vt → List Vt | .mk _ _ _ _ _ its => its
theorem Vt.its_lt {v u : Vt} (h : u ∈ v.its) : SizeOf.sizeOf u < SizeOf.sizeOf v := by
  cases v with
  | mk k n f t ns its =>
    have : SizeOf.sizeOf u < SizeOf.sizeOf its := List.sizeOf_lt_of_mem h
    simp only [Vt.mk.sizeOf_spec]
    omega

/-- A value's six cells, wherever they lie. -/
def sixO (W : World) (b o : Nat) (x : Vv) : Prop := ∀ j v, x.cs[j]? = some v → W.cell? ⟨b, o + j, none⟩ = some v
def lim : Nat := 140737488351232
/-- Texts that lie in a row. -/
def Strs (w : World) (ad : Option Addr) (ns : List (List UInt8)) : Prop := ns ≠ [] → ∃ b o, ad = some ⟨b, o, none⟩ ∧ ∀ i (h : i < ns.length), w.cell? ⟨b, o + i, none⟩ = some (.string ⟨ns[i].toArray⟩)
mutual
/-- The fields x are the value v. -/
def VIn (w : World) : Vt → Vv → Prop
  | .mk k n f t ns its, x => (x.k = k ∧ x.n = n ∧ x.f = f ∧ x.t = t) ∧ (I64 k ∧ I64 n ∧ t.length ≤ lim ∧ (∀ s ∈ ns, s.length ≤ lim)) ∧ (x.nl = ns.length ∧ ns.length ≤ x.nc ∧ ns.length ≤ lim ∧ Strs w x.na ns) ∧ (x.il = its.length ∧ its.length ≤ x.ic ∧ its.length ≤ lim) ∧ IIn w its x.ia
/-- At ad lie these values. -/
def IIn (w : World) : List Vt → Option Addr → Prop
  | [], _ => True
  | v :: r, ad => ∃ b o x, ad = some ⟨b, o, none⟩ ∧ sixO w b o x ∧ VIn w v x ∧ IIn w r (some ⟨b, o + 6, none⟩)
end
theorem sixO.env {w W : World} {b o : Nat} {x : Vv} (h : sixO w b o x) (e : Env w W) : sixO W b o x := fun j v hv => e.cell (h j v hv)
theorem Strs.env {w W : World} {ad : Option Addr} {ns : List (List UInt8)} (h : Strs w ad ns) (e : Env w W) : Strs W ad ns := fun hne => by
  obtain ⟨b, o, h1, h2⟩ := h hne
  exact ⟨b, o, h1, fun i hi => e.cell (h2 i hi)⟩
mutual
theorem VIn.env {w W : World} (e : Env w W) : ∀ (v : Vt) (x : Vv), VIn w v x → VIn W v x
  | .mk k n f t ns its, x, h => by
    rw [VIn] at h ⊢
    exact ⟨h.1, h.2.1, ⟨h.2.2.1.1, h.2.2.1.2.1, h.2.2.1.2.2.1, h.2.2.1.2.2.2.env e⟩, h.2.2.2.1, IIn.env e its x.ia h.2.2.2.2⟩
theorem IIn.env {w W : World} (e : Env w W) : ∀ (l : List Vt) (ad : Option Addr), IIn w l ad → IIn W l ad
  | [], _, _ => by rw [IIn]; trivial
  | v :: r, ad, h => by
    rw [IIn] at h ⊢
    obtain ⟨b, o, x, h1, h2, h3, h4⟩ := h
    exact ⟨b, o, x, h1, h2.env e, VIn.env e v x h3, IIn.env e r _ h4⟩
end
theorem IIn.get {w : World} : ∀ {l : List Vt} {b o : Nat}, IIn w l (some ⟨b, o, none⟩) → ∀ i (h : i < l.length), ∃ x, sixO w b (o + i * 6) x ∧ VIn w l[i] x
  | [], _, _, _, i, h => absurd h (by simp)
  | v :: r, b, o, h, i, hi => by
    rw [IIn] at h
    obtain ⟨b', o', x, h1, h2, h3, h4⟩ := h
    simp only [Option.some.injEq, Addr.mk.injEq, and_true] at h1
    obtain ⟨rfl, rfl⟩ := h1
    cases i with
    | zero => exact ⟨x, h2, h3⟩
    | succ i =>
      obtain ⟨y, y1, y2⟩ := IIn.get h4 i (by simpa using hi)
      refine ⟨y, ?_, by simpa using y2⟩
      rw [show o + (i + 1) * 6 = o + 6 + i * 6 by omega]
      exact y1
theorem IIn.some {w : World} {l : List Vt} {ad : Option Addr} (h : IIn w l ad) (hne : l ≠ []) : ∃ b o, ad = .some ⟨b, o, none⟩ := by
  cases l with
  | nil => exact absurd rfl hne
  | cons v r =>
    rw [IIn] at h
    obtain ⟨b, o, x, h1, _⟩ := h
    exact ⟨b, o, h1⟩
theorem sixO.six {W : World} {b o : Nat} {x : Vv} (h : sixO W b o x) : W.cell? ⟨b, o, none⟩ = some (.int .i64 x.k) ∧ W.cell? ⟨b, o + 1, none⟩ = some (.int .i64 x.n) ∧ W.cell? ⟨b, o + 2, none⟩ = some (.float .f64 x.f) ∧ W.cell? ⟨b, o + 3, none⟩ = some (.string ⟨x.t.toArray⟩) ∧ W.cell? ⟨b, o + 4, none⟩ = some (.slice x.na x.nl x.nc) ∧ W.cell? ⟨b, o + 5, none⟩ = some (.slice x.ia x.il x.ic) :=
  ⟨h 0 _ rfl, h 1 _ rfl, h 2 _ rfl, h 3 _ rfl, h 4 _ rfl, h 5 _ rfl⟩
/-- The parts of a value in memory. -/
theorem VIn.parts {w : World} {v : Vt} {x : Vv} (h : VIn w v x) : (x.k = v.k ∧ x.n = v.n ∧ x.f = v.f ∧ x.t = v.t) ∧ (I64 v.k ∧ I64 v.n ∧ v.t.length ≤ lim ∧ (∀ s ∈ v.ns, s.length ≤ lim)) ∧ (x.nl = v.ns.length ∧ v.ns.length ≤ x.nc ∧ v.ns.length ≤ lim ∧ Strs w x.na v.ns) ∧ (x.il = v.its.length ∧ v.its.length ≤ x.ic ∧ v.its.length ≤ lim) ∧ IIn w v.its x.ia := by
  cases v; rw [VIn] at h; exact h
theorem VIn.item {w : World} {v : Vt} {x : Vv} (h : VIn w v x) (i : Nat) (hi : i < v.its.length) : ∃ b o y, x.ia = some ⟨b, o, none⟩ ∧ sixO w b (o + i * 6) y ∧ VIn w v.its[i] y := by
  have hp := h.parts.2.2.2.2
  obtain ⟨b, o, e⟩ := hp.some (by intro e; rw [e] at hi; simp at hi)
  rw [e] at hp
  obtain ⟨y, y1, y2⟩ := hp.get i hi
  exact ⟨b, o, y, e, y1, y2⟩

mutual
/-- What 'small' tells. -/
def smF : Vt → Int → Int
  | .mk _ _ _ _ _ its, left => if left ≤ 0 then 0 else smL its (left - 1)
def smL : List Vt → Int → Int
  | [], left => left
  | v :: r, left => if left ≤ 0 then left else smL r (smF v left)
end
mutual
theorem smF_le : ∀ (v : Vt) (left : Int), 0 ≤ left → 0 ≤ smF v left ∧ smF v left ≤ left
  | .mk _ _ _ _ _ its, left, h => by
    rw [smF]
    split
    · omega
    · have := smL_le its (left - 1) (by omega); omega
theorem smL_le : ∀ (l : List Vt) (left : Int), 0 ≤ left → 0 ≤ smL l left ∧ smL l left ≤ left
  | [], left, h => by rw [smL]; omega
  | v :: r, left, h => by
    rw [smL]
    split
    · omega
    · have h1 := smF_le v left h
      have := smL_le r (smF v left) h1.1
      omega
end
theorem smL_zero (l : List Vt) : smL l 0 = 0 := by cases l <;> rw [smL]; rfl
theorem smF_eq (v : Vt) (left : Int) : smF v left = if left ≤ 0 then 0 else smL v.its (left - 1) := by
  cases v; rw [smF]; rfl
theorem smL_cons (v : Vt) (r : List Vt) (left : Int) (h : 0 < left) : smL (v :: r) left = smL r (smF v left) := by
  rw [smL, if_neg (by omega)]
end Go.Proofs.YtlepjghfcpgbcaaGreatDoor.Tr
