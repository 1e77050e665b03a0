/- A machine in hand: what a law knows of it. -/
import Derived.Test.YtangnoicnogddaaMlc
namespace Go.Proofs.Ytangnoicnogddaa.Tr
open Go.RowKit

/-- The machine at mb is s; the blocks of K are others'. -/
structure Lv (K : Nat → Prop) (w : World) (mb : Nat) (s : St) : Prop where
  ok : s.ok
  mx : ∃ O, MX O w mb s ∧ ∀ k, O k → ¬ K k
  kk : ∀ k, K k → k < w.heap.size
/-- What the machine leaves alone. -/
abbrev Kp (K : Nat → Prop) (w w' : World) : Prop := Fr (fun k => ¬ K k) w w'
theorem Kp.on {K : Nat → Prop} {w w' : World} (f : Kp K w w') (hk : ∀ k, K k → k < w.heap.size) : On K w w' := fun k h => f.block k (hk k h) (fun hn => hn h)
theorem Lv.more {K : Nat → Prop} {w w' : World} {mb : Nat} {s : St} (h : Lv K w mb s) (f : Fr (fun _ => False) w w') : Lv (fun k => K k ∨ Bt w.heap.size w'.heap.size k) w' mb s := by
  obtain ⟨hok, ⟨O, ⟨D, fv, uv, rv, pa, pc, XF, XR, m⟩, ho⟩, hk⟩ := h
  exact ⟨hok, ⟨O, ⟨D, fv, uv, rv, pa, pc, XF, XR, m.keep0 f⟩, fun k hO hK => hK.elim (ho k hO) (fun hb => by have := m.os k hO; have := hb.1; omega)⟩, fun k hK => hK.elim (fun h => Nat.lt_of_lt_of_le (hk k h) f.size) (fun h => h.2)⟩
theorem Lv.keep {K : Nat → Prop} {w w' : World} {mb : Nat} {s : St} (h : Lv K w mb s) (f : Fr (fun _ => False) w w') : Lv K w' mb s := by
  obtain ⟨hok, ⟨O, ⟨D, fv, uv, rv, pa, pc, XF, XR, m⟩, ho⟩, hk⟩ := h
  exact ⟨hok, ⟨O, ⟨D, fv, uv, rv, pa, pc, XF, XR, m.keep0 f⟩, ho⟩, fun k hK => Nat.lt_of_lt_of_le (hk k hK) f.size⟩
theorem Lv.less {K K' : Nat → Prop} {w : World} {mb : Nat} {s : St} (h : Lv K w mb s) (hK : ∀ k, K' k → K k) : Lv K' w mb s := by
  obtain ⟨hok, ⟨O, m, ho⟩, hk⟩ := h
  exact ⟨hok, ⟨O, m, fun k hO hk' => ho k hO (hK k hk')⟩, fun k h => hk k (hK k h)⟩
theorem Lv.next {K : Nat → Prop} {w W : World} {mb : Nat} {s s' : St} {O : Nat → Prop} (h : Lv K w mb s) (ho : ∀ k, O k → ¬ K k) (hs : s'.ok) (n : Next O w mb s' W) : Lv K W mb s' ∧ Kp K w W := by
  obtain ⟨f, O', m, ho'⟩ := n
  exact ⟨⟨hs, ⟨O', m, fun k hk hK => (ho' k hk).elim (fun h => ho k h hK) (fun hge => by have := h.kk k hK; omega)⟩, fun k hK => Nat.lt_of_lt_of_le (h.kk k hK) f.size⟩, f.mono (fun k hk => ho k hk)⟩
theorem AK.on {D : Nat → Prop} {w w' : World} {a : Ac} {z : Zv} (h : AK D w a z) (o : On D w w') : AK D w' a z := ⟨h.k, h.n, h.f.on o, h.u.on o⟩
theorem AK.mono {D D' : Nat → Prop} {w : World} {a : Ac} {z : Zv} (h : AK D w a z) (hD : ∀ k, D k → D' k) : AK D' w a z := ⟨h.k, h.n, h.f.mono hD, h.u.mono hD⟩
def LvNew (w : World) (e : Ending) (w' : World) : Prop := ∃ mb, e = .returned (.pointer (some ⟨mb, 0, none⟩)) ∧ Fr (fun _ => False) w w' ∧ Lv (fun k => k < w.heap.size) w' mb ⟨[], [], [], []⟩
theorem lv_new (w : World) : Calls Try.prog 7 #[] w fun e w' => LvNew w e w' := (new_any w).mono (by
  rintro e w' ⟨mb, rfl, f, hmb, m⟩
  exact ⟨mb, rfl, f, ok_nil [], ⟨_, m, fun k hk h => by subst hk; omega⟩, fun k hk => Nat.lt_of_lt_of_le hk f.size⟩)
theorem lv_do {K : Nat → Prop} {w : World} {mb : Nat} {s : St} (h : Lv K w mb s) (a : Ac) (z : Zv) (hz : AK K w a z) :
    Calls Try.prog 11 #[.pointer (some ⟨mb, 0, none⟩), z.v] w fun e w' => e = .returned (.int .i64 (doF s a).2) ∧ Lv K w' mb (doF s a).1 ∧ Kp K w w' := by
  obtain ⟨O, ⟨D, fv, uv, rv, pa, pc, XF, XR, m⟩, ho⟩ := h.mx
  refine (do_any m h.ok a z (hz.mono (fun k hK hO => ho k hO hK))).mono ?_
  rintro e w' ⟨rfl, n⟩
  exact ⟨rfl, h.next ho (ok_do h.ok a) n⟩
theorem lv_plan {K : Nat → Prop} {w : World} {mb : Nat} {s : St} (h : Lv K w mb s) (p : List Bool) (ad : Option Addr) (cap : Nat) (hp : Bools w ad p) (hl : p.length ≤ 140737488351232) :
    Calls Try.prog 8 #[.pointer (some ⟨mb, 0, none⟩), .slice ad p.length cap] w fun e w' => e = .returned (.tuple #[]) ∧ Lv K w' mb { s with p := p } ∧ Kp K w w' := by
  obtain ⟨O, ⟨D, fv, uv, rv, pa, pc, XF, XR, m⟩, ho⟩ := h.mx
  refine (plan_any m p ad cap hp hl).mono ?_
  rintro e w' ⟨rfl, n⟩
  exact ⟨rfl, h.next ho (ok_plan h.ok p) n⟩
theorem lv_obs {K : Nat → Prop} {w : World} {mb : Nat} {s : St} (h : Lv K w mb s) :
    Calls Try.prog 13 #[.pointer (some ⟨mb, 0, none⟩)] w fun e w' => ObsPost w s e w' := by
  obtain ⟨O, ⟨D, fv, uv, rv, pa, pc, XF, XR, m⟩, ho⟩ := h.mx
  exact obs_any m h.ok
end Go.Proofs.Ytangnoicnogddaa.Tr
