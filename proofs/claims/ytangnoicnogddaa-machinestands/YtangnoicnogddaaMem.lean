/- A machine in memory. -/
import Derived.Test.YtangnoicnogddaaMsm
import Derived.Test.YtangnoicnogddaaMbs
namespace Go.Proofs.Ytangnoicnogddaa.Tr
open Go.RowKit

/-- A slice that has something lies in a block of D. -/
def Dn (D : Nat → Prop) (ad : Option Addr) (n : Nat) : Prop := 0 < n → ∀ x, ad = some x → D x.block
/-- What blocks of D hold is as it was. -/
def On (D : Nat → Prop) (w w' : World) : Prop := ∀ k, D k → w'.heap[k]? = w.heap[k]?
theorem On.cell {D : Nat → Prop} {w w' : World} (h : On D w w') {b o : Nat} (hb : D b) {v : Value} (hc : w.cell? ⟨b, o, none⟩ = some v) : w'.cell? ⟨b, o, none⟩ = some v := by
  rw [World.cell?_of_block (h b hb)]; exact hc
theorem Dn.mono {D D' : Nat → Prop} {ad : Option Addr} {n : Nat} (h : Dn D ad n) (hD : ∀ k, D k → D' k) : Dn D' ad n := fun hn x hx => hD _ (h hn x hx)
theorem Strs.on {D : Nat → Prop} {w w' : World} {ad : Option Addr} {ns : List Nm} (h : Strs w ad ns) (hd : Dn D ad ns.length) (e : On D w w') : Strs w' ad ns := fun hne => by
  obtain ⟨b, o, rfl, hc⟩ := h hne
  exact ⟨b, o, rfl, fun i hi => e.cell (hd (by omega) _ rfl) (hc i hi)⟩
theorem Src.on {D : Nat → Prop} {w w' : World} {ad : Option Addr} {b : List UInt8} (h : Src w ad b) (hd : Dn D ad b.length) (e : On D w w') : Src w' ad b := fun hne => by
  obtain ⟨bb, bo, rfl, hc⟩ := h hne
  exact ⟨bb, bo, rfl, fun i u hu => e.cell (hd (List.length_pos_iff.2 hne) _ rfl) (hc i u hu)⟩
/-- The plan. -/
def Bools (w : World) (ad : Option Addr) (p : List Bool) : Prop := p ≠ [] → ∃ b o, ad = some ⟨b, o, none⟩ ∧ ∀ i (h : i < p.length), w.cell? ⟨b, o + i, none⟩ = some (.bool p[i])
theorem Bools.on {D : Nat → Prop} {w w' : World} {ad : Option Addr} {p : List Bool} (h : Bools w ad p) (hd : Dn D ad p.length) (e : On D w w') : Bools w' ad p := fun hne => by
  obtain ⟨b, o, rfl, hc⟩ := h hne
  exact ⟨b, o, rfl, fun i hi => e.cell (hd (by omega) _ rfl) (hc i hi)⟩
/-- An entry whose data lie in D. -/
structure EK (D : Nat → Prop) (w : World) (e : Ent) (x : Xv) : Prop where
  p : x.p = e.path
  k : x.k = e.kind
  l : x.dl = e.data.length
  v : EntV w e x.da x.dc
  d : Dn D x.da e.data.length
/-- A unit whose lists lie in D. -/
structure UK (D : Nat → Prop) (w : World) (v : Ut) (x : Uv) : Prop where
  u : UIn w v x
  r : Dn D x.ra v.r.length
  a : Dn D x.aa v.a.length
theorem EK.on {D : Nat → Prop} {w w' : World} {e : Ent} {x : Xv} (h : EK D w e x) (o : On D w w') : EK D w' e x := ⟨h.p, h.k, h.l, { h.v with src := h.v.src.on h.d o }, h.d⟩
theorem UK.on {D : Nat → Prop} {w w' : World} {u : Ut} {x : Uv} (h : UK D w u x) (o : On D w w') : UK D w' u x := ⟨{ h.u with r := h.u.r.on h.r o, a := h.u.a.on h.a o }, h.r, h.a⟩
theorem EK.mono {D D' : Nat → Prop} {w : World} {e : Ent} {x : Xv} (h : EK D w e x) (hD : ∀ k, D k → D' k) : EK D' w e x := ⟨h.p, h.k, h.l, h.v, h.d.mono hD⟩
theorem UK.mono {D D' : Nat → Prop} {w : World} {u : Ut} {x : Uv} (h : UK D w u x) (hD : ∀ k, D k → D' k) : UK D' w u x := ⟨h.u, h.r.mono hD, h.a.mono hD⟩
theorem EK.v_eq {D : Nat → Prop} {w : World} {e : Ent} {x : Xv} (h : EK D w e x) : x.v = entV e x.da x.dc := by
  obtain ⟨p, k, da, dl, dc⟩ := x
  obtain ⟨h1, h2, h3, _, _⟩ := h
  simp only at h1 h2 h3
  subst h1 h2 h3
  rfl

/-- The machine at mb is s. O: all its blocks. D: those that are never written. -/
structure MI (O D : Nat → Prop) (w : World) (mb : Nat) (s : St) (fv uv rv : Value) (pa : Option Addr) (pc : Nat) (XF : List Xv) (XR : List Uv) : Prop where
  blk : Blk w mb 59 [fv, uv, rv, .slice pa s.p.length pc]
  f : w.ownsRow 0 39 3 fv s.f.length (flatE XF)
  u : w.ownsRow 0 9 1 uv s.u.length (strC s.u)
  r : w.ownsRow 0 41 4 rv s.r.length (flatU XR)
  p : Bools w pa s.p
  pd : Dn D pa s.p.length
  pl : s.p.length ≤ pc
  pm : pc ≤ maxLen
  fl : XF.length = s.f.length
  fe : ∀ i (h1 : i < s.f.length) (h2 : i < XF.length), EK D w s.f[i] XF[i]
  rl : XR.length = s.r.length
  re : ∀ i (h1 : i < s.r.length) (h2 : i < XR.length), UK D w s.r[i] XR[i]
  om : O mb
  dm : ¬ D mb
  bf : ∀ k, fv.ownBlock = some k → O k ∧ ¬ D k ∧ k ≠ mb
  bu : ∀ k, uv.ownBlock = some k → O k ∧ ¬ D k ∧ k ≠ mb
  br : ∀ k, rv.ownBlock = some k → O k ∧ ¬ D k ∧ k ≠ mb
  fu : ∀ k, fv.ownBlock = some k → uv.ownBlock ≠ some k
  fr : ∀ k, fv.ownBlock = some k → rv.ownBlock ≠ some k
  ur : ∀ k, uv.ownBlock = some k → rv.ownBlock ≠ some k
  od : ∀ k, D k → O k
  os : ∀ k, O k → k < w.heap.size
def MX (O : Nat → Prop) (w : World) (mb : Nat) (s : St) : Prop := ∃ D fv uv rv pa pc XF XR, MI O D w mb s fv uv rv pa pc XF XR

section
variable {O D : Nat → Prop} {w w' : World} {mb : Nat} {s : St} {fv uv rv : Value} {pa : Option Addr} {pc : Nat} {XF : List Xv} {XR : List Uv}
/-- What is written elsewhere is not the machine's. -/
theorem MI.keep (h : MI O D w mb s fv uv rv pa pc XF XR) {F : Nat → Prop} (f : Fr F w w') (hF : ∀ k, F k → ¬ O k) : MI O D w' mb s fv uv rv pa pc XF XR := by
  have e : ∀ k, O k → w'.heap[k]? = w.heap[k]? := fun k hk => f.block k (h.os k hk) (fun hf => hF k hf hk)
  have eD : On D w w' := fun k hk => e k (h.od k hk)
  exact { h with
    blk := h.blk.of_eq (e _ h.om)
    f := owns_of_eq h.f (fun k hk => e k (h.bf k hk).1)
    u := owns_of_eq h.u (fun k hk => e k (h.bu k hk).1)
    r := owns_of_eq h.r (fun k hk => e k (h.br k hk).1)
    p := h.p.on h.pd eD
    fe := fun i h1 h2 => (h.fe i h1 h2).on eD
    re := fun i h1 h2 => (h.re i h1 h2).on eD
    os := fun k hk => Nat.lt_of_lt_of_le (h.os k hk) f.size }
theorem MI.keep0 (h : MI O D w mb s fv uv rv pa pc XF XR) (f : Fr (fun _ => False) w w') : MI O D w' mb s fv uv rv pa pc XF XR := h.keep f (fun _ h => h.elim)
/-- Blocks that nobody else writes become the machine's. -/
theorem MI.ext (h : MI O D w mb s fv uv rv pa pc XF XR) {E : Nat → Prop} (hE : ∀ k, E k → ¬ O k ∧ k < w.heap.size) : MI (fun k => O k ∨ E k) (fun k => D k ∨ E k) w mb s fv uv rv pa pc XF XR :=
  { h with
    pd := h.pd.mono (fun _ => .inl)
    fe := fun i h1 h2 => (h.fe i h1 h2).mono (fun _ => .inl)
    re := fun i h1 h2 => (h.re i h1 h2).mono (fun _ => .inl)
    om := .inl h.om
    dm := fun hd => hd.elim h.dm (fun he => (hE _ he).1 h.om)
    bf := fun k hk => ⟨.inl (h.bf k hk).1, fun hd => hd.elim (h.bf k hk).2.1 (fun he => (hE _ he).1 (h.bf k hk).1), (h.bf k hk).2.2⟩
    bu := fun k hk => ⟨.inl (h.bu k hk).1, fun hd => hd.elim (h.bu k hk).2.1 (fun he => (hE _ he).1 (h.bu k hk).1), (h.bu k hk).2.2⟩
    br := fun k hk => ⟨.inl (h.br k hk).1, fun hd => hd.elim (h.br k hk).2.1 (fun he => (hE _ he).1 (h.br k hk).1), (h.br k hk).2.2⟩
    od := fun k hd => hd.elim (fun hd => .inl (h.od k hd)) .inr
    os := fun k ho => ho.elim (h.os k) (fun he => (hE k he).2) }
/-- The plan moves on. -/
theorem MI.plan (h : MI O D w mb s fv uv rv pa pc XF XR) (p : List Bool) (pa' : Option Addr) (pc' : Nat) (hp : Bools w pa' p) (hd : Dn D pa' p.length) (hl : p.length ≤ pc') (hm : pc' ≤ maxLen) :
    MI O D (w.setCell ⟨mb, 3, none⟩ (.slice pa' p.length pc')) mb { s with p := p } fv uv rv pa' pc' XF XR := by
  have e : ∀ k, k ≠ mb → (w.setCell ⟨mb, 3, none⟩ (.slice pa' p.length pc')).heap[k]? = w.heap[k]? := fun k hk => Below.heap_setCell w _ _ k hk
  have eD : On D w (w.setCell ⟨mb, 3, none⟩ (.slice pa' p.length pc')) := fun k hk => e k (fun he => h.dm (he ▸ hk))
  exact { h with
    blk := h.blk.setCell 3 _
    f := owns_of_eq h.f (fun k hk => e k (h.bf k hk).2.2)
    u := owns_of_eq h.u (fun k hk => e k (h.bu k hk).2.2)
    r := owns_of_eq h.r (fun k hk => e k (h.br k hk).2.2)
    p := hp.on hd eD
    pd := hd
    pl := hl
    pm := hm
    fe := fun i h1 h2 => (h.fe i h1 h2).on eD
    re := fun i h1 h2 => (h.re i h1 h2).on eD
    os := fun k hk => by have := h.os k hk; simpa [World.setCell] using this }
/-- The files are others. -/
theorem MI.files (h : MI O D w mb s fv uv rv pa pc XF XR) {w1 : World} {fv' : Value} {f' : List Ent} {XF' : List Xv} (F : Fr (fun k => fv.ownBlock = some k) w w1)
    (o : w1.ownsRow 0 39 3 fv' f'.length (flatE XF')) (hb : ∀ k, fv'.ownBlock = some k → fv.ownBlock = some k ∨ w.heap.size ≤ k) (hl : XF'.length = f'.length) (he : ∀ i (h1 : i < f'.length) (h2 : i < XF'.length), EK D w f'[i] XF'[i]) :
    MI (fun k => O k ∨ fv'.ownBlock = some k) D (w1.setCell ⟨mb, 0, none⟩ fv') mb { s with f := f' } fv' uv rv pa pc XF' XR := by
  have hnew : ∀ k, fv'.ownBlock = some k → ¬ D k ∧ k ≠ mb ∧ uv.ownBlock ≠ some k ∧ rv.ownBlock ≠ some k ∧ k < w1.heap.size := fun k hk => by
    have hlt := (own_lt o k hk).2
    rcases hb k hk with h1 | h1
    · exact ⟨(h.bf k h1).2.1, (h.bf k h1).2.2, h.fu k h1, h.fr k h1, hlt⟩
    · exact ⟨fun hd => by have := h.os k (h.od k hd); omega, fun e => by have := h.os mb h.om; omega, fun e => by have := h.os k (h.bu k e).1; omega, fun e => by have := h.os k (h.br k e).1; omega, hlt⟩
  have e1 : ∀ k, O k → fv.ownBlock ≠ some k → w1.heap[k]? = w.heap[k]? := fun k hk hn => F.block k (h.os k hk) hn
  have e2 : ∀ k, k ≠ mb → (w1.setCell ⟨mb, 0, none⟩ fv').heap[k]? = w1.heap[k]? := fun k hk => Below.heap_setCell w1 _ _ k hk
  have eD : On D w (w1.setCell ⟨mb, 0, none⟩ fv') := fun k hk => (e2 k (fun he => h.dm (he ▸ hk))).trans (e1 k (h.od k hk) (fun hf => (h.bf k hf).2.1 hk))
  have hz : (w1.setCell ⟨mb, 0, none⟩ fv').heap.size = w1.heap.size := by simp [World.setCell]
  exact {
    blk := (F.blk h.blk (fun hf => (h.bf _ hf).2.2 rfl)).setCell 0 _
    f := owns_of_eq o (fun k hk => e2 k (hnew k hk).2.1)
    u := owns_of_eq h.u (fun k hk => (e2 k (h.bu k hk).2.2).trans (e1 k (h.bu k hk).1 (fun hf => h.fu k hf hk)))
    r := owns_of_eq h.r (fun k hk => (e2 k (h.br k hk).2.2).trans (e1 k (h.br k hk).1 (fun hf => h.fr k hf hk)))
    p := h.p.on h.pd eD
    pd := h.pd
    pl := h.pl
    pm := h.pm
    fl := hl
    fe := fun i h1 h2 => (he i h1 h2).on eD
    rl := h.rl
    re := fun i h1 h2 => (h.re i h1 h2).on eD
    om := .inl h.om
    dm := h.dm
    bf := fun k hk => ⟨.inr hk, (hnew k hk).1, (hnew k hk).2.1⟩
    bu := fun k hk => ⟨.inl (h.bu k hk).1, (h.bu k hk).2⟩
    br := fun k hk => ⟨.inl (h.br k hk).1, (h.br k hk).2⟩
    fu := fun k hk => (hnew k hk).2.2.1
    fr := fun k hk => (hnew k hk).2.2.2.1
    ur := h.ur
    od := fun k hd => .inl (h.od k hd)
    os := fun k ho => by rw [hz]; exact ho.elim (fun ho => Nat.lt_of_lt_of_le (h.os k ho) F.size) (fun ho => (hnew k ho).2.2.2.2) }
/-- The users are others. -/
theorem MI.users (h : MI O D w mb s fv uv rv pa pc XF XR) {w1 : World} {uv' : Value} {u' : List Nm} (F : Fr (fun k => uv.ownBlock = some k) w w1)
    (o : w1.ownsRow 0 9 1 uv' u'.length (strC u')) (hb : ∀ k, uv'.ownBlock = some k → uv.ownBlock = some k ∨ w.heap.size ≤ k) :
    MI (fun k => O k ∨ uv'.ownBlock = some k) D (w1.setCell ⟨mb, 1, none⟩ uv') mb { s with u := u' } fv uv' rv pa pc XF XR := by
  have hnew : ∀ k, uv'.ownBlock = some k → ¬ D k ∧ k ≠ mb ∧ fv.ownBlock ≠ some k ∧ rv.ownBlock ≠ some k ∧ k < w1.heap.size := fun k hk => by
    have hlt := (own_lt o k hk).2
    rcases hb k hk with h1 | h1
    · exact ⟨(h.bu k h1).2.1, (h.bu k h1).2.2, fun hf => h.fu k hf h1, h.ur k h1, hlt⟩
    · exact ⟨fun hd => by have := h.os k (h.od k hd); omega, fun e => by have := h.os mb h.om; omega, fun e => by have := h.os k (h.bf k e).1; omega, fun e => by have := h.os k (h.br k e).1; omega, hlt⟩
  have e1 : ∀ k, O k → uv.ownBlock ≠ some k → w1.heap[k]? = w.heap[k]? := fun k hk hn => F.block k (h.os k hk) hn
  have e2 : ∀ k, k ≠ mb → (w1.setCell ⟨mb, 1, none⟩ uv').heap[k]? = w1.heap[k]? := fun k hk => Below.heap_setCell w1 _ _ k hk
  have eD : On D w (w1.setCell ⟨mb, 1, none⟩ uv') := fun k hk => (e2 k (fun he => h.dm (he ▸ hk))).trans (e1 k (h.od k hk) (fun hf => (h.bu k hf).2.1 hk))
  have hz : (w1.setCell ⟨mb, 1, none⟩ uv').heap.size = w1.heap.size := by simp [World.setCell]
  exact {
    blk := (F.blk h.blk (fun hf => (h.bu _ hf).2.2 rfl)).setCell 1 _
    f := owns_of_eq h.f (fun k hk => (e2 k (h.bf k hk).2.2).trans (e1 k (h.bf k hk).1 (h.fu k hk)))
    u := owns_of_eq o (fun k hk => e2 k (hnew k hk).2.1)
    r := owns_of_eq h.r (fun k hk => (e2 k (h.br k hk).2.2).trans (e1 k (h.br k hk).1 (fun hf => h.ur k hf hk)))
    p := h.p.on h.pd eD
    pd := h.pd
    pl := h.pl
    pm := h.pm
    fl := h.fl
    fe := fun i h1 h2 => (h.fe i h1 h2).on eD
    rl := h.rl
    re := fun i h1 h2 => (h.re i h1 h2).on eD
    om := .inl h.om
    dm := h.dm
    bf := fun k hk => ⟨.inl (h.bf k hk).1, (h.bf k hk).2⟩
    bu := fun k hk => ⟨.inr hk, (hnew k hk).1, (hnew k hk).2.1⟩
    br := fun k hk => ⟨.inl (h.br k hk).1, (h.br k hk).2⟩
    fu := fun k hk he => (hnew k he).2.2.1 hk
    fr := h.fr
    ur := fun k hk => (hnew k hk).2.2.2.1
    od := fun k hd => .inl (h.od k hd)
    os := fun k ho => by rw [hz]; exact ho.elim (fun ho => Nat.lt_of_lt_of_le (h.os k ho) F.size) (fun ho => (hnew k ho).2.2.2.2) }
/-- The units that run are others. -/
theorem MI.units (h : MI O D w mb s fv uv rv pa pc XF XR) {w1 : World} {rv' : Value} {r' : List Ut} {XR' : List Uv} (F : Fr (fun k => rv.ownBlock = some k) w w1)
    (o : w1.ownsRow 0 41 4 rv' r'.length (flatU XR')) (hb : ∀ k, rv'.ownBlock = some k → rv.ownBlock = some k ∨ w.heap.size ≤ k) (hl : XR'.length = r'.length) (he : ∀ i (h1 : i < r'.length) (h2 : i < XR'.length), UK D w r'[i] XR'[i]) :
    MI (fun k => O k ∨ rv'.ownBlock = some k) D (w1.setCell ⟨mb, 2, none⟩ rv') mb { s with r := r' } fv uv rv' pa pc XF XR' := by
  have hnew : ∀ k, rv'.ownBlock = some k → ¬ D k ∧ k ≠ mb ∧ fv.ownBlock ≠ some k ∧ uv.ownBlock ≠ some k ∧ k < w1.heap.size := fun k hk => by
    have hlt := (own_lt o k hk).2
    rcases hb k hk with h1 | h1
    · exact ⟨(h.br k h1).2.1, (h.br k h1).2.2, fun hf => h.fr k hf h1, fun hf => h.ur k hf h1, hlt⟩
    · exact ⟨fun hd => by have := h.os k (h.od k hd); omega, fun e => by have := h.os mb h.om; omega, fun e => by have := h.os k (h.bf k e).1; omega, fun e => by have := h.os k (h.bu k e).1; omega, hlt⟩
  have e1 : ∀ k, O k → rv.ownBlock ≠ some k → w1.heap[k]? = w.heap[k]? := fun k hk hn => F.block k (h.os k hk) hn
  have e2 : ∀ k, k ≠ mb → (w1.setCell ⟨mb, 2, none⟩ rv').heap[k]? = w1.heap[k]? := fun k hk => Below.heap_setCell w1 _ _ k hk
  have eD : On D w (w1.setCell ⟨mb, 2, none⟩ rv') := fun k hk => (e2 k (fun he => h.dm (he ▸ hk))).trans (e1 k (h.od k hk) (fun hf => (h.br k hf).2.1 hk))
  have hz : (w1.setCell ⟨mb, 2, none⟩ rv').heap.size = w1.heap.size := by simp [World.setCell]
  exact {
    blk := (F.blk h.blk (fun hf => (h.br _ hf).2.2 rfl)).setCell 2 _
    f := owns_of_eq h.f (fun k hk => (e2 k (h.bf k hk).2.2).trans (e1 k (h.bf k hk).1 (h.fr k hk)))
    u := owns_of_eq h.u (fun k hk => (e2 k (h.bu k hk).2.2).trans (e1 k (h.bu k hk).1 (h.ur k hk)))
    r := owns_of_eq o (fun k hk => e2 k (hnew k hk).2.1)
    p := h.p.on h.pd eD
    pd := h.pd
    pl := h.pl
    pm := h.pm
    fl := h.fl
    fe := fun i h1 h2 => (h.fe i h1 h2).on eD
    rl := hl
    re := fun i h1 h2 => (he i h1 h2).on eD
    om := .inl h.om
    dm := h.dm
    bf := fun k hk => ⟨.inl (h.bf k hk).1, (h.bf k hk).2⟩
    bu := fun k hk => ⟨.inl (h.bu k hk).1, (h.bu k hk).2⟩
    br := fun k hk => ⟨.inr hk, (hnew k hk).1, (hnew k hk).2.1⟩
    fu := h.fu
    fr := fun k hk he => (hnew k he).2.2.1 hk
    ur := fun k hk he => (hnew k he).2.2.2.1 hk
    od := fun k hd => .inl (h.od k hd)
    os := fun k ho => by rw [hz]; exact ho.elim (fun ho => Nat.lt_of_lt_of_le (h.os k ho) F.size) (fun ho => (hnew k ho).2.2.2.2) }
/-- The machine's four cells. -/
theorem MI.cells (h : MI O D w mb s fv uv rv pa pc XF XR) : w.cell? ⟨mb, 0, none⟩ = some fv ∧ w.cell? ⟨mb, 1, none⟩ = some uv ∧ w.cell? ⟨mb, 2, none⟩ = some rv ∧ w.cell? ⟨mb, 3, none⟩ = some (.slice pa s.p.length pc) :=
  ⟨h.blk.cell 0, h.blk.cell 1, h.blk.cell 2, h.blk.cell 3⟩
theorem MI.rows (h : MI O D w mb s fv uv rv pa pc XF XR) : ∃ fa fc ua uc ra rc, fv = .slice fa s.f.length fc ∧ uv = .slice ua s.u.length uc ∧ rv = .slice ra s.r.length rc := by
  obtain ⟨fa, fc, e1⟩ := own_len h.f
  obtain ⟨ua, uc, e2⟩ := own_len h.u
  obtain ⟨ra, rc, e3⟩ := own_len h.r
  exact ⟨fa, fc, ua, uc, ra, rc, e1, e2, e3⟩
theorem MI.us {ra : Option Addr} {n rc : Nat} (h : MI O D w mb s fv uv (.slice ra n rc) pa pc XF XR) : Us w w s.r ra := by
  have e : n = s.r.length := by obtain ⟨_, _, e⟩ := own_len h.r; cases e; rfl
  subst e
  have h1 := h.r
  rw [← h.rl] at h1
  exact us_own h1 ⟨h.rl, fun i h1 h2 => (h.re i h1 h2).u⟩
theorem MI.strs {ua : Option Addr} {n uc : Nat} (h : MI O D w mb s fv (.slice ua n uc) rv pa pc XF XR) : Strs w ua s.u := by
  have e : n = s.u.length := by obtain ⟨_, _, e⟩ := own_len h.u; cases e; rfl
  subst e
  exact strs_own h.u
theorem MI.pathsAt {fa : Option Addr} {n fc : Nat} (h : MI O D w mb s (.slice fa n fc) uv rv pa pc XF XR) : PathsAt w fa (paths s.f) := fun i hi => by
  have hi' : i < s.f.length := by simpa [paths] using hi
  have hx : i < XF.length := by rw [h.fl]; exact hi'
  have hne : flatE XF ≠ [] := fun e => by have := flatE_len XF; rw [e] at this; simp at this; omega
  obtain ⟨g, c, e, _, hc⟩ := own_cell h.f hne
  cases e
  have hcc : ∀ j v, (XF[i]).cs[j]? = some v → w.cell? ⟨g, i * 3 + j, none⟩ = some v := fun j v hv => hc _ v (by
    have hj : j < 3 := (List.getElem?_eq_some_iff.1 hv).1
    rw [flatE_at XF i j hx hj]; exact hv)
  exact ⟨g, XF[i], rfl, by rw [(h.fe i hi' hx).p]; simp [paths], hcc 0 _ rfl, hcc 1 _ rfl, hcc 2 _ rfl⟩
end
/-- What an act leaves. -/
def DoPost (O : Nat → Prop) (w : World) (mb : Nat) (r : St × Int) (e : Ending) (w' : World) : Prop := e = .returned (.int .i64 r.2) ∧ Fr O w w' ∧ ∃ O', MX O' w' mb r.1 ∧ ∀ k, O' k → O k ∨ w.heap.size ≤ k
theorem Fr.upO {O : Nat → Prop} {w w' : World} (f : Fr (fun _ => False) w w') : Fr O w w' := f.mono (fun _ h => h.elim)
end Go.Proofs.Ytangnoicnogddaa.Tr
