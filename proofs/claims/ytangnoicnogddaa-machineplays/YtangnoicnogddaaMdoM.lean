import Derived.Test.YtangnoicnogddaaMsmM
import Derived.Test.YtangnoicnogddaaMbsM
/- A machine in memory. -/
namespace Go.Proofs.Ytangnoicnogddaa.Tr
open Go.RowKit

/-- A slice that has something lies in a block of D. -/
def Dn (D : Nat → Prop) (ad : Option Addr) (n : Nat) : Prop := 0 < n → ∀ x, ad = some x → D x.block
/-- What blocks of D hold is as it was. -/
def On (D : Nat → Prop) (w w' : World) : Prop := ∀ k, D k → w'.heap[k]? = w.heap[k]?
theorem On.cell {D : Nat → Prop} {w w' : World} (h : On D w w') {b o : Nat} (hb : D b) {v : Value} (hc : w.cell? ⟨b, o, none⟩ = some v) : w'.cell? ⟨b, o, none⟩ = some v := by
  rw [World.cell?_of_block (h b hb)]; exact hc
theorem Dn.mono {D D' : Nat → Prop} {ad : Option Addr} {n : Nat} (h : Dn D ad n) (hD : ∀ k, D k → D' k) : Dn D' ad n := fun hn x hx => hD _ (h hn x hx)
theorem Strs.on {D : Nat → Prop} {w w' : World} {ad : Option Addr} {ns : List Nm} (h : Strs w ad ns) (hd : Dn D ad ns.length) (e : On D w w') : Strs w' ad ns := fun hne => by
  obtain ⟨b, o, rfl, hc⟩ := h hne
  exact ⟨b, o, rfl, fun i hi => e.cell (hd (by omega) _ rfl) (hc i hi)⟩
theorem Src.on {D : Nat → Prop} {w w' : World} {ad : Option Addr} {b : List UInt8} (h : Src w ad b) (hd : Dn D ad b.length) (e : On D w w') : Src w' ad b := fun hne => by
  obtain ⟨bb, bo, rfl, hc⟩ := h hne
  exact ⟨bb, bo, rfl, fun i u hu => e.cell (hd (List.length_pos_iff.2 hne) _ rfl) (hc i u hu)⟩
/-- The plan. -/
def Bools (w : World) (ad : Option Addr) (p : List Bool) : Prop := p ≠ [] → ∃ b o, ad = some ⟨b, o, none⟩ ∧ ∀ i (h : i < p.length), w.cell? ⟨b, o + i, none⟩ = some (.bool p[i])
theorem Bools.on {D : Nat → Prop} {w w' : World} {ad : Option Addr} {p : List Bool} (h : Bools w ad p) (hd : Dn D ad p.length) (e : On D w w') : Bools w' ad p := fun hne => by
  obtain ⟨b, o, rfl, hc⟩ := h hne
  exact ⟨b, o, rfl, fun i hi => e.cell (hd (by omega) _ rfl) (hc i hi)⟩
/-- An entry whose data lie in D. -/
structure EK (D : Nat → Prop) (w : World) (e : Ent) (x : Xv) : Prop where
  p : x.p = e.path
  k : x.k = e.kind
  l : x.dl = e.data.length
  v : EntV w e x.da x.dc
  d : Dn D x.da e.data.length
/-- A unit whose lists lie in D. -/
structure UK (D : Nat → Prop) (w : World) (v : Ut) (x : Uv) : Prop where
  u : UIn w v x
  r : Dn D x.ra v.r.length
  a : Dn D x.aa v.a.length
theorem EK.on {D : Nat → Prop} {w w' : World} {e : Ent} {x : Xv} (h : EK D w e x) (o : On D w w') : EK D w' e x := ⟨h.p, h.k, h.l, { h.v with src := h.v.src.on h.d o }, h.d⟩
theorem UK.on {D : Nat → Prop} {w w' : World} {u : Ut} {x : Uv} (h : UK D w u x) (o : On D w w') : UK D w' u x := ⟨{ h.u with r := h.u.r.on h.r o, a := h.u.a.on h.a o }, h.r, h.a⟩
theorem EK.mono {D D' : Nat → Prop} {w : World} {e : Ent} {x : Xv} (h : EK D w e x) (hD : ∀ k, D k → D' k) : EK D' w e x := ⟨h.p, h.k, h.l, h.v, h.d.mono hD⟩
theorem UK.mono {D D' : Nat → Prop} {w : World} {u : Ut} {x : Uv} (h : UK D w u x) (hD : ∀ k, D k → D' k) : UK D' w u x := ⟨h.u, h.r.mono hD, h.a.mono hD⟩
theorem EK.v_eq {D : Nat → Prop} {w : World} {e : Ent} {x : Xv} (h : EK D w e x) : x.v = entV e x.da x.dc := by
  obtain ⟨p, k, da, dl, dc⟩ := x
  obtain ⟨h1, h2, h3, _, _⟩ := h
  simp only at h1 h2 h3
  subst h1 h2 h3
  rfl

/-- The machine at mb is s. O: all its blocks. D: those that are never written. -/
structure MI (O D : Nat → Prop) (w : World) (mb : Nat) (s : St) (fv uv rv : Value) (pa : Option Addr) (pc : Nat) (XF : List Xv) (XR : List Uv) : Prop where
  blk : Blk w mb 59 [fv, uv, rv, .slice pa s.p.length pc]
  f : w.ownsRow 0 39 3 fv s.f.length (flatE XF)
  u : w.ownsRow 0 9 1 uv s.u.length (strC s.u)
  r : w.ownsRow 0 41 4 rv s.r.length (flatU XR)
  p : Bools w pa s.p
  pd : Dn D pa s.p.length
  pl : s.p.length ≤ pc
  pm : pc ≤ maxLen
  fl : XF.length = s.f.length
  fe : ∀ i (h1 : i < s.f.length) (h2 : i < XF.length), EK D w s.f[i] XF[i]
  rl : XR.length = s.r.length
  re : ∀ i (h1 : i < s.r.length) (h2 : i < XR.length), UK D w s.r[i] XR[i]
  om : O mb
  dm : ¬ D mb
  bf : ∀ k, fv.ownBlock = some k → O k ∧ ¬ D k ∧ k ≠ mb
  bu : ∀ k, uv.ownBlock = some k → O k ∧ ¬ D k ∧ k ≠ mb
  br : ∀ k, rv.ownBlock = some k → O k ∧ ¬ D k ∧ k ≠ mb
  fu : ∀ k, fv.ownBlock = some k → uv.ownBlock ≠ some k
  fr : ∀ k, fv.ownBlock = some k → rv.ownBlock ≠ some k
  ur : ∀ k, uv.ownBlock = some k → rv.ownBlock ≠ some k
  od : ∀ k, D k → O k
  os : ∀ k, O k → k < w.heap.size
def MX (O : Nat → Prop) (w : World) (mb : Nat) (s : St) : Prop := ∃ D fv uv rv pa pc XF XR, MI O D w mb s fv uv rv pa pc XF XR

section
variable {O D : Nat → Prop} {w w' : World} {mb : Nat} {s : St} {fv uv rv : Value} {pa : Option Addr} {pc : Nat} {XF : List Xv} {XR : List Uv}
/-- What is written elsewhere is not the machine's. -/
theorem MI.keep (h : MI O D w mb s fv uv rv pa pc XF XR) {F : Nat → Prop} (f : Fr F w w') (hF : ∀ k, F k → ¬ O k) : MI O D w' mb s fv uv rv pa pc XF XR := by
  have e : ∀ k, O k → w'.heap[k]? = w.heap[k]? := fun k hk => f.block k (h.os k hk) (fun hf => hF k hf hk)
  have eD : On D w w' := fun k hk => e k (h.od k hk)
  exact { h with
    blk := h.blk.of_eq (e _ h.om)
    f := owns_of_eq h.f (fun k hk => e k (h.bf k hk).1)
    u := owns_of_eq h.u (fun k hk => e k (h.bu k hk).1)
    r := owns_of_eq h.r (fun k hk => e k (h.br k hk).1)
    p := h.p.on h.pd eD
    fe := fun i h1 h2 => (h.fe i h1 h2).on eD
    re := fun i h1 h2 => (h.re i h1 h2).on eD
    os := fun k hk => Nat.lt_of_lt_of_le (h.os k hk) f.size }
theorem MI.keep0 (h : MI O D w mb s fv uv rv pa pc XF XR) (f : Fr (fun _ => False) w w') : MI O D w' mb s fv uv rv pa pc XF XR := h.keep f (fun _ h => h.elim)
/-- Blocks that nobody else writes become the machine's. -/
theorem MI.ext (h : MI O D w mb s fv uv rv pa pc XF XR) {E : Nat → Prop} (hE : ∀ k, E k → ¬ O k ∧ k < w.heap.size) : MI (fun k => O k ∨ E k) (fun k => D k ∨ E k) w mb s fv uv rv pa pc XF XR :=
  { h with
    pd := h.pd.mono (fun _ => .inl)
    fe := fun i h1 h2 => (h.fe i h1 h2).mono (fun _ => .inl)
    re := fun i h1 h2 => (h.re i h1 h2).mono (fun _ => .inl)
    om := .inl h.om
    dm := fun hd => hd.elim h.dm (fun he => (hE _ he).1 h.om)
    bf := fun k hk => ⟨.inl (h.bf k hk).1, fun hd => hd.elim (h.bf k hk).2.1 (fun he => (hE _ he).1 (h.bf k hk).1), (h.bf k hk).2.2⟩
    bu := fun k hk => ⟨.inl (h.bu k hk).1, fun hd => hd.elim (h.bu k hk).2.1 (fun he => (hE _ he).1 (h.bu k hk).1), (h.bu k hk).2.2⟩
    br := fun k hk => ⟨.inl (h.br k hk).1, fun hd => hd.elim (h.br k hk).2.1 (fun he => (hE _ he).1 (h.br k hk).1), (h.br k hk).2.2⟩
    od := fun k hd => hd.elim (fun hd => .inl (h.od k hd)) .inr
    os := fun k ho => ho.elim (h.os k) (fun he => (hE k he).2) }
/-- The plan moves on. -/
theorem MI.plan (h : MI O D w mb s fv uv rv pa pc XF XR) (p : List Bool) (pa' : Option Addr) (pc' : Nat) (hp : Bools w pa' p) (hd : Dn D pa' p.length) (hl : p.length ≤ pc') (hm : pc' ≤ maxLen) :
    MI O D (w.setCell ⟨mb, 3, none⟩ (.slice pa' p.length pc')) mb { s with p := p } fv uv rv pa' pc' XF XR := by
  have e : ∀ k, k ≠ mb → (w.setCell ⟨mb, 3, none⟩ (.slice pa' p.length pc')).heap[k]? = w.heap[k]? := fun k hk => Below.heap_setCell w _ _ k hk
  have eD : On D w (w.setCell ⟨mb, 3, none⟩ (.slice pa' p.length pc')) := fun k hk => e k (fun he => h.dm (he ▸ hk))
  exact { h with
    blk := h.blk.setCell 3 _
    f := owns_of_eq h.f (fun k hk => e k (h.bf k hk).2.2)
    u := owns_of_eq h.u (fun k hk => e k (h.bu k hk).2.2)
    r := owns_of_eq h.r (fun k hk => e k (h.br k hk).2.2)
    p := hp.on hd eD
    pd := hd
    pl := hl
    pm := hm
    fe := fun i h1 h2 => (h.fe i h1 h2).on eD
    re := fun i h1 h2 => (h.re i h1 h2).on eD
    os := fun k hk => by have := h.os k hk; simpa [World.setCell] using this }
/-- The files are others. -/
theorem MI.files (h : MI O D w mb s fv uv rv pa pc XF XR) {w1 : World} {fv' : Value} {f' : List Ent} {XF' : List Xv} (F : Fr (fun k => fv.ownBlock = some k) w w1)
    (o : w1.ownsRow 0 39 3 fv' f'.length (flatE XF')) (hb : ∀ k, fv'.ownBlock = some k → fv.ownBlock = some k ∨ w.heap.size ≤ k) (hl : XF'.length = f'.length) (he : ∀ i (h1 : i < f'.length) (h2 : i < XF'.length), EK D w f'[i] XF'[i]) :
    MI (fun k => O k ∨ fv'.ownBlock = some k) D (w1.setCell ⟨mb, 0, none⟩ fv') mb { s with f := f' } fv' uv rv pa pc XF' XR := by
  have hnew : ∀ k, fv'.ownBlock = some k → ¬ D k ∧ k ≠ mb ∧ uv.ownBlock ≠ some k ∧ rv.ownBlock ≠ some k ∧ k < w1.heap.size := fun k hk => by
    have hlt := (own_lt o k hk).2
    rcases hb k hk with h1 | h1
    · exact ⟨(h.bf k h1).2.1, (h.bf k h1).2.2, h.fu k h1, h.fr k h1, hlt⟩
    · exact ⟨fun hd => by have := h.os k (h.od k hd); omega, fun e => by have := h.os mb h.om; omega, fun e => by have := h.os k (h.bu k e).1; omega, fun e => by have := h.os k (h.br k e).1; omega, hlt⟩
  have e1 : ∀ k, O k → fv.ownBlock ≠ some k → w1.heap[k]? = w.heap[k]? := fun k hk hn => F.block k (h.os k hk) hn
  have e2 : ∀ k, k ≠ mb → (w1.setCell ⟨mb, 0, none⟩ fv').heap[k]? = w1.heap[k]? := fun k hk => Below.heap_setCell w1 _ _ k hk
  have eD : On D w (w1.setCell ⟨mb, 0, none⟩ fv') := fun k hk => (e2 k (fun he => h.dm (he ▸ hk))).trans (e1 k (h.od k hk) (fun hf => (h.bf k hf).2.1 hk))
  have hz : (w1.setCell ⟨mb, 0, none⟩ fv').heap.size = w1.heap.size := by simp [World.setCell]
  exact {
    blk := (F.blk h.blk (fun hf => (h.bf _ hf).2.2 rfl)).setCell 0 _
    f := owns_of_eq o (fun k hk => e2 k (hnew k hk).2.1)
    u := owns_of_eq h.u (fun k hk => (e2 k (h.bu k hk).2.2).trans (e1 k (h.bu k hk).1 (fun hf => h.fu k hf hk)))
    r := owns_of_eq h.r (fun k hk => (e2 k (h.br k hk).2.2).trans (e1 k (h.br k hk).1 (fun hf => h.fr k hf hk)))
    p := h.p.on h.pd eD
    pd := h.pd
    pl := h.pl
    pm := h.pm
    fl := hl
    fe := fun i h1 h2 => (he i h1 h2).on eD
    rl := h.rl
    re := fun i h1 h2 => (h.re i h1 h2).on eD
    om := .inl h.om
    dm := h.dm
    bf := fun k hk => ⟨.inr hk, (hnew k hk).1, (hnew k hk).2.1⟩
    bu := fun k hk => ⟨.inl (h.bu k hk).1, (h.bu k hk).2⟩
    br := fun k hk => ⟨.inl (h.br k hk).1, (h.br k hk).2⟩
    fu := fun k hk => (hnew k hk).2.2.1
    fr := fun k hk => (hnew k hk).2.2.2.1
    ur := h.ur
    od := fun k hd => .inl (h.od k hd)
    os := fun k ho => by rw [hz]; exact ho.elim (fun ho => Nat.lt_of_lt_of_le (h.os k ho) F.size) (fun ho => (hnew k ho).2.2.2.2) }
/-- The users are others. -/
theorem MI.users (h : MI O D w mb s fv uv rv pa pc XF XR) {w1 : World} {uv' : Value} {u' : List Nm} (F : Fr (fun k => uv.ownBlock = some k) w w1)
    (o : w1.ownsRow 0 9 1 uv' u'.length (strC u')) (hb : ∀ k, uv'.ownBlock = some k → uv.ownBlock = some k ∨ w.heap.size ≤ k) :
    MI (fun k => O k ∨ uv'.ownBlock = some k) D (w1.setCell ⟨mb, 1, none⟩ uv') mb { s with u := u' } fv uv' rv pa pc XF XR := by
  have hnew : ∀ k, uv'.ownBlock = some k → ¬ D k ∧ k ≠ mb ∧ fv.ownBlock ≠ some k ∧ rv.ownBlock ≠ some k ∧ k < w1.heap.size := fun k hk => by
    have hlt := (own_lt o k hk).2
    rcases hb k hk with h1 | h1
    · exact ⟨(h.bu k h1).2.1, (h.bu k h1).2.2, fun hf => h.fu k hf h1, h.ur k h1, hlt⟩
    · exact ⟨fun hd => by have := h.os k (h.od k hd); omega, fun e => by have := h.os mb h.om; omega, fun e => by have := h.os k (h.bf k e).1; omega, fun e => by have := h.os k (h.br k e).1; omega, hlt⟩
  have e1 : ∀ k, O k → uv.ownBlock ≠ some k → w1.heap[k]? = w.heap[k]? := fun k hk hn => F.block k (h.os k hk) hn
  have e2 : ∀ k, k ≠ mb → (w1.setCell ⟨mb, 1, none⟩ uv').heap[k]? = w1.heap[k]? := fun k hk => Below.heap_setCell w1 _ _ k hk
  have eD : On D w (w1.setCell ⟨mb, 1, none⟩ uv') := fun k hk => (e2 k (fun he => h.dm (he ▸ hk))).trans (e1 k (h.od k hk) (fun hf => (h.bu k hf).2.1 hk))
  have hz : (w1.setCell ⟨mb, 1, none⟩ uv').heap.size = w1.heap.size := by simp [World.setCell]
  exact {
    blk := (F.blk h.blk (fun hf => (h.bu _ hf).2.2 rfl)).setCell 1 _
    f := owns_of_eq h.f (fun k hk => (e2 k (h.bf k hk).2.2).trans (e1 k (h.bf k hk).1 (h.fu k hk)))
    u := owns_of_eq o (fun k hk => e2 k (hnew k hk).2.1)
    r := owns_of_eq h.r (fun k hk => (e2 k (h.br k hk).2.2).trans (e1 k (h.br k hk).1 (fun hf => h.ur k hf hk)))
    p := h.p.on h.pd eD
    pd := h.pd
    pl := h.pl
    pm := h.pm
    fl := h.fl
    fe := fun i h1 h2 => (h.fe i h1 h2).on eD
    rl := h.rl
    re := fun i h1 h2 => (h.re i h1 h2).on eD
    om := .inl h.om
    dm := h.dm
    bf := fun k hk => ⟨.inl (h.bf k hk).1, (h.bf k hk).2⟩
    bu := fun k hk => ⟨.inr hk, (hnew k hk).1, (hnew k hk).2.1⟩
    br := fun k hk => ⟨.inl (h.br k hk).1, (h.br k hk).2⟩
    fu := fun k hk he => (hnew k he).2.2.1 hk
    fr := h.fr
    ur := fun k hk => (hnew k hk).2.2.2.1
    od := fun k hd => .inl (h.od k hd)
    os := fun k ho => by rw [hz]; exact ho.elim (fun ho => Nat.lt_of_lt_of_le (h.os k ho) F.size) (fun ho => (hnew k ho).2.2.2.2) }
/-- The units that run are others. -/
theorem MI.units (h : MI O D w mb s fv uv rv pa pc XF XR) {w1 : World} {rv' : Value} {r' : List Ut} {XR' : List Uv} (F : Fr (fun k => rv.ownBlock = some k) w w1)
    (o : w1.ownsRow 0 41 4 rv' r'.length (flatU XR')) (hb : ∀ k, rv'.ownBlock = some k → rv.ownBlock = some k ∨ w.heap.size ≤ k) (hl : XR'.length = r'.length) (he : ∀ i (h1 : i < r'.length) (h2 : i < XR'.length), UK D w r'[i] XR'[i]) :
    MI (fun k => O k ∨ rv'.ownBlock = some k) D (w1.setCell ⟨mb, 2, none⟩ rv') mb { s with r := r' } fv uv rv' pa pc XF XR' := by
  have hnew : ∀ k, rv'.ownBlock = some k → ¬ D k ∧ k ≠ mb ∧ fv.ownBlock ≠ some k ∧ uv.ownBlock ≠ some k ∧ k < w1.heap.size := fun k hk => by
    have hlt := (own_lt o k hk).2
    rcases hb k hk with h1 | h1
    · exact ⟨(h.br k h1).2.1, (h.br k h1).2.2, fun hf => h.fr k hf h1, fun hf => h.ur k hf h1, hlt⟩
    · exact ⟨fun hd => by have := h.os k (h.od k hd); omega, fun e => by have := h.os mb h.om; omega, fun e => by have := h.os k (h.bf k e).1; omega, fun e => by have := h.os k (h.bu k e).1; omega, hlt⟩
  have e1 : ∀ k, O k → rv.ownBlock ≠ some k → w1.heap[k]? = w.heap[k]? := fun k hk hn => F.block k (h.os k hk) hn
  have e2 : ∀ k, k ≠ mb → (w1.setCell ⟨mb, 2, none⟩ rv').heap[k]? = w1.heap[k]? := fun k hk => Below.heap_setCell w1 _ _ k hk
  have eD : On D w (w1.setCell ⟨mb, 2, none⟩ rv') := fun k hk => (e2 k (fun he => h.dm (he ▸ hk))).trans (e1 k (h.od k hk) (fun hf => (h.br k hf).2.1 hk))
  have hz : (w1.setCell ⟨mb, 2, none⟩ rv').heap.size = w1.heap.size := by simp [World.setCell]
  exact {
    blk := (F.blk h.blk (fun hf => (h.br _ hf).2.2 rfl)).setCell 2 _
    f := owns_of_eq h.f (fun k hk => (e2 k (h.bf k hk).2.2).trans (e1 k (h.bf k hk).1 (h.fr k hk)))
    u := owns_of_eq h.u (fun k hk => (e2 k (h.bu k hk).2.2).trans (e1 k (h.bu k hk).1 (h.ur k hk)))
    r := owns_of_eq o (fun k hk => e2 k (hnew k hk).2.1)
    p := h.p.on h.pd eD
    pd := h.pd
    pl := h.pl
    pm := h.pm
    fl := h.fl
    fe := fun i h1 h2 => (h.fe i h1 h2).on eD
    rl := hl
    re := fun i h1 h2 => (he i h1 h2).on eD
    om := .inl h.om
    dm := h.dm
    bf := fun k hk => ⟨.inl (h.bf k hk).1, (h.bf k hk).2⟩
    bu := fun k hk => ⟨.inl (h.bu k hk).1, (h.bu k hk).2⟩
    br := fun k hk => ⟨.inr hk, (hnew k hk).1, (hnew k hk).2.1⟩
    fu := h.fu
    fr := fun k hk he => (hnew k he).2.2.1 hk
    ur := fun k hk he => (hnew k he).2.2.2.1 hk
    od := fun k hd => .inl (h.od k hd)
    os := fun k ho => by rw [hz]; exact ho.elim (fun ho => Nat.lt_of_lt_of_le (h.os k ho) F.size) (fun ho => (hnew k ho).2.2.2.2) }
/-- The machine's four cells. -/
theorem MI.cells (h : MI O D w mb s fv uv rv pa pc XF XR) : w.cell? ⟨mb, 0, none⟩ = some fv ∧ w.cell? ⟨mb, 1, none⟩ = some uv ∧ w.cell? ⟨mb, 2, none⟩ = some rv ∧ w.cell? ⟨mb, 3, none⟩ = some (.slice pa s.p.length pc) :=
  ⟨h.blk.cell 0, h.blk.cell 1, h.blk.cell 2, h.blk.cell 3⟩
theorem MI.rows (h : MI O D w mb s fv uv rv pa pc XF XR) : ∃ fa fc ua uc ra rc, fv = .slice fa s.f.length fc ∧ uv = .slice ua s.u.length uc ∧ rv = .slice ra s.r.length rc := by
  obtain ⟨fa, fc, e1⟩ := own_len h.f
  obtain ⟨ua, uc, e2⟩ := own_len h.u
  obtain ⟨ra, rc, e3⟩ := own_len h.r
  exact ⟨fa, fc, ua, uc, ra, rc, e1, e2, e3⟩
theorem MI.us {ra : Option Addr} {n rc : Nat} (h : MI O D w mb s fv uv (.slice ra n rc) pa pc XF XR) : Us w w s.r ra := by
  have e : n = s.r.length := by obtain ⟨_, _, e⟩ := own_len h.r; cases e; rfl
  subst e
  have h1 := h.r
  rw [← h.rl] at h1
  exact us_own h1 ⟨h.rl, fun i h1 h2 => (h.re i h1 h2).u⟩
theorem MI.strs {ua : Option Addr} {n uc : Nat} (h : MI O D w mb s fv (.slice ua n uc) rv pa pc XF XR) : Strs w ua s.u := by
  have e : n = s.u.length := by obtain ⟨_, _, e⟩ := own_len h.u; cases e; rfl
  subst e
  exact strs_own h.u
theorem MI.pathsAt {fa : Option Addr} {n fc : Nat} (h : MI O D w mb s (.slice fa n fc) uv rv pa pc XF XR) : PathsAt w fa (paths s.f) := fun i hi => by
  have hi' : i < s.f.length := by simpa [paths] using hi
  have hx : i < XF.length := by rw [h.fl]; exact hi'
  have hne : flatE XF ≠ [] := fun e => by have := flatE_len XF; rw [e] at this; simp at this; omega
  obtain ⟨g, c, e, _, hc⟩ := own_cell h.f hne
  cases e
  have hcc : ∀ j v, (XF[i]).cs[j]? = some v → w.cell? ⟨g, i * 3 + j, none⟩ = some v := fun j v hv => hc _ v (by
    have hj : j < 3 := (List.getElem?_eq_some_iff.1 hv).1
    rw [flatE_at XF i j hx hj]; exact hv)
  exact ⟨g, XF[i], rfl, by rw [(h.fe i hi' hx).p]; simp [paths], hcc 0 _ rfl, hcc 1 _ rfl, hcc 2 _ rfl⟩
end
/-- What an act leaves. -/
def DoPost (O : Nat → Prop) (w : World) (mb : Nat) (r : St × Int) (e : Ending) (w' : World) : Prop := e = .returned (.int .i64 r.2) ∧ Fr O w w' ∧ ∃ O', MX O' w' mb r.1 ∧ ∀ k, O' k → O k ∨ w.heap.size ≤ k
theorem Fr.upO {O : Nat → Prop} {w w' : World} (f : Fr (fun _ => False) w w') : Fr O w w' := f.mono (fun _ h => h.elim)
end Go.Proofs.Ytangnoicnogddaa.Tr
/- The contracts of slot, fails, place. -/
namespace Go.Proofs.Ytangnoicnogddaa.Tr
open Go.RowKit

set_option maxRecDepth 100000 in
set_option maxHeartbeats 1000000 in
theorem slot1_any (w : World) (x : Uv) (n : Nm) (cb : Nat) (hc : w.cell? ⟨cb, 0, none⟩ = some (.string ⟨n.toArray⟩)) :
    Calls Try.prog 57 #[x.v, .pointer (some ⟨cb, 0, none⟩)] w fun e w' => e = .returned (.bool (decide (x.n = n))) ∧ Fr (fun _ => False) w w' := by
  have HF := hid (uFr w x)
  obtain ⟨c0, c1, c2, c3⟩ := (uBlk w x).fourU
  have cn := (Env.of (uFr w x)).cell hc
  have hd : decide (x.n = n) = (x.n == n) := by by_cases h : x.n = n <;> simp [h]
  rw [hd]
  clear hc hd
  obtain ⟨n', s, ra, rl, rc, aa, al, ac⟩ := x
  simp only [Uv.v] at *
  cases hn : (n' == n) with
  | true =>
    go_enter Try.func57, Try.ntmps57
    go_wp2_with fail
    go_ret
    exact ⟨rfl, HF.out⟩
  | false =>
    go_enter Try.func57, Try.ntmps57
    go_wp2_with fail
    go_ret
    exact ⟨rfl, HF.out⟩

set_option maxRecDepth 100000 in
set_option maxHeartbeats 2000000 in
theorem ixU_any (w0 w : World) (U : List Ut) (ad : Option Addr) (cap : Nat) (n : Nm) (cb : Nat) (hU : Us w0 w U ad) (hc : w.cell? ⟨cb, 0, none⟩ = some (.string ⟨n.toArray⟩)) (hl : U.length ≤ lim) :
    Calls Try.prog 56 #[.slice ad U.length cap, .func (.func 57) #[] #[.pointer (some ⟨cb, 0, none⟩)]] w fun e w' => e = .returned (.int .i64 (fiI U n)) ∧ Fr (fun _ => False) w w' := by
  have HU := hid hU
  have HCn := hid hc
  have hl' : U.length ≤ 140737488351232 := hl
  clear hU hl hc
  go_enter Try.func56, Try.ntmps56
  go_wp2_with fail
  go_loopw [5, 8] (fun _ iv wr => ∃ i : Nat, i ≤ U.length ∧ iv = .int .i64 (i : Int) ∧ (∀ j (h : j < U.length), j < i → U[j].n ≠ n) ∧ Fr (fun _ => False) w wr) (fun _ iv _ => U.length - (intOf iv).toNat)
  case atStart => exact ⟨0, Nat.zero_le _, rfl, fun j _ h => by omega, Fr.refl _ _⟩
  case round =>
    obtain ⟨i, hi, rfl, hno, hF⟩ := hrel
    have HNo := hid hno
    have HF := hid hF
    clear hno hF
    by_cases hlt : i < U.length
    · have hlt' : (i : Int) < ((U.length : Nat) : Int) := by omega
      obtain ⟨b, o, rfl⟩ := HU.out.some hlt
      obtain ⟨x, x1, x2⟩ := (HU.out.env (Env.of HF.out)).get i hlt
      obtain ⟨c0, c1, c2, c3⟩ := x1.all
      have HK := hid (slot1_any wr x n cb ((Env.of HF.out).cell HCn.out))
      have HT : Hid (x.n = n → fiI U n = (i : Int)) := fun h => fiI_some (fi_some.2 ⟨hlt, by rw [← x2.n]; exact h, fun j hj => HNo.out j (by omega) hj⟩)
      have HN : Hid (x.n ≠ n → ∀ j (h : j < U.length), j < i + 1 → U[j].n ≠ n) := fun h j hj hj' => by
        by_cases e : j = i
        · subst e; rw [← x2.n]; exact h
        · exact HNo.out j hj (by omega)
      clear x1 x2 HNo
      obtain ⟨n', s, ra, rl, rc, aa, al, ac⟩ := x
      simp only [Uv.v] at *
      by_cases hp : n' = n
      · have HR := hid (HT.out hp)
        rw [decide_eq_true hp] at HK
        clear HT HN hp
        go_wp2_with fail
        refine HK.out.mono ?_
        rintro e w2 ⟨rfl, f2⟩
        have HF2 := hid (HF.out.trans f2 (fun _ h => h.elim))
        clear f2
        go_wp2_with fail
        go_ret
        exact ⟨by rw [HR.out]; rfl, HF2.out⟩
      · have HR := hid (HN.out hp)
        rw [decide_eq_false hp] at HK
        clear HT HN hp
        go_wp2_with fail
        refine HK.out.mono ?_
        rintro e w2 ⟨rfl, f2⟩
        have HF2 := hid (HF.out.trans f2 (fun _ h => h.elim))
        clear f2
        go_wp2_with fail
        exact ⟨⟨i + 1, by omega, by first | rfl | (congr 1), HR.out, HF2.out⟩, by simp [intOf]; omega⟩
    · have hlt' : ¬ (i : Int) < ((U.length : Nat) : Int) := by omega
      have HR := hid (fiI_none (fi_none.2 (fun j h => HNo.out j h (by omega))))
      go_wp2_with fail
      go_ret
      exact ⟨by rw [HR.out]; rfl, HF.out⟩

section
variable {O D : Nat → Prop} {w : World} {mb : Nat} {s : St} {fv uv rv : Value} {pa : Option Addr} {pc : Nat} {XF : List Xv} {XR : List Uv}
set_option maxRecDepth 100000 in
set_option maxHeartbeats 2000000 in
theorem slot_any (h : MI O D w mb s fv uv rv pa pc XF XR) (hl : s.r.length ≤ lim) (n : Nm) :
    Calls Try.prog 36 #[.pointer (some ⟨mb, 2, none⟩), .string ⟨n.toArray⟩] w fun e w' => e = .returned (.int .i64 (fiI s.r n)) ∧ Fr (fun _ => False) w w' := by
  obtain ⟨fa, fc, ua, uc, ra, rc, rfl, rfl, rfl⟩ := h.rows
  have HF : Hid (Fr (fun _ => False) w (w.alloc (.cells #[.string ⟨n.toArray⟩] 9))) := (Fr.refl _ w).alloc _
  have h' := h.keep0 HF.out
  have HK := hid (ixU_any _ _ s.r ra rc n w.heap.size h'.us ((Blk.new w 9 [.string ⟨n.toArray⟩]).cell 0) hl)
  have c2 := h'.cells.2.2.1
  clear h h' hl
  generalize fiI s.r n = r at *
  go_enter Try.func36, Try.ntmps36
  go_wp2_with fail
  refine HK.out.mono ?_
  rintro e w2 ⟨rfl, f2⟩
  have HF2 := hid (HF.out.trans f2 (fun _ h => h.elim))
  clear f2
  go_wp2_with fail
  go_ret
  exact ⟨rfl, HF2.out⟩
set_option maxRecDepth 100000 in
set_option maxHeartbeats 2000000 in
theorem place_any (h : MI O D w mb s fv uv rv pa pc XF XR) (hs : s.ok) (n : Nm) :
    Calls Try.prog 39 #[.pointer (some ⟨mb, 0, none⟩), .string ⟨n.toArray⟩] w fun e w' => e = .returned (.tuple #[.int .i64 (pos (paths s.f) n : Nat), .bool (isAt (paths s.f) n)]) ∧ Fr (fun _ => False) w w' := by
  obtain ⟨fa, fc, ua, uc, ra, rc, rfl, rfl, rfl⟩ := h.rows
  have hle : (paths s.f).length = s.f.length := by simp [paths]
  have HK := hid (bsE_any w (paths s.f) fa fc n h.pathsAt hs.f (by rw [hle]; have := hs.fl; omega))
  rw [hle] at HK
  have c0 := h.cells.1
  clear h hs hle
  generalize pos (paths s.f) n = q at *
  generalize isAt (paths s.f) n = r at *
  go_enter Try.func39, Try.ntmps39
  go_wp2_with fail
  refine HK.out.mono ?_
  rintro e w2 ⟨rfl, f2⟩
  have HF2 := hid f2
  clear f2
  go_wp2_with fail
  go_ret2
  exact ⟨rfl, HF2.out⟩
/-- What a try leaves. -/
def TryPost (O D : Nat → Prop) (w : World) (mb : Nat) (s : St) (fv uv rv : Value) (XF : List Xv) (XR : List Uv) (e : Ending) (w' : World) : Prop :=
  e = .returned (.bool (s.p.headD false)) ∧ Fr O w w' ∧ ∃ pa pc, MI O D w' mb { s with p := s.p.tail } fv uv rv pa pc XF XR
set_option maxRecDepth 100000 in
set_option maxHeartbeats 2000000 in
theorem fails_any (h : MI O D w mb s fv uv rv pa pc XF XR) : Calls Try.prog 37 #[.pointer (some ⟨mb, 2, none⟩)] w fun e w' => TryPost O D w mb s fv uv rv XF XR e w' := by
  obtain ⟨fs, us, rs, p⟩ := s
  have c3 := h.cells.2.2.2
  have HO := hid h.om
  cases p with
  | nil =>
    have HM := hid h
    clear h
    go_enter Try.func37, Try.ntmps37
    go_wp2_with fail
    go_ret
    exact ⟨rfl, Fr.refl _ _, _, _, HM.out⟩
  | cons b p =>
    obtain ⟨bb, bo, rfl, hc⟩ := h.p (by simp)
    have k0 := hc 0 (by simp)
    simp only [List.getElem_cons_zero, Nat.add_zero] at k0
    have hlen : (((b :: p).length : Nat) : Int) = (p.length : Int) + 1 := by simp
    have hz0 : (((p.length : Nat) : Int) + 1 == 0) = false := by simp; omega
    have hpl := h.pl
    have hpm := h.pm
    simp only [List.length_cons] at hpl c3
    have hp1 : (1 : Int) ≤ (p.length : Int) + 1 := by omega
    have hp2 : (0 : Int) < (p.length : Int) + 1 := by omega
    have hf3 := h.blk.frozen 3
    have hcap : 1 ≤ pc := by omega
    obtain ⟨A, hA, HP⟩ : ∃ A : Option Addr, (if pc = 1 then (some (⟨bb, bo, none⟩ : Addr)) else some ⟨bb, bo + 1, none⟩) = A ∧ Hid (MI O D (w.setCell ⟨mb, 3, none⟩ (.slice A p.length (pc - 1))) mb ⟨fs, us, rs, p⟩ fv uv rv A (pc - 1) XF XR) := by
      refine ⟨_, rfl, h.plan p _ (pc - 1) (fun hne => ?_) (fun hn x hx => ?_) (by omega) (by omega)⟩
      · have hn : 0 < p.length := List.length_pos_iff.2 hne
        have hpc : ¬ pc = 1 := by omega
        rw [if_neg hpc]
        exact ⟨bb, bo + 1, rfl, fun i hi => by have := hc (i + 1) (by simp; omega); simpa [Nat.add_assoc, Nat.add_comm 1 i] using this⟩
      · have hpc : ¬ pc = 1 := by omega
        rw [if_neg hpc] at hx
        cases hx
        exact h.pd (by simp) ⟨bb, bo, none⟩ rfl
    have HF : Hid (Fr O w (w.setCell ⟨mb, 3, none⟩ (.slice A p.length (pc - 1)))) := (Fr.refl O w).setCell (.inl HO.out) _
    clear h hc hlen
    go_enter Try.func37, Try.ntmps37
    go_wp2_with fail
    go_ret
    exact ⟨rfl, HF.out, _, _, HP.out⟩
end
end Go.Proofs.Ytangnoicnogddaa.Tr
/- Rows of a machine that are cut or grow; the contracts of stop, remove, drop, admit. -/
namespace Go.Proofs.Ytangnoicnogddaa.Tr
open Go.RowKit

/-- W is what comes behind w: the machine is s there. -/
def Next (O : Nat → Prop) (w : World) (mb : Nat) (s : St) (W : World) : Prop := Fr O w W ∧ ∃ O', MX O' W mb s ∧ ∀ k, O' k → O k ∨ w.heap.size ≤ k
theorem Next.after {O : Nat → Prop} {w w1 W : World} {mb : Nat} {s : St} (h : Next O w1 mb s W) (f : Fr O w w1) : Next O w mb s W := by
  obtain ⟨f1, O', m, ho⟩ := h
  exact ⟨f.trans f1 (fun _ h => .inl h), O', m, fun k hk => (ho k hk).imp id (fun h => Nat.le_trans f.size h)⟩
theorem Next.of {O : Nat → Prop} {w W : World} {mb : Nat} {s : St} (f : Fr O w W) (m : MX O W mb s) : Next O w mb s W := ⟨f, O, m, fun _ h => .inl h⟩
theorem DoPost.of {O : Nat → Prop} {w W : World} {mb : Nat} {r : St × Int} (h : Next O w mb r.1 W) : DoPost O w mb r (.returned (.int .i64 r.2)) W := ⟨rfl, h⟩
/-- What is put into cell j makes the machine s. -/
def PutP (j : Nat) (O : Nat → Prop) (w : World) (mb : Nat) (s : St) (e : Ending) (w' : World) : Prop :=
  ∃ a n c, e = .returned (.slice a n c) ∧ (∃ u, w'.cell? ⟨mb, j, none⟩ = some u) ∧ w'.frozen? ⟨mb, j, none⟩ = false ∧ Next O w mb s (w'.setCell ⟨mb, j, none⟩ (.slice a n c))

theorem own_mk {w : World} {g n cap : Nat} {t : TypeId} {k : Nat} {cur xs : List Value} (hb : Blk w g t cur) (hc : cur.length = cap * k) (hn : n ≤ cap) (hm : cap ≤ maxLen) (ht : cur.take (n * k) = xs) : w.ownsRow 0 t k (.slice (some ⟨g, 0, none⟩) n cap) n xs := by
  have hl : n * k ≤ cur.length := by rw [hc]; exact Nat.mul_le_mul_right _ hn
  exact ⟨by rw [← ht, List.length_take, Nat.min_eq_left hl], .inr ⟨g, cap, cur.toArray, rfl, Nat.zero_le _, hb, hn, hm, by simpa using hc, by simpa using ht⟩⟩
theorem own_get {w : World} {t : TypeId} {k n : Nat} {v : Value} {xs : List Value} (h : w.ownsRow 0 t k v n xs) (hn : 0 < n) : ∃ g cap cur, v = .slice (some ⟨g, 0, none⟩) n cap ∧ Blk w g t cur ∧ cur.length = cap * k ∧ n ≤ cap ∧ cap ≤ maxLen ∧ cur.take (n * k) = xs := by
  rcases h.2 with ⟨_, h0⟩ | ⟨g, cap, cur, hv, _, hg, h1, h2, h3, h4⟩
  · omega
  · exact ⟨g, cap, cur.toList, hv, hg, by simpa using h3, h1, h2, h4⟩
theorem erase_td {α : Type} (l : List α) (k : Nat) : l.eraseIdx k = l.take k ++ l.drop (k + 1) := List.eraseIdx_eq_take_drop_succ l k

section
variable {O D : Nat → Prop} {w : World} {mb : Nat} {s : St} {fv uv rv : Value} {pa : Option Addr} {pc : Nat} {XF : List Xv} {XR : List Uv}
theorem get_erase {α : Type} (P : α → Prop) {l : List α} {k : Nat} (h : ∀ x ∈ l, P x) : ∀ x ∈ l.eraseIdx k, P x := fun x hx => h x ((List.eraseIdx_sublist l k).subset hx)
theorem pair_erase {α β : Type} (P : α → β → Prop) : ∀ (A : List α) (B : List β) (k : Nat), (∀ i (h : i < A.length) (h' : i < B.length), P A[i] B[i]) → ∀ i (h : i < (A.eraseIdx k).length) (h' : i < (B.eraseIdx k).length), P (A.eraseIdx k)[i] (B.eraseIdx k)[i] := fun A B k hP i h h' => by
  rw [List.getElem_eraseIdx, List.getElem_eraseIdx]
  have h1 := List.length_eraseIdx (l := A) (i := k)
  have h2 := List.length_eraseIdx (l := B) (i := k)
  split
  · exact hP _ _ _
  · exact hP _ _ _
theorem ins_get {α : Type} (l : List α) {k : Nat} (z : α) (hk : k ≤ l.length) (i : Nat) : (ins l k z)[i]? = if i < k then l[i]? else if i = k then some z else l[i - 1]? := by
  unfold ins
  by_cases h1 : i < k
  · rw [if_pos h1, List.getElem?_append_left (by rw [List.length_take]; omega), List.getElem?_take, if_pos h1]
  · rw [if_neg h1, List.getElem?_append_right (by rw [List.length_take]; omega), List.length_take, Nat.min_eq_left hk]
    by_cases h2 : i = k
    · subst h2
      rw [if_pos rfl, Nat.sub_self]; rfl
    · rw [if_neg h2, show i - k = (i - 1 - k) + 1 by omega, List.getElem?_cons_succ, List.getElem?_drop]
      congr 1
      omega
theorem pair_ins {α β : Type} (P : α → β → Prop) (A : List α) (B : List β) (hl : B.length = A.length) (k : Nat) (hk : k ≤ A.length) (x : α) (y : β) (hx : P x y) (hP : ∀ i (h : i < A.length) (h' : i < B.length), P A[i] B[i]) : ∀ i (h : i < (ins A k x).length) (h' : i < (ins B k y).length), P (ins A k x)[i] (ins B k y)[i] := fun i h h' => by
  have e1 := ins_get A x hk i
  have e2 := ins_get B y (show k ≤ B.length by omega) i
  have hA := h
  have hB := h'
  rw [ins_len] at hA hB
  rw [List.getElem?_eq_getElem h] at e1
  rw [List.getElem?_eq_getElem h'] at e2
  by_cases h1 : i < k
  · rw [if_pos h1, List.getElem?_eq_getElem (show i < A.length by omega)] at e1
    rw [if_pos h1, List.getElem?_eq_getElem (show i < B.length by omega)] at e2
    rw [Option.some.inj e1, Option.some.inj e2]; exact hP _ _ _
  · by_cases h2 : i = k
    · rw [if_neg h1, if_pos h2] at e1 e2
      rw [Option.some.inj e1, Option.some.inj e2]; exact hx
    · rw [if_neg h1, if_neg h2, List.getElem?_eq_getElem (show i - 1 < A.length by omega)] at e1
      rw [if_neg h1, if_neg h2, List.getElem?_eq_getElem (show i - 1 < B.length by omega)] at e2
      rw [Option.some.inj e1, Option.some.inj e2]; exact hP _ _ _
theorem MI.nxt_f (h : MI O D w mb s fv uv rv pa pc XF XR) {w1 : World} {a : Option Addr} {n c : Nat} {f' : List Ent} {XF' : List Xv} (F : Fr (fun k => fv.ownBlock = some k) w w1)
    (o : w1.ownsRow 0 39 3 (.slice a n c) f'.length (flatE XF')) (hb : ∀ k, (Value.slice a n c).ownBlock = some k → fv.ownBlock = some k ∨ w.heap.size ≤ k) (hl : XF'.length = f'.length) (he : ∀ i (h1 : i < f'.length) (h2 : i < XF'.length), EK D w f'[i] XF'[i]) :
    PutP 0 O w mb { s with f := f' } (.returned (.slice a n c)) w1 := by
  have m := h.files F o hb hl he
  have B : Blk w1 mb 59 [fv, uv, rv, .slice pa s.p.length pc] := F.blk h.blk (fun hf => (h.bf _ hf).2.2 rfl)
  exact ⟨a, n, c, rfl, ⟨fv, B.cell 0⟩, B.frozen 0, (F.mono (fun k hk => (h.bf k hk).1)).setCell (.inl h.om) _, _, ⟨_, _, _, _, _, _, _, _, m⟩, fun k hk => hk.elim .inl (fun hk => (hb k hk).imp (fun hk => (h.bf k hk).1) id)⟩
theorem MI.nxt_u (h : MI O D w mb s fv uv rv pa pc XF XR) {w1 : World} {a : Option Addr} {n c : Nat} {u' : List Nm} (F : Fr (fun k => uv.ownBlock = some k) w w1)
    (o : w1.ownsRow 0 9 1 (.slice a n c) u'.length (strC u')) (hb : ∀ k, (Value.slice a n c).ownBlock = some k → uv.ownBlock = some k ∨ w.heap.size ≤ k) :
    PutP 1 O w mb { s with u := u' } (.returned (.slice a n c)) w1 := by
  have m := h.users F o hb
  have B : Blk w1 mb 59 [fv, uv, rv, .slice pa s.p.length pc] := F.blk h.blk (fun hf => (h.bu _ hf).2.2 rfl)
  exact ⟨a, n, c, rfl, ⟨uv, B.cell 1⟩, B.frozen 1, (F.mono (fun k hk => (h.bu k hk).1)).setCell (.inl h.om) _, _, ⟨_, _, _, _, _, _, _, _, m⟩, fun k hk => hk.elim .inl (fun hk => (hb k hk).imp (fun hk => (h.bu k hk).1) id)⟩
theorem MI.nxt_r (h : MI O D w mb s fv uv rv pa pc XF XR) {w1 : World} {a : Option Addr} {n c : Nat} {r' : List Ut} {XR' : List Uv} (F : Fr (fun k => rv.ownBlock = some k) w w1)
    (o : w1.ownsRow 0 41 4 (.slice a n c) r'.length (flatU XR')) (hb : ∀ k, (Value.slice a n c).ownBlock = some k → rv.ownBlock = some k ∨ w.heap.size ≤ k) (hl : XR'.length = r'.length) (he : ∀ i (h1 : i < r'.length) (h2 : i < XR'.length), UK D w r'[i] XR'[i]) :
    PutP 2 O w mb { s with r := r' } (.returned (.slice a n c)) w1 := by
  have m := h.units F o hb hl he
  have B : Blk w1 mb 59 [fv, uv, rv, .slice pa s.p.length pc] := F.blk h.blk (fun hf => (h.br _ hf).2.2 rfl)
  exact ⟨a, n, c, rfl, ⟨rv, B.cell 2⟩, B.frozen 2, (F.mono (fun k hk => (h.br k hk).1)).setCell (.inl h.om) _, _, ⟨_, _, _, _, _, _, _, _, m⟩, fun k hk => hk.elim .inl (fun hk => (hb k hk).imp (fun hk => (h.br k hk).1) id)⟩
theorem MI.del_r (h : MI O D w mb s fv uv rv pa pc XF XR) {k : Nat} (hk : k < s.r.length) :
    Calls Try.prog 38 #[rv, .int .i64 (k : Int), .int .i64 ((k : Int) + 1)] w fun e w' => PutP 2 O w mb { s with r := s.r.eraseIdx k } e w' := by
  obtain ⟨g, cap, cur, rfl, hB, hc, hn, hm, ht⟩ := own_get h.r (by omega)
  refine (delU_any w g s.r.length cap k cur hB hc (by rw [ht]; exact flatU_one XR) hn hm hk).mono ?_
  rintro e w1 ⟨rfl, F, cur', hB', hc', ht'⟩
  have hl1 : (s.r.eraseIdx k).length = s.r.length - 1 := by rw [List.length_eraseIdx, if_pos hk]
  have hl2 : (XR.eraseIdx k).length = s.r.length - 1 := by rw [List.length_eraseIdx, if_pos (by rw [h.rl]; exact hk), h.rl]
  rw [ht, flatU_take, flatU_drop, ← flatU_app, ← erase_td, ← hl1] at ht'
  have o := own_mk hB' hc' (by rw [hl1]; omega) hm ht'
  rw [hl1] at o
  exact h.nxt_r (r' := s.r.eraseIdx k) (F.mono (fun i hi => by rw [hi]; rfl)) (by rw [hl1]; exact o) (fun i hi => .inl hi) (by rw [hl1, hl2]) (pair_erase _ _ _ _ h.re)
theorem MI.del_f (h : MI O D w mb s fv uv rv pa pc XF XR) {k : Nat} (hk : k < s.f.length) :
    Calls Try.prog 40 #[fv, .int .i64 (k : Int), .int .i64 ((k : Int) + 1)] w fun e w' => PutP 0 O w mb { s with f := s.f.eraseIdx k } e w' := by
  obtain ⟨g, cap, cur, rfl, hB, hc, hn, hm, ht⟩ := own_get h.f (by omega)
  refine (delE_any w g s.f.length cap k cur hB hc (by rw [ht]; exact flatE_one XF) hn hm hk).mono ?_
  rintro e w1 ⟨rfl, F, cur', hB', hc', ht'⟩
  have hl1 : (s.f.eraseIdx k).length = s.f.length - 1 := by rw [List.length_eraseIdx, if_pos hk]
  have hl2 : (XF.eraseIdx k).length = s.f.length - 1 := by rw [List.length_eraseIdx, if_pos (by rw [h.fl]; exact hk), h.fl]
  rw [ht, flatE_take, flatE_drop, ← flatE_app, ← erase_td, ← hl1] at ht'
  have o := own_mk hB' hc' (by rw [hl1]; omega) hm ht'
  rw [hl1] at o
  exact h.nxt_f (f' := s.f.eraseIdx k) (F.mono (fun i hi => by rw [hi]; rfl)) (by rw [hl1]; exact o) (fun i hi => .inl hi) (by rw [hl1, hl2]) (pair_erase _ _ _ _ h.fe)
theorem strC_take (l : List Nm) (i : Nat) : (strC l).take i = strC (l.take i) := by simp [strC, List.map_take]
theorem strC_drop (l : List Nm) (i : Nat) : (strC l).drop i = strC (l.drop i) := by simp [strC, List.map_drop]
theorem MI.del_u (h : MI O D w mb s fv uv rv pa pc XF XR) {k : Nat} (hk : k < s.u.length) :
    Calls Try.prog 42 #[uv, .int .i64 (k : Int), .int .i64 ((k : Int) + 1)] w fun e w' => PutP 1 O w mb { s with u := s.u.eraseIdx k } e w' := by
  obtain ⟨g, cap, cur, rfl, hB, hc, hn, hm, ht⟩ := own_get h.u (by omega)
  rw [Nat.mul_one] at ht hc
  refine (del9_any w g s.u.length cap k cur hB hc (by rw [ht]; exact strC_one s.u) hn hm hk).mono ?_
  rintro e w1 ⟨rfl, F, cur', hB', hc', ht'⟩
  have hl1 : (s.u.eraseIdx k).length = s.u.length - 1 := by rw [List.length_eraseIdx, if_pos hk]
  rw [ht, strC_take, strC_drop, ← strC_app, ← erase_td, ← hl1] at ht'
  have o := own_mk (k := 1) (n := (s.u.eraseIdx k).length) (xs := strC (s.u.eraseIdx k)) hB' (by rw [Nat.mul_one]; exact hc') (by rw [hl1]; omega) hm (by rw [Nat.mul_one]; exact ht')
  rw [hl1] at o
  exact h.nxt_u (u' := s.u.eraseIdx k) (F.mono (fun i hi => by rw [hi]; rfl)) (by rw [hl1]; exact o) (fun i hi => .inl hi)
end
end Go.Proofs.Ytangnoicnogddaa.Tr
/- The contracts of stop, remove, drop, admit. -/
namespace Go.Proofs.Ytangnoicnogddaa.Tr
open Go.RowKit

section
variable {O D : Nat → Prop} {w : World} {mb : Nat} {s : St} {fv uv rv : Value} {pa : Option Addr} {pc : Nat} {XF : List Xv} {XR : List Uv}
theorem strC_ins (l : List Nm) (k : Nat) (n : Nm) : strC (ins l k n) = (strC l).take k ++ [.string ⟨n.toArray⟩] ++ (strC l).drop k := by
  simp [strC, ins, List.map_take, List.map_drop]
theorem flatE_ins (l : List Xv) (k : Nat) (x : Xv) : flatE (ins l k x) = (flatE l).take (k * 3) ++ x.cs ++ (flatE l).drop (k * 3) := by
  rw [flatE_take, flatE_drop, ins, flatE_app, flatE_cons, List.append_assoc]
theorem MI.ins_u (h : MI O D w mb s fv uv rv pa pc XF XR) {k : Nat} (hk : k ≤ s.u.length) (hl : s.u.length ≤ 1000) (n : Nm) (vb vc : Nat) (tA : TypeId) (hB : Blk w vb tA [.string ⟨n.toArray⟩]) (hv : ¬ O vb) :
    Calls Try.prog 47 #[uv, .int .i64 (k : Int), .slice (some ⟨vb, 0, none⟩) 1 vc] w fun e w' => PutP 1 O w mb { s with u := ins s.u k n } e w' := by
  refine (ins9_any w uv (strC s.u) [.string ⟨n.toArray⟩] s.u.length k vb vc tA h.u (strC_one _) hB rfl (by simp [Value.oneCell']) (fun e => hv (h.bu vb e).1) hk hl).mono ?_
  rintro e w1 ⟨v', rfl, o, hg, hb⟩
  obtain ⟨a, c, rfl⟩ := own_len o
  rw [← strC_ins] at o
  have F : Fr (fun k => uv.ownBlock = some k) w w1 := (Fr.refl _ w).grown hg (fun k hk => .inl hk)
  refine h.nxt_u (u' := ins s.u k n) F (by rw [ins_len]; exact o) (fun i hi => hb i hi)
theorem ek_zero (w : World) : EK D w ⟨[], 0, []⟩ xZ := ⟨rfl, rfl, rfl, ⟨fun h => absurd rfl h, Nat.le_refl _, by simp, by simp, by simp, by simp⟩, fun h => by simp at h⟩
theorem MI.ins_f (h : MI O D w mb s fv uv rv pa pc XF XR) {k : Nat} (hk : k ≤ s.f.length) (hl : s.f.length ≤ 1000) (vb vc : Nat) (tA : TypeId) (hB : Blk w vb tA xZ.cs) (hv : ¬ O vb) :
    Calls Try.prog 44 #[fv, .int .i64 (k : Int), .slice (some ⟨vb, 0, none⟩) 1 vc] w fun e w' => PutP 0 O w mb { s with f := ins s.f k ⟨[], 0, []⟩ } e w' := by
  refine (insE_any w fv (flatE XF) xZ.cs s.f.length k vb vc tA h.f (flatE_one _) hB rfl (xv_one _) (fun e => hv (h.bf vb e).1) hk hl).mono ?_
  rintro e w1 ⟨v', rfl, o, hg, hb⟩
  obtain ⟨a, c, rfl⟩ := own_len o
  rw [← flatE_ins] at o
  have F : Fr (fun k => fv.ownBlock = some k) w w1 := (Fr.refl _ w).grown hg (fun k hk => .inl hk)
  exact h.nxt_f (f' := ins s.f k ⟨[], 0, []⟩) F (by rw [ins_len]; exact o) (fun i hi => hb i hi) (by rw [ins_len, ins_len, h.fl]) (pair_ins _ _ _ h.fl k hk _ _ (ek_zero w) h.fe)

set_option maxRecDepth 100000 in
set_option maxHeartbeats 4000000 in
theorem stop_any (h : MI O D w mb s fv uv rv pa pc XF XR) (hs : s.ok) (n : Nm) :
    Calls Try.prog 19 #[.pointer (some ⟨mb, 2, none⟩), .string ⟨n.toArray⟩] w fun e w' => DoPost O w mb (stopF s n) e w' := by
  have HS := hid (slot_any h (by have := hs.rl; unfold lim; omega) n)
  have HM := hid h
  clear h
  cases hf : fi s.r n with
  | none =>
    have HR : Hid (stopF s n = (s, 0)) := by unfold Hid stopF; rw [hf]
    rw [fiI_none hf] at HS
    rw [HR.out]
    clear HR
    go_enter Try.func19, Try.ntmps19
    go_wp2_with (go_at_call 36; refine HS.out.mono ?_; rintro e w1 ⟨rfl, f1⟩; have F1 := hid f1; clear f1)
    go_ret
    exact DoPost.of (r := (s, 0)) (Next.of F1.out.upO ⟨_, _, _, _, _, _, _, _, HM.out.keep0 F1.out⟩)
  | some k =>
    have hk := fi_lt hf
    rw [fiI_some hf] at HS
    have hk0 : ¬ (k : Int) < 0 := by omega
    have hk24 : k ≤ 1000 := by have := hs.rl; omega
    cases hb : s.p.headD false with
    | true =>
      have HR : Hid (stopF s n = ({ s with p := s.p.tail }, 71)) := by unfold Hid stopF; rw [hf]; simp only [hb, if_true]
      rw [HR.out]
      have HT := hid (fun (W : World) (f : Fr (fun _ => False) w W) => fails_any (HM.out.keep0 f))
      simp only [TryPost, hb] at HT
      clear HR hb
      go_enter Try.func19, Try.ntmps19
      go_wp2_with (first
        | (go_at_call 36; refine HS.out.mono ?_; rintro e w1 ⟨rfl, f1⟩; have F1 := hid f1; clear f1)
        | (go_at_call 37; refine (HT.out _ F1.out).mono ?_; rintro e w2 ⟨rfl, f2, pa2, pc2, h2⟩; have F2 := hid f2; have H2 := hid h2; clear f2 h2))
      go_ret
      exact DoPost.of (r := ({ s with p := s.p.tail }, 71)) ((Next.of F2.out ⟨_, _, _, _, _, _, _, _, H2.out⟩).after F1.out.upO)
    | false =>
      have HR : Hid (stopF s n = ({ s with r := s.r.eraseIdx k, p := s.p.tail }, 0)) := by unfold Hid stopF; rw [hf]; simp only [hb, Bool.false_eq_true, if_false]
      rw [HR.out]
      have HT := hid (fun (W : World) (f : Fr (fun _ => False) w W) => fails_any (HM.out.keep0 f))
      simp only [TryPost, hb] at HT
      clear HR hb hf
      obtain ⟨fa, fc, ua, uc, ra, rc, rfl, rfl, rfl⟩ := HM.out.rows
      go_enter Try.func19, Try.ntmps19
      go_wp2_with (first
        | (go_at_call 36; refine HS.out.mono ?_; rintro e w1 ⟨rfl, f1⟩; have F1 := hid f1; clear f1)
        | (go_at_call 37; refine (HT.out _ F1.out).mono ?_; rintro e w2 ⟨rfl, f2, pa2, pc2, h2⟩; have F2 := hid f2; have H2 := hid h2; have c2 := h2.cells.2.2.1; clear f2 h2)
        | (go_at_call 38; refine (H2.out.del_r hk).mono ?_; rintro e w3 ⟨a3, n3, q3, rfl, ⟨u3, c3⟩, z3, nx⟩; have NX := hid nx; clear nx))
      go_ret
      exact DoPost.of (r := ({ s with r := s.r.eraseIdx k, p := s.p.tail }, 0)) ((NX.out.after F2.out).after F1.out.upO)
set_option maxRecDepth 100000 in
set_option maxHeartbeats 4000000 in
theorem remove_any (h : MI O D w mb s fv uv rv pa pc XF XR) (hs : s.ok) (n : Nm) :
    Calls Try.prog 20 #[.pointer (some ⟨mb, 0, none⟩), .string ⟨n.toArray⟩] w fun e w' => DoPost O w mb (removeF s n, 0) e w' := by
  have HS := hid (place_any h hs n)
  have HM := hid h
  clear h
  cases ha : isAt (paths s.f) n with
  | false =>
    have HR : Hid (removeF s n = s) := by unfold Hid removeF; rw [ha]; rfl
    rw [HR.out]
    rw [ha] at HS
    clear HR ha
    go_enter Try.func20, Try.ntmps20
    go_wp2_with (go_at_call 39; refine HS.out.mono ?_; rintro e w1 ⟨rfl, f1⟩; have F1 := hid f1; clear f1)
    go_ret
    exact DoPost.of (r := (s, 0)) (Next.of F1.out.upO ⟨_, _, _, _, _, _, _, _, HM.out.keep0 F1.out⟩)
  | true =>
    have HR : Hid (removeF s n = { s with f := s.f.eraseIdx (pos (paths s.f) n) }) := by unfold Hid removeF; rw [ha]; rfl
    rw [HR.out]
    rw [ha] at HS
    have hk : pos (paths s.f) n < s.f.length := by have := pos_lt_of ha; simpa [paths] using this
    have hk24 : pos (paths s.f) n ≤ 1000 := by have := hs.fl; omega
    clear HR ha
    generalize pos (paths s.f) n = k at *
    obtain ⟨fa, fc, ua, uc, ra, rc, rfl, rfl, rfl⟩ := HM.out.rows
    go_enter Try.func20, Try.ntmps20
    go_wp2_with (first
      | (go_at_call 39; refine HS.out.mono ?_; rintro e w1 ⟨rfl, f1⟩; have F1 := hid f1; have H1 := hid (HM.out.keep0 f1); have c0 := (HM.out.keep0 f1).cells.1; clear f1)
      | (go_at_call 40; refine (H1.out.del_f hk).mono ?_; rintro e w3 ⟨a3, n3, q3, rfl, ⟨u3, c3⟩, z3, nx⟩; have NX := hid nx; clear nx))
    go_ret
    exact DoPost.of (r := (_, 0)) (NX.out.after F1.out.upO)
set_option maxRecDepth 100000 in
set_option maxHeartbeats 4000000 in
theorem drop_any (h : MI O D w mb s fv uv rv pa pc XF XR) (hs : s.ok) (n : Nm) :
    Calls Try.prog 21 #[.pointer (some ⟨mb, 0, none⟩), .string ⟨n.toArray⟩] w fun e w' => DoPost O w mb (dropF s n, 0) e w' := by
  have HM := hid h
  obtain ⟨fa, fc, ua, uc, ra, rc, rfl, rfl, rfl⟩ := h.rows
  have HS := hid (bsS_any w s.u ua uc n h.strs hs.u (by have := hs.ul; omega))
  have c1 := h.cells.2.1
  clear h
  cases ha : isAt s.u n with
  | false =>
    have HR : Hid (dropF s n = s) := by unfold Hid dropF; rw [ha]; rfl
    rw [HR.out]
    rw [ha] at HS
    clear HR ha
    go_enter Try.func21, Try.ntmps21
    go_wp2_with (go_at_call 41; refine HS.out.mono ?_; rintro e w1 ⟨rfl, q, rfl⟩)
    go_ret
    have F1 := (Fr.refl (fun _ => False) w).drewN q
    exact DoPost.of (r := (s, 0)) (Next.of F1.upO ⟨_, _, _, _, _, _, _, _, HM.out.keep0 F1⟩)
  | true =>
    have HR : Hid (dropF s n = { s with u := s.u.eraseIdx (pos s.u n) }) := by unfold Hid dropF; rw [ha]; rfl
    rw [HR.out]
    rw [ha] at HS
    have hk : pos s.u n < s.u.length := pos_lt_of ha
    have hk24 : pos s.u n ≤ 1000 := by have := hs.ul; omega
    clear HR ha
    generalize pos s.u n = k at *
    go_enter Try.func21, Try.ntmps21
    go_wp2_with (first
      | (go_at_call 41; refine HS.out.mono ?_; rintro e w1 ⟨rfl, q, hw⟩; have F1 : Hid (Fr (fun _ => False) w w1) := by rw [hw]; exact (Fr.refl _ w).drewN q
         have H1 := hid (HM.out.keep0 F1.out); have c1' := (HM.out.keep0 F1.out).cells.2.1; clear hw)
      | (go_at_call 42; refine (H1.out.del_u hk).mono ?_; rintro e w3 ⟨a3, n3, q3, rfl, ⟨u3, c3⟩, z3, nx⟩; have NX := hid nx; clear nx))
    go_ret
    exact DoPost.of (r := (_, 0)) (NX.out.after F1.out.upO)
end
end Go.Proofs.Ytangnoicnogddaa.Tr
