/- The document's machine in memory. -/
import Derived.Test.YtangnoicnogddaaMmy
import Derived.Test.YtangnoicnogddaaMga
namespace Go.Proofs.Ytangnoicnogddaa.Tr
open Go.RowKit

/-- Cells that lie in a block of E. -/
def Lies (E : Nat → Prop) (w : World) (ad : Option Addr) (xs : List Value) : Prop := xs ≠ [] → ∃ b o, ad = some ⟨b, o, none⟩ ∧ E b ∧ ∀ q u, xs[q]? = some u → w.cell? ⟨b, o + q, none⟩ = some u
theorem Lies.on {E : Nat → Prop} {w w' : World} {ad : Option Addr} {xs : List Value} (h : Lies E w ad xs) (o : On E w w') : Lies E w' ad xs := fun hne => by
  obtain ⟨b, f, e, hE, hc⟩ := h hne
  exact ⟨b, f, e, hE, fun q u hq => o.cell hE (hc q u hq)⟩
theorem Lies.mono {E E' : Nat → Prop} {w : World} {ad : Option Addr} {xs : List Value} (h : Lies E w ad xs) (hE : ∀ k, E k → E' k) : Lies E' w ad xs := fun hne => by
  obtain ⟨b, f, e, h1, hc⟩ := h hne
  exact ⟨b, f, e, hE _ h1, hc⟩
theorem lies_nil (E : Nat → Prop) (w : World) (ad : Option Addr) : Lies E w ad [] := fun h => absurd rfl h
theorem lies_own {w : World} {B t k n m cap A : Nat} {ad : Option Addr} {xs : List Value} (h : w.ownsRow B t k (.slice ad n cap) m xs) (hA : A ≤ B) : Lies (Bt A w.heap.size) w ad xs := fun hne => by
  obtain ⟨g, c, e, hb, hc⟩ := own_cell h hne
  cases e
  exact ⟨g, 0, rfl, ⟨by omega, (own_lt h g rfl).2⟩, fun q u hq => by rw [Nat.zero_add]; exact hc q u hq⟩
theorem Lies.strs {E : Nat → Prop} {w : World} {ad : Option Addr} {ns : List Nm} (h : Lies E w ad (strC ns)) : Strs w ad ns := fun hne => by
  obtain ⟨b, o, e, _, hc⟩ := h (fun e => hne (by simpa [strC] using e))
  exact ⟨b, o, e, fun i hi => hc i _ (by simp [strC, hi])⟩
theorem Lies.bools {E : Nat → Prop} {w : World} {ad : Option Addr} {p : List Bool} (h : Lies E w ad (boolC p)) : Bools w ad p := fun hne => by
  obtain ⟨b, o, e, _, hc⟩ := h (fun e => hne (by simpa [boolC] using e))
  exact ⟨b, o, e, fun i hi => hc i _ (by simp [boolC, hi])⟩
/-- The document's machine at rb is s; all its rows lie in E, and nobody writes there. -/
structure RI (E : Nat → Prop) (w : World) (rb : Nat) (s : St) (o : Ov) (pa : Option Addr) (pc : Nat) (XF : List Xv) (XR : List Uv) : Prop where
  blk : Blk w rb 35 [.slice o.fa s.f.length o.fc, .slice o.ua s.u.length o.uc, .slice o.ra s.r.length o.rc, .slice pa s.p.length pc]
  f : Lies E w o.fa (flatE XF)
  fl : XF.length = s.f.length
  fe : ∀ i (h1 : i < s.f.length) (h2 : i < XF.length), EK E w s.f[i] XF[i]
  u : Lies E w o.ua (strC s.u)
  r : Lies E w o.ra (flatU XR)
  rl : XR.length = s.r.length
  re : ∀ i (h1 : i < s.r.length) (h2 : i < XR.length), UK E w s.r[i] XR[i]
  p : Lies E w pa (boolC s.p)
  cf : s.f.length ≤ o.fc ∧ o.fc ≤ maxLen
  cu : s.u.length ≤ o.uc ∧ o.uc ≤ maxLen
  cr : s.r.length ≤ o.rc ∧ o.rc ≤ maxLen
  cp : s.p.length ≤ pc ∧ pc ≤ maxLen
  ne : ¬ E rb
  es : ∀ k, E k → k < w.heap.size
def RX (E : Nat → Prop) (w : World) (rb : Nat) (s : St) : Prop := ∃ o pa pc XF XR, RI E w rb s o pa pc XF XR
section
variable {E : Nat → Prop} {w w' : World} {rb : Nat} {s : St} {o : Ov} {pa : Option Addr} {pc : Nat} {XF : List Xv} {XR : List Uv}
theorem RI.keep (h : RI E w rb s o pa pc XF XR) (e : On E w w') (eb : w'.heap[rb]? = w.heap[rb]?) (hs : w.heap.size ≤ w'.heap.size) : RI E w' rb s o pa pc XF XR :=
  { h with
    blk := h.blk.of_eq eb
    f := h.f.on e
    fe := fun i h1 h2 => (h.fe i h1 h2).on e
    u := h.u.on e
    r := h.r.on e
    re := fun i h1 h2 => (h.re i h1 h2).on e
    p := h.p.on e
    es := fun k hk => Nat.lt_of_lt_of_le (h.es k hk) hs }
theorem RI.on (h : RI E w rb s o pa pc XF XR) (f : Fr (fun _ => False) w w') : On E w w' := fun k hk => f.block k (h.es k hk) (fun h => h)
theorem RI.keep0 (h : RI E w rb s o pa pc XF XR) (f : Fr (fun _ => False) w w') : RI E w' rb s o pa pc XF XR := h.keep (h.on f) (f.block _ h.blk.lt (fun h => h)) f.size
theorem RI.more (h : RI E w rb s o pa pc XF XR) {E' : Nat → Prop} (hE : ∀ k, E k → E' k) (hn : ¬ E' rb) (hs : ∀ k, E' k → k < w.heap.size) : RI E' w rb s o pa pc XF XR :=
  { h with
    f := h.f.mono hE
    fe := fun i h1 h2 => (h.fe i h1 h2).mono hE
    u := h.u.mono hE
    r := h.r.mono hE
    re := fun i h1 h2 => (h.re i h1 h2).mono hE
    p := h.p.mono hE
    ne := hn
    es := hs }
theorem RI.set0 (h : RI E w rb s o pa pc XF XR) (j : Nat) (v : Value) : On E w (w.setCell ⟨rb, j, none⟩ v) := fun k hk => Below.heap_setCell w _ _ k (fun e => h.ne (by have e' : k = rb := e; rw [← e']; exact hk))
theorem sz_set (w : World) (a : Addr) (v : Value) : (w.setCell a v).heap.size = w.heap.size := by simp [World.setCell]
theorem RI.setR (h : RI E w rb s o pa pc XF XR) {ra : Option Addr} {n rc : Nat} {r' : List Ut} {XR' : List Uv} (hn : n = r'.length) (hl : Lies E w ra (flatU XR')) (hx : XR'.length = r'.length) (he : ∀ i (h1 : i < r'.length) (h2 : i < XR'.length), UK E w r'[i] XR'[i]) (hc : r'.length ≤ rc ∧ rc ≤ maxLen) :
    RX E (w.setCell ⟨rb, 2, none⟩ (.slice ra n rc)) rb { s with r := r' } := by
  subst hn
  have e := h.set0 2 (.slice ra r'.length rc)
  exact ⟨{ o with ra := ra, rc := rc }, pa, pc, XF, XR', {
    blk := h.blk.setCell 2 _
    f := h.f.on e
    fl := h.fl
    fe := fun i h1 h2 => (h.fe i h1 h2).on e
    u := h.u.on e
    r := hl.on e
    rl := hx
    re := fun i h1 h2 => (he i h1 h2).on e
    p := h.p.on e
    cf := h.cf
    cu := h.cu
    cr := hc
    cp := h.cp
    ne := h.ne
    es := fun k hk => by rw [sz_set]; exact h.es k hk }⟩
theorem RI.setF (h : RI E w rb s o pa pc XF XR) {fa : Option Addr} {n fc : Nat} {f' : List Ent} {XF' : List Xv} (hn : n = f'.length) (hl : Lies E w fa (flatE XF')) (hx : XF'.length = f'.length) (he : ∀ i (h1 : i < f'.length) (h2 : i < XF'.length), EK E w f'[i] XF'[i]) (hc : f'.length ≤ fc ∧ fc ≤ maxLen) :
    RX E (w.setCell ⟨rb, 0, none⟩ (.slice fa n fc)) rb { s with f := f' } := by
  subst hn
  have e := h.set0 0 (.slice fa f'.length fc)
  exact ⟨{ o with fa := fa, fc := fc }, pa, pc, XF', XR, {
    blk := h.blk.setCell 0 _
    f := hl.on e
    fl := hx
    fe := fun i h1 h2 => (he i h1 h2).on e
    u := h.u.on e
    r := h.r.on e
    rl := h.rl
    re := fun i h1 h2 => (h.re i h1 h2).on e
    p := h.p.on e
    cf := hc
    cu := h.cu
    cr := h.cr
    cp := h.cp
    ne := h.ne
    es := fun k hk => by rw [sz_set]; exact h.es k hk }⟩
theorem RI.setU (h : RI E w rb s o pa pc XF XR) {ua : Option Addr} {n uc : Nat} {u' : List Nm} (hn : n = u'.length) (hl : Lies E w ua (strC u')) (hc : u'.length ≤ uc ∧ uc ≤ maxLen) :
    RX E (w.setCell ⟨rb, 1, none⟩ (.slice ua n uc)) rb { s with u := u' } := by
  subst hn
  have e := h.set0 1 (.slice ua u'.length uc)
  exact ⟨{ o with ua := ua, uc := uc }, pa, pc, XF, XR, {
    blk := h.blk.setCell 1 _
    f := h.f.on e
    fl := h.fl
    fe := fun i h1 h2 => (h.fe i h1 h2).on e
    u := hl.on e
    r := h.r.on e
    rl := h.rl
    re := fun i h1 h2 => (h.re i h1 h2).on e
    p := h.p.on e
    cf := h.cf
    cu := hc
    cr := h.cr
    cp := h.cp
    ne := h.ne
    es := fun k hk => by rw [sz_set]; exact h.es k hk }⟩
theorem RI.setP (h : RI E w rb s o pa pc XF XR) {qa : Option Addr} {n qc : Nat} {p' : List Bool} (hn : n = p'.length) (hl : Lies E w qa (boolC p')) (hc : p'.length ≤ qc ∧ qc ≤ maxLen) :
    RX E (w.setCell ⟨rb, 3, none⟩ (.slice qa n qc)) rb { s with p := p' } := by
  subst hn
  have e := h.set0 3 (.slice qa p'.length qc)
  exact ⟨o, qa, qc, XF, XR, {
    blk := h.blk.setCell 3 _
    f := h.f.on e
    fl := h.fl
    fe := fun i h1 h2 => (h.fe i h1 h2).on e
    u := h.u.on e
    r := h.r.on e
    rl := h.rl
    re := fun i h1 h2 => (h.re i h1 h2).on e
    p := hl.on e
    cf := h.cf
    cu := h.cu
    cr := h.cr
    cp := hc
    ne := h.ne
    es := fun k hk => by rw [sz_set]; exact h.es k hk }⟩
theorem RI.cells (h : RI E w rb s o pa pc XF XR) : w.cell? ⟨rb, 0, none⟩ = some (.slice o.fa s.f.length o.fc) ∧ w.cell? ⟨rb, 1, none⟩ = some (.slice o.ua s.u.length o.uc) ∧ w.cell? ⟨rb, 2, none⟩ = some (.slice o.ra s.r.length o.rc) ∧ w.cell? ⟨rb, 3, none⟩ = some (.slice pa s.p.length pc) :=
  ⟨h.blk.cell 0, h.blk.cell 1, h.blk.cell 2, h.blk.cell 3⟩
theorem RI.us (h : RI E w rb s o pa pc XF XR) : Us w w s.r o.ra := fun hne => by
  have hx : flatU XR ≠ [] := fun e => hne (List.eq_nil_of_length_eq_zero (by have := flatU_len XR; rw [e] at this; simp at this; have := h.rl; omega))
  obtain ⟨b, f, e, _, hc⟩ := h.r hx
  refine ⟨b, f, e, fun i hi => ?_⟩
  have hi' : i < XR.length := by rw [h.rl]; exact hi
  refine ⟨XR[i], fun j v hv => ?_, (h.re i hi hi').u⟩
  have := hc (i * 4 + j) v (by rw [flatU_at XR i j hi' (List.getElem?_eq_some_iff.1 hv).1]; exact hv)
  rw [← Nat.add_assoc] at this; exact this
theorem RI.ents (h : RI E w rb s o pa pc XF XR) : Ents w o.fa s.f := fun hne => by
  have hx : flatE XF ≠ [] := fun e => hne (List.eq_nil_of_length_eq_zero (by have := flatE_len XF; rw [e] at this; simp at this; have := h.fl; omega))
  obtain ⟨b, f, e, _, hc⟩ := h.f hx
  refine ⟨b, f, e, fun i hi => ?_⟩
  have hi' : i < XF.length := by rw [h.fl]; exact hi
  have hcc : ∀ j v, (XF[i]).cs[j]? = some v → w.cell? ⟨b, f + i * 3 + j, none⟩ = some v := fun j v hv => by
    have := hc (i * 3 + j) v (by rw [flatE_at XF i j hi' (List.getElem?_eq_some_iff.1 hv).1]; exact hv)
    rw [← Nat.add_assoc] at this; exact this
  have ek := h.fe i hi hi'
  have k0 := hcc 0 _ rfl
  have k1 := hcc 1 _ rfl
  have k2 := hcc 2 _ rfl
  rw [ek.p] at k0
  rw [ek.k] at k1
  rw [ek.l] at k2
  exact ⟨_, _, k0, k1, k2, ek.v⟩
theorem RI.oin (h : RI E w rb s o pa pc XF XR) : OIn w s { o with fl := s.f.length, ul := s.u.length, rl := s.r.length } := ⟨rfl, rfl, rfl, h.ents, h.u.strs, h.us⟩
end
/-- What an act of the document's machine leaves. -/
def RPost (E : Nat → Prop) (w : World) (rb : Nat) (r : St × Int) (e : Ending) (w' : World) : Prop := e = .returned (.int .i64 r.2) ∧ Fr (fun k => k = rb) w w' ∧ RX (fun k => E k ∨ Bt w.heap.size w'.heap.size k) w' rb r.1
end Go.Proofs.Ytangnoicnogddaa.Tr
