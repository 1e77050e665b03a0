/- Rows of a machine that are cut or grow; the contracts of stop, remove, drop, admit. -/
import Derived.Test.YtangnoicnogddaaMsl
namespace Go.Proofs.Ytangnoicnogddaa.Tr
open Go.RowKit

/-- W is what comes behind w: the machine is s there. -/
def Next (O : Nat → Prop) (w : World) (mb : Nat) (s : St) (W : World) : Prop := Fr O w W ∧ ∃ O', MX O' W mb s ∧ ∀ k, O' k → O k ∨ w.heap.size ≤ k
theorem Next.after {O : Nat → Prop} {w w1 W : World} {mb : Nat} {s : St} (h : Next O w1 mb s W) (f : Fr O w w1) : Next O w mb s W := by
  obtain ⟨f1, O', m, ho⟩ := h
  exact ⟨f.trans f1 (fun _ h => .inl h), O', m, fun k hk => (ho k hk).imp id (fun h => Nat.le_trans f.size h)⟩
theorem Next.of {O : Nat → Prop} {w W : World} {mb : Nat} {s : St} (f : Fr O w W) (m : MX O W mb s) : Next O w mb s W := ⟨f, O, m, fun _ h => .inl h⟩
theorem DoPost.of {O : Nat → Prop} {w W : World} {mb : Nat} {r : St × Int} (h : Next O w mb r.1 W) : DoPost O w mb r (.returned (.int .i64 r.2)) W := ⟨rfl, h⟩
/-- What is put into cell j makes the machine s. -/
def PutP (j : Nat) (O : Nat → Prop) (w : World) (mb : Nat) (s : St) (e : Ending) (w' : World) : Prop :=
  ∃ a n c, e = .returned (.slice a n c) ∧ (∃ u, w'.cell? ⟨mb, j, none⟩ = some u) ∧ w'.frozen? ⟨mb, j, none⟩ = false ∧ Next O w mb s (w'.setCell ⟨mb, j, none⟩ (.slice a n c))

theorem own_mk {w : World} {g n cap : Nat} {t : TypeId} {k : Nat} {cur xs : List Value} (hb : Blk w g t cur) (hc : cur.length = cap * k) (hn : n ≤ cap) (hm : cap ≤ maxLen) (ht : cur.take (n * k) = xs) : w.ownsRow 0 t k (.slice (some ⟨g, 0, none⟩) n cap) n xs := by
  have hl : n * k ≤ cur.length := by rw [hc]; exact Nat.mul_le_mul_right _ hn
  exact ⟨by rw [← ht, List.length_take, Nat.min_eq_left hl], .inr ⟨g, cap, cur.toArray, rfl, Nat.zero_le _, hb, hn, hm, by simpa using hc, by simpa using ht⟩⟩
theorem own_get {w : World} {t : TypeId} {k n : Nat} {v : Value} {xs : List Value} (h : w.ownsRow 0 t k v n xs) (hn : 0 < n) : ∃ g cap cur, v = .slice (some ⟨g, 0, none⟩) n cap ∧ Blk w g t cur ∧ cur.length = cap * k ∧ n ≤ cap ∧ cap ≤ maxLen ∧ cur.take (n * k) = xs := by
  rcases h.2 with ⟨_, h0⟩ | ⟨g, cap, cur, hv, _, hg, h1, h2, h3, h4⟩
  · omega
  · exact ⟨g, cap, cur.toList, hv, hg, by simpa using h3, h1, h2, h4⟩
theorem erase_td {α : Type} (l : List α) (k : Nat) : l.eraseIdx k = l.take k ++ l.drop (k + 1) := List.eraseIdx_eq_take_drop_succ l k

section
variable {O D : Nat → Prop} {w : World} {mb : Nat} {s : St} {fv uv rv : Value} {pa : Option Addr} {pc : Nat} {XF : List Xv} {XR : List Uv}
theorem get_erase {α : Type} (P : α → Prop) {l : List α} {k : Nat} (h : ∀ x ∈ l, P x) : ∀ x ∈ l.eraseIdx k, P x := fun x hx => h x ((List.eraseIdx_sublist l k).subset hx)
theorem pair_erase {α β : Type} (P : α → β → Prop) : ∀ (A : List α) (B : List β) (k : Nat), (∀ i (h : i < A.length) (h' : i < B.length), P A[i] B[i]) → ∀ i (h : i < (A.eraseIdx k).length) (h' : i < (B.eraseIdx k).length), P (A.eraseIdx k)[i] (B.eraseIdx k)[i] := fun A B k hP i h h' => by
  rw [List.getElem_eraseIdx, List.getElem_eraseIdx]
  have h1 := List.length_eraseIdx (l := A) (i := k)
  have h2 := List.length_eraseIdx (l := B) (i := k)
  split
  · exact hP _ _ _
  · exact hP _ _ _
theorem ins_get {α : Type} (l : List α) {k : Nat} (z : α) (hk : k ≤ l.length) (i : Nat) : (ins l k z)[i]? = if i < k then l[i]? else if i = k then some z else l[i - 1]? := by
  unfold ins
  by_cases h1 : i < k
  · rw [if_pos h1, List.getElem?_append_left (by rw [List.length_take]; omega), List.getElem?_take, if_pos h1]
  · rw [if_neg h1, List.getElem?_append_right (by rw [List.length_take]; omega), List.length_take, Nat.min_eq_left hk]
    by_cases h2 : i = k
    · subst h2
      rw [if_pos rfl, Nat.sub_self]; rfl
    · rw [if_neg h2, show i - k = (i - 1 - k) + 1 by omega, List.getElem?_cons_succ, List.getElem?_drop]
      congr 1
      omega
theorem pair_ins {α β : Type} (P : α → β → Prop) (A : List α) (B : List β) (hl : B.length = A.length) (k : Nat) (hk : k ≤ A.length) (x : α) (y : β) (hx : P x y) (hP : ∀ i (h : i < A.length) (h' : i < B.length), P A[i] B[i]) : ∀ i (h : i < (ins A k x).length) (h' : i < (ins B k y).length), P (ins A k x)[i] (ins B k y)[i] := fun i h h' => by
  have e1 := ins_get A x hk i
  have e2 := ins_get B y (show k ≤ B.length by omega) i
  have hA := h
  have hB := h'
  rw [ins_len] at hA hB
  rw [List.getElem?_eq_getElem h] at e1
  rw [List.getElem?_eq_getElem h'] at e2
  by_cases h1 : i < k
  · rw [if_pos h1, List.getElem?_eq_getElem (show i < A.length by omega)] at e1
    rw [if_pos h1, List.getElem?_eq_getElem (show i < B.length by omega)] at e2
    rw [Option.some.inj e1, Option.some.inj e2]; exact hP _ _ _
  · by_cases h2 : i = k
    · rw [if_neg h1, if_pos h2] at e1 e2
      rw [Option.some.inj e1, Option.some.inj e2]; exact hx
    · rw [if_neg h1, if_neg h2, List.getElem?_eq_getElem (show i - 1 < A.length by omega)] at e1
      rw [if_neg h1, if_neg h2, List.getElem?_eq_getElem (show i - 1 < B.length by omega)] at e2
      rw [Option.some.inj e1, Option.some.inj e2]; exact hP _ _ _
theorem MI.nxt_f (h : MI O D w mb s fv uv rv pa pc XF XR) {w1 : World} {a : Option Addr} {n c : Nat} {f' : List Ent} {XF' : List Xv} (F : Fr (fun k => fv.ownBlock = some k) w w1)
    (o : w1.ownsRow 0 39 3 (.slice a n c) f'.length (flatE XF')) (hb : ∀ k, (Value.slice a n c).ownBlock = some k → fv.ownBlock = some k ∨ w.heap.size ≤ k) (hl : XF'.length = f'.length) (he : ∀ i (h1 : i < f'.length) (h2 : i < XF'.length), EK D w f'[i] XF'[i]) :
    PutP 0 O w mb { s with f := f' } (.returned (.slice a n c)) w1 := by
  have m := h.files F o hb hl he
  have B : Blk w1 mb 59 [fv, uv, rv, .slice pa s.p.length pc] := F.blk h.blk (fun hf => (h.bf _ hf).2.2 rfl)
  exact ⟨a, n, c, rfl, ⟨fv, B.cell 0⟩, B.frozen 0, (F.mono (fun k hk => (h.bf k hk).1)).setCell (.inl h.om) _, _, ⟨_, _, _, _, _, _, _, _, m⟩, fun k hk => hk.elim .inl (fun hk => (hb k hk).imp (fun hk => (h.bf k hk).1) id)⟩
theorem MI.nxt_u (h : MI O D w mb s fv uv rv pa pc XF XR) {w1 : World} {a : Option Addr} {n c : Nat} {u' : List Nm} (F : Fr (fun k => uv.ownBlock = some k) w w1)
    (o : w1.ownsRow 0 9 1 (.slice a n c) u'.length (strC u')) (hb : ∀ k, (Value.slice a n c).ownBlock = some k → uv.ownBlock = some k ∨ w.heap.size ≤ k) :
    PutP 1 O w mb { s with u := u' } (.returned (.slice a n c)) w1 := by
  have m := h.users F o hb
  have B : Blk w1 mb 59 [fv, uv, rv, .slice pa s.p.length pc] := F.blk h.blk (fun hf => (h.bu _ hf).2.2 rfl)
  exact ⟨a, n, c, rfl, ⟨uv, B.cell 1⟩, B.frozen 1, (F.mono (fun k hk => (h.bu k hk).1)).setCell (.inl h.om) _, _, ⟨_, _, _, _, _, _, _, _, m⟩, fun k hk => hk.elim .inl (fun hk => (hb k hk).imp (fun hk => (h.bu k hk).1) id)⟩
theorem MI.nxt_r (h : MI O D w mb s fv uv rv pa pc XF XR) {w1 : World} {a : Option Addr} {n c : Nat} {r' : List Ut} {XR' : List Uv} (F : Fr (fun k => rv.ownBlock = some k) w w1)
    (o : w1.ownsRow 0 41 4 (.slice a n c) r'.length (flatU XR')) (hb : ∀ k, (Value.slice a n c).ownBlock = some k → rv.ownBlock = some k ∨ w.heap.size ≤ k) (hl : XR'.length = r'.length) (he : ∀ i (h1 : i < r'.length) (h2 : i < XR'.length), UK D w r'[i] XR'[i]) :
    PutP 2 O w mb { s with r := r' } (.returned (.slice a n c)) w1 := by
  have m := h.units F o hb hl he
  have B : Blk w1 mb 59 [fv, uv, rv, .slice pa s.p.length pc] := F.blk h.blk (fun hf => (h.br _ hf).2.2 rfl)
  exact ⟨a, n, c, rfl, ⟨rv, B.cell 2⟩, B.frozen 2, (F.mono (fun k hk => (h.br k hk).1)).setCell (.inl h.om) _, _, ⟨_, _, _, _, _, _, _, _, m⟩, fun k hk => hk.elim .inl (fun hk => (hb k hk).imp (fun hk => (h.br k hk).1) id)⟩
theorem MI.del_r (h : MI O D w mb s fv uv rv pa pc XF XR) {k : Nat} (hk : k < s.r.length) :
    Calls Try.prog 38 #[rv, .int .i64 (k : Int), .int .i64 ((k : Int) + 1)] w fun e w' => PutP 2 O w mb { s with r := s.r.eraseIdx k } e w' := by
  obtain ⟨g, cap, cur, rfl, hB, hc, hn, hm, ht⟩ := own_get h.r (by omega)
  refine (delU_any w g s.r.length cap k cur hB hc (by rw [ht]; exact flatU_one XR) hn hm hk).mono ?_
  rintro e w1 ⟨rfl, F, cur', hB', hc', ht'⟩
  have hl1 : (s.r.eraseIdx k).length = s.r.length - 1 := by rw [List.length_eraseIdx, if_pos hk]
  have hl2 : (XR.eraseIdx k).length = s.r.length - 1 := by rw [List.length_eraseIdx, if_pos (by rw [h.rl]; exact hk), h.rl]
  rw [ht, flatU_take, flatU_drop, ← flatU_app, ← erase_td, ← hl1] at ht'
  have o := own_mk hB' hc' (by rw [hl1]; omega) hm ht'
  rw [hl1] at o
  exact h.nxt_r (r' := s.r.eraseIdx k) (F.mono (fun i hi => by rw [hi]; rfl)) (by rw [hl1]; exact o) (fun i hi => .inl hi) (by rw [hl1, hl2]) (pair_erase _ _ _ _ h.re)
theorem MI.del_f (h : MI O D w mb s fv uv rv pa pc XF XR) {k : Nat} (hk : k < s.f.length) :
    Calls Try.prog 40 #[fv, .int .i64 (k : Int), .int .i64 ((k : Int) + 1)] w fun e w' => PutP 0 O w mb { s with f := s.f.eraseIdx k } e w' := by
  obtain ⟨g, cap, cur, rfl, hB, hc, hn, hm, ht⟩ := own_get h.f (by omega)
  refine (delE_any w g s.f.length cap k cur hB hc (by rw [ht]; exact flatE_one XF) hn hm hk).mono ?_
  rintro e w1 ⟨rfl, F, cur', hB', hc', ht'⟩
  have hl1 : (s.f.eraseIdx k).length = s.f.length - 1 := by rw [List.length_eraseIdx, if_pos hk]
  have hl2 : (XF.eraseIdx k).length = s.f.length - 1 := by rw [List.length_eraseIdx, if_pos (by rw [h.fl]; exact hk), h.fl]
  rw [ht, flatE_take, flatE_drop, ← flatE_app, ← erase_td, ← hl1] at ht'
  have o := own_mk hB' hc' (by rw [hl1]; omega) hm ht'
  rw [hl1] at o
  exact h.nxt_f (f' := s.f.eraseIdx k) (F.mono (fun i hi => by rw [hi]; rfl)) (by rw [hl1]; exact o) (fun i hi => .inl hi) (by rw [hl1, hl2]) (pair_erase _ _ _ _ h.fe)
theorem strC_take (l : List Nm) (i : Nat) : (strC l).take i = strC (l.take i) := by simp [strC, List.map_take]
theorem strC_drop (l : List Nm) (i : Nat) : (strC l).drop i = strC (l.drop i) := by simp [strC, List.map_drop]
theorem MI.del_u (h : MI O D w mb s fv uv rv pa pc XF XR) {k : Nat} (hk : k < s.u.length) :
    Calls Try.prog 42 #[uv, .int .i64 (k : Int), .int .i64 ((k : Int) + 1)] w fun e w' => PutP 1 O w mb { s with u := s.u.eraseIdx k } e w' := by
  obtain ⟨g, cap, cur, rfl, hB, hc, hn, hm, ht⟩ := own_get h.u (by omega)
  rw [Nat.mul_one] at ht hc
  refine (del9_any w g s.u.length cap k cur hB hc (by rw [ht]; exact strC_one s.u) hn hm hk).mono ?_
  rintro e w1 ⟨rfl, F, cur', hB', hc', ht'⟩
  have hl1 : (s.u.eraseIdx k).length = s.u.length - 1 := by rw [List.length_eraseIdx, if_pos hk]
  rw [ht, strC_take, strC_drop, ← strC_app, ← erase_td, ← hl1] at ht'
  have o := own_mk (k := 1) (n := (s.u.eraseIdx k).length) (xs := strC (s.u.eraseIdx k)) hB' (by rw [Nat.mul_one]; exact hc') (by rw [hl1]; omega) hm (by rw [Nat.mul_one]; exact ht')
  rw [hl1] at o
  exact h.nxt_u (u' := s.u.eraseIdx k) (F.mono (fun i hi => by rw [hi]; rfl)) (by rw [hl1]; exact o) (fun i hi => .inl hi)
end
end Go.Proofs.Ytangnoicnogddaa.Tr
