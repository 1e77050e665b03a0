/- The reference disk: its representation, and the contracts of its small functions. -/
import Derived.Test.YtdempopelalafaaImage
namespace Go.Proofs.Ytdempopelalafaa.Dk
open Go.RowKit

structure RW where
  a : Nat
  b : List UInt8
  s : Bool
structure RDk where
  n : Nat
  ws : List RW
  off : Bool
  done : Nat
  left : Int
  keep : Nat

def rwc (x : RW) : List Value := [.int .i64 (x.a : Int), .string (strB x.b), .bool x.s]
def encR : List RW → List Value
  | [] => []
  | x :: r => rwc x ++ encR r
theorem encR_append (a b : List RW) : encR (a ++ b) = encR a ++ encR b := by
  induction a with
  | nil => rfl
  | cons q r ih => simp [encR, ih]
theorem encR_one : ∀ (l : List RW), ∀ u ∈ encR l, u.oneCell' = true
  | [], _, h => by cases h
  | x :: r, u, h => by
    rcases List.mem_append.1 h with h | h
    · simp only [rwc, List.mem_cons, List.not_mem_nil, or_false] at h
      rcases h with rfl | rfl | rfl <;> rfl
    · exact encR_one r u h
theorem encR_length (l : List RW) : (encR l).length = l.length * 3 := by
  induction l with
  | nil => rfl
  | cons x r ih => simp only [encR, rwc, List.length_append, List.length_cons, List.length_nil, ih]; omega
theorem encR_at : ∀ (l : List RW) (k : Nat) (x : RW), l[k]? = some x → (encR l)[k * 3]? = some (.int .i64 (x.a : Int)) ∧ (encR l)[k * 3 + 1]? = some (.string (strB x.b)) ∧ (encR l)[k * 3 + 2]? = some (.bool x.s)
  | [], _, _, h => by simp at h
  | y :: r, 0, x, h => by
    simp at h
    subst h
    simp [encR, rwc]
  | y :: r, k + 1, x, h => by
    have ih := encR_at r k x (by simpa using h)
    have e0 : (k + 1) * 3 = k * 3 + 3 := by omega
    simp only [encR, rwc, e0]
    simpa using ih

def RDk.head (R : RDk) (wv : Value) : List Value := [.int .i64 (R.n : Int), wv, .bool R.off, .int .i64 (R.done : Int), .int .i64 R.left, .int .u64 (R.keep : Int)]
structure RDk.Ok (R : RDk) : Prop where
  n1 : 1 ≤ R.n
  n2 : R.n ≤ 1024
  q : ∀ x ∈ R.ws, x.a < R.n ∧ x.b.length = 128
  l0 : -1 ≤ R.left
  l1 : R.left ≤ 9223372036854775807
  k : R.keep < 18446744073709551616
structure RRep (w : World) (q : Nat) (wv : Value) (R : RDk) : Prop where
  hp : Blk w q 45 (R.head wv)
  hq : w.ownsRow 0 65 3 wv R.ws.length (encR R.ws)
  qp : wv.ownBlock ≠ some q
  ok : R.Ok
def rfoot (q : Nat) (wv : Value) (k : Nat) : Prop := k = q ∨ wv.ownBlock = some k

section
variable {w w' : World} {q : Nat} {wv : Value} {R R' : RDk}
theorem RRep.c0 (h : RRep w q wv R) : w.cell? ⟨q, 0, none⟩ = some (.int .i64 (R.n : Int)) := h.hp.cell 0
theorem RRep.c1 (h : RRep w q wv R) : w.cell? ⟨q, 1, none⟩ = some wv := h.hp.cell 1
theorem RRep.c2 (h : RRep w q wv R) : w.cell? ⟨q, 2, none⟩ = some (.bool R.off) := h.hp.cell 2
theorem RRep.c3 (h : RRep w q wv R) : w.cell? ⟨q, 3, none⟩ = some (.int .i64 (R.done : Int)) := h.hp.cell 3
theorem RRep.c4 (h : RRep w q wv R) : w.cell? ⟨q, 4, none⟩ = some (.int .i64 R.left) := h.hp.cell 4
theorem RRep.c5 (h : RRep w q wv R) : w.cell? ⟨q, 5, none⟩ = some (.int .u64 (R.keep : Int)) := h.hp.cell 5
theorem RRep.fz (h : RRep w q wv R) (j : Nat) : w.frozen? ⟨q, j, none⟩ = false := h.hp.frozen j
theorem RRep.foot_lt (h : RRep w q wv R) (k : Nat) (hk : rfoot q wv k) : k < w.heap.size := by
  rcases hk with rfl | hk
  · exact h.hp.lt
  · exact (h.hq.lt k hk).2
theorem RRep.of_same (h : RRep w q wv R) (he : ∀ k, rfoot q wv k → w'.heap[k]? = w.heap[k]?) : RRep w' q wv R :=
  ⟨h.hp.of_eq (he q (.inl rfl)), owns_of_eq h.hq (fun k hk => he k (.inr hk)), h.qp, h.ok⟩
theorem RRep.frame (h : RRep w q wv R) {F : Nat → Prop} (hf : Fr F w w') (hd : ∀ k, rfoot q wv k → ¬ F k) : RRep w' q wv R := h.of_same (fun k hk => hf.block k (h.foot_lt k hk) (hd k hk))
theorem RRep.drew (h : RRep w q wv R) : RRep w.drew q wv R := h.of_same (fun _ _ => rfl)
theorem RRep.alloc (h : RRep w q wv R) (o : Obj) : RRep (w.alloc o) q wv R := h.of_same (fun k hk => Below.heap_alloc w o k (h.foot_lt k hk))
theorem RRep.field (h : RRep w q wv R) (j : Nat) (v : Value) (hh : (R.head wv).set j v = R'.head wv) (e3 : R'.ws = R.ws) (ok : R'.Ok) : RRep (w.setCell ⟨q, j, none⟩ v) q wv R' :=
  ⟨hh ▸ h.hp.setCell j v, by rw [e3]; exact owns_of_eq h.hq (fun k hk => Below.heap_setCell w _ v k (fun e => h.qp (by rw [hk, e]))), h.qp, ok⟩
/-- Another list of writes is stored. -/
theorem RRep.lists (h : RRep w q wv R) (wv' : Value) (ws' : List RW) (ho : w.ownsRow 0 65 3 wv' ws'.length (encR ws')) (hn : wv'.ownBlock ≠ some q) (hws : ∀ x ∈ ws', x.a < R.n ∧ x.b.length = 128) : RRep (w.setCell ⟨q, 1, none⟩ wv') q wv' { R with ws := ws' } :=
  ⟨h.hp.setCell 1 wv', owns_of_eq ho (fun k hk => Below.heap_setCell w _ _ k (fun e => hn (by rw [hk, e]))), hn, { h.ok with q := hws }⟩
end

def RDid (q : Nat) (wv : Value) (w : World) (R' : RDk) (w' : World) : Prop := ∃ wv', RRep w' q wv' R' ∧ (∀ k, wv'.ownBlock = some k → wv.ownBlock = some k ∨ w.heap.size ≤ k) ∧ Fr (rfoot q wv) w w'

set_option maxHeartbeats 400000 in
theorem rnew_no (w : World) (n : Int) (h : n < 1 ∨ 1024 < n) : Calls Try.prog 9 #[.int .i64 n] w fun e w' => e = .returned (.pointer none) ∧ w' = w := by
  rcases h with h | h
  · go_enter Try.func9, Try.ntmps9
    go_wp2
    go_ret
    exact ⟨rfl, rfl⟩
  · have h' : ¬ n < 1 := by omega
    go_enter Try.func9, Try.ntmps9
    go_wp2
    go_ret
    exact ⟨rfl, rfl⟩

def RDk.new (n : Nat) : RDk := { n := n, ws := [], off := false, done := 0, left := -1, keep := 0 }
set_option maxHeartbeats 400000 in
theorem rnew_ok (w : World) (n : Nat) (h1 : 1 ≤ n) (h2 : n ≤ 1024) : Calls Try.prog 9 #[.int .i64 (n : Int)] w fun e w' => e = .returned (pv w.heap.size) ∧ RRep w' w.heap.size (.slice none 0 0) (RDk.new n) ∧ Fr (fun _ => False) w w' := by
  have HR : Hid (RRep (w.alloc (.cells #[.int .i64 (n : Int), .slice none 0 0, .bool false, .int .i64 0, .int .i64 (-1), .int .u64 0] 45)) w.heap.size (.slice none 0 0) (RDk.new n)) :=
    ⟨Blk.new w 45 ((RDk.new n).head (.slice none 0 0)), World.ownsRow_nil _ _ _ _, by simp [Value.ownBlock], ⟨h1, h2, fun x hx => (by cases hx), by simp [RDk.new], by simp [RDk.new], by simp [RDk.new]⟩⟩
  have HF : Hid (Fr (fun _ => False) w (w.alloc (.cells #[.int .i64 (n : Int), .slice none 0 0, .bool false, .int .i64 0, .int .i64 (-1), .int .u64 0] 45))) := (Fr.refl _ w).alloc _
  have g1 : ¬ ((n : Int) < 1) := by omega
  have g2 : ¬ (1024 < (n : Int)) := by omega
  go_enter Try.func9, Try.ntmps9
  go_wp2
  go_ret
  exact ⟨rfl, HR.out, HF.out⟩

set_option maxHeartbeats 400000 in
theorem rstart_any {w : World} {q : Nat} {wv : Value} {R : RDk} (h : RRep w q wv R) : Calls Try.prog 18 #[pv q] w fun e w' => e = .returned (.int .i64 (if R.off then 0 else 42)) ∧ RRep w' q wv { R with off := false } ∧ Fr (rfoot q wv) w w' := by
  have c2 := h.c2
  cases hu : R.off
  · have e : { R with off := false } = R := by cases R; simp_all
    rw [e]
    rw [hu] at c2
    have H := hid h
    clear h hu e
    go_enter Try.func18, Try.ntmps18
    go_wp2
    go_ret
    exact ⟨rfl, H.out, Fr.refl _ _⟩
  · rw [hu] at c2
    have fz := h.fz
    have H1 := hid (h.field (R' := { R with off := false }) 2 (.bool false) rfl rfl { h.ok with })
    clear h hu
    go_enter Try.func18, Try.ntmps18
    go_wp2
    go_ret
    exact ⟨rfl, H1.out, (Fr.refl _ _).setCell (.inl (.inl rfl)) _⟩

def RDk.arm (R : RDk) (a : Int) (k : Nat) : RDk := if R.off then R else { R with left := if a < 0 then -1 else a, keep := k }

set_option maxHeartbeats 400000 in
theorem rarm_any {w : World} {q : Nat} {wv : Value} {R : RDk} (h : RRep w q wv R) (a : Int) (k : Nat) (ha : a ≤ 9223372036854775807) (hk : k < 18446744073709551616) :
    Calls Try.prog 38 #[pv q, .int .i64 a, .int .u64 (k : Int)] w fun e w' => e = .returned (.tuple #[]) ∧ RRep w' q wv (R.arm a k) ∧ Fr (rfoot q wv) w w' := by
  have c2 := h.c2
  unfold RDk.arm
  cases hu : R.off
  · rw [hu] at c2
    have fz := h.fz
    have c4 := h.c4
    have c5 := h.c5
    simp only [Bool.false_eq_true, if_false]
    by_cases h0 : a < 0
    · have H3 : Hid (RRep (((w.setCell ⟨q, 4, none⟩ (.int .i64 a)).setCell ⟨q, 5, none⟩ (.int .u64 (k : Int))).setCell ⟨q, 4, none⟩ (.int .i64 (-1))) q wv { R with off := false, left := -1, keep := k }) := by
        have hb := ((h.hp.setCell 4 (.int .i64 a)).setCell 5 (.int .u64 (k : Int))).setCell 4 (.int .i64 (-1))
        have hne : ∀ j, wv.ownBlock = some j → j ≠ q := fun j hj e => h.qp (by rw [hj, e])
        refine ⟨by simpa [RDk.head, hu] using hb, owns_of_eq h.hq (fun j hj => ?_), h.qp, { h.ok with l0 := by simp, l1 := by simp, k := hk }⟩
        rw [Below.heap_setCell _ _ _ _ (hne j hj), Below.heap_setCell _ _ _ _ (hne j hj), Below.heap_setCell _ _ _ _ (hne j hj)]
      have HF : Hid (Fr (rfoot q wv) w (((w.setCell ⟨q, 4, none⟩ (.int .i64 a)).setCell ⟨q, 5, none⟩ (.int .u64 (k : Int))).setCell ⟨q, 4, none⟩ (.int .i64 (-1)))) := (((Fr.refl _ _).setCell (.inl (.inl rfl)) _).setCell (.inl (.inl rfl)) _).setCell (.inl (.inl rfl)) _
      rw [if_pos h0]
      clear h hu
      go_enter Try.func38, Try.ntmps38
      go_wp2
      go_end0
      exact ⟨rfl, H3.out, HF.out⟩
    · have H1 : RRep (w.setCell ⟨q, 4, none⟩ (.int .i64 a)) q wv { R with left := a } := h.field 4 _ rfl rfl { h.ok with l0 := by show -1 ≤ a; omega, l1 := ha }
      have H2 := hid (H1.field (R' := { R with off := false, left := a, keep := k }) 5 (.int .u64 (k : Int)) (by simp [RDk.head, hu]) rfl { H1.ok with k := hk })
      have HF : Hid (Fr (rfoot q wv) w ((w.setCell ⟨q, 4, none⟩ (.int .i64 a)).setCell ⟨q, 5, none⟩ (.int .u64 (k : Int)))) := ((Fr.refl _ _).setCell (.inl (.inl rfl)) _).setCell (.inl (.inl rfl)) _
      rw [if_neg h0]
      clear h hu H1
      go_enter Try.func38, Try.ntmps38
      go_wp2
      go_end0
      exact ⟨rfl, H2.out, HF.out⟩
  · rw [hu] at c2
    have H := hid h
    clear h hu
    go_enter Try.func38, Try.ntmps38
    go_wp2
    go_end0
    exact ⟨rfl, by simpa using H.out, Fr.refl _ _⟩

end Go.Proofs.Ytdempopelalafaa.Dk
