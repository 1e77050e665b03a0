/- The contract of fmtEFG with an exponent, and of 0. (gen/genege.py) -/
import Derived.Test.YtlepjghfcpgbcaaGreatDoorEfg
namespace Go.Proofs.YtlepjghfcpgbcaaGreatDoor.Tr
open Go.RowKit

/-- Several bytes in a slice of their own. -/
theorem srcMany (w : World) (c : List UInt8) : Go.Src Tryz.prog 1 66 (.slice (some ⟨w.heap.size, 0, none⟩) c.length c.length) c.length (bs c) (w.alloc (.cells (bs c).toArray 5)) :=
  srcBytes (b := c) (fun _ => ⟨_, _, rfl, (Blk.new w 5 (bs c)).range 0 (bs c) (by simp)⟩) c.length
theorem Dst.apps {B bb : Nat} {T : TypeId} {L : List Value} {w0 w w' : World} {v v' : Value} {S c : List UInt8} {o : Obj} (d : Dst B bb T L w0 w v S) (h : Apd (w.alloc o) w' B v v' (S.length + c.length) (bs S ++ bs c)) : Dst B bb T L w0 w' v' (S ++ c) := by
  have hb := d.blk.lt
  have e : bs (S ++ c) = bs S ++ bs c := by simp [bs]
  refine ⟨?_, ?_, ?_, ?_, ?_⟩
  · rw [e, show (S ++ c).length = S.length + c.length by simp]; exact h.own
  · rcases h.row with h1 | h1
    · rw [h1]; exact d.ne
    · rw [h1]
      intro h2
      simp only [Option.some.injEq, World.size_alloc] at h2
      omega
  · refine (d.blk.alloc o).of_eq (h.grown.block bb (by rw [World.size_alloc]; omega) (fun h2 => d.ne h2.symm))
  · exact (d.fr.alloc o).grown h.grown (fun k hk => .inl (d.own.lt k hk).1)
  · have := h.grown.size
    rw [World.size_alloc] at this
    have := d.le
    omega
theorem Dst.appb {B bb : Nat} {T : TypeId} {L : List Value} {w0 w w' : World} {v v' : Value} {S c : List UInt8} (d : Dst B bb T L w0 w v S) (h : Apd w w' B v v' (S.length + c.length) (bs S ++ bs c)) : Dst B bb T L w0 w' v' (S ++ c) := by
  have hb := d.blk.lt
  have e : bs (S ++ c) = bs S ++ bs c := by simp [bs]
  refine ⟨?_, ?_, ?_, ?_, ?_⟩
  · rw [e, show (S ++ c).length = S.length + c.length by simp]; exact h.own
  · rcases h.row with h1 | h1
    · rw [h1]; exact d.ne
    · rw [h1]
      intro h2
      simp only [Option.some.injEq] at h2
      omega
  · exact d.blk.of_eq (h.grown.block bb hb (fun h2 => d.ne h2.symm))
  · exact d.fr.grown h.grown (fun k hk => .inl (d.own.lt k hk).1)
  · have := h.grown.size
    have := d.le
    omega
/-- A text under way. -/
structure Dz (B : Nat) (w0 w : World) (v : Value) (S : List UInt8) : Prop where
  own : w.ownsRow B 5 1 v S.length (bs S)
  fr : Fr (fun k => B ≤ k) w0 w
  le : B ≤ w.heap.size
theorem Dz.app {B : Nat} {w0 w w' : World} {v v' : Value} {S : List UInt8} {c : UInt8} {o : Obj} (d : Dz B w0 w v S) (h : Apd (w.alloc o) w' B v v' (S.length + 1) (bs S ++ bs [c])) : Dz B w0 w' v' (S ++ [c]) := by
  have e : bs (S ++ [c]) = bs S ++ bs [c] := by simp [bs]
  refine ⟨?_, ?_, ?_⟩
  · rw [e, show (S ++ [c]).length = S.length + 1 by simp]; exact h.own
  · exact (d.fr.alloc o).grown h.grown (fun k hk => .inl (d.own.lt k hk).1)
  · have := h.grown.size
    rw [World.size_alloc] at this
    have := d.le
    omega
/-- A digit's byte. -/
def dgB (n : Nat) : UInt8 := UInt8.ofNat (n + 48)
theorem dgB_nat (n : Nat) (h : n < 10) : ((dgB n).toNat : Int) = (n : Int) + 48 := by
  have : (dgB n).toNat = n + 48 := by unfold dgB; simp; omega
  omega
/-- An exponent's digits, two at the least. -/
def exD (x : Nat) : List UInt8 := if x < 10 then [48, dgB x] else if x < 100 then [dgB (x / 10), dgB (x % 10)] else [dgB (x / 100), dgB (x / 10 % 10), dgB (x % 10)]
/-- The exponent of digits whose point stands behind dp of them. -/
def exX (dp : Int) (nd : Nat) : Int := if nd = 0 then 0 else dp - 1
def exS (x : Int) : UInt8 := if x < 0 then 45 else 43
def eM (L : List UInt8) (nd : Nat) : List UInt8 := if 1 < nd then [46] ++ (L.drop 1).take (nd - 1) else []
def eH (L : List UInt8) (nd : Nat) : UInt8 := if nd = 0 then 48 else L.getD 0 0
def eF (neg : Bool) (L : List UInt8) (dp : Int) (nd : Nat) : List UInt8 := efSign neg ++ [eH L nd] ++ eM L nd ++ [101] ++ [exS (exX dp nd)] ++ exD (exX dp nd).natAbs

set_option maxRecDepth 100000 in
set_option maxHeartbeats 1000000 in
theorem efg_zero (w : World) (B : Nat) (v : Value) (hD : Dz B w w v []) (neg : Bool) :
    Calls Tryz.prog 139 #[v, .bool neg, .slice none 0 0, .int .i64 0, .int .i64 0, .int .i64 (-1), .int .u8 102, .bool true] w fun e w' => ∃ v', e = .returned v' ∧ Dz B w w' v' (efSign neg ++ [48]) := by
  have HD := hid hD
  clear hD
  obtain ⟨a0, c0, hv0⟩ := own_len HD.out.own
  subst hv0
  obtain ⟨S, hS⟩ : ∃ S : List UInt8, S = [] := ⟨_, rfl⟩
  have hl : ([] : List UInt8).length = S.length := by rw [hS]
  rw [← hS] at HD
  have hl0 : S.length ≤ 0 := by rw [hS]; exact Nat.le_refl _
  rw [hl]
  have HS := hid hS
  clear hS hl
  go_enter Tryz.func139, Tryz.ntmps139
  go_upto_if 178 with fail
  go_cut [0] (fun v0 wx => ∃ X, X = efSign neg ∧ Dz B w wx v0 X)
  case first =>
    cases neg with
    | false =>
      go_wp2_with fail
      all_goals go_meet
      exact ⟨S, by rw [HS.out]; rfl, HD.out⟩
    | true =>
      go_wp2_with (at_builtin; refine Hid.out ?_)
      refine hid ?_
      refine wpList_append_src (by rfl) _ _ 66 (by rfl) B S.length 1 _ _ (bs S) (bs [45]) (by rfl) (by rfl) (owns_alloc HD.out.own _) (srcOne _ 45) (by omega) (by rw [World.size_alloc]; have := HD.out.le; omega) ?_
      intro v2 w2 h2
      have hd2 := HD.out.app h2
      obtain ⟨X3, hX3⟩ : ∃ Zq, Zq = S ++ [45] := ⟨_, rfl⟩
      rw [← hX3] at hd2
      have HX3 := hid hX3
      have hlX3 : X3.length ≤ 300 := by rw [hX3]; simp; omega
      obtain ⟨a2, c2, hv2⟩ := own_len hd2.own
      subst hv2
      clear h2 HD hX3
      have HD := hid hd2
      clear hd2
      go_wp2_with fail
      all_goals go_meet
      exact ⟨X3, by rw [HX3.out, HS.out]; rfl, HD.out⟩
  case rest =>
    obtain ⟨X, hX, hd⟩ := hcut
    clear HD
    have HD := hid hd
    clear hd
    have hXl : X.length ≤ 110 := by rw [hX]; unfold efSign; cases neg <;> simp
    have HX := hid hX
    clear hX
    obtain ⟨a1, c1, hv1⟩ := own_len HD.out.own
    subst hv1
    go_wp2_with (at_builtin; refine Hid.out ?_)
    refine hid ?_
    refine wpList_append_src (by rfl) _ _ 66 (by rfl) B X.length 1 _ _ (bs X) (bs [48]) (by rfl) (by rfl) (owns_alloc HD.out.own _) (srcOne _ 48) (by omega) (by rw [World.size_alloc]; have := HD.out.le; omega) ?_
    intro v2 w2 h2
    have hd2 := HD.out.app h2
    obtain ⟨X3, hX3⟩ : ∃ Zq, Zq = X ++ [48] := ⟨_, rfl⟩
    rw [← hX3] at hd2
    have HX3 := hid hX3
    have hlX3 : X3.length ≤ 300 := by rw [hX3]; simp; omega
    obtain ⟨a2, c2, hv2⟩ := own_len hd2.own
    subst hv2
    clear h2 HD hX3
    have HD := hid hd2
    clear hd2
    go_wp2_with fail
    go_ret
    exact ⟨_, rfl, by rw [← HX.out, ← HX3.out]; exact HD.out⟩

end Go.Proofs.YtlepjghfcpgbcaaGreatDoor.Tr
