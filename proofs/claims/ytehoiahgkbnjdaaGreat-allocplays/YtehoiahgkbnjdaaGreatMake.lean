
/- The contracts of Flush, full, New and Read. -/
import Derived.Test.YtehoiahgkbnjdaaGreatFail
namespace Go.Proofs.YtehoiahgkbnjdaaGreat.Dk
open Go.RowKit

def ones : Nat := 18446744073709551615
theorem ones_lt : ones < 18446744073709551616 := by unfold ones; omega
theorem ones_int : (18446744073709551615 : Int) = ((ones : Nat) : Int) := rfl

/-- Flush: the disk behind it, and the answer. -/
def Dsk.flushed (D : Dsk) : Dsk := { D.deed with L := settleTo ones D.deed.Q D.deed.L D.deed.Q.length, Q := [] }
def Dsk.flush (D : Dsk) : Dsk := if D.up = false then D else if D.deedE = 0 then D.flushed else D.deed
def Dsk.flushE (D : Dsk) : Int := if D.up = false then 40 else D.deedE

theorem Did.trans {B p bl bn : Nat} {lv lv' : Value} {w w1 w2 : World} {D1 D2 : Dsk} (h1 : Fr (foot p bl bn lv) w w1) (hs : ∀ k, lv'.ownBlock = some k → lv.ownBlock = some k ∨ w.heap.size ≤ k) (h2 : Did B p bl bn lv' w1 D2 w2) (_ : Rep B w1 p bl bn lv' D1) : Did B p bl bn lv w D2 w2 := by
  obtain ⟨lv2, r, s, f⟩ := h2
  refine ⟨lv2, r, fun k hk => ?_, h1.trans f ?_⟩
  · rcases s k hk with h | h
    · exact hs k h
    · exact .inr (Nat.le_trans h1.size h)
  · intro k hk
    rcases hk with hk | hk | hk | hk
    · exact .inl (.inl hk)
    · exact .inl (.inr (.inl hk))
    · exact .inl (.inr (.inr (.inl hk)))
    · rcases hs k hk with h | h
      · exact .inl (.inr (.inr (.inr h)))
      · exact .inr h

theorem deed_Q (D : Dsk) (h : D.deedE = 0) : D.deed.Q = D.Q ∧ D.deed.L = D.L ∧ D.deed.N = D.N ∧ D.deed.n = D.n := by
  unfold Dsk.deedE at h
  unfold Dsk.deed
  split at h
  · omega
  · rename_i hn; rw [if_neg hn]; exact ⟨rfl, rfl, rfl, rfl⟩
theorem deedE_cases (D : Dsk) : D.deedE = 0 ∨ D.deedE = 41 := by
  unfold Dsk.deedE
  split
  · exact .inr rfl
  · exact .inl rfl

set_option maxHeartbeats 400000 in
theorem flush_any {B : Nat} {w : World} {p bl bn : Nat} {lv : Value} {D : Dsk} (h : Rep B w p bl bn lv D) (hQ : D.Q.length < 4611686018427387904) (hd : D.deeds < 4611686018427387904) :
    Calls Tryz.prog 65 #[pv p] w fun e w' => e = .returned (.int .i64 D.flushE) ∧ Did B p bl bn lv w D.flush w' := by
  have c3 := h.c3
  have H : Hid (Rep B w p bl bn lv D) := h
  clear h
  unfold Dsk.flush Dsk.flushE
  cases hu : D.up
  · rw [hu] at c3
    rw [if_pos rfl, if_pos rfl]
    clear hu
    go_enter Tryz.func65, Tryz.ntmps65
    go_wp2
    go_ret
    exact ⟨rfl, lv, H.out, fun k hk => .inl hk, Fr.refl _ _⟩
  · rw [hu] at c3
    rw [if_neg (by simp), if_neg (by simp)]
    clear hu
    have hc := deed_any H.out hQ hd
    rcases deedE_cases D with h0 | h0
    · rw [if_pos h0, h0]
      rw [h0] at hc
      have HC : Hid (Calls Tryz.prog 87 #[pv p] w fun e w' => e = .returned (.int .i64 0) ∧ Did B p bl bn lv w D.deed w') := hc
      have hQ1 : Hid (D.deed.Q.length < 4611686018427387904) := by unfold Hid; rw [(deed_Q D h0).1]; exact hQ
      clear hc h0
      go_enter Tryz.func65, Tryz.ntmps65
      go_wp2_with fail
      refine HC.out.mono ?_
      rintro e w1 ⟨rfl, lv1, r1, s1, f1⟩
      have R1 : Hid (Rep B w1 p bl bn lv1 D.deed) := r1
      have S1 : Hid (∀ k, lv1.ownBlock = some k → lv.ownBlock = some k ∨ w.heap.size ≤ k) := s1
      have F1 : Hid (Fr (foot p bl bn lv) w w1) := f1
      clear r1 s1 f1
      go_wp2_with fail
      rw [ones_int]
      refine (settle_any R1.out ones ones_lt hQ1.out).mono ?_
      rintro e w2 ⟨rfl, r2, f2⟩
      have H2 : Hid (Did B p bl bn lv w D.flushed w2) := Did.trans F1.out S1.out ⟨_, r2, fun k hk => by simp [Value.ownBlock] at hk, f2⟩ R1.out
      clear r2 f2
      go_wp2
      go_ret
      exact ⟨rfl, H2.out⟩
    · rw [if_neg (by omega), h0]
      rw [h0] at hc
      have HC : Hid (Calls Tryz.prog 87 #[pv p] w fun e w' => e = .returned (.int .i64 41) ∧ Did B p bl bn lv w D.deed w') := hc
      clear hc h0
      go_enter Tryz.func65, Tryz.ntmps65
      go_wp2_with fail
      refine HC.out.mono ?_
      rintro e w1 ⟨rfl, h1⟩
      have H1 : Hid (Did B p bl bn lv w D.deed w1) := h1
      clear h1
      go_wp2
      go_ret
      exact ⟨rfl, H1.out⟩

def fillTo (x : Int) (k : Nat) : Array Value := (List.replicate k (Value.int .u8 x) ++ List.replicate (128 - k) (Value.int .u8 0)).toArray
theorem fillTo_size (x : Int) (k : Nat) (h : k ≤ 128) : (fillTo x k).size = 128 := by simp [fillTo]; omega
theorem fillTo_step (x : Int) (k : Nat) (h : k < 128) : (fillTo x k).setIfInBounds k (.int .u8 x) = fillTo x (k + 1) := by
  unfold fillTo
  rw [List.setIfInBounds_toArray]
  congr 1
  rw [List.set_append, if_neg (by simp), List.length_replicate, Nat.sub_self, show 128 - k = (128 - (k + 1)) + 1 by omega, List.replicate_succ (n := 128 - (k + 1)), List.set_cons_zero, List.replicate_succ' (n := k)]
  simp
theorem fillTo_zero (x : Int) : madeCells #[Value.int .u8 0] 128 = fillTo x 0 := by kernel_rfl
def byteOf (x : Int) : UInt8 := UInt8.ofNat x.toNat
theorem bv_byteOf (x : Int) (h0 : 0 ≤ x) (h1 : x ≤ 255) : bv (byteOf x) = .int .u8 x := by
  have : x.toNat % 256 = x.toNat := by omega
  simp [bv, byteOf, this]; omega
def fullB (x : Int) : List UInt8 := List.replicate 128 (byteOf x)
theorem fillTo_end (x : Int) (h0 : 0 ≤ x) (h1 : x ≤ 255) : fillTo x 128 = (bs (fullB x)).toArray := by
  simp [fillTo, bs, fullB, bv_byteOf x h0 h1]

theorem info5 : (Tryz.prog.info? 5).map (fun i => (i.zero, i.size, i.bytes)) = some (some (.int .u8 0), 1, 1) := by kernel_rfl

def sec (N : List UInt8) (i : Nat) : List UInt8 := (N.drop (i * 128)).take 128
theorem sec_length (N : List UInt8) (n i : Nat) (hN : N.length = n * 128) (hi : i < n) : (sec N i).length = 128 := by
  simp only [sec, List.length_take, List.length_drop, hN]; omega

theorem wpList_store59 {ops : Array Oper} {rest : List Oper} {op : Oper} {a : Act} {W : World} {c : Array Value} {Q : Exit → Act → World → Prop} (hgd : op.guard = none) (x y : Operand) (ho : op.op = .store 117 x y) (s : List UInt8) (hq : s.length = 128) (hc : c.size = 128)
    (hx : a.eval x = .pointer (some ⟨W.heap.size, 0, none⟩)) (hy : a.eval y = .agg (bs s).toArray) (h : wpList Tryz.prog ops Q rest (a.put op.dst undef) (W.alloc (.cells (bs s).toArray 117))) : wpList Tryz.prog ops Q (op :: rest) a (W.alloc (.cells c 117)) :=
  wpList_plain hgd fun K hK => by
    have hs : (Tryz.prog.info? 117).map (·.size) = some (bs s).toArray.size := by rw [size59]; simp [bs_length, hq]
    unfold Oper.wp execOp
    simp only [ho, hx, hy, run_storeAt_new W 117 c _ hs (by simp [bs_length, hq, hc]) (all_oneCell_toArray (bs_one s)), Sem.run_bind, Sem.run_pure, Result.andThen_ok]
    exact hK _ _ h
theorem zs_size : (bs (List.replicate 128 0)).toArray.size = 128 := by simp [bs_length]

set_option maxRecDepth 100000 in
set_option maxHeartbeats 400000 in
theorem read_ok {B : Nat} {w : World} {p bl bn : Nat} {lv : Value} {D : Dsk} (h : Rep B w p bl bn lv D) (i : Nat) (hu : D.up = true) (hi : i < D.n) :
    Calls Tryz.prog 54 #[pv p, .int .i64 (i : Int)] w fun e w' => e = .returned (.tuple #[.slice (some ⟨w.heap.size, 0, none⟩) 128 128, .int .i64 0]) ∧ w' = w.alloc (.cells (bs (sec D.N i)).toArray 117) := by
  have hr := reach_any h (i : Int)
  have e0 : D.reach (i : Int) = 0 := by unfold Dsk.reach; rw [hu]; simp; omega
  rw [e0] at hr
  have HR : Hid (Calls Tryz.prog 76 #[pv p, .int .i64 (i : Int)] w fun e w' => e = .returned (.int .i64 0) ∧ w' = w) := hr
  have c1 := h.c1
  have hl : Hid ((sec D.N i).length = 128) := sec_length _ _ _ h.ok.lN hi
  have hrng : Hid (w.rangeAt bn (i * 128) (bs (sec D.N i))) := h.hn.range _ _ (by rw [bs_length, hl.out]; exact bs_part_app _ _ _ _ (by rw [h.ok.lN]; omega))
  have hs59 : Hid ((Tryz.prog.info? 117).map (·.size) = some (bs (sec D.N i)).length) := by unfold Hid; rw [size59, bs_length, hl.out]
  have hz := zero59
  have hi0 : (0 : Int) ≤ (i : Int) := Int.natCast_nonneg _
  have hi1 : (i : Int) < (D.n : Int) := by omega
  clear hr e0 h hu
  go_enter Tryz.func54, Tryz.ntmps54
  go_wp2_with fail
  refine HR.out.mono ?_
  rintro e w1 ⟨rfl, rfl⟩
  go_wp2_with (first | (refine wpList_load_mid (by rfl) 117 _ (by rfl) bn (i * 128) (by rfl) (bs (sec D.N i)) _ hrng.out Tryz.underlying117 rfl hs59.out ?_) | (refine wpList_store59 (by rfl) _ _ (by rfl) (sec D.N i) hl.out zs_size (by rfl) (by rfl) ?_))
  go_ret2
  exact ⟨rfl, rfl⟩

set_option maxHeartbeats 400000 in
theorem read_no {B : Nat} {w : World} {p bl bn : Nat} {lv : Value} {D : Dsk} (h : Rep B w p bl bn lv D) (i : Int) (hr0 : D.reach i ≠ 0) :
    Calls Tryz.prog 54 #[pv p, .int .i64 i] w fun e w' => e = .returned (.tuple #[.slice none 0 0, .int .i64 (D.reach i)]) ∧ w' = w := by
  have hr := reach_any h i
  generalize D.reach i = r at *
  have hb : (r != 0) = true := by simpa using hr0
  have HR : Hid (Calls Tryz.prog 76 #[pv p, .int .i64 i] w fun e w' => e = .returned (.int .i64 r) ∧ w' = w) := hr
  clear hr h hr0
  go_enter Tryz.func54, Tryz.ntmps54
  go_wp2_with fail
  refine HR.out.mono ?_
  rintro e w1 ⟨rfl, rfl⟩
  go_wp2
  go_ret2
  exact ⟨rfl, rfl⟩

def Dsk.new (n : Nat) : Dsk := { n := n, cl := n, cn := n, zl := [], zn := [], L := List.replicate (n * 128) 0, N := List.replicate (n * 128) 0, Q := [], up := true, deeds := 0, bound := false, after := 0, keep := 0 }

theorem made_zero (n : Nat) : madeCells (bs (List.replicate 128 0)).toArray (n * 128) = (bs (List.replicate (n * 128) 0)).toArray := by
  have e : (bs (List.replicate 128 0)).toArray = Array.replicate 128 (Value.int .u8 0) := by kernel_rfl
  rw [e]
  apply Array.ext
  · simp [madeCells, bs]
  · intro j h1 h2
    have hj : j % 128 < 128 := Nat.mod_lt _ (by omega)
    simp [madeCells, bs, bv, hj]

theorem Rep.mono {B B' : Nat} {w : World} {p bl bn : Nat} {lv : Value} {D : Dsk} (h : Rep B w p bl bn lv D) (hB : B' ≤ B) : Rep B' w p bl bn lv D :=
  { h with
    pB := Nat.le_trans hB h.pB
    lB := Nat.le_trans hB h.lB
    nB := Nat.le_trans hB h.nB
    hq := by
      refine ⟨h.hq.1, ?_⟩
      rcases h.hq.2 with h0 | ⟨g, cap, cur, h1, h2, h3⟩
      · exact .inl h0
      · exact .inr ⟨g, cap, cur, h1, Nat.le_trans hB h2, h3⟩ }

set_option maxHeartbeats 400000 in
theorem new_no (w : World) (n : Int) (h : n < 1 ∨ 1024 < n) : Calls Tryz.prog 29 #[.int .i64 n] w fun e w' => e = .returned (.pointer none) ∧ w' = w := by
  rcases h with h | h
  · go_enter Tryz.func29, Tryz.ntmps29
    go_wp2
    go_ret
    exact ⟨rfl, rfl⟩
  · have h' : ¬ n < 1 := by omega
    go_enter Tryz.func29, Tryz.ntmps29
    go_wp2
    go_ret
    exact ⟨rfl, rfl⟩

theorem rep_new (w : World) (n bl bn : Nat) (h : (bl = w.heap.size ∧ bn = w.heap.size + 1) ∨ (bl = w.heap.size + 1 ∧ bn = w.heap.size)) (h1 : 1 ≤ n) (h2 : n ≤ 1024) :
    Rep w.heap.size (((w.alloc (.cells (bs (List.replicate (n * 128) 0)).toArray 117)).alloc (.cells (bs (List.replicate (n * 128) 0)).toArray 117)).alloc
      (.cells #[.slice (some ⟨bl, 0, none⟩) n n, .slice (some ⟨bn, 0, none⟩) n n, .slice none 0 0, .bool true, .int .i64 0, .bool false, .int .i64 0, .int .u64 0] 104)).drew (w.heap.size + 1 + 1) bl bn (.slice none 0 0) (Dsk.new n) := by
  have z1 := ((Blk.new w 117 (bs (List.replicate (n * 128) 0))).alloc (.cells (bs (List.replicate (n * 128) 0)).toArray 117)).alloc (.cells #[.slice (some ⟨bl, 0, none⟩) n n, .slice (some ⟨bn, 0, none⟩) n n, .slice none 0 0, .bool true, .int .i64 0, .bool false, .int .i64 0, .int .u64 0] 104)
  have z2 := (Blk.new (w.alloc (.cells (bs (List.replicate (n * 128) 0)).toArray 117)) 117 (bs (List.replicate (n * 128) 0))).alloc (.cells #[.slice (some ⟨bl, 0, none⟩) n n, .slice (some ⟨bn, 0, none⟩) n n, .slice none 0 0, .bool true, .int .i64 0, .bool false, .int .i64 0, .int .u64 0] 104)
  have z3 := Blk.new ((w.alloc (.cells (bs (List.replicate (n * 128) 0)).toArray 117)).alloc (.cells (bs (List.replicate (n * 128) 0)).toArray 117)) 104 ((Dsk.new n).head bl bn (.slice none 0 0))
  have s1 : (w.alloc (.cells (bs (List.replicate (n * 128) 0)).toArray 117)).heap.size = w.heap.size + 1 := by simp
  have s2 : ((w.alloc (.cells (bs (List.replicate (n * 128) 0)).toArray 117)).alloc (.cells (bs (List.replicate (n * 128) 0)).toArray 117)).heap.size = w.heap.size + 1 + 1 := by simp
  rw [s1] at z2
  rw [s2] at z3
  refine Rep.drew ⟨z3, ?_, ?_, World.ownsRow_nil _ _ _ _, by omega, by omega, by omega, by omega, by omega, by omega, by simp [Value.ownBlock], by simp [Value.ownBlock], by simp [Value.ownBlock], ⟨h1, h2, by simp [Dsk.new], by simp [Dsk.new], by simp [Dsk.new], by simp [Dsk.new], fun x hx => (by cases hx), by simp [Dsk.new], by simp [Dsk.new], by simp [Dsk.new]⟩⟩
  · rcases h with ⟨rfl, rfl⟩ | ⟨rfl, rfl⟩
    · simpa [Dsk.new] using z1
    · simpa [Dsk.new] using z2
  · rcases h with ⟨rfl, rfl⟩ | ⟨rfl, rfl⟩
    · simpa [Dsk.new] using z2
    · simpa [Dsk.new] using z1

set_option maxRecDepth 100000 in
set_option maxHeartbeats 400000 in
theorem new_ok (w : World) (n : Nat) (h1 : 1 ≤ n) (h2 : n ≤ 1024) : Calls Tryz.prog 29 #[.int .i64 (n : Int)] w fun e w' => ∃ p bl bn, e = .returned (pv p) ∧ Rep w.heap.size w' p bl bn (.slice none 0 0) (Dsk.new n) ∧ Fr (fun _ => False) w w' := by
  obtain ⟨i0, hi0, hz0, hz1, hz2⟩ := info_parts info59
  have hmk := fun (W : World) => run_make (P := Tryz.prog) W 101 117 i0 _ Tryz.underlying101 hi0 hz0 .i64 .i64 (n : Int) (n : Int) (by omega) (by omega) (by rw [hz2]; omega) (by omega)
  simp only [Int.toNat_natCast, hz1, Value.cells, made_zero] at hmk
  have g1 : ¬ ((n : Int) < 1) := by omega
  have g2 : ¬ (1024 < (n : Int)) := by omega
  go_enter Tryz.func29, Tryz.ntmps29
  go_wp2_with fail
  go_region
  all_goals go_wp2
  all_goals go_ret
  · exact ⟨_, _, _, rfl, rep_new w n _ _ (.inl ⟨rfl, rfl⟩) h1 h2, ((((Fr.refl _ w).alloc _).alloc _).alloc _).drew⟩
  · exact ⟨_, _, _, rfl, rep_new w n _ _ (.inr ⟨rfl, rfl⟩) h1 h2, ((((Fr.refl _ w).alloc _).alloc _).alloc _).drew⟩

end Go.Proofs.YtehoiahgkbnjdaaGreat.Dk
