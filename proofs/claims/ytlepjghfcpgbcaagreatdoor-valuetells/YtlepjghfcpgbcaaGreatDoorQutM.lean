import Derived.Test.YtlepjghfcpgbcaaGreatDoorVrt
import Derived.Test.YtlepjghfcpgbcaaGreatDoorRfvM
import Derived.Test.YtlepjghfcpgbcaaGreatDoorFme
/- A value's text, in plain words. -/
namespace Go.Proofs.YtlepjghfcpgbcaaGreatDoor.Tr
open Go.RowKit

/-- A byte as it is written within quotes. -/
def escB (c : UInt8) : List UInt8 := if c = 10 then [92, 110] else if c = 9 then [92, 116] else if c = 34 then [92, 34] else if c = 92 then [92, 92] else [c]
def qoT (s : List UInt8) : List UInt8 := [34] ++ s.flatMap escB ++ [34]
/-- The text of what has no parts. -/
def txT (T : Nat → Nat × Nat) (k n : Int) (f : Nat) (t : List UInt8) : List UInt8 :=
  if k = 0 then [110, 117, 108, 108] else if k = 1 then (if n = 1 then [116, 114, 117, 101] else [102, 97, 108, 115, 101]) else if k = 2 then Lib.itoa n else if k = 3 then flT T f else t
mutual
/-- Any value's text. -/
def shT (T : Nat → Nat × Nat) : Vt → List UInt8
  | .mk k n f t ns its => if k = 7 then [102, 117, 110, 99, 116, 105, 111, 110] else if k = 4 then qoT t else if k = 5 then [91] ++ shL T its ++ [32, 93] else if k = 6 then [123] ++ shS T ns its ++ [32, 125] else txT T k n f t
def shL (T : Nat → Nat × Nat) : List Vt → List UInt8
  | [] => []
  | v :: r => [32] ++ shT T v ++ shL T r
def shS (T : Nat → Nat × Nat) : List (List UInt8) → List Vt → List UInt8
  | _, [] => []
  | ns, v :: r => [32] ++ qoT (ns.headD []) ++ [61] ++ shT T v ++ [59] ++ shS T ns.tail r
end
mutual
/-- How many parts a value has, and are its floats words of 64 bits? -/
def szV : Vt → Nat
  | .mk _ _ _ _ _ its => 1 + szL its
def szL : List Vt → Nat
  | [] => 0
  | v :: r => szV v + szL r
end
mutual
def flV : Vt → Prop
  | .mk _ _ f _ _ its => f < 18446744073709551616 ∧ flL its
def flL : List Vt → Prop
  | [] => True
  | v :: r => flV v ∧ flL r
end
theorem flL_mem {l : List Vt} (h : flL l) : ∀ v ∈ l, flV v := by
  induction l with
  | nil => intro v hv; cases hv
  | cons a l ih =>
    rw [flL] at h
    intro v hv
    rcases List.mem_cons.1 hv with rfl | hv
    · exact h.1
    · exact ih h.2 v hv
theorem escB_len (c : UInt8) : (escB c).length ≤ 2 := by
  unfold escB
  repeat' split
  all_goals simp
theorem esc_len (s : List UInt8) : (s.flatMap escB).length ≤ 2 * s.length := by
  induction s with
  | nil => simp
  | cons a s ih =>
    have := escB_len a
    simp only [List.flatMap_cons, List.length_append, List.length_cons]
    omega
theorem qoT_len (s : List UInt8) : (qoT s).length ≤ 2 * s.length + 2 := by
  have := esc_len s
  unfold qoT
  simp only [List.length_append, List.length_cons, List.length_nil]
  omega
theorem esc_next (s : List UInt8) (i : Nat) (h : i < s.length) : (s.take (i + 1)).flatMap escB = (s.take i).flatMap escB ++ escB s[i] := by
  rw [List.take_succ_eq_append_getElem h, List.flatMap_append]
  simp only [List.flatMap_cons, List.flatMap_nil, List.append_nil]
theorem itoa_l (n : Int) (h : I64 n) : (Lib.itoa n).length ≤ 21 := by
  have hd : ∀ u, u < 18446744073709551616 → (Lib.decDigits u).length ≤ 20 := fun u hu => by
    rw [Lib.decDigits_length]; exact Lib.nDigits_le20 u hu
  unfold I64 at h
  unfold Lib.itoa
  split
  · have := hd n.natAbs (by omega)
    simp only [List.length_cons]; omega
  · have := hd n.toNat (by omega)
    omega
/-- The text of the items from the i-th one on. -/
theorem shL_drop (T : Nat → Nat × Nat) (l : List Vt) (i : Nat) (h : i < l.length) : shL T (l.drop i) = [32] ++ shT T l[i] ++ shL T (l.drop (i + 1)) := by
  rw [List.drop_eq_getElem_cons h, shL]
theorem shS_drop (T : Nat → Nat × Nat) (ns : List (List UInt8)) (l : List Vt) (i : Nat) (h : i < l.length) (hn : i < ns.length) : shS T (ns.drop i) (l.drop i) = [32] ++ qoT ns[i] ++ [61] ++ shT T l[i] ++ [59] ++ shS T (ns.drop (i + 1)) (l.drop (i + 1)) := by
  rw [List.drop_eq_getElem_cons h, List.drop_eq_getElem_cons hn, shS]
  rfl
end Go.Proofs.YtlepjghfcpgbcaaGreatDoor.Tr
/- A strings.Builder in hand: what its writing changes, block by block. -/
namespace Go.Proofs.YtlepjghfcpgbcaaGreatDoor.Tr
open Go.RowKit

/-- A builder at block b: its row is v, its bytes are xs. -/
structure Bd (b : Nat) (v : Value) (xs : List UInt8) (w : World) : Prop where
  blk : ∃ p, (p = .pointer none ∨ p = .pointer (some ⟨b, 0, none⟩)) ∧ Blk w b 68 [p, v]
  own : w.ownsRow 0 5 1 v xs.length (bs xs)
  ne : v.ownBlock ≠ some b
/-- What writing changes: the builder's block, and its row; a new row is a new block. -/
structure Bs (b : Nat) (w w' : World) (v v' : Value) : Prop where
  fr : Fr (fun k => k = b ∨ v.ownBlock = some k) w w'
  row : v'.ownBlock = v.ownBlock ∨ ∃ g, v'.ownBlock = some g ∧ w.heap.size ≤ g
theorem Bs.refl (b : Nat) (w : World) (v : Value) : Bs b w w v v := ⟨Fr.refl _ _, .inl rfl⟩
theorem Bs.trans {b : Nat} {w0 w1 w2 : World} {v0 v1 v2 : Value} (h : Bs b w0 w1 v0 v1) (k : Bs b w1 w2 v1 v2) : Bs b w0 w2 v0 v2 := by
  refine ⟨h.fr.trans k.fr ?_, ?_⟩
  · intro i hi
    rcases hi with hi | hi
    · exact .inl (.inl hi)
    · rcases h.row with hr | ⟨g, hg, hg2⟩
      · rw [hr] at hi; exact .inl (.inr hi)
      · rw [hg] at hi
        simp only [Option.some.injEq] at hi
        subst hi
        exact .inr hg2
  · rcases k.row with hk | ⟨g, hg, hg2⟩
    · rw [hk]; exact h.row
    · exact .inr ⟨g, hg, Nat.le_trans h.fr.size hg2⟩
theorem Bd.lt {b : Nat} {v : Value} {xs : List UInt8} {w : World} (h : Bd b v xs w) : b < w.heap.size := by
  obtain ⟨p, _, hb⟩ := h.blk
  exact hb.lt
/-- What does not touch the builder. -/
theorem Bd.keep {b : Nat} {v : Value} {xs : List UInt8} {w w' : World} {F : Nat → Prop} (h : Bd b v xs w) (f : Fr F w w') (hb : ¬ F b) (hv : ∀ k, v.ownBlock = some k → ¬ F k) : Bd b v xs w' := by
  obtain ⟨p, hp, hbl⟩ := h.blk
  exact ⟨⟨p, hp, f.blk hbl hb⟩, owns_of_eq h.own (fun k hk => f.block k (h.own.lt k hk).2 (hv k hk)), h.ne⟩
theorem Bd.same {b : Nat} {v : Value} {xs : List UInt8} {w w' : World} (h : Bd b v xs w) (f : Fr (fun _ => False) w w') : Bd b v xs w' := h.keep f (fun x => x) (fun _ _ x => x)
theorem Bs.after {b : Nat} {w0 w1 w2 : World} {v0 v1 : Value} (h : Bs b w0 w1 v0 v1) (f : Fr (fun _ => False) w1 w2) : Bs b w0 w2 v0 v1 := ⟨h.fr.trans f (fun _ x => x.elim), h.row⟩
theorem Bs.ahead {b : Nat} {w0 w1 w2 : World} {v0 v1 : Value} (f : Fr (fun _ => False) w0 w1) (h : Bs b w1 w2 v0 v1) : Bs b w0 w2 v0 v1 :=
  ⟨(f.mono (fun _ x => x.elim)).trans h.fr (fun i hi => .inl hi), by
    rcases h.row with hr | ⟨g, hg, hg2⟩
    · exact .inl hr
    · exact .inr ⟨g, hg, Nat.le_trans f.size hg2⟩⟩

theorem cc_any (w : World) (b : Nat) (v : Value) (xs : List UInt8) (h : Bd b v xs w) : Calls Tryz.prog 115 #[.pointer (some ⟨b, 0, none⟩)] w fun e w' => e = .returned (.tuple #[]) ∧ Blk w' b 68 [.pointer (some ⟨b, 0, none⟩), v] ∧ w'.ownsRow 0 5 1 v xs.length (bs xs) ∧ Fr (· = b) w w' := by
  obtain ⟨p, hp, hb⟩ := h.blk
  rcases hp with rfl | rfl
  · refine (Any.Builder_copyCheck_fresh { Tryz.lays166 with } Tryz.Builder_Extra_166.toX72 b w (by rw [hb.cell]; rfl) ?_ (hb.frozen 0)).mono ?_
    · have hb' : w.heap[b]? = some (.cells #[.pointer none, v] 68 (0, 0)) := hb
      simp only [World.shape?, hb']
      rfl
    · rintro e w' ⟨rfl, rfl⟩
      refine ⟨rfl, hb.setCell 0 _, ?_, (Fr.refl (· = b) w).setCell (p := ⟨b, 0, none⟩) (.inl rfl) _⟩
      exact owns_of_eq h.own (fun k hk => Below.heap_setCell w _ _ k (fun e => h.ne (by rw [hk, e])))
  · refine (Any.Builder_copyCheck_used { Tryz.lays166 with } Tryz.Builder_Extra_166.toX72 b w (by rw [hb.cell]; rfl)).mono ?_
    rintro e w' ⟨rfl, rfl⟩
    exact ⟨rfl, hb, h.own, Fr.refl _ _⟩

theorem bd_app {b : Nat} {v v2 : Value} {xs s : List UInt8} {w w1 w2 : World} {o : Option Obj} (h : Bd b v xs w) (b1 : Blk w1 b 68 [.pointer (some ⟨b, 0, none⟩), v]) (f1 : Fr (· = b) w w1) (W : World) (hW : W = match o with | none => w1 | some x => w1.alloc x) (h2 : Apd W w2 0 v v2 (xs.length + s.length) (bs xs ++ bs s)) :
    Blk w2 b 68 [.pointer (some ⟨b, 0, none⟩), v] ∧ Bd b v2 (xs ++ s) (w2.setCell ⟨b, 1, none⟩ v2) ∧ Bs b w (w2.setCell ⟨b, 1, none⟩ v2) v v2 := by
  have hF : Fr (fun _ => False) w1 W := by
    subst hW
    cases o with
    | none => exact Fr.refl _ _
    | some x => exact (Fr.refl _ _).alloc x
  have bW : Blk W b 68 [.pointer (some ⟨b, 0, none⟩), v] := hF.blk b1 (fun x => x)
  have hb := bW.lt
  have hb0 : b < w.heap.size := h.lt
  have b2 : Blk w2 b 68 [.pointer (some ⟨b, 0, none⟩), v] := bW.of_eq (h2.grown.block b hb (fun e => h.ne e.symm))
  have hrow : v2.ownBlock = v.ownBlock ∨ ∃ g, v2.ownBlock = some g ∧ w.heap.size ≤ g := by
    rcases h2.row with hr | hr
    · exact .inl hr
    · exact .inr ⟨_, hr, Nat.le_trans f1.size hF.size⟩
  have hne : v2.ownBlock ≠ some b := by
    rcases hrow with hr | ⟨g, hr, hg⟩
    · rw [hr]; exact h.ne
    · rw [hr]
      intro e
      simp only [Option.some.injEq] at e
      omega
  have e : bs (xs ++ s) = bs xs ++ bs s := by simp [bs]
  refine ⟨b2, ⟨⟨_, .inr rfl, b2.setCell 1 v2⟩, ?_, hne⟩, ⟨?_, hrow⟩⟩
  · rw [e, List.length_append]
    exact owns_of_eq h2.own (fun k hk => Below.heap_setCell w2 _ _ k (fun e => hne (by rw [hk, e])))
  · refine Fr.setCell (p := ⟨b, 1, none⟩) ?_ (.inl (.inl rfl)) v2
    have g1 : Fr (fun k => k = b ∨ v.ownBlock = some k) w W := (f1.mono (fun i hi => .inl hi)).trans hF (fun _ x => x.elim)
    exact g1.grown h2.grown (fun k hk => .inl (.inr hk))

set_option maxRecDepth 100000 in
set_option maxHeartbeats 1000000 in
theorem wrS_any (w : World) (b : Nat) (v : Value) (xs s : List UInt8) (h : Bd b v xs w) (hl : xs.length + s.length ≤ 140737488355328) :
    Calls Tryz.prog 82 #[.pointer (some ⟨b, 0, none⟩), .string ⟨s.toArray⟩] w fun e w' => e = .returned (.tuple #[.int .i64 (s.length : Int), .nilIface]) ∧ ∃ v', Bd b v' (xs ++ s) w' ∧ Bs b w w' v v' := by
  have HC := hid (cc_any w b v xs h)
  have H := hid h
  obtain ⟨a0, c0, hv0⟩ := own_len h.own
  subst hv0
  clear h
  go_enter Tryz.func82, Tryz.ntmps82
  go_wp2_with fail
  refine HC.out.mono ?_
  rintro e w1 ⟨rfl, b1, o1, f1⟩
  have c1 := b1.cell 1
  have z1 := b1.frozen 1
  simp only [List.getElem?_cons_zero, List.getElem?_cons_succ] at c1
  have HB1 := hid b1
  have HO1 := hid o1
  have HF1 := hid f1
  clear b1 o1 f1 HC z1
  go_wp2_with (at_builtin; refine Hid.out ?_)
  refine hid ?_
  refine wpList_append_src (by rfl) _ _ 9 (by rfl) 0 xs.length s.length _ _ (bs xs) (bs s) (by rfl) (by rfl) HO1.out (srcStr _ s) (by omega) (Nat.zero_le _) ?_
  intro v2 w2 h2
  obtain ⟨b2, hd, hs⟩ := bd_app (o := none) H.out HB1.out HF1.out _ rfl h2
  have HD := hid hd
  have HS := hid hs
  have z2 := b2.frozen 1
  have d2 := b2.cell 1
  simp only [List.getElem?_cons_zero, List.getElem?_cons_succ] at d2
  obtain ⟨a2, c2, hv2⟩ := own_len h2.own
  subst hv2
  clear h2 hd hs b2 HB1 HO1 HF1 H
  go_wp2_with fail
  go_ret2
  exact ⟨rfl, _, HD.out, HS.out⟩
set_option maxRecDepth 100000 in
set_option maxHeartbeats 1000000 in
theorem wrB_any (w : World) (b : Nat) (v : Value) (xs : List UInt8) (c : UInt8) (h : Bd b v xs w) (hl : xs.length + 1 ≤ 140737488355328) :
    Calls Tryz.prog 116 #[.pointer (some ⟨b, 0, none⟩), .int .u8 (c.toNat : Int)] w fun e w' => e = .returned .nilIface ∧ ∃ v', Bd b v' (xs ++ [c]) w' ∧ Bs b w w' v v' := by
  have HC := hid (cc_any w b v xs h)
  have H := hid h
  obtain ⟨a0, c0, hv0⟩ := own_len h.own
  subst hv0
  clear h
  go_enter Tryz.func116, Tryz.ntmps116
  go_wp2_with fail
  refine HC.out.mono ?_
  rintro e w1 ⟨rfl, b1, o1, f1⟩
  have c1 := b1.cell 1
  simp only [List.getElem?_cons_zero, List.getElem?_cons_succ] at c1
  have HB1 := hid b1
  have HO1 := hid o1
  have HF1 := hid f1
  clear b1 o1 f1 HC
  go_wp2_with (at_builtin; refine Hid.out ?_)
  refine hid ?_
  refine wpList_append_src (by rfl) _ _ 66 (by rfl) 0 xs.length 1 _ _ (bs xs) (bs [c]) (by rfl) (by rfl) (owns_alloc HO1.out _) (srcOne _ c) (by omega) (Nat.zero_le _) ?_
  intro v2 w2 h2
  obtain ⟨b2, hd, hs⟩ := bd_app (s := [c]) (o := some (.cells #[.int .u8 (c.toNat : Int)] 5)) H.out HB1.out HF1.out _ rfl h2
  have HD := hid hd
  have HS := hid hs
  have z2 := b2.frozen 1
  have d2 := b2.cell 1
  simp only [List.getElem?_cons_zero, List.getElem?_cons_succ] at d2
  obtain ⟨a2, c2, hv2⟩ := own_len h2.own
  subst hv2
  clear h2 hd hs b2 HB1 HO1 HF1 H
  go_wp2_with fail
  go_ret
  exact ⟨rfl, _, HD.out, HS.out⟩
end Go.Proofs.YtlepjghfcpgbcaaGreatDoor.Tr
/- The contract of the program's quote. -/
namespace Go.Proofs.YtlepjghfcpgbcaaGreatDoor.Tr
open Go.RowKit

set_option maxRecDepth 100000 in
set_option maxHeartbeats 4000000 in
theorem quote_any (w : World) (b : Nat) (v : Value) (xs s : List UInt8) (h : Bd b v xs w) (hl : xs.length + 2 * s.length + 2 ≤ 100000000000) :
    Calls Tryz.prog 83 #[.pointer (some ⟨b, 0, none⟩), .string ⟨s.toArray⟩] w fun e w' => e = .returned (.tuple #[]) ∧ ∃ v', Bd b v' (xs ++ qoT s) w' ∧ Bs b w w' v v' := by
  have H1 := hid (wrB_any w b v xs 34 h (by omega))
  clear h
  go_enter Tryz.func83, Tryz.ntmps83
  go_wp2_with fail
  refine H1.out.mono ?_
  rintro e w1 ⟨rfl, v1, d1, s1⟩
  have HD1 := hid d1
  have HS1 := hid s1
  clear d1 s1 H1
  go_wp2_with fail
  go_loopw [10] (fun iv wr => ∃ i : Nat, i ≤ s.length ∧ iv = .int .i64 (i : Int) ∧ ∃ vk, Bd b vk (xs ++ [34] ++ (s.take i).flatMap escB) wr ∧ Bs b w wr v vk) (fun iv _ => s.length - (intOf iv).toNat)
  case atStart => exact ⟨0, Nat.zero_le _, rfl, v1, by simpa using HD1.out, HS1.out⟩
  case round =>
    obtain ⟨i, hi, rfl, vk, hd, hs⟩ := hrel
    have HD := hid hd
    have HS := hid hs
    clear hd hs HD1 HS1
    obtain ⟨X, hX⟩ : ∃ X, X = xs ++ [34] ++ (s.take i).flatMap escB := ⟨_, rfl⟩
    have hXl : X.length ≤ 100000000000 := by
      have := esc_len (s.take i)
      rw [List.length_take] at this
      rw [hX]
      simp only [List.length_append, List.length_cons, List.length_nil]
      omega
    rw [← hX] at HD
    have HX := hid hX
    clear hX
    by_cases hlt : i < s.length
    · have hlti : (i : Int) < (s.length : Int) := by omega
      have HN := hid (esc_next s i hlt)
      have hidx : (ByteArray.mk s.toArray)[i]'(by simpa [ByteArray.size] using hlt) = s[i] := strU_at s i hlt
      have hok : ∀ e, escB s[i] = e → xs ++ [34] ++ (s.take (i + 1)).flatMap escB = X ++ e := fun e he => by rw [HN.out, he, ← List.append_assoc, ← HX.out]
      have HK := hid hok
      clear hok HN
      generalize hc : s[i] = c at *
      clear hc
      by_cases c10 : c = 10
      · subst c10
        have HK2 := hid (HK.out [92, 110] rfl)
        go_wp2_with fail
        refine (wrS_any _ b vk X [92, 110] HD.out (by simp; omega)).mono ?_
        rintro e w2 ⟨rfl, v2, d2, s2⟩
        have HD2 := hid d2
        have HS2 := hid (HS.out.trans s2)
        clear d2 s2 HD HS
        go_wp2_with fail
        exact ⟨⟨i + 1, by omega, by first | rfl | (congr 1), v2, by rw [HK2.out]; exact HD2.out, HS2.out⟩, by simp [intOf]; omega⟩
      by_cases c9 : c = 9
      · subst c9
        have HK2 := hid (HK.out [92, 116] rfl)
        go_wp2_with fail
        refine (wrS_any _ b vk X [92, 116] HD.out (by simp; omega)).mono ?_
        rintro e w2 ⟨rfl, v2, d2, s2⟩
        have HD2 := hid d2
        have HS2 := hid (HS.out.trans s2)
        clear d2 s2 HD HS
        go_wp2_with fail
        exact ⟨⟨i + 1, by omega, by first | rfl | (congr 1), v2, by rw [HK2.out]; exact HD2.out, HS2.out⟩, by simp [intOf]; omega⟩
      have q10 := byte_ne (n := 10) (by decide) c10
      have q9 := byte_ne (n := 9) (by decide) c9
      by_cases c34 : c = 34
      · subst c34
        have HK2 := hid (HK.out ([92] ++ [34]) rfl)
        clear q10 q9 c10 c9
        go_wp2_with fail
        refine (wrB_any _ b vk X 92 HD.out (by omega)).mono ?_
        rintro e w2 ⟨rfl, v2, d2, s2⟩
        have HD2 := hid d2
        have HS2 := hid (HS.out.trans s2)
        clear d2 s2 HD HS
        go_wp2_with fail
        refine (wrB_any _ b v2 (X ++ [92]) 34 HD2.out (by simp; omega)).mono ?_
        rintro e w3 ⟨rfl, v3, d3, s3⟩
        have HD3 := hid d3
        have HS3 := hid (HS2.out.trans s3)
        clear d3 s3 HD2 HS2
        go_wp2_with fail
        exact ⟨⟨i + 1, by omega, by first | rfl | (congr 1), v3, by rw [HK2.out, ← List.append_assoc]; exact HD3.out, HS3.out⟩, by simp [intOf]; omega⟩
      by_cases c92 : c = 92
      · subst c92
        have HK2 := hid (HK.out ([92] ++ [92]) rfl)
        clear q10 q9 c10 c9 c34
        go_wp2_with fail
        refine (wrB_any _ b vk X 92 HD.out (by omega)).mono ?_
        rintro e w2 ⟨rfl, v2, d2, s2⟩
        have HD2 := hid d2
        have HS2 := hid (HS.out.trans s2)
        clear d2 s2 HD HS
        go_wp2_with fail
        refine (wrB_any _ b v2 (X ++ [92]) 92 HD2.out (by simp; omega)).mono ?_
        rintro e w3 ⟨rfl, v3, d3, s3⟩
        have HD3 := hid d3
        have HS3 := hid (HS2.out.trans s3)
        clear d3 s3 HD2 HS2
        go_wp2_with fail
        exact ⟨⟨i + 1, by omega, by first | rfl | (congr 1), v3, by rw [HK2.out, ← List.append_assoc]; exact HD3.out, HS3.out⟩, by simp [intOf]; omega⟩
      have q34 := byte_ne (n := 34) (by decide) c34
      have q92 := byte_ne (n := 92) (by decide) c92
      have HK2 := hid (HK.out [c] (by unfold escB; rw [if_neg c10, if_neg c9, if_neg c34, if_neg c92]))
      go_wp2_with fail
      refine (wrB_any _ b vk X c HD.out (by omega)).mono ?_
      rintro e w2 ⟨rfl, v2, d2, s2⟩
      have HD2 := hid d2
      have HS2 := hid (HS.out.trans s2)
      clear d2 s2 HD HS
      go_wp2_with fail
      exact ⟨⟨i + 1, by omega, by first | rfl | (congr 1), v2, by rw [HK2.out]; exact HD2.out, HS2.out⟩, by simp [intOf]; omega⟩
    · have hlti : ¬ (i : Int) < (s.length : Int) := by omega
      have HQ : Hid (xs ++ qoT s = X ++ [34]) := by
        have e : s.take i = s := List.take_of_length_le (by omega)
        unfold Hid qoT
        rw [HX.out, e]
        simp only [List.append_assoc]
      go_wp2_with fail
      refine (wrB_any _ b vk X 34 HD.out (by omega)).mono ?_
      rintro e w2 ⟨rfl, v2, d2, s2⟩
      have HD2 := hid d2
      have HS2 := hid (HS.out.trans s2)
      clear d2 s2 HD HS
      go_wp2_with fail
      go_end0
      exact ⟨rfl, v2, by rw [HQ.out]; exact HD2.out, HS2.out⟩
end Go.Proofs.YtlepjghfcpgbcaaGreatDoor.Tr
