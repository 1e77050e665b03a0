
/- A row: listOf, putRow. -/
import Derived.Test.YtehoiahgkbnjdaaGreatHom
namespace Go.Proofs.YtehoiahgkbnjdaaGreat.Wl
open Go.RowKit Dk

def homesB (ks : List Nat) : Sec := (ks.map (le 2)).flatten
theorem homesB_length (ks : List Nat) : (homesB ks).length = 2 * ks.length := by
  induction ks with
  | nil => rfl
  | cons k r ih => simp only [homesB, List.map_cons, List.flatten_cons, List.length_append, le_length, List.length_cons] at ih ⊢; omega
theorem homesB_snoc (ks : List Nat) (k : Nat) : homesB (ks ++ [k]) = homesB ks ++ le 2 k := by simp [homesB]
/-- A list of homes, as a sector. -/
def lst (ks : List Nat) : Sec := pad (le 2 ks.length ++ homesB ks)
theorem lst_length (ks : List Nat) (h : ks.length ≤ 60) : (lst ks).length = 128 := pad_length _ (by rw [List.length_append, le_length, homesB_length]; omega)
def intC (ks : List Nat) : List Value := ks.map fun (k : Nat) => .int .i64 (k : Int)
/-- A slice that has these numbers. -/
def Nums (w : World) (ad : Option Addr) (ks : List Nat) : Prop := ks ≠ [] → ∃ g o, ad = some ⟨g, o, none⟩ ∧ w.rangeAt g o (intC ks) ∧ g < w.heap.size
theorem Nums.nw {w w' : World} {ad : Option Addr} {ks : List Nat} (h : Nums w ad ks) (f : Nw w w') : Nums w' ad ks := fun hn => by
  obtain ⟨g, o, ha, hr, hg⟩ := h hn
  exact ⟨g, o, ha, fun j v hv => by rw [cell_fr f hg]; exact hr j v hv, Nat.lt_of_lt_of_le hg f.size⟩

set_option maxRecDepth 100000 in
set_option maxHeartbeats 400000 in
theorem homeBytes_any (w : World) (b k : Nat) (hk : k < 60) :
    Calls Tryz.prog 96 #[pv b, .int .i64 (k : Int)] w fun x w' => x = .returned (.slice (some ⟨b, 2 + 2 * k, none⟩) 2 (128 - (2 + 2 * k))) ∧ w' = w := by
  have hk0 : (0 : Int) ≤ 2 + 2 * (k : Int) := by omega
  have hk1 : 2 + 2 * (k : Int) + 2 ≤ 128 := by omega
  have hsl : (Instr.sliceAt 81 (.pointer (some ⟨b, 0, none⟩)) (some (.int .i64 (2 + 2 * (k : Int)))) (some (.int .i64 (2 + 2 * (k : Int) + 2))) none).run Tryz.prog w = .ok (.slice (some ⟨b, 2 + 2 * k, none⟩) 2 (128 - (2 + 2 * k))) w := by
    have e1 : (2 + 2 * (k : Int)) = ((2 + 2 * k : Nat) : Int) := by omega
    have e2 : (2 + 2 * (k : Int) + 2) = ((2 + 2 * k + 2 : Nat) : Int) := by omega
    rw [e2, e1]
    generalize hq : 2 + 2 * k = q
    have hq1 : q + 2 ≤ 128 := by omega
    have al : Tryz.prog.arrayLen 81 = 128 := by kernel_rfl
    have el : Tryz.prog.elem 81 = 5 := by kernel_rfl
    have hs5 : ∀ w, (sizeOf 5).run Tryz.prog w = .ok 1 w := fun w => by kernel_rfl
    have hne : ¬ 128 = q := by omega
    rw [run_sliceAt_array_lh w 81 ⟨b, 0, none⟩ (by kernel_rfl) .i64 .i64 _ _ (by omega) (by omega) (by rw [al]; omega), el, hs5, al]
    simp [slicedAt, Result.andThen, hne, Addr.add_mid]
    omega
  go_enter Tryz.func96, Tryz.ntmps96
  go_wp2
  go_ret
  exact ⟨rfl, rfl⟩

/-- In mid-way: n and the first k homes stand in the block b. -/
structure LstMid (w W : World) (b n : Nat) (A : Sec) : Prop where
  b2 : Blk W (b - 1) 81 (bs zeros)
  b3 : Blk W b 81 (bs (pad A))
  fr : Nw w W
theorem LstMid.put {w W : World} {b n : Nat} {A : Sec} (h : LstMid w W b n A) (hb : w.heap.size + 1 ≤ b) (v : Sec) (o : Nat) (ho : o = A.length) (hl : A.length + v.length ≤ 128) : LstMid w (W.setCells b o (bs v)) b n (A ++ v) where
  b2 := h.b2.setCells_ne (by omega) _ _
  b3 := by
    have := h.b3.setCells (bs v) o (by rw [bs_length, bs_length, pad_length _ (by omega)]; omega)
    rwa [bs_splice, splice_pad A v o ho hl] at this
  fr := h.fr.setCells (.inr (by omega)) _ _

set_option maxRecDepth 100000 in
set_option maxHeartbeats 4000000 in
theorem listOf_any (w : World) (ad : Option Addr) (cap : Nat) (ks : List Nat) (hl : ks.length ≤ 60) (hks : ∀ k ∈ ks, k < 65536) (hn : Nums w ad ks) :
    Calls Tryz.prog 94 #[.slice ad ks.length cap] w fun x w' => x = .returned (arrV (lst ks)) ∧ Nw w w' := by
  have hz := zero66
  have S0 : LstMid w ((w.alloc (.cells (bs zeros).toArray 81)).alloc (.cells (bs zeros).toArray 81)) (w.heap.size + 1) ks.length [] := by
    refine ⟨?_, ?_, ((Fr.refl _ w).alloc _).alloc _⟩
    · exact (Blk.new w 81 (bs zeros)).alloc _
    · have := Blk.new (w.alloc (.cells (bs zeros).toArray 81)) 81 (bs zeros)
      rw [pad_nil]
      simpa using this
  have HC := hid (put_any _ (w.heap.size + 1) 0 2 128 ks.length (by omega) (S0.b3.there 0 2 (by rw [bs_length, pad_nil, zeros_length]; omega)))
  have HS1 := hid (S0.put (Nat.le_refl _) (le 2 ks.length) 0 rfl (by rw [le_length]; simp))
  have hwl : IntKind.u64.wrap ((ks.length : Nat) : Int) = ((ks.length : Nat) : Int) := by simp [IntKind.wrap, IntKind.bits, IntKind.signed]; omega
  have HLe := hid (le_length 2 ks.length)
  have HA : Hid (lst ks = pad (le 2 ks.length ++ homesB ks)) := rfl
  rw [List.nil_append] at HS1
  have HNm := hid hn
  have HKs := hid hks
  clear S0 hn hks
  generalize hA0 : le 2 ks.length = A0 at HC HS1 HLe HA
  clear hA0
  go_enter Tryz.func94, Tryz.ntmps94
  go_wp2_with fail
  refine HC.out.mono ?_
  rintro x w1 ⟨rfl, rfl⟩
  clear HC hwl
  generalize ((w.alloc (.cells (bs zeros).toArray 81)).alloc (.cells (bs zeros).toArray 81)).setCells (w.heap.size + 1) 0 (bs A0) = W1 at *
  go_wp2_with fail
  go_loopw [13] (fun i wr => ∃ k, k ≤ ks.length ∧ i = .int .i64 (k : Int) ∧ LstMid w wr (w.heap.size + 1) ks.length (A0 ++ homesB (ks.take k))) (fun i _ => ks.length - (intOf i).toNat)
  case atStart => exact ⟨0, Nat.zero_le _, rfl, by simpa [homesB] using HS1.out⟩
  case round =>
    obtain ⟨k, hk, rfl, hM⟩ := hrel
    have HM := hid hM
    clear hM HS1
    by_cases hlt : k < ks.length
    · have hk1 : (k : Int) < (ks.length : Int) := by omega
      have hk0 : (0 : Int) ≤ (k : Int) := Int.natCast_nonneg _
      obtain ⟨g, o, rfl, hrg, hgl⟩ := (HNm.out.nw HM.out.fr) (by intro h; rw [h] at hlt; simp at hlt)
      have hcell : wr.cell? ⟨g, o + k, none⟩ = some (.int .i64 ((ks[k] : Nat) : Int)) := hrg k _ (by simp [intC, hlt])
      have hkk := HKs.out _ (List.getElem_mem hlt)
      have HT : Hid (homesB (ks.take (k + 1)) = homesB (ks.take k) ++ le 2 ks[k]) := by unfold Hid; rw [List.take_succ_eq_append_getElem hlt, homesB_snoc]
      have HLh : Hid ((A0 ++ homesB (ks.take k)).length = 2 + 2 * k) := by unfold Hid; rw [List.length_append, HLe.out, homesB_length, List.length_take, Nat.min_eq_left hk]
      have hwk : IntKind.u64.wrap ((ks[k] : Nat) : Int) = ((ks[k] : Nat) : Int) := by simp [IntKind.wrap, IntKind.bits, IntKind.signed]; omega
      have HC1 := hid (homeBytes_any wr (w.heap.size + 1) k (by omega))
      have HC2 := hid (put_any wr (w.heap.size + 1) (2 + 2 * k) 2 (128 - (2 + 2 * k)) ks[k] (by omega) (HM.out.b3.there _ _ (by rw [bs_length, pad_length _ (by rw [HLh.out]; omega)]; omega)))
      have HN := hid (HM.out.put (Nat.le_refl _) (le 2 ks[k]) (2 + 2 * k) HLh.out.symm (by rw [HLh.out, le_length]; omega))
      rw [List.append_assoc, ← HT.out] at HN
      clear hrg hgl HM HLh HT
      generalize ks[k] = y at *
      generalize le 2 y = ly at *
      go_wp2_with (first
        | (go_at_call 96; refine HC1.out.mono ?_; rintro x w4 ⟨rfl, rfl⟩)
        | (go_at_call 86; refine HC2.out.mono ?_; rintro x w5 ⟨rfl, rfl⟩))
      exact ⟨⟨k + 1, by omega, by simp, HN.out⟩, by simp [intOf]; omega⟩
    · obtain rfl : k = ks.length := by omega
      have hk1 : ¬ (ks.length : Int) < (ks.length : Int) := by omega
      have HB2 := hid HM.out.b2
      have HB3 := hid HM.out.b3
      have HF := hid HM.out.fr
      have HL6 : Hid ((lst ks).length = 128) := lst_length ks hl
      rw [List.take_length, ← HA.out] at HB3
      rw [Nat.add_sub_cancel] at HB2
      clear HM HA
      generalize hcc : lst ks = c at HB3 HL6
      have HCc := hid hcc
      clear hcc
      go_wp2_with (first
        | (refine wpList_load_mid (by rfl) 81 _ (by rfl) (w.heap.size + 1) 0 (by rfl) (bs c) _ (HB3.out.range 0 _ (by simp)) Tryz.underlying81 rfl (by rw [size66, bs_length, HL6.out]) ?_)
        | (refine wpList_store66 (by rfl) _ _ (by rfl) HB2.out zeros_length HL6.out (by rfl) (by rfl) ?_))
      exact bodyPost_ret (results66 rfl rfl (Blk.all HB2.out zeros_length HL6.out) HL6.out) rfl ⟨by rw [HCc.out], HF.out.setCells (.inr (by omega)) _ _⟩

/-- Sectors are put one behind the other, till a write fails. -/
def puts (D : Dsk) (f u p : Nat) : List Sec → Dsk × Nat × Nat × Int
  | [] => (D, u, p, 0)
  | s :: r => if D.writeE ((f + 1 + u : Nat) : Int) 128 ≠ 0 then (D.write ((f + 1 + u : Nat) : Int) s, u, p, D.writeE ((f + 1 + u : Nat) : Int) 128) else puts (D.write ((f + 1 + u : Nat) : Int) s) f (u + 1) (upd p s) r
theorem puts_append (f : Nat) : ∀ (a b : List Sec) (D : Dsk) (u p : Nat), puts D f u p (a ++ b) = if (puts D f u p a).2.2.2 ≠ 0 then puts D f u p a else puts (puts D f u p a).1 f (puts D f u p a).2.1 (puts D f u p a).2.2.1 b
  | [], b, D, u, p => by simp [puts]
  | s :: r, b, D, u, p => by
    simp only [List.cons_append, puts]
    split
    · rename_i h; simp
    · exact puts_append f r b _ _ _
theorem puts_used (f : Nat) : ∀ (a : List Sec) (D : Dsk) (u p : Nat), (puts D f u p a).2.2.2 = 0 → (puts D f u p a).2.1 = u + a.length ∧ (puts D f u p a).2.2.1 = a.foldl upd p
  | [], D, u, p, _ => ⟨rfl, rfl⟩
  | s :: r, D, u, p, h => by
    simp only [puts] at h ⊢
    split at h
    · rename_i h1; exact absurd h h1
    · rename_i h1
      rw [if_neg h1]
      obtain ⟨a1, a2⟩ := puts_used f r _ _ _ h
      exact ⟨by rw [a1]; simp; omega, by rw [a2]; rfl⟩
theorem puts_lt (f : Nat) : ∀ (a : List Sec) (D : Dsk) (u p : Nat), p < 18446744073709551616 → (puts D f u p a).2.2.1 < 18446744073709551616 ∧ (puts D f u p a).2.1 ≤ u + a.length
  | [], _, _, _, h => ⟨h, Nat.le_refl _⟩
  | s :: r, D, u, p, h => by
    simp only [puts]
    split
    · exact ⟨h, by simp⟩
    · obtain ⟨a1, a2⟩ := puts_lt f r (D.write ((f + 1 + u : Nat) : Int) s) (u + 1) (upd p s) (upd_lt p s h)
      exact ⟨a1, by rw [List.length_cons]; omega⟩
theorem puts_sm (f : Nat) : ∀ (a : List Sec) (D : Dsk) (u p m : Nat), Sm D (m + a.length) → Sm (puts D f u p a).1 m
  | [], _, _, _, _, h => h
  | s :: r, D, u, p, m, h => by
    simp only [puts]
    have h1 : Sm (D.write ((f + 1 + u : Nat) : Int) s) (m + r.length) := Sm.write (by simpa [Nat.add_assoc] using h) _ _
    split
    · exact h1.le (by omega)
    · exact puts_sm f r _ _ _ m h1

def RowPost (G : Nat → Prop) (w : World) (l p bl bt cb : Nat) (D : Dsk) (L : Lg) (e u pl : Nat) (S : List Sec) (x : Ending) (w' : World) : Prop :=
  x = .returned (.int .i64 (puts D L.f u pl S).2.2.2) ∧ OwnL (fun k => G k ∨ k = cb) w' l p bl bt (puts D L.f u pl S).1 L ∧ Kp G w w' ∧ Blk w' cb 86 (cC e (puts D L.f u pl S).2.1 (puts D L.f u pl S).2.2.1)

/-- In mid-way: the list and the first k sectors are put. -/
structure RowMid (G : Nat → Prop) (w wr : World) (l p bl bt cb : Nat) (D Dk : Dsk) (L : Lg) (e u pl uk pk : Nat) (S : List Sec) (k : Nat) : Prop where
  o : OwnL (fun j => G j ∨ j = cb) wr l p bl bt Dk L
  kp : Kp G w wr
  sm : Sm Dk (S.length - k)
  cb : Blk wr cb 86 (cC e uk pk)
  hu : uk = u + k
  hp : pk < 18446744073709551616
  eq : puts D L.f u pl S = puts Dk L.f uk pk (S.drop k)
theorem puts_step {Dk : Dsk} {f u p : Nat} {S : List Sec} {k : Nat} (hk : k < S.length) : puts Dk f u p (S.drop k) = if Dk.writeE ((f + 1 + u : Nat) : Int) 128 ≠ 0 then (Dk.write ((f + 1 + u : Nat) : Int) S[k], u, p, Dk.writeE ((f + 1 + u : Nat) : Int) 128) else puts (Dk.write ((f + 1 + u : Nat) : Int) S[k]) f (u + 1) (upd p S[k]) (S.drop (k + 1)) := by
  rw [List.drop_eq_getElem_cons hk]
  rfl
/-- One is put. -/
theorem RowMid.next {G : Nat → Prop} {w wr w' : World} {l p bl bt cb : Nat} {D Dk : Dsk} {L : Lg} {e u pl uk pk : Nat} {S : List Sec} {k : Nat} (h : RowMid G w wr l p bl bt cb D Dk L e u pl uk pk S k) (hk : k < S.length) {wr' : World} (hw : Nw wr wr') {x : Ending} (hp : PutPost G wr' l p bl bt cb Dk L e uk pk S[k] x w') :
    ∃ r : Int, x = .returned (.int .i64 r) ∧ (r = 0 → ∃ D2, RowMid G w w' l p bl bt cb D D2 L e u pl (uk + 1) (upd pk S[k]) S (k + 1)) ∧ (r ≠ 0 → RowPost G w l p bl bt cb D L e u pl S x w') := by
  obtain ⟨hx, o, kp, hb⟩ := hp
  refine ⟨_, hx, fun hr => ?_, fun hr => ?_⟩
  · rw [if_pos hr] at hb
    refine ⟨_, o, Kp.trans (Kp.trans h.kp hw.kp) kp, Sm.write (h.sm.le (by omega)) _ _, hb, by rw [h.hu]; omega, upd_lt _ _ h.hp, ?_⟩
    rw [h.eq, puts_step hk, if_neg (by simpa using hr)]
  · rw [if_neg hr] at hb
    have e1 : puts D L.f u pl S = (Dk.write ((L.f + 1 + uk : Nat) : Int) S[k], uk, pk, Dk.writeE ((L.f + 1 + uk : Nat) : Int) 128) := by rw [h.eq, puts_step hk, if_pos hr]
    refine ⟨by rw [hx, e1], by rw [e1]; exact o, Kp.trans (Kp.trans h.kp hw.kp) kp, by rw [e1]; exact hb⟩

theorem row_end {G : Nat → Prop} {w wr : World} {l p bl bt cb : Nat} {D Dk : Dsk} {L : Lg} {e u pl uk pk : Nat} {S : List Sec} (h : RowMid G w wr l p bl bt cb D Dk L e u pl uk pk S S.length) : RowPost G w l p bl bt cb D L e u pl S (.returned (.int .i64 0)) wr := by
  have e1 : puts D L.f u pl S = (Dk, uk, pk, 0) := by rw [h.eq, List.drop_length]; rfl
  exact ⟨by rw [e1], by rw [e1]; exact h.o, h.kp, by rw [e1]; exact h.cb⟩

set_option maxRecDepth 100000 in
set_option maxHeartbeats 4000000 in
theorem putRow_any {G : Nat → Prop} {w : World} {l p bl bt cb : Nat} {D : Dsk} {L : Lg} (h : OwnL (fun k => G k ∨ k = cb) w l p bl bt D L) (hcb : ¬ G cb) (m : SMap) (hm1 : m.length ≤ 60) (hmt : ∀ q ∈ m, get L.st q.1 = some q.2) (hD : Sm D (m.length + 1)) (e u pl : Nat) (hu : u ≤ 900000) (hp : pl < 18446744073709551616) (hc : Blk w cb 86 (cC e u pl))
    (ad : Option Addr) (cap : Nat) (hn : ∃ g o, ad = some ⟨g, o, none⟩ ∧ w.rangeAt g o (intC (m.map (·.1))) ∧ G g) :
    Calls Tryz.prog 80 #[pv l, pv cb, .slice ad m.length cap] w (RowPost G w l p bl bt cb D L e u pl (lst (m.map (·.1)) :: m.map (·.2))) := by
  obtain ⟨g, o, rfl, hr, hg⟩ := hn
  have hgl := h.glt (.inl hg)
  have hml : (m.map (·.1)).length = m.length := by simp
  have hmh : ∀ q ∈ m, q.1 < 1024 := fun q hq => by
    have h1 := get_mem (hmt q hq)
    have := (h.r.ok.th _ h1).1
    have := h.r.ok.z
    omega
  have HL := hid (listOf_any w (some ⟨g, o, none⟩) cap (m.map (·.1)) (by rw [hml]; exact hm1) (fun k hk => by
    obtain ⟨q, hq, rfl⟩ := List.mem_map.1 hk
    have := hmh q hq
    omega) (fun _ => ⟨g, o, rfl, hr, hgl⟩))
  rw [hml] at HL
  have HLl := hid (lst_length (m.map (·.1)) (by rw [hml]; exact hm1))
  have H0 : Hid (RowMid G w w l p bl bt cb D D L e u pl u pl (lst (m.map (·.1)) :: m.map (·.2)) 0) := ⟨h, Fr.refl _ w, by simpa using hD, hc, rfl, hp, rfl⟩
  have HR := hid hr
  have HMT := hid hmt
  have HG := hid hg
  have HMH := hid hmh
  have hSl : (lst (m.map (·.1)) :: m.map (·.2)).length = m.length + 1 := by simp
  have HSl := hid hSl
  have HSk : Hid (∀ k (hk : k < m.length), (lst (m.map (·.1)) :: m.map (·.2))[k + 1]? = some (m[k]).2) := fun k hk => by simp [hk]
  have HS0 : Hid ((lst (m.map (·.1)) :: m.map (·.2))[0]? = some (lst (m.map (·.1)))) := by simp [Hid]
  clear h hD hmt hr hg hml hgl hmh hSl hc
  generalize lst (m.map (·.1)) :: m.map (·.2) = S at *
  generalize lst (m.map (·.1)) = s0 at *
  go_enter Tryz.func80, Tryz.ntmps80
  go_wp2_with fail
  refine HL.out.mono ?_
  rintro x w1 ⟨rfl, f1⟩
  have h1 := H0.out
  have hlt0 : 0 < S.length := by rw [HSl.out]; omega
  have es0 : S[0] = s0 := by have := HS0.out; rw [List.getElem?_eq_getElem hlt0] at this; simpa using this
  have HP := hid (lput_any (h1.o.nw f1) hcb (h1.sm.le (by rw [HSl.out]; omega)) e u pl (by omega) hp (Fr.blk f1 h1.cb id) s0 HLl.out)
  have HF1 := hid f1
  clear HL f1 h1
  go_wp2_with fail
  refine HP.out.mono ?_
  intro x w2 hpost
  rw [← es0] at hpost
  obtain ⟨r, rfl, hr0, hr1⟩ := H0.out.next hlt0 HF1.out hpost
  have Hr0 := hid hr0
  have Hr1 := hid hr1
  clear hpost hr0 hr1 HP H0 HF1
  by_cases hr : r = 0
  · subst hr
    obtain ⟨D2, hM⟩ := Hr0.out (by trivial)
    obtain ⟨u1, p1, hM1⟩ : ∃ u1 p1, RowMid G w w2 l p bl bt cb D D2 L e u pl u1 p1 S (0 + 1) := ⟨_, _, hM⟩
    have HM := hid hM1
    clear Hr0 Hr1 hM hM1 es0 hlt0
    go_wp2_with fail
    go_loopw [21] (fun i wr => ∃ k Dk uk pk, k ≤ m.length ∧ i = .int .i64 (k : Int) ∧ RowMid G w wr l p bl bt cb D Dk L e u pl uk pk S (k + 1)) (fun i _ => m.length - (intOf i).toNat)
    case atStart => exact ⟨0, D2, _, _, Nat.zero_le _, rfl, HM.out⟩
    case round =>
      obtain ⟨k, Dk, uk, pk, hk, rfl, hMk⟩ := hrel
      have HMk := hid hMk
      clear hMk HM
      by_cases hlt : k < m.length
      · have hk1 : (k : Int) < (m.length : Int) := by omega
        have hk0 : (0 : Int) ≤ (k : Int) := Int.natCast_nonneg _
        have hqm : m[k] ∈ m := List.getElem_mem hlt
        have hq := HMT.out _ hqm
        have hcell : wr.cell? ⟨g, o + k, none⟩ = some (.int .i64 ((m[k].1 : Nat) : Int)) := by
          have h1 := HR.out k (.int .i64 ((m[k].1 : Nat) : Int)) (by simp [intC, hlt])
          have hgl : g < w.heap.size := by
            rcases Nat.lt_or_ge g w.heap.size with h2 | h2
            · exact h2
            · rw [World.cell?] at h1
              simp [Array.getElem?_eq_none h2] at h1
          have := HMk.out.kp.block g hgl (fun hn => hn HG.out)
          rw [World.cell?] at h1 ⊢
          simp only [this]
          exact h1
        have hlk := look57f HMk.out.o.r.mt (m[k]).1 (by have := HMH.out _ hqm; omega) (m[k]).2 hq
        have c8 : wr.cell? ⟨l, 8, none⟩ = some (.map (some bt)) := by simpa [Lg.cells] using HMk.out.o.r.hl.cell 8
        have hlS : k + 1 < S.length := by rw [HSl.out]; omega
        have esk : S[k + 1] = (m[k]).2 := by have := HSk.out k hlt; rw [List.getElem?_eq_getElem hlS] at this; simpa using this
        have hq2 : (m[k]).2.length = 128 := HMk.out.o.r.mt.sec hq
        have HP := hid (lput_any HMk.out.o hcb (HMk.out.sm.le (by rw [HSl.out]; omega)) e uk pk (by rw [HMk.out.hu]; omega) HMk.out.hp HMk.out.cb (m[k]).2 hq2)
        have HN : Hid (∀ x w', PutPost G wr l p bl bt cb Dk L e uk pk (m[k]).2 x w' → ∃ r : Int, x = .returned (.int .i64 r) ∧ (r = 0 → ∃ D2 u2 p2, RowMid G w w' l p bl bt cb D D2 L e u pl u2 p2 S (k + 1 + 1)) ∧ (r ≠ 0 → RowPost G w l p bl bt cb D L e u pl S x w')) := fun x w' hpp => by
          rw [← esk] at hpp
          obtain ⟨r, a1, a2, a3⟩ := HMk.out.next hlS (Nw.refl _) hpp
          exact ⟨r, a1, fun h => by obtain ⟨D2, h2⟩ := a2 h; exact ⟨D2, _, _, h2⟩, a3⟩
        clear hqm hq HMk hlS esk hq2
        unfold arrV at HP
        generalize m[k] = q at *
        obtain ⟨qi, qs⟩ := q
        simp only at hcell hlk HP HN
        go_wp2_with fail
        refine HP.out.mono ?_
        intro x w3 hpost
        obtain ⟨r, rfl, hr0, hr1⟩ := HN.out _ _ hpost
        have Hr0 := hid hr0
        have Hr1 := hid hr1
        clear hpost hr0 hr1 HP HN hcell hlk c8
        by_cases hr : r = 0
        · subst hr
          obtain ⟨D3, u3, p3, hM⟩ := Hr0.out (by trivial)
          have HM3 := hid hM
          clear Hr0 Hr1 hM
          go_wp2
          exact ⟨⟨k + 1, D3, u3, p3, by omega, by simp, HM3.out⟩, by simp [intOf]; omega⟩
        · have hb : (r != 0) = true := by simpa using hr
          have Hr := hid (Hr1.out hr)
          clear Hr0 Hr1
          go_wp2
          go_ret
          exact Hr.out
      · obtain rfl : k = m.length := by omega
        have hk1 : ¬ (m.length : Int) < (m.length : Int) := by omega
        have HEnd := hid (row_end (by have := HMk.out; rwa [← HSl.out] at this))
        clear HMk
        go_wp2
        go_ret
        exact HEnd.out
  · have hb : (r != 0) = true := by simpa using hr
    have Hr := hid (Hr1.out hr)
    clear Hr0 Hr1 es0 hlt0
    go_wp2
    go_ret
    exact Hr.out

end Go.Proofs.YtehoiahgkbnjdaaGreat.Wl
