/- The contract of the reader's entry, where an entry stands. -/
import Derived.Test.YtipppagkajcheaaGreatDoorRdr
import Derived.Test.YtipppagkajcheaaGreatDoorFnd
import Derived.Lib.AtoiAllCases
namespace Go.Proofs.YtipppagkajcheaaGreatDoor.Tr
open Go.RowKit

theorem parse10 : ∀ (l : List UInt8) (acc : Nat), (∀ c ∈ l, 48 ≤ c.toNat ∧ c.toNat ≤ 57) → l.foldl (fun n c => 10 * n + c.toNat % 16) acc < 9223372036854775808 → Lib.parseUint10 acc l = .ok (l.foldl (fun n c => 10 * n + c.toNat % 16) acc)
  | [], acc, _, _ => rfl
  | c :: r, acc, h, hb => by
    obtain ⟨h1, h2⟩ := h c (by simp)
    have e : c.toNat % 16 = c.toNat - 48 := by omega
    have hmono : ∀ (l : List UInt8) (a : Nat), a ≤ l.foldl (fun n c => 10 * n + c.toNat % 16) a := by
      intro l
      induction l with
      | nil => intro a; exact Nat.le_refl _
      | cons x l ih => intro a; exact Nat.le_trans (by omega) (ih (10 * a + x.toNat % 16))
    rw [List.foldl_cons] at hb ⊢
    have hm := hmono r (10 * acc + c.toNat % 16)
    have ih := parse10 r (10 * acc + c.toNat % 16) (fun d hd => h d (by simp [hd])) hb
    rw [e] at ih hm hb ⊢
    have e2 : acc * 10 + (c.toNat - 48) = 10 * acc + (c.toNat - 48) := by omega
    simp only [Lib.parseUint10, e2]
    rw [if_pos (by omega), if_neg (by omega), if_neg (by omega)]
    exact ih
theorem atoi_dec (n : Nat) (h : n ≤ 2048) : Lib.atoiAll (decL n) = .ok (n : Int) := by
  have hm := dec_mem n
  have hn := num_dec n
  have hp := dec_pos n
  unfold numL at hn
  generalize decL n = l at *
  match l, hp with
  | c :: r, _ =>
    obtain ⟨h1, h2⟩ := hm c (by simp)
    rw [Lib.atoiAll_plain c r (by omega) (by omega)]
    have := parse10 (c :: r) 0 hm (by rw [hn]; omega)
    rw [hn] at this
    unfold Lib.parseMag
    rw [if_neg (by simp), this]
    unfold Lib.signless
    simp only
    rw [if_neg (by omega)]

theorem Rd.fr {w w' : World} {B rb : Nat} {ad : Option Addr} {cap : Nat} {L : List UInt8} (h : Rd B w rb ad cap L) (f : Fr (fun _ => False) w w') : Rd B w' rb ad cap L := ⟨f.blk h.blk (fun h => h), h.cap, h.src.fr f, h.low⟩
theorem Rd.one {w : World} {B rb : Nat} {ad : Option Addr} {cap : Nat} {L : List UInt8} (h : Rd B w rb ad cap L) {m : Int} (hm : w.cell? ⟨0, 0, none⟩ = some (.int .i64 m)) : 0 ≠ rb := by
  rintro rfl
  have := h.blk.cell 0
  rw [hm] at this
  simp at this
theorem cell_rd {w w' : World} {rb : Nat} (f : Fr (fun k => k = rb) w w') (h0 : 0 ≠ rb) {m : Int} (hm : w.cell? ⟨0, 0, none⟩ = some (.int .i64 m)) : w'.cell? ⟨0, 0, none⟩ = some (.int .i64 m) := by
  have hlt := World.block_lt_of_cell? w ⟨0, 0, none⟩ hm
  rw [World.cell?_of_block (w := w) (f.block 0 hlt h0)]
  exact hm
theorem atoi_any (w : World) (n : Nat) (h : n ≤ 2048) : Calls Tryz.prog 42 #[.string ⟨(decL n).toArray⟩] w fun e w' => e = .returned (.tuple #[.int .i64 (n : Int), .nilIface]) ∧ Fr (fun _ => False) w w' := by
  have hd := decL_len 4 n (by decide) (by omega)
  refine (Tryz.strconv_Atoi_ok ⟨(decL n).toArray⟩ (by show (decL n).length ≤ _; omega) (n : Int) (atoi_dec n h) w).mono (fun e w' hh => ?_)
  obtain ⟨h1, h2⟩ := hh
  refine ⟨h1, ?_⟩
  rcases h2 with rfl | ⟨t, rfl⟩
  · exact Fr.refl _ _
  · exact ⟨rfl, rfl, rfl, by rw [Lib.bytesWorld_size]; omega, fun k hk _ => Lib.bytesWorld_at_old w 5 _ k hk⟩

/-- In mid-way through an entry. -/
structure EMid (B : Nat) (w W : World) (rb : Nat) (M : List UInt8) (m : Int) : Prop where
  f : Fr (fun k => k = rb) w W
  eb : Blk W w.heap.size 36 [.string ⟨#[]⟩, .int .i64 0, .slice none 0 0]
  rd : ∃ ad cap, Rd B W rb ad cap M
  ml : W.cell? ⟨0, 0, none⟩ = some (.int .i64 m)
theorem EMid.post {w W W' : World} {B rb : Nat} {M M' : List UInt8} {m : Int} {v : Value} {e : Ending} (h : EMid B w W rb M m) (hr : rb < w.heap.size) (p : RdPost B W rb v M' e W') : e = .returned v ∧ EMid B w W' rb M' m := by
  obtain ⟨h1, g, ad', cap', hrd⟩ := p
  obtain ⟨ad, cap, h0⟩ := h.rd
  exact ⟨h1, h.f.trans g (fun _ h => .inl h), g.blk h.eb (by omega), ⟨ad', cap', hrd⟩, cell_rd g (h0.one h.ml) h.ml⟩
theorem EMid.fr {w W W' : World} {B rb : Nat} {M : List UInt8} {m : Int} (h : EMid B w W rb M m) (f : Fr (fun _ => False) W W') : EMid B w W' rb M m := by
  obtain ⟨ad, cap, h0⟩ := h.rd
  exact ⟨h.f.trans f (fun _ h => h.elim), f.blk h.eb (fun h => h), ⟨ad, cap, h0.fr f⟩, cell_fr f h.ml⟩

theorem Rd.off {W W' : World} {B rb eb : Nat} {ad : Option Addr} {cap : Nat} {M : List UInt8} {s : ByteArray} {k : Int} {a : Option Addr} {n c : Nat} (h : Rd B W rb ad cap M) (he : ∀ j, j ≠ eb → W'.heap[j]? = W.heap[j]?) (hb : Blk W eb 36 [.string s, .int .i64 k, .slice a n c]) (hne : rb ≠ eb) : Rd B W' rb ad cap M := by
  refine ⟨h.blk.of_eq (he rb hne), h.cap, fun hM => ?_, h.low⟩
  obtain ⟨bb, bo, e, hr⟩ := h.src hM
  have hl : 0 < M.length := List.length_pos_iff.2 hM
  have hbe : bb ≠ eb := by
    rintro rfl
    have hc := hr 0 (bv M[0]) (by rw [bs_at M 0 hl])
    have hb2 := hb.cell (bo + 0)
    rw [hc] at hb2
    match bo, hb2 with
    | 0, hb2 => simp [bv] at hb2
    | 1, hb2 => simp [bv] at hb2
    | 2, hb2 => simp [bv] at hb2
    | n + 3, hb2 => simp at hb2
  refine ⟨bb, bo, e, fun j v hv => ?_⟩
  rw [World.cell?_of_block (w := W) (he bb hbe)]
  exact hr j v hv

set_option maxRecDepth 100000 in
set_option maxHeartbeats 4000000 in
theorem entry_yes (B : Nat) (w : World) (rb : Nat) (ad : Option Addr) (cap : Nat) (x : Ent) (v : List UInt8) (h : Rd B w rb ad cap (entL x ++ v)) (hx : oneB x = true) (hl : (entL x ++ v).length < 4294967281) (m : Int) (hm : w.cell? ⟨0, 0, none⟩ = some (.int .i64 m)) :
    Calls Tryz.prog 28 #[.pointer (some ⟨rb, 0, none⟩)] w fun e w' => ∃ da dc, e = .returned (.tuple #[entV x da dc, .bool true]) ∧ w'.ownsRow w.heap.size 5 1 (.slice da x.data.length dc) x.data.length (bs x.data) ∧ Fr (fun k => k = rb) w w' ∧ ∃ ad cap, Rd B w' rb ad cap v := by
  obtain ⟨hpl, hdl, hk⟩ := path_bound x hx
  obtain ⟨hb32, _⟩ := path_chars x hx
  have hrb : rb < w.heap.size := h.blk.lt
  obtain ⟨K, hK, hKk, hK32⟩ : ∃ K : UInt8, (if x.kind = 1 then [102, 32] else [108, 32] : List UInt8) = [K, 32] ∧ (if [K] = [(102 : UInt8)] then (1 : Int) else if [K] = [108] then 3 else 0) = x.kind ∧ (32 : UInt8) ∉ [K] := by
    rcases hk with h | h
    · exact ⟨102, by rw [if_pos h], by rw [h]; decide, by decide⟩
    · exact ⟨108, by rw [if_neg (by rw [h]; decide)], by rw [h]; decide, by decide⟩
  have e0 : entL x ++ v = [K] ++ 32 :: (x.path ++ 32 :: (decL x.data.length ++ 10 :: (x.data ++ 10 :: v))) := by
    rw [entL, hK]; simp
  rw [e0] at h hl
  have hl1 : (x.path ++ 32 :: (decL x.data.length ++ 10 :: (x.data ++ 10 :: v))).length < 4294967281 := by simp at hl ⊢; omega
  have hl2 : (decL x.data.length ++ 10 :: (x.data ++ 10 :: v)).length < 4294967281 := by simp at hl ⊢; omega
  have HM0 : Hid (EMid B w (w.alloc (.cells #[.string ⟨#[]⟩, .int .i64 0, .slice none 0 0] 36)) rb ([K] ++ 32 :: (x.path ++ 32 :: (decL x.data.length ++ 10 :: (x.data ++ 10 :: v)))) m) :=
    ⟨(Fr.refl _ w).alloc _, Blk.new w 36 _, ⟨ad, cap, h.fr ((Fr.refl _ w).alloc _)⟩, cell_fr ((Fr.refl _ w).alloc _) hm⟩
  have HU1 := hid (fun W (hM : EMid B w W rb ([K] ++ 32 :: (x.path ++ 32 :: (decL x.data.length ++ 10 :: (x.data ++ 10 :: v)))) m) => (show Calls Tryz.prog 41 #[.pointer (some ⟨rb, 0, none⟩), .string ⟨#[32]⟩] W (fun e W' => e = .returned (.tuple #[.string ⟨[K].toArray⟩, .bool true]) ∧ EMid B w W' rb (x.path ++ 32 :: (decL x.data.length ++ 10 :: (x.data ++ 10 :: v))) m) by
    obtain ⟨ad1, cap1, hr⟩ := hM.rd
    exact (until_yes B W rb ad1 cap1 [K] _ 32 hr hK32 hl m hM.ml).mono (fun e W' p => hM.post hrb p)))
  have HU2 := hid (fun W (hM : EMid B w W rb (x.path ++ 32 :: (decL x.data.length ++ 10 :: (x.data ++ 10 :: v))) m) => (show Calls Tryz.prog 41 #[.pointer (some ⟨rb, 0, none⟩), .string ⟨#[32]⟩] W (fun e W' => e = .returned (.tuple #[.string ⟨x.path.toArray⟩, .bool true]) ∧ EMid B w W' rb (decL x.data.length ++ 10 :: (x.data ++ 10 :: v)) m) by
    obtain ⟨ad1, cap1, hr⟩ := hM.rd
    exact (until_yes B W rb ad1 cap1 x.path _ 32 hr hb32 hl1 m hM.ml).mono (fun e W' p => hM.post hrb p)))
  have HU3 := hid (fun W (hM : EMid B w W rb (decL x.data.length ++ 10 :: (x.data ++ 10 :: v)) m) => (show Calls Tryz.prog 41 #[.pointer (some ⟨rb, 0, none⟩), .string ⟨#[10]⟩] W (fun e W' => e = .returned (.tuple #[.string ⟨(decL x.data.length).toArray⟩, .bool true]) ∧ EMid B w W' rb (x.data ++ 10 :: v) m) by
    obtain ⟨ad1, cap1, hr⟩ := hM.rd
    exact (until_yes B W rb ad1 cap1 (decL x.data.length) _ 10 hr (dec_no10 _) hl2 m hM.ml).mono (fun e W' p => hM.post hrb p)))
  have HAt := hid (fun W => atoi_any W x.data.length hdl)
  have HKd := hid (fun W => kindOf_any W [K])
  rw [hKk] at HKd
  clear h hl hl1 hl2 hm hx e0 hK hKk hK32 hb32 hk
  generalize hD : decL x.data.length = dl at *
  clear hD
  go_enter Tryz.func28, Tryz.ntmps28
  go_wp2_with (go_at_call 41; refine (HU1.out _ HM0.out).mono ?_; rintro e w1 ⟨rfl, hM1⟩; have HM1 := hid hM1; clear hM1; refine Hid.out ?_)
  refine hid ?_
  clear HU1 HM0
  go_wp2_with (go_at_call 41; refine (HU2.out _ HM1.out).mono ?_; rintro e w2 ⟨rfl, hM2⟩; have HM2 := hid hM2; clear hM2; refine Hid.out ?_)
  refine hid ?_
  clear HU2 HM1
  go_wp2_with (first
    | (go_at_call 41; refine (HU3.out _ HM2.out).mono ?_; rintro e w3 ⟨rfl, hM3⟩; have HM3 := hid hM3; clear hM3)
    | (go_at_call 42; refine (HAt.out _).mono ?_; rintro e w4 ⟨rfl, f4⟩; have HM4 := hid (HM3.out.fr f4); clear f4; refine Hid.out ?_))
  refine hid ?_
  clear HU3 HM2 HM3 HAt
  obtain ⟨ad4, cap4, hr4⟩ := HM4.out.rd
  have hc4 := hr4.blk.cell 0
  have fz4 := hr4.blk.frozen 0
  simp only [List.getElem?_cons_zero] at hc4
  have hcp4 := hr4.cap
  have hle1 : ((x.data.length : Nat) : Int) ≤ 2048 := by omega
  have hle2 : ((x.data.length : Nat) : Int) ≤ (((x.data ++ 10 :: v).length : Nat) : Int) := by simp; omega
  have hle3 : ((x.data.length : Nat) : Int) ≤ ((cap4 : Nat) : Int) := by simp at hcp4; omega
  have hle0 : (0 : Int) ≤ ((x.data.length : Nat) : Int) := Int.natCast_nonneg _
  have hnc : ¬ cap4 = x.data.length := by simp at hcp4; omega
  have HR4 := hid hr4
  clear hr4
  obtain ⟨bb4, bo4, e4, hne4, hlt4⟩ := HR4.out.ne HR4.out.src (by simp)
  subst e4
  have HLo4 : Hid (bb4 < B) := HR4.out.low ⟨bb4, bo4, none⟩ rfl
  have hsD : Src w4 (some ⟨bb4, bo4, none⟩) x.data := by
    have := HR4.out.src.take' x.data.length
    rw [List.take_left] at this; exact this
  have hsV : Src w4 (some ⟨bb4, bo4 + x.data.length, none⟩) (10 :: v) := by
    have := HR4.out.src.drop' x.data.length
    rw [List.drop_left] at this; exact this
  have HCl := hid (clone_any w4 (some ⟨bb4, bo4, none⟩) x.data cap4 hsD (by omega))
  obtain ⟨vn, hvn⟩ : ∃ vn, vn = (10 :: v).length := ⟨_, rfl⟩
  have hlv : (x.data ++ 10 :: v).length - x.data.length = vn := by rw [hvn]; simp
  have HVn := hid hvn
  have HSV := hid hsV
  have hlv2 : (10 :: v).length ≤ cap4 - x.data.length := by simp at hcp4 ⊢; omega
  have HL2 := hid hlv2
  clear hsD hsV hvn hlv2
  generalize hLn : (x.data ++ 10 :: v).length = Ln at *
  have HLn := hid hLn
  clear hLn
  generalize hdn : x.data.length = dn at *
  have HDn := hid hdn
  clear hdn
  have HPs := hid (fun W (h : Rd B W rb (some ⟨bb4, bo4 + dn, none⟩) (cap4 - dn) (10 :: v)) => pass_yes B W rb _ _ (10 :: v) 10 [] h (by simp [Lib.hasPrefix]))
  have HB4 := hid HM4.out.eb
  have HF4 := hid HM4.out.f
  have hrb4 : rb < w4.heap.size := HR4.out.blk.lt
  have hsz4 : w.heap.size < w4.heap.size := HB4.out.lt
  clear HM4
  go_wp2_with (first
    | (go_at_call 43; refine HCl.out.mono ?_; rintro e w5 ⟨v5, rfl, ho5, f5⟩; obtain ⟨va5, vc5, rfl⟩ := own_len ho5; have hb5 := f5.blk HR4.out.blk (fun h => h); rw [HLn.out] at hb5; have c5 := hb5.cell 0; have fz5 := hb5.frozen 0; simp only [List.getElem?_cons_zero] at c5; have HR6 : Hid (Rd B (w5.setCell ⟨rb, 0, none⟩ (.slice (some ⟨bb4, bo4 + dn, none⟩) vn (cap4 - dn))) rb (some ⟨bb4, bo4 + dn, none⟩) (cap4 - dn) (10 :: v)) := ⟨(by have h := hb5.setCell 0 (.slice (some ⟨bb4, bo4 + dn, none⟩) vn (cap4 - dn)); rw [HVn.out] at h ⊢; exact h), HL2.out, Rd.keep (HR4.out.fr f5) (fr_set rb (Fr.refl _ _) _) (HSV.out.fr f5), fun a ha => (by cases ha; exact HLo4.out)⟩; have O5 := hid ho5; have F5 := hid f5; clear ho5 f5 hb5)
    | (go_at_call 44; refine (HKd.out _).mono ?_; rintro e w6 ⟨rfl, rfl⟩)
    | (go_at_call 27; refine (HPs.out _ HR6.out).mono ?_; rintro e w7 ⟨rfl, g7, ad7, cap7, hr7⟩; have HR7 := hid hr7; have G7 := hid g7; have hb7 := g7.blk ((F5.out.blk HB4.out (fun h => h)).setCell_ne (by show w.heap.size ≠ rb; omega) (.slice (some ⟨bb4, bo4 + dn, none⟩) vn (cap4 - dn))) (by omega); have z0 := hb7.cell 0; have z1 := hb7.cell 1; have z2 := hb7.cell 2; have zf0 := hb7.frozen 0; have zf1 := hb7.frozen 1; have zf2 := hb7.frozen 2; simp only [List.getElem?_cons_zero, List.getElem?_cons_succ] at z0 z1 z2; have HB7 := hid hb7; clear hr7 g7 hb7; refine Hid.out ?_))
  refine hid ?_
  have HRb := hid (((HB7.out.setCell 0 (.string ⟨x.path.toArray⟩)).setCell 1 (.int .i64 x.kind)).setCell 2 (.slice va5 dn vc5))
  have hbo : ∀ k, (Value.slice va5 dn vc5).ownBlock = some k → w4.heap.size ≤ k ∧ k < w5.heap.size := fun k hk => O5.out.lt k hk
  have HO8 : Hid ((((w7.setCell ⟨w.heap.size, 0, none⟩ (.string ⟨x.path.toArray⟩)).setCell ⟨w.heap.size, 1, none⟩ (.int .i64 x.kind)).setCell ⟨w.heap.size, 2, none⟩ (.slice va5 dn vc5)).ownsRow w.heap.size 5 1 (.slice va5 dn vc5) dn (bs x.data)) := by
    refine owns_of_eq (owns_base O5.out (by omega)) (fun k hk => ?_)
    obtain ⟨k1, k2⟩ := hbo k hk
    rw [Below.heap_setCell _ _ _ k (by show k ≠ w.heap.size; omega), Below.heap_setCell _ _ _ k (by show k ≠ w.heap.size; omega), Below.heap_setCell _ _ _ k (by show k ≠ w.heap.size; omega)]
    have hg := G7.out.block k (Nat.lt_of_lt_of_le k2 (fr_set rb (Fr.refl _ w5) (.slice (some ⟨bb4, bo4 + dn, none⟩) vn (cap4 - dn))).size) (by omega)
    rw [hg, Below.heap_setCell _ _ _ k (by show k ≠ rb; omega)]
  have HF8 : Hid (Fr (fun k => k = rb) w (((w7.setCell ⟨w.heap.size, 0, none⟩ (.string ⟨x.path.toArray⟩)).setCell ⟨w.heap.size, 1, none⟩ (.int .i64 x.kind)).setCell ⟨w.heap.size, 2, none⟩ (.slice va5 dn vc5))) :=
    (((((HF4.out.trans (fr_set rb F5.out (.slice (some ⟨bb4, bo4 + dn, none⟩) vn (cap4 - dn))) (fun _ h => .inl h)).trans G7.out (fun _ h => .inl h)).setCell (p := ⟨w.heap.size, 0, none⟩) (.inr (Nat.le_refl _)) _).setCell (p := ⟨w.heap.size, 1, none⟩) (.inr (Nat.le_refl _)) _).setCell (p := ⟨w.heap.size, 2, none⟩) (.inr (Nat.le_refl _)) _)
  have HR8 : Hid (Rd B (((w7.setCell ⟨w.heap.size, 0, none⟩ (.string ⟨x.path.toArray⟩)).setCell ⟨w.heap.size, 1, none⟩ (.int .i64 x.kind)).setCell ⟨w.heap.size, 2, none⟩ (.slice va5 dn vc5)) rb ad7 cap7 v) :=
    Rd.off (eb := w.heap.size) HR7.out (fun j hj => by rw [Below.heap_setCell _ _ _ j (by show j ≠ w.heap.size; exact hj), Below.heap_setCell _ _ _ j (by show j ≠ w.heap.size; exact hj), Below.heap_setCell _ _ _ j (by show j ≠ w.heap.size; exact hj)]) HB7.out (by omega)
  clear HR7 G7 HB7 O5 F5 hbo HR6 HF4 HB4 HR4 HCl HPs
  go_wp2_with fail
  refine bodyPost_ret (resultsE rfl rfl rfl HRb.out) rfl ⟨va5, vc5, ?_, ?_, HF8.out, ad7, cap7, HR8.out⟩
  · rw [← HDn.out]; rfl
  · rw [HDn.out]; exact HO8.out

end Go.Proofs.YtipppagkajcheaaGreatDoor.Tr
