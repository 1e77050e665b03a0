/- The contracts of lay and Bytes. -/
import Derived.Test.YtipppagkajcheaaGreatDoorBld
namespace Go.Proofs.YtipppagkajcheaaGreatDoor.Tr
open Go.RowKit

/-- The table of powers of ten that Itoa reads. -/
def Tab (w : World) : Prop := Lib.TabIs Tryz.prog w "internal/strconv.uint64pow10" .u64 Lib.pow10Tab
theorem Tab.fr {w w' : World} (h : Tab w) (f : Fr (fun _ => False) w w') : Tab w' := by
  unfold Tab Lib.TabIs World.var? at *
  cases hg : Tryz.prog.globalNamed "internal/strconv.uint64pow10" with
  | none => rw [hg] at h; simp at h
  | some g =>
    rw [hg] at h
    simp only [Option.bind_some] at h ⊢
    have hlt : g < w.heap.size := by
      rcases Nat.lt_or_ge g w.heap.size with hlt | hge
      · exact hlt
      · rw [Array.getElem?_eq_none hge] at h; simp at h
    rw [f.block g hlt (fun h => h)]
    exact h
theorem fr_grow {w : World} (k : Nat) (os : Array Obj) : Fr (fun _ => False) w (Sort.grow (w.drewN k) os) :=
  ⟨rfl, rfl, rfl, by simp [Sort.grow], fun i hi _ => by rw [Sort.heap_grow_old _ _ (by simpa using hi)]; rfl⟩
theorem itoa_nat : ∀ (n : Nat), Lib.decDigits n = decL n := by
  intro n
  induction n using Nat.strongRecOn with
  | _ n ih =>
    by_cases h : n < 10
    · rw [decL_small n h, Lib.decDigits_one h]
    · rw [decL_great n h, Lib.decDigits, dif_neg h, ih (n / 10) (by omega)]
theorem itoa_eq (n : Nat) : Lib.itoa (n : Int) = decL n := by
  unfold Lib.itoa
  rw [if_neg (by omega), Int.toNat_natCast, itoa_nat]
theorem Itoa_any (w : World) (n : Nat) (hn : n ≤ 140737488355328) (ht : Tab w) : Calls Tryz.prog 30 #[.int .i64 (n : Int)] w fun e w' => e = .returned (.string ⟨(decL n).toArray⟩) ∧ Fr (fun _ => False) w w' :=
  (Tryz.strconv_Itoa (n : Int) (by omega) (by omega) w ht).mono (fun e w' h => by
    obtain ⟨h1, k, os, rfl⟩ := h
    rw [itoa_eq] at h1
    exact ⟨h1, fr_grow k os⟩)

/-! ### What is laid down -/
def entP (x : Ent) : List UInt8 := lineL [signL x.kind, x.path, decL x.data.length] ++ (x.data ++ [10])
def bodyP (L : List Ent) : List UInt8 := lineL [[116, 114, 101, 101]] ++ L.flatMap entP ++ lineL [[101, 110, 100]]
theorem join3 (a b c s : List UInt8) : Lib.join [a, b, c] s = a ++ s ++ b ++ s ++ c := by
  simp [Lib.join_cons, Lib.joinTail]
theorem entP_eq (x : Ent) (h : x.kind = 1 ∨ x.kind = 3) : entP x = entL x := by
  unfold entP entL lineL signL
  rw [join3]
  rcases h with h | h <;> rw [h] <;> simp
theorem bodyP_eq (L : List Ent) (h : ∀ x ∈ L, oneB x = true) : bodyP L = bodyL L := by
  unfold bodyP bodyL lineL
  rw [Lib.join_one, Lib.join_one]
  have : L.flatMap entP = L.flatMap entL := by
    induction L with
    | nil => rfl
    | cons x r ih =>
      rw [List.flatMap_cons, List.flatMap_cons, ih (fun y hy => h y (by simp [hy])), entP_eq x (path_bound x (h x (by simp))).2.2]
  rw [this]; rfl
theorem flatP_take (L : List Ent) (i : Nat) (h : i < L.length) : (L.take (i + 1)).flatMap entP = (L.take i).flatMap entP ++ entP L[i] := by
  rw [List.take_succ_eq_append_getElem h, List.flatMap_append]; simp
theorem flatP_len (L : List Ent) (h : ∀ x ∈ L, oneB x = true) (i : Nat) : ((L.take i).flatMap entP).length ≤ 2178 * L.length := by
  have e : (L.take i).flatMap entP = (L.take i).flatMap entL := by
    have : ∀ x ∈ L.take i, oneB x = true := fun x hx => h x (List.mem_of_mem_take hx)
    generalize L.take i = M at *
    induction M with
    | nil => rfl
    | cons x r ih =>
      rw [List.flatMap_cons, List.flatMap_cons, ih (fun y hy => this y (by simp [hy])), entP_eq x (path_bound x (this x (by simp))).2.2]
  rw [e]
  have h1 := flat_length (L.take i) (fun x hx => h x (List.mem_of_mem_take hx))
  have h2 : (L.take i).length ≤ L.length := by simp; omega
  omega

/-- A builder over an older world: what was there stands. -/
structure BW (w0 W : World) (bk : Nat) (out : List UInt8) (v : Value) : Prop where
  b : Bld W bk out v
  f : Fr (fun _ => False) w0 W
  le : w0.heap.size ≤ bk
theorem BW.post {w0 W W' : World} {bk : Nat} {out out' : List UInt8} {v : Value} (h : BW w0 W bk out v) (p : BPost W bk v out' W') : ∃ v', BW w0 W' bk out' v' := by
  obtain ⟨v', h1, h2, _⟩ := p
  refine ⟨v', h1, h.f.trans h2 ?_, h.le⟩
  rintro i (rfl | hi)
  · exact .inr h.le
  · have := (h.b.lt i hi).1; have := h.le; exact .inr (by omega)
theorem BW.alloc {w0 W : World} {bk : Nat} {out : List UInt8} {v : Value} (h : BW w0 W bk out v) (o : Obj) : BW w0 (W.alloc o) bk out v :=
  ⟨⟨h.b.blk.alloc o, h.b.own.alloc o⟩, h.f.alloc o, h.le⟩
theorem BW.fr {w0 W W' : World} {bk : Nat} {out : List UInt8} {v : Value} (h : BW w0 W bk out v) (f : Fr (fun _ => False) W W') : BW w0 W' bk out v :=
  ⟨⟨f.blk h.b.blk (fun h => h), owns_of_eq h.b.own (fun k hk => f.block k (h.b.lt k hk).2 (fun h => h))⟩, h.f.trans f (fun _ h => h.elim), h.le⟩
theorem BW.drew {w0 W : World} {bk : Nat} {out : List UInt8} {v : Value} (h : BW w0 W bk out v) : BW w0 W.drew bk out v := h.fr (Fr.refl _ _).drew
/-- A block that is neither the builder's nor its row stands. -/
theorem BPost.blk {W W' : World} {bk : Nat} {v : Value} {out : List UInt8} (p : BPost W bk v out W') {b : Nat} {t : TypeId} {xs : List Value} (hb : Blk W b t xs) (h1 : b ≠ bk) (h2 : v.ownBlock ≠ some b) : Blk W' b t xs := by
  obtain ⟨v', _, hf, _⟩ := p
  exact hf.blk hb (fun h => h.elim h1 h2)

/-- A line of words that lie in a new row. -/
theorem line_new {w0 W : World} {bk : Nat} {out : List UInt8} {v : Value} (h : BW w0 W bk out v) (ws : List (List UInt8)) (hn : ws.length ≤ 3) (hl : out.length + (Lib.join ws [32]).length + 1 ≤ 140737488355328) :
    Calls Tryz.prog 18 #[.pointer (some ⟨bk, 0, none⟩), .slice (some ⟨W.heap.size, 0, none⟩) ws.length ws.length] (W.alloc (.cells (strs ws).toArray 9)) fun e W' => e = .returned (.tuple #[]) ∧ BPost (W.alloc (.cells (strs ws).toArray 9)) bk v (out ++ lineL ws) W' :=
  line_any _ bk out ws v W.heap.size ws.length (h.alloc _).b (fun j x hx => by
    have := (Blk.new W 9 (strs ws)).cell j
    rw [Nat.zero_add, this]
    simp [strs, hx]) (by simp) hn (Nat.le_refl _) hl

set_option maxRecDepth 100000 in
set_option maxHeartbeats 4000000 in
theorem lay_any (w0 W : World) (bk : Nat) (v : Value) (ad : Option Addr) (L : List Ent) (cap : Nat) (hB : BW w0 W bk [] v) (hL : Ents w0 ad L) (hR : rightB L = true) (hT : Tab w0) :
    Calls Tryz.prog 17 #[.slice ad L.length cap, .func (.func 18) #[.pointer (some ⟨bk, 0, none⟩)] #[], .func (.func 19) #[.pointer (some ⟨bk, 0, none⟩)] #[]] W fun e W' => e = .returned (.tuple #[]) ∧ ∃ v', BW w0 W' bk (bodyP L) v' := by
  obtain ⟨hn, hone⟩ := right_one L hR
  have HL := hid hL
  have HB := hid hB
  have HLen := hid (flatP_len L hone)
  have HOne := hid hone
  have HT := hid hT
  have HC1 := hid (line_new hB [[116, 114, 101, 101]] (by simp) (by simp [Lib.join_one]))
  clear hB hR hL hone hT
  go_enter Tryz.func17, Tryz.ntmps17
  go_wp2_with fail
  refine HC1.out.mono ?_
  rintro e w1 ⟨rfl, hp⟩
  obtain ⟨v1, hB1⟩ := (HB.out.alloc _).post hp
  have HB1 : Hid (BW w0 w1 bk (lineL [[116, 114, 101, 101]]) v1) := hB1
  clear hB1 hp HC1 HB
  go_wp2_with fail
  go_loopw [13] (fun iv wr => ∃ (i : Nat) (vr : Value), i ≤ L.length ∧ iv = .int .i64 (i : Int) ∧ BW w0 wr bk (lineL [[116, 114, 101, 101]] ++ (L.take i).flatMap entP) vr) (fun iv _ => L.length - (intOf iv).toNat)
  case atStart => exact ⟨0, v1, Nat.zero_le _, rfl, by simpa using HB1.out⟩
  case round =>
    obtain ⟨i, vr, hi, rfl, hBr⟩ := hrel
    have HBr := hid hBr
    clear HB1 hBr
    by_cases hlt : i < L.length
    · have hi1 : (i : Int) < ((L.length : Nat) : Int) := by omega
      have hi0 : (0 : Int) ≤ (i : Int) := Int.natCast_nonneg _
      have HE0 := hid (HL.out.at i hlt)
      obtain ⟨bb, bo, da, dc, rfl, c0, c1, c2, hv⟩ := (HL.out.fr HBr.out.f).at i hlt
      have HV0 : Hid (EntV w0 L[i] da dc) := by
        obtain ⟨bb', bo', da', dc', e, _, _, c2', hv'⟩ := HE0.out
        cases e
        have := cell_fr HBr.out.f c2'
        rw [c2] at this
        cases this
        exact hv'
      have hx := HOne.out L[i] (List.getElem_mem _)
      obtain ⟨hxp, hxd, hxk⟩ := path_bound L[i] hx
      have HStep := hid (flatP_take L i hlt)
      have hlen := HLen.out i
      clear HE0 hv hx
      generalize L[i] = x at *
      generalize hout : (L.take i).flatMap entP = out at *
      have hdl := decL_len 4 x.data.length (by decide) (by omega)
      have hsl : (signL x.kind).length = 1 := by unfold signL; split <;> rfl
      have HBox : Hid (Blk (wr.alloc (.cells #[.string ⟨x.path.toArray⟩, .int .i64 x.kind, .slice da x.data.length dc] 36)) wr.heap.size 36 [.string ⟨x.path.toArray⟩, .int .i64 x.kind, .slice da x.data.length dc]) := Blk.new wr _ _
      have HBW := hid (HBr.out.alloc (.cells #[.string ⟨x.path.toArray⟩, .int .i64 x.kind, .slice da x.data.length dc] 36))
      have HNe : Hid (wr.heap.size ≠ bk ∧ vr.ownBlock ≠ some wr.heap.size) := ⟨by have := HBr.out.b.blk.lt; omega, fun e => by have := (HBr.out.b.lt _ e).2; omega⟩
      have HK : Hid (∀ W, Blk W wr.heap.size 36 [.string ⟨x.path.toArray⟩, .int .i64 x.kind, .slice da x.data.length dc] → W.cell? ⟨wr.heap.size, 0, none⟩ = some (.string ⟨x.path.toArray⟩) ∧ W.cell? ⟨wr.heap.size, 1, none⟩ = some (.int .i64 x.kind) ∧ W.cell? ⟨wr.heap.size, 2, none⟩ = some (.slice da x.data.length dc)) := fun W hB => ⟨hB.cell 0, hB.cell 1, hB.cell 2⟩
      have hj : (Lib.join [signL x.kind, x.path, decL x.data.length] [32]).length ≤ 2000 := by
        rw [join3]; simp [hsl]; omega
      have HJl := hid hj
      go_wp2_with fail
      generalize wr.alloc (.cells #[.string ⟨x.path.toArray⟩, .int .i64 x.kind, .slice da x.data.length dc] 36) = W0 at *
      go_region_held3 (fun w' => w'.cell? ⟨wr.heap.size, 0, none⟩ = some (.string ⟨x.path.toArray⟩) ∧ w'.cell? ⟨wr.heap.size, 1, none⟩ = some (.int .i64 x.kind) ∧ w'.cell? ⟨wr.heap.size, 2, none⟩ = some (.slice da x.data.length dc))
        (first | exact HK.out _ HBox.out.drew | exact HK.out _ (F2.out.blk HBox.out (fun h => h)) | exact HK.out _ ((F2.out.blk HBox.out (fun h => h)).alloc _) | exact HK.out _ HBox3.out)
        ((first
          | (go_at_call 29; refine (sign_any _ x.kind).mono ?_; rintro e w1' ⟨rfl, rfl⟩)
          | (go_at_call 30; refine (Itoa_any _ x.data.length (by omega) ((HT.out.fr HBW.out.f).fr (Fr.refl _ _).drew)).mono ?_; rintro e w2 ⟨rfl, f2⟩; have F2 : Hid (Fr (fun _ => False) W0 w2) := (Fr.refl _ W0).drew.trans f2 (fun _ h => h.elim); clear f2)
          | (go_at_call 18; refine (line_new (HBW.out.fr F2.out) [signL x.kind, x.path, decL x.data.length] (by simp) (by have := HJl.out; simp [lineL, Lib.join_one]; omega)).mono ?_; rintro e w3 ⟨rfl, hp⟩; have HP3 := hid hp; have HBox3 : Hid (Blk w3 wr.heap.size 36 [.string ⟨x.path.toArray⟩, .int .i64 x.kind, .slice da x.data.length dc]) := hp.blk ((F2.out.blk HBox.out (fun h => h)).alloc _) HNe.out.1 HNe.out.2)))
      all_goals
        obtain ⟨v3, hB3⟩ := ((HBW.out.fr F2.out).alloc _).post hp
        have HB3 := hid hB3
        have c3 := HBox3.out.cell 2
        simp only [List.getElem?_cons_zero, List.getElem?_cons_succ] at c3
        have HD := hid (data_any w3 bk _ x.data v3 da dc hB3.b (HV0.out.src.fr hB3.f) (by have := HJl.out; simp [lineL, Lib.join_one]; omega))
        have HEnd : Hid (lineL [[116, 114, 101, 101]] ++ out ++ lineL [signL x.kind, x.path, decL x.data.length] ++ x.data ++ [10] = lineL [[116, 114, 101, 101]] ++ (L.take (i + 1)).flatMap entP) := by
          unfold Hid; rw [HStep.out]; simp [entP]
        rw [HEnd.out] at HD
        clear hp HP3 HBox HBox3 HBr HBW hB3 HK HJl hj HStep hout hlen c0 c1 c2 F2 HNe HEnd HV0
        go_wp2_with fail
        refine HD.out.mono ?_
        rintro e w4 ⟨rfl, hp4⟩
        obtain ⟨v4, hB4⟩ := HB3.out.post hp4
        have HB4 := hid hB4
        clear hp4 hB4 HB3 HD c3
        go_wp2
        exact ⟨⟨i + 1, v4, by omega, by go_num, HB4.out⟩, by simp [intOf]; omega⟩
    · obtain rfl : i = L.length := by omega
      have hkn : ¬ ((L.length : Nat) : Int) < ((L.length : Nat) : Int) := by omega
      have hlen := HLen.out L.length
      have HC := hid (line_new HBr.out [[101, 110, 100]] (by simp) (by simp [Lib.join_one, lineL] at hlen ⊢; omega))
      have HEnd : Hid (lineL [[116, 114, 101, 101]] ++ (L.take L.length).flatMap entP ++ lineL [[101, 110, 100]] = bodyP L) := by
        unfold Hid; rw [List.take_length]; rfl
      rw [HEnd.out] at HC
      clear HEnd hlen HLen
      go_wp2_with fail
      refine HC.out.mono ?_
      rintro e w4 ⟨rfl, hp4⟩
      obtain ⟨v4, hB4⟩ := (HBr.out.alloc _).post hp4
      have HB4 := hid hB4
      clear hp4 hB4 HC HBr
      go_wp2
      go_end0
      exact ⟨rfl, v4, HB4.out⟩

set_option maxRecDepth 100000 in
set_option maxHeartbeats 1000000 in
/-- Bytes: a tree's bytes in a row of the call's own; nothing, if it is none. -/
theorem bytes_any (w : World) (ad : Option Addr) (L : List Ent) (cap : Nat) (hL : Ents w ad L) (hc : L.length ≤ cap) (hT : Tab w) :
    Calls Tryz.prog 10 #[.slice ad L.length cap] w fun e w' => ∃ v, e = .returned v ∧ w'.ownsRow w.heap.size 5 1 v (bytesL L).length (bs (bytesL L)) ∧ Fr (fun _ => False) w w' := by
  have HR := hid (right_any w ad L cap hL hc)
  have HL := hid hL
  have HT := hid hT
  clear hL hT
  cases hr : rightB L with
  | false =>
    rw [hr] at HR
    have HE : Hid (bytesL L = []) := by unfold Hid bytesL; rw [hr]; rfl
    go_enter Tryz.func10, Tryz.ntmps10
    go_wp2_with (go_at_call 11; refine HR.out.mono ?_; rintro e w1 ⟨rfl, f1⟩; have F1 := hid f1)
    go_ret
    exact ⟨_, rfl, by rw [HE.out]; exact World.ownsRow_nil _ _ _ _, F1.out⟩
  | true =>
    rw [hr] at HR
    have HE : Hid (bodyP L = bytesL L) := by unfold Hid bytesL; rw [hr, bodyP_eq L (right_one L hr).2]; rfl
    have HRt := hid hr
    clear hr
    go_enter Tryz.func10, Tryz.ntmps10
    go_wp2_with (go_at_call 11; refine HR.out.mono ?_; rintro e w1 ⟨rfl, f1⟩; have F1 := hid f1; clear f1)
    have HB : Hid (BW w1 (w1.alloc (.cells #[.slice none 0 0] 43)) w1.heap.size [] (.slice none 0 0)) :=
      ⟨⟨Blk.new w1 43 [.slice none 0 0], World.ownsRow_nil _ _ _ _⟩, (Fr.refl _ w1).alloc _, Nat.le_refl _⟩
    have HC := hid (lay_any w1 _ w1.heap.size _ ad L cap HB.out (HL.out.fr F1.out) HRt.out (HT.out.fr F1.out))
    rw [HE.out] at HC
    go_wp2_with fail
    refine HC.out.mono ?_
    rintro e w2 ⟨rfl, v2, hB2⟩
    have c2 := hB2.b.blk.cell 0
    simp only [List.getElem?_cons_zero] at c2
    have HO := hid (owns_base hB2.b.own (show w.heap.size ≤ w1.heap.size + 1 by have := F1.out.size; omega))
    have HF := hid (F1.out.trans hB2.f (fun _ h => h.elim))
    clear hB2 HC HB
    go_wp2
    go_ret
    exact ⟨v2, rfl, HO.out, HF.out⟩

end Go.Proofs.YtipppagkajcheaaGreatDoor.Tr
