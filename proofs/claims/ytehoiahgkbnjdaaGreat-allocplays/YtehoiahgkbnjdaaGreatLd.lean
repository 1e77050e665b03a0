
/- load: what stands in the used places is read, summed, and taken in. -/
import Derived.Test.YtehoiahgkbnjdaaGreatLod
import Derived.Test.YtehoiahgkbnjdaaGreatRd
namespace Go.Proofs.YtehoiahgkbnjdaaGreat.Wl
open Go.RowKit Dk

def placesOf (D : Dsk) (f u : Nat) : List Sec := (List.range u).map fun k => sec D.N (f + 1 + k)
theorem placesOf_length (D : Dsk) (f u : Nat) : (placesOf D f u).length = u := by simp [placesOf]
theorem OwnL.pokes {G : Nat → Prop} {w : World} {l p bl bt b : Nat} {D : Dsk} {L : Lg} (h : OwnL G w l p bl bt D L) (hb : G b) (o : Nat) (vs : List Value) : OwnL G (w.setCells b o vs) l p bl bt D L := by
  have hgg := h.g b hb
  refine ⟨h.r.of_same (Dk.setCells_ne vs o w (Ne.symm hgg.1)) (Dk.setCells_ne vs o w (Ne.symm hgg.2.1)) (Dk.setCells_ne vs o w (Ne.symm hgg.2.2)), ?_, h.g, h.n⟩
  exact own_same h.d (by rw [(setCells_misc b vs o w).2.2.2]; exact Nat.le_refl _) (fun k hk _ => Dk.setCells_ne vs o w (fun e => hk (.inl (by rw [e]; exact hb))))

structure LdMid (G : Nat → Prop) (w wr : World) (l p bl bt : Nat) (D : Dsk) (L : Lg) (S : List Sec) (k : Nat) : Prop where
  o : OwnL (fun j => G j ∨ j = w.heap.size) wr l p bl bt D L
  kp : Kp G w wr
  b : Blk wr w.heap.size 81 (secsC (S.take k ++ List.replicate (L.u - k) zeros))
theorem LdMid.next {G : Nat → Prop} {w wr W : World} {l p bl bt : Nat} {D : Dsk} {L : Lg} {S : List Sec} {k : Nat} (h : LdMid G w wr l p bl bt D L S k) (hS : ∀ s ∈ S, s.length = 128) (hl : S.length = L.u) (hk : k < S.length) (f : Nw wr W) (s : Sec) (hs : S[k] = s) :
    LdMid G w (W.setCells w.heap.size (k * 128) (bs s)) l p bl bt D L S (k + 1) := by
  subst hs
  have hlen : (S.take k).length = k := by rw [List.length_take]; omega
  have hb := Fr.blk f h.b id
  have e0 : List.replicate (L.u - k) zeros = zeros :: List.replicate (L.u - (k + 1)) zeros := by rw [← List.replicate_succ]; congr 1; omega
  refine ⟨(h.o.nw f).pokes (.inr rfl) _ _, (Kp.trans h.kp f.kp).setCells (.inr (Nat.le_refl _)) _ _, ?_⟩
  have hA : ∀ x ∈ S.take k, x.length = 128 := fun x hx => hS x (List.mem_of_mem_take hx)
  have hsl : S[k].length = 128 := hS _ (List.getElem_mem hk)
  rw [e0] at hb
  have hf := secsC_fill (S.take k) (List.replicate (L.u - (k + 1)) zeros) zeros S[k] hA zeros_length hsl
  rw [hlen] at hf
  have := Blk.setCells (bs S[k]) (k * 128) hb (by
    rw [secsC_length _ (fun x hx => by
      rcases List.mem_append.1 hx with hx | hx
      · exact hA x hx
      · rcases List.mem_cons.1 hx with rfl | hx
        · exact zeros_length
        · rw [List.eq_of_mem_replicate hx]; exact zeros_length), bs_length, hsl, List.length_append, hlen]
    simp; omega)
  rw [Nat.mul_comm k 128, hf] at this
  rw [Nat.mul_comm k 128, List.take_succ_eq_append_getElem hk, List.append_assoc]
  exact this

theorem store_mid (w : World) (b o : Nat) (cs : List Value) (n : Nat) (hn : cs.length = n) (ht : w.there b o n) (h1 : ∀ v ∈ cs, v.oneCell' = true) : (storeCells ⟨b, o, none⟩ cs).run Tryz.prog w = .ok () (w.setCells b o cs) := by
  subst hn
  have := run_storeCells_cells (P := Tryz.prog) b o cs 0 w (fun j hj => by simpa using (ht j hj).1) (fun j hj => by simpa using (ht j hj).2) h1
  simpa using this
theorem blk_there {w : World} {b : Nat} {t : TypeId} {s : Sec} (h : Blk w b t (bs s)) (hs : s.length = 128) : w.there b 0 128 := h.there 0 128 (by rw [bs_length, hs]; omega)

set_option maxRecDepth 100000 in
set_option maxHeartbeats 8000000 in
theorem load_any {G : Nat → Prop} {w : World} {l p bl bt : Nat} {D : Dsk} {L : Lg} (h : OwnL G w l p bl bt D L) (hup : D.up = true) (S : List Sec) (hS : S = placesOf D L.f L.u) (L' : Lg) (E : Int)
    (hc : (S.foldl upd beg ≠ L.p ∧ E = 46 ∧ L' = L) ∨ (S.foldl upd beg = L.p ∧ E = 0 ∧ ∃ ms, S = flat ms ∧ (∀ m ∈ ms, OkRow L m) ∧ L' = { L with lg := ms.foldl merge L.lg } ∧ L.lg.length ≤ 255)) :
    Calls Tryz.prog 45 #[pv l] w fun x w' => x = .returned (.int .i64 E) ∧ OwnL G w' l p bl bt D L' ∧ Kp G w w' := by
  have hz := zero66
  have hu := h.r.ok.u
  have hn2 := h.r.ok.n2
  have hSl : S.length = L.u := by rw [hS, placesOf_length]
  have HSat : Hid (∀ k (hk : k < S.length), S[k] = sec D.N (L.f + 1 + k)) := fun k hk => by simp [hS, placesOf]
  have HSs : Hid (∀ s ∈ S, s.length = 128) := fun s hs => by
    rw [hS] at hs
    obtain ⟨k, hk, rfl⟩ := List.mem_map.1 hs
    have hk' := List.mem_range.1 hk
    have := h.r.ok.fz
    have := h.r.ok.n1
    exact sec_length _ D.n _ h.d.ok.lN (by rw [h.n]; omega)
  have c5 : w.cell? ⟨l, 5, none⟩ = some (.int .i64 (L.u : Int)) := by simpa [Lg.cells] using h.r.hl.cell 5
  have hmk := make95 w L.u (by omega)
  have HM0 : Hid (LdMid G w (w.alloc (.cells (secsC (List.replicate L.u zeros)).toArray 81)) l p bl bt D L S 0) :=
    ⟨h.more _, (Fr.refl _ w).alloc _, by simpa using Blk.new w 81 (secsC (List.replicate L.u zeros))⟩
  have HSum := hid (sum_any (w.alloc (.cells (secsC (List.replicate L.u zeros)).toArray 81)) none [] 0 (by simp) (Src.nil _ _))
  have HB : Hid ((upd beg [] : Nat) = beg) := rfl
  rw [HB.out] at HSum
  simp only [List.length_nil] at HSum
  have HPl : Hid (∀ W k, k ≤ 255 → Calls Tryz.prog 69 #[rgV L.f L.n L.z, .int .i64 ((k : Nat) : Int)] W fun x w' => x = .returned (.int .i64 ((L.f + 1 + k : Nat) : Int)) ∧ Nw W w') := fun W k hk =>
    place_any W L.f L.n k L.z (by have := h.r.ok.fz; have := h.r.ok.z; omega) (by omega)
  have HFz : Hid (∀ k, k < L.u → L.f + 1 + k < D.n) := fun k hk => by
    have := h.r.ok.fz
    have := h.r.ok.n1
    rw [h.n]; omega
  have HUp := hid hup
  have HC := hid hc
  clear h hup hc hS
  generalize hg : secsC (List.replicate L.u zeros) = zs at *
  clear hg
  have hB2 : ((upd beg ([] : Sec) : Nat) : Int) = (beg : Int) := rfl
  unfold rgV at HPl
  go_enter Tryz.func45, Tryz.ntmps45
  go_wp2_with fail
  refine HSum.out.mono ?_
  rintro x w1 ⟨rfl, rfl⟩
  clear HSum hmk c5 hB2
  go_wp2_with fail
  go_loopw [4, 17] (fun v i wr => ∃ k, k ≤ L.u ∧ i = .int .i64 (k : Int) ∧ v = .int .u64 (((S.take k).foldl upd beg : Nat) : Int) ∧ LdMid G w wr l p bl bt D L S k) (fun _ i _ => L.u - (intOf i).toNat)
  case atStart => exact ⟨0, Nat.zero_le _, rfl, rfl, HM0.out⟩
  case round =>
    obtain ⟨k, hk, rfl, rfl, hM⟩ := hrel
    have HM := hid hM
    clear hM HM0
    by_cases hlt : k < L.u
    · have hk1 : (k : Int) < (L.u : Int) := by omega
      have hk0 : (0 : Int) ≤ (k : Int) := Int.natCast_nonneg _
      have HlS : Hid (k < S.length) := by unfold Hid; omega
      have HPk : Hid (∀ W, _) := fun W => HPl.out W k (by omega)
      have HRd : Hid (∀ W, Nw wr W → Calls Tryz.prog 42 #[pv p, .int .i64 ((L.f + 1 + k : Nat) : Int)] W fun x w' => x = .returned (.tuple #[arrV (sec D.N (L.f + 1 + k)), .int .i64 0]) ∧ Nw W w') := fun W f =>
        readSector_ok (HM.out.o.nw f).d (L.f + 1 + k) HUp.out (HFz.out k hlt)
      have HSk : Hid (S[k]'HlS.out = sec D.N (L.f + 1 + k)) := HSat.out k HlS.out
      have Hsl : Hid ((sec D.N (L.f + 1 + k)).length = 128) := by unfold Hid; rw [← HSk.out]; exact HSs.out _ (List.getElem_mem _)
      have HTk : Hid ((S.take (k + 1)).foldl upd beg = upd ((S.take k).foldl upd beg) (sec D.N (L.f + 1 + k))) := by
        unfold Hid
        rw [List.take_succ_eq_append_getElem HlS.out, List.foldl_append, HSk.out]
        rfl
      have HNx : Hid (∀ W, Nw wr W → LdMid G w (W.setCells w.heap.size (k * 128) (bs (sec D.N (L.f + 1 + k)))) l p bl bt D L S (k + 1)) := fun W f => HM.out.next HSs.out hSl HlS.out f _ HSk.out
      have HLt : Hid ((S.take k).foldl upd beg < 18446744073709551616) := by
        have : ∀ (a : List Sec) (s : Nat), s < 18446744073709551616 → a.foldl upd s < 18446744073709551616 := fun a => by
          induction a with
          | nil => exact fun s h => h
          | cons x r ih => exact fun s h => ih _ (upd_lt s x h)
        exact this _ _ beg_lt
      have HBlt : Hid (w.heap.size < wr.heap.size) := HM.out.b.lt
      have HTh : Hid (∀ W, Nw wr W → W.there w.heap.size (k * 128) 128) := fun W f => by
        refine (Fr.blk f HM.out.b id).there _ _ ?_
        rw [secsC_length _ (fun x hx => by
          rcases List.mem_append.1 hx with hx | hx
          · exact HSs.out x (List.mem_of_mem_take hx)
          · rw [List.eq_of_mem_replicate hx]; exact zeros_length), List.length_append, List.length_take, List.length_replicate]
        have := HlS.out
        omega
      have c0 : wr.drew.cell? ⟨l, 0, none⟩ = some (pv p) := by simpa [Lg.cells] using HM.out.o.drew.r.hl.cell 0
      have c1 : wr.drew.cell? ⟨l, 1, none⟩ = some (.int .i64 (L.f : Int)) := by simpa [Lg.cells] using HM.out.o.drew.r.hl.cell 1
      have c2 : wr.drew.cell? ⟨l, 2, none⟩ = some (.int .i64 (L.n : Int)) := by simpa [Lg.cells] using HM.out.o.drew.r.hl.cell 2
      have c3 : wr.drew.cell? ⟨l, 3, none⟩ = some (.int .i64 (L.z : Int)) := by simpa [Lg.cells] using HM.out.o.drew.r.hl.cell 3
      have HD : Hid (Nw wr wr.drew) := (Fr.refl _ wr).drew
      have Hcell : Hid (∀ W, Nw wr.drew W → W.cell? ⟨l, 0, none⟩ = some (pv p) ∧ W.cell? ⟨l, 1, none⟩ = some (.int .i64 (L.f : Int)) ∧ W.cell? ⟨l, 2, none⟩ = some (.int .i64 (L.n : Int)) ∧ W.cell? ⟨l, 3, none⟩ = some (.int .i64 (L.z : Int))) := fun W f => by
        have hl := HM.out.o.drew.r.hl.lt
        rw [cell_fr f hl, cell_fr f hl, cell_fr f hl, cell_fr f hl]
        exact ⟨c0, c1, c2, c3⟩
      have hlen : (bs (sec D.N (L.f + 1 + k))).length = 128 := by rw [bs_length]; exact Hsl.out
      have h66 : (Tryz.prog.info? 81).map (·.size) = some (bs (sec D.N (L.f + 1 + k))).length := by rw [hlen]; exact size66
      have hu66 := Tryz.underlying81
      have hone : ∀ v ∈ bs (sec D.N (L.f + 1 + k)), v.oneCell' = true := bs_one _
      clear HM HSat HSk HlS HPl HFz HC
      generalize hT2 : (S.take (k + 1)).foldl upd beg = T2 at *
      have HT2 := hid hT2
      clear hT2
      generalize (S.take k).foldl upd beg = T1 at *
      generalize L.f + 1 + k = N at *
      generalize sec D.N N = s at *
      unfold arrV at HRd
      go_wp2_with fail
      go_region_held3 (fun w' => w'.cell? ⟨l, 0, none⟩ = some (pv p) ∧ w'.cell? ⟨l, 1, none⟩ = some (.int .i64 (L.f : Int)) ∧ w'.cell? ⟨l, 2, none⟩ = some (.int .i64 (L.n : Int)) ∧ w'.cell? ⟨l, 3, none⟩ = some (.int .i64 (L.z : Int)))
        (first
          | exact ⟨c0, c1, c2, c3⟩
          | exact Hcell.out _ g3
          | exact Hcell.out _ (g3.alloc _)
          | exact Hcell.out _ (g3.setCells (.inr hge) _ _)
          | exact Hcell.out _ ((g3.alloc _).setCells (.inr hge) _ _)
          | exact Hcell.out _ g2
          | exact Hcell.out _ (g2.alloc _)
          | exact Hcell.out _ ((Fr.refl _ _).alloc _))
        (first
          | (go_at_call 69; refine (HPk.out _).mono ?_; rintro x w2 ⟨rfl, f2⟩; first | have g2 : Nw wr.drew w2 := f2 | have g2 : Nw wr.drew w2 := Nw.tr ((Fr.refl _ _).alloc _) f2)
          | (go_at_call 42; refine (HRd.out _ (by first | exact Nw.tr HD.out g2 | exact (Nw.tr HD.out g2).alloc _)).mono ?_; rintro x w3 ⟨rfl, f3⟩
             first
               | (have hX : Blk w3 wr.heap.size 81 (bs zeros) := Fr.blk f3 (Fr.blk f2 (Blk.new wr.drew 81 (bs zeros)) id) id
                  have hT : w3.there wr.heap.size 0 128 := blk_there hX zeros_length
                  have g3 : Nw wr.drew w3 := Nw.tr g2 f3
                  have hge : wr.drew.heap.size ≤ wr.heap.size := Nat.le_refl _
                  have HX : Hid (Nw wr (w3.setCells wr.heap.size 0 (bs s)) ∧ Blk (w3.setCells wr.heap.size 0 (bs s)) wr.heap.size 81 (bs s) ∧ wr.heap.size ≤ wr.heap.size) := ⟨Fr.setCells (Nw.tr HD.out g3) (.inr (Nat.le_refl _)) _ _, Blk.all hX zeros_length Hsl.out, Nat.le_refl _⟩
                  clear hX)
               | (have hX : Blk w3 w2.heap.size 81 (bs zeros) := Fr.blk f3 (Blk.new w2 81 (bs zeros)) id
                  have hT : w3.there w2.heap.size 0 128 := blk_there hX zeros_length
                  have g3 : Nw wr.drew w3 := Nw.tr (g2.alloc _) f3
                  have hge : wr.drew.heap.size ≤ w2.heap.size := g2.size
                  have HX : Hid (Nw wr (w3.setCells w2.heap.size 0 (bs s)) ∧ Blk (w3.setCells w2.heap.size 0 (bs s)) w2.heap.size 81 (bs s) ∧ wr.heap.size ≤ w2.heap.size) := ⟨Fr.setCells (Nw.tr HD.out g3) (.inr g2.size) _ _, Blk.all hX zeros_length Hsl.out, g2.size⟩
                  clear hX)
               | (have hX : Blk (w3.alloc (.cells (bs zeros).toArray 81)) w3.heap.size 81 (bs zeros) := Blk.new w3 81 (bs zeros)
                  have hT : (w3.alloc (.cells (bs zeros).toArray 81)).there w3.heap.size 0 128 := blk_there hX zeros_length
                  have g3 : Nw wr.drew w3 := Nw.tr g2 f3
                  have hge : wr.drew.heap.size ≤ w3.heap.size := g3.size
                  have HX : Hid (Nw wr ((w3.alloc (.cells (bs zeros).toArray 81)).setCells w3.heap.size 0 (bs s)) ∧ Blk ((w3.alloc (.cells (bs zeros).toArray 81)).setCells w3.heap.size 0 (bs s)) w3.heap.size 81 (bs s) ∧ wr.heap.size ≤ w3.heap.size) := ⟨Fr.setCells (Fr.alloc (Nw.tr HD.out g3) _) (.inr g3.size) _ _, Blk.all hX zeros_length Hsl.out, g3.size⟩
                  clear hX)))
      all_goals
        clear hT g3 hge f3 g2 f2 c0 c1 c2 c3
        first
          | (obtain ⟨W4, hW4⟩ : ∃ W, W = w3.setCells wr.heap.size 0 (bs s) := ⟨_, rfl⟩
             rw [← hW4] at HX ⊢)
          | (obtain ⟨W4, hW4⟩ : ∃ W, W = w3.setCells w2.heap.size 0 (bs s) := ⟨_, rfl⟩
             rw [← hW4] at HX ⊢)
          | (obtain ⟨W4, hW4⟩ : ∃ W, W = (w3.alloc (.cells (bs zeros).toArray 81)).setCells w3.heap.size 0 (bs s) := ⟨_, rfl⟩
             rw [← hW4] at HX ⊢)
        clear hW4
        obtain ⟨hx1, hx2, hx3⟩ := HX.out
        have HX1 := hid hx1
        have HX2 := hid hx2
        have Hne := hid (Nat.ne_of_gt (Nat.lt_of_lt_of_le HBlt.out hx3))
        clear HX hx1 hx2 hx3
        first
          | (obtain ⟨b6, hb6⟩ : ∃ b, b = w2.heap.size := ⟨_, rfl⟩
             rw [← hb6] at HX2 Hne ⊢)
          | (obtain ⟨b6, hb6⟩ : ∃ b, b = w3.heap.size := ⟨_, rfl⟩
             rw [← hb6] at HX2 Hne ⊢)
          | (obtain ⟨b6, hb6⟩ : ∃ b, b = wr.heap.size := ⟨_, rfl⟩
             rw [← hb6] at HX2 Hne ⊢)
        clear hb6
        have HT5 := hid (HTh.out W4 HX1.out)
        have HN5 := hid (HNx.out W4 HX1.out)
        have HB5 := hid (HX2.out.setCells_ne Hne.out (k * 128) (bs s))
        have HUd := hid (update_any (W4.setCells w.heap.size (k * 128) (bs s)) T1 HLt.out (some ⟨b6, 0, none⟩) s 128 (by rw [Hsl.out]; omega) (Src.of (HB5.out.range 0 _ (by simp))))
        rw [Hsl.out, ← HTk.out] at HUd
        have hst := store_mid W4 w.heap.size (k * 128) (bs s) 128 hlen HT5.out hone
        clear HNx HTh HX1 HRd HPk Hcell HD HTk HLt HBlt
        generalize W4.setCells w.heap.size (k * 128) (bs s) = W5 at *
        go_wp2_with (first
          | (refine wpList_load_mid (by rfl) 81 _ (by rfl) b6 0 (by rfl) (bs s) _ (HX2.out.range 0 _ (by simp)) Tryz.underlying81 rfl (by rw [size66, bs_length, Hsl.out]) ?_))
        refine HUd.out.mono ?_
        rintro x w6 ⟨rfl, rfl⟩
        clear HUd
        go_wp2
        exact ⟨⟨k + 1, by omega, by simp, by rw [HT2.out], HN5.out⟩, by simp [intOf]; omega⟩
    · obtain rfl : k = L.u := by omega
      have hk1 : ¬ (L.u : Int) < (L.u : Int) := by omega
      have HtS : Hid (S.take L.u = S) := List.take_of_length_le (by omega)
      have HB5 : Hid (Blk wr w.heap.size 81 (secsC S)) := by
        have := HM.out.b
        rw [HtS.out, Nat.sub_self, List.replicate_zero, List.append_nil] at this
        exact this
      have c6 : wr.cell? ⟨l, 6, none⟩ = some (.int .u64 (L.p : Int)) := by simpa [Lg.cells] using HM.out.o.r.hl.cell 6
      rw [HtS.out]
      have HO := hid HM.out.o
      have HK := hid HM.out.kp
      clear HM
      rcases HC.out with ⟨a1, rfl, rfl⟩ | ⟨a1, rfl, ms, rfl, a3, rfl, a4⟩
      · have hne : (((S.foldl upd beg : Nat) : Int) != (L'.p : Int)) = true := by
          simp only [bne_iff_ne, ne_eq]
          exact fun e => a1 (by exact_mod_cast e)
        clear HC a1
        generalize S.foldl upd beg = T at *
        go_wp2
        go_ret
        exact ⟨rfl, HO.out.less (fun _ hk => .inl hk), HK.out⟩
      · have heq : (((flat ms).foldl upd beg : Nat) : Int) = (L.p : Int) := by rw [a1]
        have HTk := hid (takeRows_ok HO.out ms a3 w.heap.size (.inr rfl) HB5.out (by omega) (by omega))
        rw [hSl] at HTk
        rw [heq]
        clear HC a1 heq
        go_wp2_with fail
        refine HTk.out.mono ?_
        rintro x w2 ⟨rfl, o2, k2⟩
        have HO2 := hid (o2.less (G' := G) (fun _ hk => .inl hk))
        have HK2 : Hid (Kp G w w2) := Kp.trans HK.out (Kp.less k2 (fun _ hk => .inl hk))
        clear o2 k2 HTk
        go_wp2
        go_ret
        exact ⟨rfl, HO2.out, HK2.out⟩

end Go.Proofs.YtehoiahgkbnjdaaGreat.Wl
