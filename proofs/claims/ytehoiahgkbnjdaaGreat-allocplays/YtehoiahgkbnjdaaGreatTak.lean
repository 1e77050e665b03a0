
/- takeRows, of rows that are right. -/
import Derived.Test.YtehoiahgkbnjdaaGreatHof
import Derived.Test.YtehoiahgkbnjdaaGreatCom
namespace Go.Proofs.YtehoiahgkbnjdaaGreat.Wl
open Go.RowKit Dk

/-- A row as it stands in the room. -/
def rowS (m : SMap) : List Sec := lst (m.map (·.1)) :: m.map (·.2)
def flat (ms : List SMap) : List Sec := ms.flatMap rowS
theorem flat_cons (m : SMap) (r : List SMap) : flat (m :: r) = rowS m ++ flat r := rfl
theorem flat_snoc (d : List SMap) (m : SMap) : flat (d ++ [m]) = flat d ++ rowS m := by simp [flat]
theorem flat_append (d r : List SMap) : flat (d ++ r) = flat d ++ flat r := by simp [flat]
theorem rowS_length (m : SMap) : (rowS m).length = m.length + 1 := by simp [rowS]
structure OkRow (L : Lg) (m : SMap) : Prop where
  ne : m ≠ []
  le : m.length ≤ 60
  srt : Srt m
  home : ∀ q ∈ m, L.home q.1
  sec : ∀ q ∈ m, q.2.length = 128
theorem OkRow.rows {L : Lg} {m : SMap} (h : OkRow L m) : ∀ s ∈ rowS m, s.length = 128 := fun s hs => by
  rcases List.mem_cons.1 hs with rfl | hs
  · exact lst_length _ (by simpa using h.le)
  · obtain ⟨q, hq, rfl⟩ := List.mem_map.1 hs
    exact h.sec q hq
theorem flat_secs {L : Lg} {ms : List SMap} (h : ∀ m ∈ ms, OkRow L m) : ∀ s ∈ flat ms, s.length = 128 := fun s hs => by
  obtain ⟨m, hm, hs⟩ := List.mem_flatMap.1 hs
  exact (h m hm).rows s hs
theorem flat_nil {ms : List SMap} (h : (flat ms).length = 0) : ms = [] := by
  cases ms with
  | nil => rfl
  | cons m r => rw [flat_cons, List.length_append, rowS_length] at h; omega
theorem OkRow.lst {L : Lg} {m : SMap} (h : OkRow L m) (hz : L.z ≤ 1024) : isLst (lst (m.map (·.1))) = true ∧ homesIn (lst (m.map (·.1))) = m.map (·.1) := by
  have h1 : ∀ k ∈ m.map (·.1), k < 65536 := fun k hk => by
    obtain ⟨q, hq, rfl⟩ := List.mem_map.1 hk
    have := (h.home q hq).1
    omega
  refine ⟨isLst_lst _ (by simpa using h.ne) (by simpa using h.le) h1 ?_, homesIn_lst _ (by simpa using h.le) h1⟩
  exact List.pairwise_map.2 h.srt

/-- The cells of sectors that lie one behind the other. -/
def secsC (S : List Sec) : List Value := S.flatMap bs
theorem secsC_at : ∀ (S : List Sec), (∀ s ∈ S, s.length = 128) → ∀ (k : Nat) (hk : k < S.length), ((secsC S).drop (128 * k)).take 128 = bs S[k]
  | s :: r, h, 0, _ => by
    have e : (bs s).length = 128 := by rw [bs_length]; exact h s (by simp)
    have e2 : secsC (s :: r) = bs s ++ secsC r := rfl
    rw [e2, Nat.mul_zero, List.drop_zero, List.take_append_of_le_length (by omega), ← e, List.take_length]
    rfl
  | s :: r, h, k + 1, hk => by
    have e : (bs s).length = 128 := by rw [bs_length]; exact h s (by simp)
    have e2 : secsC (s :: r) = bs s ++ secsC r := rfl
    have e3 : 128 * (k + 1) = (bs s).length + 128 * k := by omega
    rw [e2, e3, List.drop_append]
    simp only [List.getElem_cons_succ]
    have e4 : (bs s).drop ((bs s).length + 128 * k) = [] := List.drop_eq_nil_of_le (by omega)
    rw [e4, List.nil_append, Nat.add_sub_cancel_left]
    exact secsC_at r (fun x hx => h x (by simp [hx])) k (by simpa using hk)
theorem sec_range {w : World} {g : Nat} {S : List Sec} (hb : Blk w g 81 (secsC S)) (hS : ∀ s ∈ S, s.length = 128) (k : Nat) (hk : k < S.length) (s : Sec) (hs : S[k] = s) : w.rangeAt g (128 * k) (bs s) := by
  subst hs
  refine hb.range _ _ ?_
  rw [bs_length, hS _ (List.getElem_mem hk)]
  exact secsC_at S hS k hk
theorem merge_take (m1 m : SMap) (k : Nat) (h : k < m.length) : merge m1 (m.take (k + 1)) = ins m[k].1 m[k].2 (merge m1 (m.take k)) := by
  rw [List.take_succ_eq_append_getElem h, merge, List.foldl_append]
  rfl
theorem merge_len : ∀ (m2 m1 : SMap), Srt m1 → (merge m1 m2).length ≤ m1.length + m2.length
  | [], m1, _ => Nat.le_refl _
  | q :: r, m1, h => by
    have e : merge m1 (q :: r) = merge (ins q.1 q.2 m1) r := rfl
    have := merge_len r (ins q.1 q.2 m1) (ins_srt _ _ _ h)
    have := length_ins q.1 q.2 m1 h
    rw [e, List.length_cons]
    split at this <;> omega
theorem fold_len : ∀ (d : List SMap) (m1 : SMap), Srt m1 → (d.foldl merge m1).length ≤ m1.length + (flat d).length
  | [], m1, _ => Nat.le_refl _
  | m :: r, m1, h => by
    have h1 := fold_len r (merge m1 m) (merge_srt m m1 h)
    have h2 := merge_len m m1 h
    rw [flat_cons, List.length_append, rowS_length, List.foldl_cons]
    omega
def lenOf : Value → Nat
  | .slice _ n _ => n
  | _ => 0
theorem size66' : ∀ w, (sizeOf 81).run Tryz.prog w = .ok 128 w := fun w => by kernel_rfl
theorem elem95 : Tryz.prog.elem 109 = 81 := by kernel_rfl
theorem slice95 (W : World) (g o n i : Nat) (hi : i ≤ n) : (Instr.sliceAt 109 (.slice (some ⟨g, o, none⟩) n n) (some (.int .i64 (i : Int))) none none).run Tryz.prog W = .ok (.slice (if n = i then some ⟨g, o, none⟩ else some ⟨g, o + i * 128, none⟩) (n - i) (n - i)) W := by
  rw [run_sliceAt_slice W 109 _ _ _ _ (by rw [elem95]; exact Tryz.underlying109), run_slice_l W 109 _ n n (by rw [elem95]; exact Tryz.underlying109) .i64 i (by omega) (by omega), elem95, size66']
  simp [Result.andThen, sliced, Addr.add_mid]

/-- One more is logged. -/
theorem OwnL.log1 {G : Nat → Prop} {w : World} {l p bl bt : Nat} {D : Dsk} {L : Lg} (h : OwnL G w l p bl bt D L) (k : Nat) (hk : L.home k) (b : Sec) (hb : b.length = 128) (hm : L.lg.length < 900000) :
    ∃ w3, (Instr.mapUpdate 89 (.map (some bl)) (.int .i64 (k : Int)) (.agg (bs b).toArray)).run Tryz.prog w = .ok () w3 ∧ OwnL G w3 l p bl bt D { L with lg := ins k b L.lg } ∧ Fr (fun j => j = bl) w w3 := by
  have hk' : k < 1048576 := by have := h.r.ok.z; have := hk.1; omega
  obtain ⟨w3, hu, hm3, hg3⟩ := upd57 h.r.ml k hk' b hb (by omega)
  have f3 : Fr (fun j => j = bl) w w3 := (Fr.refl _ w).grown hg3 (fun k hk => .inl (by simpa using hk.symm))
  obtain ⟨o3, k3⟩ := h.turnL hm3 (fun q hq => by
    rcases ins_mem k b L.lg q hq with rfl | hq
    · exact hk
    · exact h.r.ok.lh q hq) f3
  exact ⟨w3, hu, o3, f3⟩

def TakInv (G : Nat → Prop) (w : World) (l p bl bt : Nat) (D : Dsk) (L : Lg) (ms : List SMap) (g : Nat) (v : Value) (wr : World) : Prop :=
  ∃ done rest ad, ms = done ++ rest ∧ v = .slice ad (flat rest).length (flat rest).length ∧ (rest ≠ [] → ad = some ⟨g, 128 * (flat done).length, none⟩) ∧ OwnL G wr l p bl bt D { L with lg := done.foldl merge L.lg } ∧ Kp G w wr
def RowInv (G : Nat → Prop) (w : World) (l p bl bt : Nat) (D : Dsk) (L : Lg) (lg0 m : SMap) (gh : Nat) (k : Nat) (wr : World) : Prop :=
  OwnL G wr l p bl bt D { L with lg := merge lg0 (m.take k) } ∧ Kp G w wr ∧ Blk wr gh 3 (intC (m.map (·.1))) ∧ gh ≠ bl

set_option maxRecDepth 100000 in
set_option maxHeartbeats 4000000 in
theorem takeRows_ok {G : Nat → Prop} {w : World} {l p bl bt : Nat} {D : Dsk} {L : Lg} (h : OwnL G w l p bl bt D L) (ms : List SMap) (hms : ∀ m ∈ ms, OkRow L m) (g : Nat) (hg : G g) (hb : Blk w g 81 (secsC (flat ms))) (hln : L.lg.length + (flat ms).length < 900000) (hfl : (flat ms).length < 1000) :
    Calls Tryz.prog 71 #[pv l, .slice (some ⟨g, 0, none⟩) (flat ms).length (flat ms).length] w fun x w' => x = .returned (.bool true) ∧ OwnL G w' l p bl bt D { L with lg := ms.foldl merge L.lg } ∧ Kp G w w' := by
  have H0 : Hid (TakInv G w l p bl bt D L ms g (.slice (some ⟨g, 0, none⟩) (flat ms).length (flat ms).length) w) := ⟨[], ms, _, rfl, rfl, fun _ => rfl, h, Fr.refl _ w⟩
  have HMS := hid hms
  have HG := hid hg
  have HB := hid hb
  have HS := hid (flat_secs hms)
  have HZ := hid h.r.ok
  have HSrt0 : Hid (Srt L.lg) := h.r.ml.2.1
  have HFL := hid hfl
  clear h hms hg hb hfl
  have HLn := hid hln
  clear hln
  generalize hv0 : Value.slice (some ⟨g, 0, none⟩) (flat ms).length (flat ms).length = v0 at *
  clear hv0
  go_enter Tryz.func71, Tryz.ntmps71
  go_wp2_with fail
  go_loopw [1] (fun v wr => TakInv G w l p bl bt D L ms g v wr) (fun v _ => lenOf v)
  case atStart => exact H0.out
  case round =>
    obtain ⟨done, rest, ad, hm, rfl, had, ho, hk⟩ := hrel
    have HO := hid ho
    have HK := hid hk
    have HM := hid hm
    clear ho hk hm H0
    cases rest with
    | nil =>
      have HE : Hid (ms = done) := by have := HM.out; rwa [List.append_nil] at this
      have e0 : (flat []).length = 0 := rfl
      rw [e0]
      go_wp2
      go_ret
      exact ⟨rfl, by rw [HE.out]; exact HO.out, HK.out⟩
    | cons m r =>
      obtain rfl := had (by simp)
      have HOk := hid (HMS.out m (by rw [HM.out]; simp))
      obtain ⟨o, ho⟩ : ∃ o, (flat done).length = o := ⟨_, rfl⟩
      obtain ⟨n, hn⟩ : ∃ n, (flat r).length = n := ⟨_, rfl⟩
      have hfr : (flat (m :: r)).length = m.length + 1 + n := by rw [flat_cons, List.length_append, rowS_length, hn]
      have HT : Hid (o + (m.length + 1 + n) < 1000) := by have := HFL.out; rw [HM.out, flat_append, List.length_append, hfr, ho] at this; exact this
      have hml : 0 < m.length := List.length_pos_iff.2 HOk.out.ne
      rw [hfr, ho]
      have hpos : (0 : Int) < ((m.length + 1 + n : Nat) : Int) := by omega
      have HBr := hid (Fr.blk HK.out HB.out (fun hn => hn HG.out))
      have hSm : flat ms = flat done ++ rowS m ++ flat r := by rw [HM.out, flat_append, flat_cons, List.append_assoc]
      have HAt : Hid (∀ k (hk : k < m.length + 1), ∃ hk2 : o + k < (flat ms).length, (flat ms)[o + k] = (rowS m)[k]'(by rw [rowS_length]; exact hk)) := fun k hk => by
        have hk2 : o + k < (flat ms).length := by rw [hSm, List.length_append, List.length_append, ho, rowS_length]; omega
        refine ⟨hk2, ?_⟩
        have : (flat ms)[o + k]? = (rowS m)[k]? := by
          rw [hSm, List.append_assoc, List.getElem?_append_right (by omega), ho, Nat.add_sub_cancel_left, List.getElem?_append_left (by rw [rowS_length]; exact hk)]
        rw [List.getElem?_eq_getElem hk2, List.getElem?_eq_getElem (by rw [rowS_length]; exact hk)] at this
        simpa using this
      have HR0 : Hid (wr.rangeAt g (128 * o) (bs (lst (m.map (·.1))))) := by
        obtain ⟨hk2, e⟩ := HAt.out 0 (by omega)
        exact sec_range HBr.out HS.out (o + 0) hk2 _ e
      have HRk : Hid (∀ W, Blk W g 81 (secsC (flat ms)) → ∀ k (hk : k < m.length), W.rangeAt g (128 * o + 128 + 128 * k) (bs (m[k]).2)) := fun W hW k hk => by
        obtain ⟨hk2, e⟩ := HAt.out (k + 1) (by omega)
        have := sec_range hW HS.out (o + (k + 1)) hk2 (m[k]).2 (by rw [e]; simp [rowS])
        rwa [show 128 * (o + (k + 1)) = 128 * o + 128 + 128 * k by omega] at this
      have HL0 := hid (lst_length (m.map (·.1)) (by simpa using HOk.out.le))
      have HC : Hid (Calls Tryz.prog 89 #[arrV (lst (m.map (·.1)))] wr fun e w' => Nw wr w' ∧ ∃ gh, wr.heap.size ≤ gh ∧ e = .returned (.tuple #[.slice (some ⟨gh, 0, none⟩) m.length m.length, .bool true]) ∧ Blk w' gh 3 (intC (m.map (·.1)))) := by
        refine (homesOf_any wr _ HL0.out).mono ?_
        rintro e w' ⟨a1, a2⟩
        obtain ⟨e1, e2⟩ := HOk.out.lst HZ.out.z
        rw [if_pos e1, e2] at a2
        obtain ⟨gh, b1, b2, b3⟩ := a2
        exact ⟨a1, gh, b1, by rw [b2]; simp, b3⟩
      have hs1 := fun W => slice95 W g (128 * o) (m.length + 1 + n) 1 (by omega)
      have hne1 : ¬ (m.length + 1 + n = 1) := by omega
      simp only [if_neg hne1, Nat.one_mul, show m.length + 1 + n - 1 = m.length + n by omega] at hs1
      have hs2 := fun W => slice95 W g (128 * o + 128) (m.length + n) m.length (by omega)
      rw [show m.length + n - m.length = n by omega] at hs2
      obtain ⟨ad2, had2⟩ : ∃ ad2, (if m.length + n = m.length then some (⟨g, 128 * o + 128, none⟩ : Addr) else some ⟨g, 128 * o + 128 + m.length * 128, none⟩) = ad2 := ⟨_, rfl⟩
      simp only [had2] at hs2
      have HAd : Hid (r ≠ [] → ad2 = some ⟨g, 128 * (flat (done ++ [m])).length, none⟩) := fun hr => by
        have hn0 : ¬ m.length + n = m.length := fun e => hr (flat_nil (by rw [hn]; omega))
        rw [← had2, if_neg hn0, flat_snoc, List.length_append, ho, rowS_length, show 128 * o + 128 + m.length * 128 = 128 * (o + (m.length + 1)) by omega]
      have hgt : ¬ ((m.length : Nat) : Int) > ((m.length + n : Nat) : Int) := by omega
      have HI0 : Hid (∀ w' gh, Nw wr w' → wr.heap.size ≤ gh → Blk w' gh 3 (intC (m.map (·.1))) → RowInv G w l p bl bt D L (done.foldl merge L.lg) m gh 0 w') := fun w' gh f hgh hb => ⟨HO.out.nw f, Kp.trans HK.out f.kp, hb, by have := HO.out.r.ml.lt; omega⟩
      have HEnd : Hid (∀ w' gh, RowInv G w l p bl bt D L (done.foldl merge L.lg) m gh m.length w' → TakInv G w l p bl bt D L ms g (.slice ad2 n n) w') := fun w' gh hi => by
        refine ⟨done ++ [m], r, ad2, by rw [HM.out]; simp, by rw [hn], HAd.out, ?_, hi.2.1⟩
        have := hi.1
        rw [List.take_length] at this
        rw [List.foldl_append]
        exact this
      have HLgl : Hid ((done.foldl merge L.lg).length + m.length < 900000) := by
        have h1 := fold_len done L.lg HSrt0.out
        have h2 := HLn.out
        rw [hSm, List.length_append, List.length_append, rowS_length] at h2
        unfold Hid
        omega
      clear HAt hSm had2 hfr ho hn HAd HBr hne1 had
      have HSrt : Hid (Srt (done.foldl merge L.lg)) := HO.out.r.ml.2.1
      clear HO HK HM
      generalize done.foldl merge L.lg = lg0 at *
      generalize lst (m.map (·.1)) = s0 at *
      unfold arrV at HC
      go_wp2_with (first
        | (refine wpList_load_mid (by rfl) 81 _ (by rfl) g (128 * o) (by rfl) (bs s0) _ HR0.out Tryz.underlying81 rfl (by rw [size66, bs_length, HL0.out]) ?_)
        | (go_at_call 89; refine HC.out.mono ?_; rintro x w1 ⟨f1, gh, hgh, rfl, hb1⟩; have HI1 := hid (HI0.out _ _ f1 hgh hb1); clear f1 hgh hb1))
      obtain ⟨wo, hwo⟩ : ∃ wo, wo = wr := ⟨wr, rfl⟩
      subst hwo
      clear HC HI0 HR0 HL0 hs1
      go_loopw [32] (fun i wr => ∃ k, k ≤ m.length ∧ i = .int .i64 (k : Int) ∧ RowInv G w l p bl bt D L lg0 m gh k wr) (fun i _ => m.length - (intOf i).toNat)
      case atStart => exact ⟨0, Nat.zero_le _, rfl, HI1.out⟩
      case round =>
        obtain ⟨k, hk, rfl, hI⟩ := hrel
        have HI := hid hI
        clear hI HI1
        by_cases hlt : k < m.length
        · have hk1 : (k : Int) < (m.length : Int) := by omega
          have hk2 : (k : Int) < ((m.length + n : Nat) : Int) := by omega
          have hk0 : (0 : Int) ≤ (k : Int) := Int.natCast_nonneg _
          have hcell : wr.cell? ⟨gh, k, none⟩ = some (.int .i64 ((m[k].1 : Nat) : Int)) := by
            rw [HI.out.2.2.1.cell k]; simp [intC, hlt]
          have c1 := HI.out.1.r.hl.cell 1
          have c2 := HI.out.1.r.hl.cell 2
          have c3 := HI.out.1.r.hl.cell 3
          unfold Lg.cells at c1 c2 c3
          have hqm : m[k] ∈ m := List.getElem_mem hlt
          have hhome := HOk.out.home _ hqm
          have his : isHome L.f L.n L.z ((m[k].1 : Nat) : Int) = true := by
            have h1 := hhome.1
            have h2 := hhome.2
            simp [isHome]; omega
          have HIs := hid (isHome_any wr L.f L.n L.z ((m[k].1 : Nat) : Int) (by have := HZ.out.fz; have := HZ.out.z; omega) HZ.out.n2)
          rw [his] at HIs
          have HUp : Hid (∀ W, Nw wr W → ∃ w5, W.cell? ⟨l, 7, none⟩ = some (.map (some bl)) ∧ W.rangeAt g (128 * o + 128 + k * 128) (bs (m[k]).2) ∧ (Instr.mapUpdate 89 (.map (some bl)) (.int .i64 ((m[k].1 : Nat) : Int)) (.agg (bs (m[k]).2).toArray)).run Tryz.prog W = .ok () w5 ∧ RowInv G w l p bl bt D L lg0 m gh (k + 1) w5 ∧ w5.cell? ⟨l, 7, none⟩ = some (.map (some bl)) ∧ w5.rangeAt g (128 * o + 128 + k * 128) (bs (m[k]).2)) := fun W f => by
            have o4 := HI.out.1.nw f
            have hs0 : Srt lg0 := HSrt.out
            have hln : (merge lg0 (m.take k)).length < 900000 := by
              have := merge_len (m.take k) lg0 hs0
              have h2 := HLgl.out
              rw [List.length_take] at this
              omega
            obtain ⟨w5, hu, o5, f5⟩ := o4.log1 (m[k]).1 hhome (m[k]).2 (HOk.out.sec _ hqm) hln
            have kp4 : Kp G w W := Kp.trans HI.out.2.1 f.kp
            have kp5 : Kp G w w5 := Kp.trans kp4 (f5.mono (fun j hj hG => (o4.g j hG).2.1 hj))
            have hb4 : Blk W g 81 (secsC (flat ms)) := Fr.blk kp4 HB.out (fun hn => hn HG.out)
            have hb5 : Blk w5 g 81 (secsC (flat ms)) := Fr.blk kp5 HB.out (fun hn => hn HG.out)
            have hgh : Blk W gh 3 (intC (m.map (·.1))) := Fr.blk f HI.out.2.2.1 id
            rw [Nat.mul_comm k 128]
            refine ⟨w5, by have := o4.r.hl.cell 7; simpa [Lg.cells] using this, HRk.out W hb4 k hlt, hu, ⟨?_, kp5, Fr.blk f5 hgh HI.out.2.2.2, HI.out.2.2.2⟩, by have := o5.r.hl.cell 7; simpa [Lg.cells] using this, HRk.out w5 hb5 k hlt⟩
            rw [merge_take _ _ _ hlt]
            exact o5
          have hl66 : (bs (m[k]).2).length = 128 := by rw [bs_length]; exact HOk.out.sec _ hqm
          have hi66 : (Tryz.prog.info? 81).map (·.size) = some (bs (m[k]).2).length := by rw [size66, hl66]
          have hu66 := Tryz.underlying81
          have hm60 : m.length ≤ 60 := HOk.out.le
          have hn60 : m.length + n < 1000 := by have := HT.out; omega
          clear HI hqm hhome his
          unfold rgV at HIs
          generalize m[k] = q at *
          obtain ⟨qi, qs⟩ := q
          simp only at hcell HIs HUp hl66 hi66
          clear hs2 hpos hgt HEnd HRk
          generalize m.length + n = N at *
          go_wp2_with (go_at_call 75; refine HIs.out.mono ?_; rintro x w4 ⟨rfl, f4⟩; obtain ⟨w5, a1, a2, a3, a4, a5, a6⟩ := HUp.out _ f4.drew; have HA := hid a4; clear a4 f4)
          go_region_held3 (fun w' => w'.cell? ⟨l, 7, none⟩ = some (.map (some bl)) ∧ w'.rangeAt g (128 * o + 128 + k * 128) (bs qs)) (first | exact ⟨a1, a2⟩ | exact ⟨a5, a6⟩) (fail)
          go_wp2
          exact ⟨⟨k + 1, by omega, by simp, HA.out⟩, by simp [intOf]; omega⟩
        · obtain rfl : k = m.length := by omega
          have hk1 : ¬ (m.length : Int) < (m.length : Int) := by omega
          have HT2 := hid (HEnd.out _ _ HI.out)
          clear HI HEnd
          go_wp2_with fail
          exact ⟨HT2.out, by simp only [lenOf]; omega⟩

end Go.Proofs.YtehoiahgkbnjdaaGreat.Wl
