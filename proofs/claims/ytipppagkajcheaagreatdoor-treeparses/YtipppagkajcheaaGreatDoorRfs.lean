/- The contract of Refs. -/
import Derived.Test.YtipppagkajcheaaGreatDoorSrt
namespace Go.Proofs.YtipppagkajcheaaGreatDoor.Tr
open Go.RowKit

theorem rawD_step (d : List UInt8) (k : Nat) (h : refAt (d.drop k) ≠ []) : rawD d (k + 1) = rawD d k ++ [refAt (d.drop k)] := by rw [rawD, if_neg h]
theorem rawD_skip (d : List UInt8) (k : Nat) (h : refAt (d.drop k) = []) : rawD d (k + 1) = rawD d k := by rw [rawD, if_pos h]
theorem refAt_take (d : List UInt8) : refAt d = d.take (refAt d).length := by
  unfold refAt
  split
  · rw [List.length_take, ← List.take_take, List.take_length]
  · simp
theorem refAt_le (d : List UInt8) : (refAt d).length ≤ d.length := by
  have h := congrArg List.length (refAt_take d)
  rw [List.length_take] at h; omega

set_option maxRecDepth 100000 in
set_option maxHeartbeats 4000000 in
theorem refs_any (w : World) (ad : Option Addr) (L : List Ent) (cap : Nat) (hL : Ents w ad L) (hb : bulkD L ≤ 8796093022206) (hn : L.length ≤ 140737488351232) :
    Calls Tryz.prog 12 #[.slice ad L.length cap] w fun e w' => ∃ v, e = .returned v ∧ w'.ownsRow w.heap.size 9 1 v (refsB L).length (strs (refsB L)) ∧ Fr (fun _ => False) w w' := by
  have HL := hid hL
  clear hL
  go_enter Tryz.func12, Tryz.ntmps12
  go_wp2_with fail
  go_loopw [3, 10] (fun ov iv wr => ∃ i : Nat, i ≤ L.length ∧ iv = .int .i64 (i : Int) ∧ wr.ownsRow w.heap.size 9 1 ov (rawL (L.take i)).length (strs (rawL (L.take i))) ∧ Fr (fun _ => False) w wr) (fun _ iv _ => L.length - (intOf iv).toNat)
  case atStart => exact ⟨0, Nat.zero_le _, rfl, World.ownsRow_nil _ _ _ _, Fr.refl _ _⟩
  case round =>
    obtain ⟨i, hi, rfl, hO, hF⟩ := hrel
    have HO := hid hO
    have HF := hid hF
    clear hO hF
    by_cases hlt : i < L.length
    · have hi1 : (i : Int) < ((L.length : Nat) : Int) := by omega
      have hi0 : (0 : Int) ≤ (i : Int) := Int.natCast_nonneg _
      obtain ⟨bb, bo, da, dc, rfl, c0', c1', c2', hv⟩ := HL.out.at i hlt
      have c0 := cell_fr HF.out c0'
      have c1 := cell_fr HF.out c1'
      have c2 := cell_fr HF.out c2'
      have HStep := hid (rawL_take L i hlt)
      have hlen := rawL_len (L.take i)
      have hbt := bulkD_take L i hlt
      have hbl := bulkD_le L (i + 1)
      have HSx : Hid (EntV w L[i] da dc) := hv
      clear hv c0' c1' c2'
      generalize L[i] = x at *
      generalize rawL (L.take i) = R0 at *
      have HBox : Hid (Blk (wr.alloc (.cells #[.string ⟨x.path.toArray⟩, .int .i64 x.kind, .slice da x.data.length dc] 36)) wr.heap.size 36 [.string ⟨x.path.toArray⟩, .int .i64 x.kind, .slice da x.data.length dc]) := Blk.new wr _ _
      have HO1 : Hid ((wr.alloc (.cells #[.string ⟨x.path.toArray⟩, .int .i64 x.kind, .slice da x.data.length dc] 36)).ownsRow w.heap.size 9 1 _ R0.length (strs R0)) := HO.out.alloc _
      have HF1 : Hid (Fr (fun _ => False) wr (wr.alloc (.cells #[.string ⟨x.path.toArray⟩, .int .i64 x.kind, .slice da x.data.length dc] 36))) := (Fr.refl _ _).alloc _
      have HFw : Hid (Fr (fun _ => False) w (wr.alloc (.cells #[.string ⟨x.path.toArray⟩, .int .i64 x.kind, .slice da x.data.length dc] 36))) := HF.out.alloc _
      go_wp2_with fail
      generalize wr.alloc (.cells #[.string ⟨x.path.toArray⟩, .int .i64 x.kind, .slice da x.data.length dc] 36) = W0 at *
      have HV := hid HSx.out
      have HSw := hid HSx.out.src
      have HB : Hid (∃ xb, xb = wr.heap.size) := ⟨_, rfl⟩
      obtain ⟨xb, hxb⟩ := HB.out
      rw [← hxb]
      rw [← hxb] at HBox
      clear hxb HB HO HF HSx HF1 c0 c1 c2 HL
      obtain ⟨p, kd, d⟩ := x
      simp only at *
      have hVc := HV.out.cap
      have hVl := HV.out.len
      simp only at hVc hVl
      go_loopw [3, 17] (fun ov av wr => ∃ k : Nat, k ≤ d.length ∧ av = .int .i64 (k : Int) ∧ wr.ownsRow w.heap.size 9 1 ov (R0 ++ rawD d k).length (strs (R0 ++ rawD d k)) ∧ Fr (fun _ => False) w wr ∧ Blk wr xb 36 [.string ⟨p.toArray⟩, .int .i64 kd, .slice da d.length dc] ∧ Src wr da d) (fun _ av _ => d.length - (intOf av).toNat)
      case atStart => exact ⟨0, Nat.zero_le _, rfl, by simpa [rawD] using HO1.out, HFw.out, HBox.out, HSw.out.fr HFw.out⟩
      case round =>
        obtain ⟨k, hk, rfl, hO2, hF2, hB2, hS2⟩ := hrel
        have HO2 := hid hO2
        have HF2 := hid hF2
        have HB2 := hid hB2
        have HS2 := hid hS2
        have b2 := hB2.cell 2
        simp only [List.getElem?_cons_zero, List.getElem?_cons_succ] at b2
        clear hO2 hF2 hB2 HBox HO1 HFw HV
        by_cases hkl : k < d.length
        · have hk1 : (k : Int) < ((d.length : Nat) : Int) := by omega
          have hk2 : (k : Int) ≤ ((d.length : Nat) : Int) := by omega
          have hk0 : (0 : Int) ≤ (k : Int) := Int.natCast_nonneg _
          have hdk : ¬ dc = k := by omega
          obtain ⟨db, dbo, rfl, _⟩ := hS2 (fun e => by simp [e] at hkl)
          have HSd := hid (hS2.drop' k)
          have eld : (d.drop k).length = d.length - k := by rw [List.length_drop]
          have HSt := hid (store_any wr (some ⟨db, dbo + k, none⟩) (d.drop k) (dc - k) HSd.out (by rw [eld]; omega))
          rw [eld] at HSt
          have hrl := refAt_le (d.drop k)
          rw [eld] at hrl
          clear hS2
          cases hr : refAt (d.drop k) with
          | nil =>
            have HSk := hid (rawD_skip d k hr)
            rw [hr] at HSt
            go_wp2_with (go_at_call 22; refine HSt.out.mono ?_; rintro e w1 ⟨rfl, f1⟩; have HP1 : Hid (w1.ownsRow w.heap.size 9 1 u3 (R0 ++ rawD d (k + 1)).length (strs (R0 ++ rawD d (k + 1))) ∧ Fr (fun _ => False) w w1 ∧ Blk w1 xb 36 [.string ⟨p.toArray⟩, .int .i64 kd, .slice (some ⟨db, dbo, none⟩) d.length dc] ∧ Src w1 (some ⟨db, dbo, none⟩) d) := (by rw [HSk.out]; exact ⟨owns_of_eq HO2.out (fun j hj => f1.block j (HO2.out.lt j hj).2 (fun h => h)), HF2.out.trans f1 (fun _ h => h.elim), f1.blk HB2.out (fun h => h), HS2.out.fr f1⟩); clear f1)
            exact ⟨⟨k + 1, by omega, by go_num, HP1.out⟩, by simp [intOf]; omega⟩
          | cons c r =>
            have HSk := hid (rawD_step d k (by rw [hr]; simp))
            have hrt := refAt_take (d.drop k)
            rw [hr] at HSt hrl hrt HSk
            have hn1 : (0 : Int) < (((c :: r).length : Nat) : Int) := by rw [List.length_cons]; omega
            have hnd : (k : Int) + (((c :: r).length : Nat) : Int) ≤ ((d.length : Nat) : Int) := by omega
            have hndc : (k : Int) + (((c :: r).length : Nat) : Int) ≤ ((dc : Nat) : Int) := by omega
            have HRt := hid hrt
            clear hrt hr
            have hrl' : (c :: r).length ≤ 140737488351232 := by omega
            have hne : (c :: r) ≠ [] := by simp
            have hR0 : (R0 ++ rawD d k).length < 8796093022207 := by
              have := rawD_len d k
              rw [List.length_append]; omega
            have HEnd : Hid (∀ (W1 W2 : World) (v1 v2 : Value), Fr (fun _ => False) w W1 → W1.ownsRow w.heap.size 9 1 v1 (R0 ++ rawD d k).length (strs (R0 ++ rawD d k)) → Blk W1 xb 36 [.string ⟨p.toArray⟩, .int .i64 kd, .slice (some ⟨db, dbo, none⟩) d.length dc] → Src W1 (some ⟨db, dbo, none⟩) d →
                W2.ownsRow w.heap.size 9 1 v2 ((R0 ++ rawD d k) ++ [c :: r]).length (strs ((R0 ++ rawD d k) ++ [c :: r])) → (W1.alloc (.cells #[.string ⟨(c :: r).toArray⟩] 9)).grownBy W2 v1.ownBlock →
                W2.ownsRow w.heap.size 9 1 v2 (R0 ++ rawD d (k + 1)).length (strs (R0 ++ rawD d (k + 1))) ∧ Fr (fun _ => False) w W2 ∧ Blk W2 xb 36 [.string ⟨p.toArray⟩, .int .i64 kd, .slice (some ⟨db, dbo, none⟩) d.length dc] ∧ Src W2 (some ⟨db, dbo, none⟩) d) := by
              intro W1 W2 v1 v2 f1 o1 b1 s1 o2 g2
              have hsrc : ∀ j, v1.ownBlock = some j → j ≠ xb := by
                rintro j hj rfl
                rcases o1.2 with ⟨rfl, _⟩ | ⟨g, cap', cur, rfl, _, hg, _⟩
                · cases hj
                · cases hj
                  have b1' : W1.heap[g]? = some (.cells #[.string ⟨p.toArray⟩, .int .i64 kd, .slice (some ⟨db, dbo, none⟩) d.length dc] 36 (0, 0)) := b1
                  rw [b1'] at hg
                  cases hg
              refine ⟨by rw [HSk.out, ← List.append_assoc]; exact o2, (f1.alloc _).grown g2 (fun j hj => .inr (o1.lt j hj).1), ?_, ?_⟩
              · exact (b1.alloc _).of_eq (g2.block xb (b1.alloc _).lt (fun e => hsrc xb e.symm rfl))
              · exact HSw.out.fr ((f1.alloc _).grown g2 (fun j hj => .inr (o1.lt j hj).1))
            generalize c :: r = t at *
            generalize R0 ++ rawD d k = R at *
            go_wp2_with (first
              | (go_at_call 22; refine HSt.out.mono ?_; rintro e w1 ⟨rfl, f1⟩; have b3 := (f1.blk HB2.out (fun h => h)).cell 2; simp only [List.getElem?_cons_zero, List.getElem?_cons_succ] at b3
                 have hcv : (convert 22 9 (.slice (some ⟨db, dbo + k, none⟩) t.length (dc - k))).run Tryz.prog w1 = .ok (.string ⟨t.toArray⟩) w1 := (by have h2 := conv_bytes ((HSd.out.take' t.length).fr f1) (dc - k); rw [← HRt.out] at h2; exact h2)
                 have O1 := hid (owns_of_eq HO2.out (fun j hj => f1.block j (HO2.out.lt j hj).2 (fun h => h)))
                 have F1 := hid (HF2.out.trans f1 (fun _ h => h.elim))
                 have B1 := hid (f1.blk HB2.out (fun h => h))
                 have S1 := hid (HS2.out.fr f1)
                 clear f1)
              | (at_builtin; refine wpList_append_str (by rfl) _ _ (by rfl) w.heap.size _ R t w1.heap.size (by rfl) (by rfl) (by exact O1.out.alloc _) (by have := F1.out.size; simp; omega) hR0 (by simp) ?_
                 intro g cap2 w2 hown hgrow
                 have HP2 : Hid (w2.ownsRow w.heap.size 9 1 (.slice (some ⟨g, 0, none⟩) (R.length + 1) cap2) (R0 ++ rawD d (k + 1)).length (strs (R0 ++ rawD d (k + 1))) ∧ Fr (fun _ => False) w w2 ∧ Blk w2 xb 36 [.string ⟨p.toArray⟩, .int .i64 kd, .slice (some ⟨db, dbo, none⟩) d.length dc] ∧ Src w2 (some ⟨db, dbo, none⟩) d) := HEnd.out w1 w2 _ _ F1.out O1.out B1.out S1.out hown hgrow
                 clear hown hgrow))
            exact ⟨⟨k + 1, by omega, by go_num, HP2.out⟩, by simp [intOf]; omega⟩
        · obtain rfl : k = d.length := by omega
          have hkn : ¬ ((d.length : Nat) : Int) < ((d.length : Nat) : Int) := by omega
          rw [← HStep.out] at HO2
          go_wp2
          exact ⟨⟨i + 1, by omega, by go_num, HO2.out, HF2.out⟩, by simp [intOf]; omega⟩
    · obtain rfl : i = L.length := by omega
      have hkn : ¬ ((L.length : Nat) : Int) < ((L.length : Nat) : Int) := by omega
      rw [List.take_length] at HO
      have hlr := rawL_len L
      have HE := hid (refs_eq L)
      have HS := hid (sort_own wr w.heap.size _ (rawL L) HO.out (by omega))
      have hsl : (srt (rawL L)).length = (rawL L).length := srt_length _
      have HSz : Hid ((srt (rawL L)).length < 4611686018427387904) := by unfold Hid; omega
      go_wp2_with (first
        | (go_at_call 23; refine HS.out.mono ?_; rintro e w1 ⟨rfl, ho1, hg1⟩; have F1 := hid (HF.out.grown hg1 (fun j hj => .inr (HO.out.lt j hj).1)); rw [← srt_length] at ho1; have O1 := hid ho1; clear ho1 hg1)
        | (go_at_call 24; refine (comp_own _ w.heap.size _ (srt (rawL L)) O1.out HSz.out).mono ?_; rintro e w2 ⟨v2, rfl, ho2, hg2⟩; have F2 := hid (F1.out.grown hg2 (fun j hj => .inr (O1.out.lt j hj).1)); have O2 := hid ho2; clear ho2 hg2))
      go_ret
      exact ⟨_, rfl, by rw [← HE.out]; exact O2.out, F2.out⟩

end Go.Proofs.YtipppagkajcheaaGreatDoor.Tr
