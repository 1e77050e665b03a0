
/- maps.Copy. -/
import Derived.Test.YtehoiahgkbnjdaaGreatRow
import Derived.Maps.RangeWalk
namespace Go.Proofs.YtehoiahgkbnjdaaGreat.Wl
open Go.RowKit Dk

theorem srt_ext : ∀ {a b : SMap}, Srt a → Srt b → (∀ k, get a k = get b k) → a = b
  | [], [], _, _, _ => rfl
  | [], q :: r, _, _, h => by have := h q.1; simp [get] at this
  | p :: r, [], _, _, h => by have := h p.1; simp [get] at this
  | p :: r, q :: r', ha, hb, h => by
    have h1 := List.pairwise_cons.1 ha
    have h2 := List.pairwise_cons.1 hb
    have e : p.1 = q.1 := by
      rcases Nat.lt_trichotomy p.1 q.1 with hlt | he | hgt
      · have e1 := h p.1
        have e2 : get (q :: r') p.1 = none := get_none_of_lt _ (fun x hx => by
          rcases List.mem_cons.1 hx with rfl | hx
          · exact hlt
          · have := h2.1 x hx; omega)
        rw [e2] at e1
        simp [get] at e1
      · exact he
      · have e1 := h q.1
        have e2 : get (p :: r) q.1 = none := get_none_of_lt _ (fun x hx => by
          rcases List.mem_cons.1 hx with rfl | hx
          · exact hgt
          · have := h1.1 x hx; omega)
        rw [e2] at e1
        simp [get] at e1
    have e2 : p.2 = q.2 := by
      have := h p.1
      simpa [get, e] using this
    have e3 : r = r' := srt_ext h1.2 h2.2 (fun k => by
      have := h k
      by_cases hk : p.1 = k
      · subst hk
        rw [get_none_of_lt r (fun x hx => h1.1 x hx), get_none_of_lt r' (fun x hx => by have := h2.1 x hx; omega)]
      · simpa [get, hk, e ▸ hk] using this)
    rw [e3, Prod.ext e e2]

/-- m1, and over it m2. -/
def merge (m1 m2 : SMap) : SMap := m2.foldl (fun m q => ins q.1 q.2 m) m1
theorem merge_srt : ∀ (m2 m1 : SMap), Srt m1 → Srt (merge m1 m2)
  | [], _, h => h
  | q :: r, m1, h => merge_srt r _ (ins_srt q.1 q.2 m1 h)
theorem merge_get : ∀ (m2 m1 : SMap) (k : Nat), Srt m1 → Srt m2 → get (merge m1 m2) k = match get m2 k with | some s => some s | none => get m1 k
  | [], _, _, _, _ => rfl
  | q :: r, m1, k, h1, h2 => by
    have hr := List.pairwise_cons.1 h2
    have e : merge m1 (q :: r) = merge (ins q.1 q.2 m1) r := rfl
    rw [e, merge_get r _ k (ins_srt _ _ _ h1) hr.2, get_ins _ _ _ _ h1]
    by_cases hk : k = q.1
    · subst hk
      rw [get_none_of_lt r hr.1]
      simp [get]
    · simp [get, hk, Ne.symm hk]
theorem merge_mem : ∀ (m2 m1 : SMap) (q : Nat × Sec), q ∈ merge m1 m2 → q ∈ m1 ∨ q ∈ m2
  | [], _, _, h => .inl h
  | p :: r, m1, q, h => by
    rcases merge_mem r _ q h with h | h
    · rcases ins_mem _ _ _ _ h with h | h
      · exact .inr (by rw [h]; exact .head _)
      · exact .inl h
    · exact .inr (.tail _ h)

structure CpMid (w wr : World) (b1 b2 : Nat) (m1 m2 m : SMap) (left : Lit → Bool) (cnt : Nat) : Prop where
  rg : wr.ranges Tryz.prog 3 secR b2 w.heap.size m2.length (encM m2) left cnt
  mp : MpT wr b1 m
  gt : ∀ k : Nat, get m k = if left (.int .i64 (k : Int)) = true then get m1 k else match get m2 k with | some s => some s | none => get m1 k
  fr : Fr (fun k => k = b1) w wr
  ln : m.length + cnt ≤ m1.length + m2.length

theorem key_inv (key : Value) (kl : Lit) (h : keyOf Tryz.prog 3 key = some kl) : ∃ x : Int, key = .int .i64 x := by
  obtain ⟨x, hx, _⟩ := Maps.keyOf_int_inv Tryz.underlying3 h
  exact ⟨x, hx⟩
theorem sec_inv (v : Value) (y : DataW Unit × List MemPlace) (h : secR v = some y) : ∃ c : Sec, v = .agg (bs c).toArray := by
  obtain ⟨s, _, hv, _⟩ := secR_inv h
  exact ⟨s, hv⟩
theorem has_nat {m : SMap} {x : Int} (h : Maps.has (encM m) (.int .i64 x) = true) : ∃ k : Nat, x = k ∧ (get m k).isSome = true := by
  simp only [Maps.has, encM, List.any_map, List.any_eq_true] at h
  obtain ⟨q, hq, hk⟩ := h
  have : (q.1 : Int) = x := by simpa [encP, Lit.sameKey] using hk
  refine ⟨q.1, this.symm, ?_⟩
  rw [← has_encM]
  simp only [Maps.has, encM, List.any_map, List.any_eq_true]
  exact ⟨q, hq, by simp [encP, Lit.sameKey]⟩

set_option maxRecDepth 100000 in
set_option maxHeartbeats 4000000 in
theorem copy_any {w : World} {b1 b2 : Nat} {m1 m2 : SMap} (h1 : MpT w b1 m1) (h2 : MpT w b2 m2) (hne : b1 ≠ b2) (hl : m1.length + m2.length < 1000000) (hk2 : ∀ q ∈ m2, q.1 < 1048576) :
    Calls Tryz.prog 82 #[.map (some b1), .map (some b2)] w fun x w' => x = .returned (.tuple #[]) ∧ MpT w' b1 (merge m1 m2) ∧ Fr (fun k => k = b1) w w' := by
  have hz := zero66
  have HH2 := hid h2
  have HH1 := hid h1
  have HK2 := hid hk2
  clear h1 h2 hk2
  go_enter Tryz.func82, Tryz.ntmps82
  go_wp2_with ((at_range; refine wpList_range_own _ (by rfl) _ 89 (by rfl) 3 81 int_keyed3 Tryz.underlying89 secR b2 m2.length (encM m2) (by rfl) HH2.out.1 ?_; intro w0 hrg0 hg0 hs0))
  have HM : Hid (CpMid w w0 b1 b2 m1 m2 m1 (Maps.has (encM m2)) (Maps.size (encM m2))) := by
    refine ⟨hrg0, HH1.out.of_eq (hg0.block b1 HH1.out.lt (by simp)), fun k => ?_, (Fr.refl _ w).grown hg0 (fun k hk => by cases hk), by rw [size_encM]; exact Nat.le_refl _⟩
    rw [has_encM]
    cases hg : get m2 k <;> simp
  clear hrg0 hg0 hs0
  have HLt : Hid (b1 < w.heap.size) := HH1.out.lt
  have HS1 := hid HH1.out.2.1
  have HS2 := hid HH2.out.2.1
  clear HH1 HH2
  go_frame
  go_loopw [4] (fun _ wr => ∃ m left cnt, CpMid w wr b1 b2 m1 m2 m left cnt) (fun _ wr => wr.rangeLeft b2 w.heap.size)
  case atStart => exact ⟨_, _, _, HM.out⟩
  case round =>
    obtain ⟨m, left, cnt, hM⟩ := hrel
    have HMk := hid hM
    clear hM HM
    go_wp2_with ((at_next; refine wpList_next_ranges _ (by rfl) _ (by rfl) 3 int_keyed3 secR (fun x : Int => .int .i64 x) (fun c : Sec => .agg (bs c).toArray) key_inv sec_inv b2 w.heap.size m2.length (encM m2) left cnt (by rfl) HMk.out.rg ?_ ?_))
    · intro _ hl0
      have HE : Hid (m = merge m1 m2) := srt_ext HMk.out.mp.2.1 (merge_srt _ _ HS1.out) (fun k => by
        rw [HMk.out.gt k, hl0, merge_get _ _ _ HS1.out HS2.out]
        simp)
      clear hl0
      go_wp2
      exact bodyPost_end (results_none rfl _ _ _) rfl ⟨rfl, by rw [← HE.out]; exact HMk.out.mp, HMk.out.fr⟩
    · intro x c kl y1 y2 w1 cnt1 hkey hlx hy hat hrg1 hlt hg1 hs1 hen
      obtain ⟨k, hxk, hkl, hk2, hcl⟩ : ∃ k : Nat, x = k ∧ kl = .int .i64 (k : Int) ∧ get m2 k = some c ∧ c.length = 128 := by
        obtain ⟨x', e1, e2, _⟩ := Maps.keyOf_int_inv Tryz.underlying3 hkey
        have ex : x = x' := by simpa using e1
        subst ex
        obtain ⟨s, hsl, hse, hsy⟩ := secR_inv hy
        have hcs : c = s := by
          have h4 : (bs c) = (bs s) := by
            have h5 : (Value.agg (bs c).toArray) = Value.agg (bs s).toArray := hse
            simpa using h5
          have h6 := mapM_bs c
          rw [h4, mapM_bs s] at h6
          simpa using h6.symm
        subst hcs
        have hh := Maps.has_true_of_atKey hat
        rw [e2] at hh
        obtain ⟨k, hk, hs⟩ := has_nat hh
        obtain ⟨s', hs'⟩ := Option.isSome_iff_exists.1 hs
        have h7 := hat (.lit (.string []))
        have hy1 : y1 = .lit (.string c) := congrArg Prod.fst hsy
        rw [e2, hk, atKey_encM, hs', hy1] at h7
        have h8 : s' = c := by simpa using h7
        exact ⟨k, hk, by rw [e2, hk], by rw [hs', h8], hsl⟩
      subst hxk
      have hkb : k < 1048576 := HK2.out _ (get_mem hk2)
      have hm1 : MpT w1 b1 m := HMk.out.mp.of_eq (hg1.block b1 HMk.out.mp.lt (by have := HLt.out; simp; omega))
      have hmln : m.length < 1048576 := by have := HMk.out.ln; omega
      obtain ⟨w3, hu, hm3, hg3⟩ := upd57 (hm1.alloc (.cells (bs c).toArray 81)) k hkb c hcl hmln
      have HN : Hid (CpMid w w3 b1 b2 m1 m2 (ins k c m) (fun z => left z && !z.sameKey kl) cnt1) := by
        refine ⟨(hrg1.alloc _).kept hg3 (by simpa using Ne.symm hne) (by have := HLt.out; simp; omega), hm3, fun j => ?_, ?_, ?_⟩
        · rw [get_ins _ _ _ _ hm1.2.1, HMk.out.gt j, hkl]
          by_cases hj : j = k
          · subst hj
            simp [same_int, hk2]
          · simp [same_int, hj]
        · exact ((HMk.out.fr.grown hg1 (fun i hi => .inr (by simp at hi; omega))).alloc _).grown hg3 (fun i hi => .inl (by simpa using hi.symm))
        · have h9 := HMk.out.ln
          have h10 := length_ins k c m hm1.2.1
          split at h10 <;> omega
      have HMe : Hid (w3.rangeLeft b2 w.heap.size < wr.rangeLeft b2 w.heap.size) := by
        unfold Hid
        rw [HN.out.rg.left_eq, HMk.out.rg.left_eq]
        exact hlt
      have Hcl := hid hcl
      clear hkey hlx hy hat hrg1 hlt hg1 hs1 hm1 hm3 hg3 hk2 hcl HMk
      go_wp2_with (first
        | (refine store66n (by rfl) _ _ (by rfl) c Hcl.out zs66 (by rfl) (by rfl) ?_)
        | (refine wpList_load_mid (by rfl) 81 _ (by rfl) w1.heap.size 0 (by rfl) (bs c) _ ((Blk.new w1 81 (bs c)).range 0 _ (by simp)) Tryz.underlying81 rfl (by rw [size66, bs_length, Hcl.out]) ?_))
      exact ⟨⟨_, _, _, HN.out⟩, HMe.out⟩

end Go.Proofs.YtehoiahgkbnjdaaGreat.Wl
