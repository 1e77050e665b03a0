import Derived.Test.YtniailfcmlongaaGreatDoorTmsM
import Derived.Test.YtniailfcmlongaaGreatDoorTtkM
/- The contract of merge, for every type. -/
namespace Go.Proofs.YtniailfcmlongaaGreatDoor.Tr
open Go.RowKit Go.Maps

set_option maxRecDepth 100000 in
set_option maxHeartbeats 4000000 in
theorem merge_listH (w0 w : World) (b : Nat) (ad : Option Addr) (n cap : Nat) (T : Vt ⊕ Int) (hk : w.cell? ⟨b, 0, none⟩ = some (.string ⟨(sList : List UInt8).toArray⟩)) (hC : Calls Tryz.prog 55 #[.slice ad n cap] (vBox w vZ) fun e w' => HPost w0 (vBox w vZ) T e w') :
    Calls Tryz.prog 34 #[pv b, .slice ad n cap] w fun e w' => HPost w0 w T e w' := by
  have HC := hid hC
  have HF0 := hid (vFr w vZ)
  have HB0 := hid (vBlk w vZ)
  have c0 : (w.alloc (.cells #[.int .i64 0, .int .i64 0, .float .f64 0, .string ⟨#[]⟩, .slice none 0 0, .slice none 0 0] 26)).cell? ⟨b, 0, none⟩ = some (.string ⟨(sList : List UInt8).toArray⟩) := (Env.alloc w _).cell hk
  clear hC hk
  go_enter Tryz.func34, Tryz.ntmps34
  go_wp2_with fail
  refine HC.out.mono ?_
  rintro e w1 ⟨f1, ⟨nn, hr, rfl⟩ | ⟨v, x, hr, rfl, hv⟩⟩
  · have HF1 := hid (HF0.out.trans f1 (fun _ h => h.elim))
    have HB1 := hid (f1.blk HB0.out (fun h => h))
    have HH := hid hr
    clear f1 hr
    go_wp2_with (refine wpList_storeV vZ (by rfl) _ _ (by rfl) HB1.out (by rfl) (by rfl) ?_; intro w5 b5 f5)
    have HF5 : Hid (Fr (fun _ => False) w w5) := HF1.out.trans f5 (fun j hj => .inr (by omega))
    have HB5 := hid b5
    clear b5 f5
    go_wp2_with fail
    exact bodyPost_ret (resVE rfl rfl HB5.out) rfl ⟨HF5.out, .inl ⟨nn, HH.out, rfl⟩⟩
  · have HF1 := hid (HF0.out.trans f1 (fun _ h => h.elim))
    have HB1 := hid (f1.blk HB0.out (fun h => h))
    have HH := hid hr
    have HV := hid hv
    clear f1 hr hv
    obtain ⟨k, n', f, t, na, nl, nc, ia, il, ic⟩ := x
    go_wp2_with (refine wpList_storeV ⟨k, n', f, t, na, nl, nc, ia, il, ic⟩ (by rfl) _ _ (by rfl) HB1.out (by rfl) (by rfl) ?_; intro w5 b5 f5)
    have HF5 : Hid (Fr (fun _ => False) w w5) := HF1.out.trans f5 (fun j hj => .inr (by omega))
    have HB5 := hid b5
    have HFr := hid f5
    clear b5 f5
    go_wp2_with fail
    exact bodyPost_ret (resVE rfl rfl HB5.out) rfl ⟨HF5.out, .inr ⟨v, _, HH.out, rfl, fun w'' e0 hk2 => HV.out w'' e0 (fun q q1 q2 => by
      rw [World.size_alloc] at q1
      rw [hk2 q (by omega) (Nat.lt_of_lt_of_le q2 HFr.out.size)]
      exact HFr.out.block q q2 (by omega))⟩⟩
set_option maxRecDepth 100000 in
set_option maxHeartbeats 4000000 in
theorem merge_unitH (w0 w : World) (b : Nat) (ad : Option Addr) (n cap : Nat) (T : Vt ⊕ Int) (hk : w.cell? ⟨b, 0, none⟩ = some (.string ⟨(sUnit : List UInt8).toArray⟩)) (hC : Calls Tryz.prog 57 #[.slice ad n cap] (vBox w vZ) fun e w' => HPost w0 (vBox w vZ) T e w') :
    Calls Tryz.prog 34 #[pv b, .slice ad n cap] w fun e w' => HPost w0 w T e w' := by
  have HC := hid hC
  have HF0 := hid (vFr w vZ)
  have HB0 := hid (vBlk w vZ)
  have c0 : (w.alloc (.cells #[.int .i64 0, .int .i64 0, .float .f64 0, .string ⟨#[]⟩, .slice none 0 0, .slice none 0 0] 26)).cell? ⟨b, 0, none⟩ = some (.string ⟨(sUnit : List UInt8).toArray⟩) := (Env.alloc w _).cell hk
  clear hC hk
  go_enter Tryz.func34, Tryz.ntmps34
  go_wp2_with fail
  refine HC.out.mono ?_
  rintro e w1 ⟨f1, ⟨nn, hr, rfl⟩ | ⟨v, x, hr, rfl, hv⟩⟩
  · have HF1 := hid (HF0.out.trans f1 (fun _ h => h.elim))
    have HB1 := hid (f1.blk HB0.out (fun h => h))
    have HH := hid hr
    clear f1 hr
    go_wp2_with (refine wpList_storeV vZ (by rfl) _ _ (by rfl) HB1.out (by rfl) (by rfl) ?_; intro w5 b5 f5)
    have HF5 : Hid (Fr (fun _ => False) w w5) := HF1.out.trans f5 (fun j hj => .inr (by omega))
    have HB5 := hid b5
    clear b5 f5
    go_wp2_with fail
    exact bodyPost_ret (resVE rfl rfl HB5.out) rfl ⟨HF5.out, .inl ⟨nn, HH.out, rfl⟩⟩
  · have HF1 := hid (HF0.out.trans f1 (fun _ h => h.elim))
    have HB1 := hid (f1.blk HB0.out (fun h => h))
    have HH := hid hr
    have HV := hid hv
    clear f1 hr hv
    obtain ⟨k, n', f, t, na, nl, nc, ia, il, ic⟩ := x
    go_wp2_with (refine wpList_storeV ⟨k, n', f, t, na, nl, nc, ia, il, ic⟩ (by rfl) _ _ (by rfl) HB1.out (by rfl) (by rfl) ?_; intro w5 b5 f5)
    have HF5 : Hid (Fr (fun _ => False) w w5) := HF1.out.trans f5 (fun j hj => .inr (by omega))
    have HB5 := hid b5
    have HFr := hid f5
    clear b5 f5
    go_wp2_with fail
    exact bodyPost_ret (resVE rfl rfl HB5.out) rfl ⟨HF5.out, .inr ⟨v, _, HH.out, rfl, fun w'' e0 hk2 => HV.out w'' e0 (fun q q1 q2 => by
      rw [World.size_alloc] at q1
      rw [hk2 q (by omega) (Nat.lt_of_lt_of_le q2 HFr.out.size)]
      exact HFr.out.block q q2 (by omega))⟩⟩
set_option maxRecDepth 100000 in
set_option maxHeartbeats 4000000 in
theorem merge_attrsH (w0 w : World) (b : Nat) (ad : Option Addr) (n cap : Nat) (T : Vt ⊕ Int) (hk : w.cell? ⟨b, 0, none⟩ = some (.string ⟨(sAttrs : List UInt8).toArray⟩)) (c : Nat) (hc : w.cell? ⟨b, 4, none⟩ = some (pv c)) (hC : Calls Tryz.prog 56 #[pv c, .slice ad n cap] (vBox w vZ) fun e w' => HPost w0 (vBox w vZ) T e w') :
    Calls Tryz.prog 34 #[pv b, .slice ad n cap] w fun e w' => HPost w0 w T e w' := by
  have HC := hid hC
  have HF0 := hid (vFr w vZ)
  have HB0 := hid (vBlk w vZ)
  have c0 : (w.alloc (.cells #[.int .i64 0, .int .i64 0, .float .f64 0, .string ⟨#[]⟩, .slice none 0 0, .slice none 0 0] 26)).cell? ⟨b, 0, none⟩ = some (.string ⟨(sAttrs : List UInt8).toArray⟩) := (Env.alloc w _).cell hk
  have c4 : (w.alloc (.cells #[.int .i64 0, .int .i64 0, .float .f64 0, .string ⟨#[]⟩, .slice none 0 0, .slice none 0 0] 26)).cell? ⟨b, 4, none⟩ = some (pv c) := (Env.alloc w _).cell hc
  clear hc
  clear hC hk
  go_enter Tryz.func34, Tryz.ntmps34
  go_wp2_with fail
  refine HC.out.mono ?_
  rintro e w1 ⟨f1, ⟨nn, hr, rfl⟩ | ⟨v, x, hr, rfl, hv⟩⟩
  · have HF1 := hid (HF0.out.trans f1 (fun _ h => h.elim))
    have HB1 := hid (f1.blk HB0.out (fun h => h))
    have HH := hid hr
    clear f1 hr
    go_wp2_with (refine wpList_storeV vZ (by rfl) _ _ (by rfl) HB1.out (by rfl) (by rfl) ?_; intro w5 b5 f5)
    have HF5 : Hid (Fr (fun _ => False) w w5) := HF1.out.trans f5 (fun j hj => .inr (by omega))
    have HB5 := hid b5
    clear b5 f5
    go_wp2_with fail
    exact bodyPost_ret (resVE rfl rfl HB5.out) rfl ⟨HF5.out, .inl ⟨nn, HH.out, rfl⟩⟩
  · have HF1 := hid (HF0.out.trans f1 (fun _ h => h.elim))
    have HB1 := hid (f1.blk HB0.out (fun h => h))
    have HH := hid hr
    have HV := hid hv
    clear f1 hr hv
    obtain ⟨k, n', f, t, na, nl, nc, ia, il, ic⟩ := x
    go_wp2_with (refine wpList_storeV ⟨k, n', f, t, na, nl, nc, ia, il, ic⟩ (by rfl) _ _ (by rfl) HB1.out (by rfl) (by rfl) ?_; intro w5 b5 f5)
    have HF5 : Hid (Fr (fun _ => False) w w5) := HF1.out.trans f5 (fun j hj => .inr (by omega))
    have HB5 := hid b5
    have HFr := hid f5
    clear b5 f5
    go_wp2_with fail
    exact bodyPost_ret (resVE rfl rfl HB5.out) rfl ⟨HF5.out, .inr ⟨v, _, HH.out, rfl, fun w'' e0 hk2 => HV.out w'' e0 (fun q q1 q2 => by
      rw [World.size_alloc] at q1
      rw [hk2 q (by omega) (Nat.lt_of_lt_of_le q2 HFr.out.size)]
      exact HFr.out.block q q2 (by omega))⟩⟩

end Go.Proofs.YtniailfcmlongaaGreatDoor.Tr
/- Names that rise are unlike. -/
namespace Go.Proofs.YtniailfcmlongaaGreatDoor.Tr
open Go.RowKit

theorem bl_irrefl : ∀ a : List UInt8, Op.bytesLess a a = false
  | [] => rfl
  | x :: r => by
    rw [Op.bytesLess, bl_irrefl r]
    simp
theorem bl_trans : ∀ a b c : List UInt8, Op.bytesLess a b = true → Op.bytesLess b c = true → Op.bytesLess a c = true
  | [], [], _, h, _ => by simp [Op.bytesLess] at h
  | _ :: _, [], _, h, _ => by simp [Op.bytesLess] at h
  | _, _ :: _, [], _, h => by simp [Op.bytesLess] at h
  | [], _ :: _, _ :: _, _, _ => rfl
  | x :: a, y :: b, z :: c, h1, h2 => by
    have ih := bl_trans a b c
    simp only [Op.bytesLess, Bool.or_eq_true, Bool.and_eq_true, decide_eq_true_eq, beq_iff_eq] at h1 h2 ⊢
    rcases h1 with h1 | ⟨h1, h1'⟩
    · rcases h2 with h2 | ⟨h2, _⟩
      · exact .inl (UInt8.lt_trans h1 h2)
      · subst h2; exact .inl h1
    · subst h1
      rcases h2 with h2 | ⟨h2, h2'⟩
      · exact .inl h2
      · exact .inr ⟨h2, ih h1' h2'⟩
theorem bl_ne {a b : List UInt8} (h : Op.bytesLess a b = true) : a ≠ b := fun e => by rw [e, bl_irrefl] at h; cases h
theorem getD_at {α : Type} (l : List α) (d : α) (i : Nat) (h : i < l.length) : l.getD i d = l[i] := by simp [List.getD, h]
theorem rn_lt {ns : List (List UInt8)} (h : rnB ns = true) : ∀ (j i : Nat) (hj : j < ns.length) (hi : i < j), Op.bytesLess (ns[i]'(by omega)) ns[j] = true := by
  have hall : ∀ j, j < ns.length → rnAt ns j = true := fun j hj => List.all_eq_true.1 h j (List.mem_range.2 hj)
  have hst : ∀ j (hj : j + 1 < ns.length), Op.bytesLess (ns[j]'(by omega)) ns[j + 1] = true := fun j hj => by
    have := hall (j + 1) hj
    unfold rnAt at this
    simp only [Bool.and_eq_true, Bool.or_eq_true, decide_eq_true_eq, Nat.add_eq_zero_iff, Nat.add_sub_cancel] at this
    rcases this.2 with h | h
    · omega
    · rw [getD_at _ _ _ (by omega), getD_at _ _ _ hj] at h; exact h
  intro j
  induction j with
  | zero => intro i _ hi; omega
  | succ j ih =>
    intro i hj hi
    by_cases e : i = j
    · subst e; exact hst i hj
    · exact bl_trans _ _ _ (ih i (by omega) (by omega)) (hst j hj)
theorem rn_len {ns : List (List UInt8)} (h : rnB ns = true) : ∀ s ∈ ns, s.length ≤ 1024 := fun s hs => by
  obtain ⟨i, hi, rfl⟩ := List.getElem_of_mem hs
  have := List.all_eq_true.1 h i (List.mem_range.2 hi)
  unfold rnAt at this
  simp only [Bool.and_eq_true, decide_eq_true_eq] at this
  rw [getD_at _ _ _ hi] at this
  exact this.1

end Go.Proofs.YtniailfcmlongaaGreatDoor.Tr
/- What definitions of any type make: the contract of merge. -/
namespace Go.Proofs.YtniailfcmlongaaGreatDoor.Tr
open Go.RowKit Go.Maps

/-- A value that is right where there is little room is right where there is more. -/
theorem rt_mono : ∀ (v : Vt) (n m : Nat), n ≤ m → rtB v n = true → rtB v m = true
  | .mk k n f t ns its, a, b, h, hr => by
    have step : ∀ a b, a ≤ b → (∀ u ∈ its, rtB u a = true) → ∀ u ∈ its, rtB u b = true := fun a b hab hu u hm => rt_mono u a b hab (hu u hm)
    rw [rtB] at hr ⊢
    by_cases h5 : k = 5
    · rw [if_pos h5] at hr ⊢
      simp only [Bool.and_eq_true, decide_eq_true_eq] at hr ⊢
      obtain ⟨⟨⟨h1, h2⟩, h3⟩, h4⟩ := hr
      exact ⟨⟨⟨by omega, h2⟩, (rtL_all _ _).2 (step (a - 1) (b - 1) (by omega) ((rtL_all _ _).1 h3))⟩, h4⟩
    · rw [if_neg h5] at hr ⊢
      by_cases h6 : k = 6
      · rw [if_pos h6] at hr ⊢
        simp only [Bool.and_eq_true, decide_eq_true_eq] at hr ⊢
        obtain ⟨⟨h0, ⟨h1, h2⟩, h3⟩, h4⟩ := hr
        exact ⟨⟨h0, ⟨by omega, h2⟩, (rtL_all _ _).2 (step (a - 1) (b - 1) (by omega) ((rtL_all _ _).1 h3))⟩, h4⟩
      · rw [if_neg h6] at hr ⊢
        exact hr
termination_by v => SizeOf.sizeOf v
decreasing_by
  have : SizeOf.sizeOf u < SizeOf.sizeOf its := List.sizeOf_lt_of_mem hm
  simp only [Vt.mk.sizeOf_spec]
  omega
/-- What holds of a right set. -/
theorem rt_set {v : Vt} (h : rtB v 32 = true) (hk : v.k = 6) : v.ns.length = v.its.length ∧ v.its.length ≤ 256 ∧ v.ns.Nodup ∧ (∀ s ∈ v.ns, s.length ≤ 1024) ∧ ∀ u ∈ v.its, rtB u 32 = true := by
  cases v with
  | mk k n f t ns its =>
    obtain rfl : k = 6 := hk
    rw [rtB, if_neg (by decide), if_pos rfl] at h
    simp only [Bool.and_eq_true, decide_eq_true_eq] at h
    obtain ⟨⟨⟨h0, h1⟩, ⟨_, h2⟩, h3⟩, _⟩ := h
    refine ⟨h0, h2, ?_, rn_len h1, fun u hu => rt_mono u 31 32 (by omega) ((rtL_all _ _).1 h3 u hu)⟩
    exact List.pairwise_iff_getElem.2 (fun i j hi hj hij => bl_ne (rn_lt h1 j i hj hij))
theorem rt_list {v : Vt} (h : rtB v 32 = true) (hk : v.k = 5) : ∀ u ∈ v.its, rtB u 32 = true := by
  cases v with
  | mk k n f t ns its =>
    obtain rfl : k = 5 := hk
    rw [rtB, if_pos rfl] at h
    simp only [Bool.and_eq_true, decide_eq_true_eq] at h
    exact fun u hu => rt_mono u 31 32 (by omega) ((rtL_all _ _).1 h.1.2 u hu)
theorem rt_flat {v : Vt} (h : rtB v 32 = true) (h5 : v.k ≠ 5) (h6 : v.k ≠ 6) : v.ns = [] ∧ v.its = [] := by
  cases v with
  | mk k n f t ns its =>
    have h5' : k ≠ 5 := h5
    have h6' : k ≠ 6 := h6
    rw [rtB, if_neg h5', if_neg h6'] at h
    have := rightS_empty h
    exact ⟨List.eq_nil_of_length_eq_zero this.1, List.eq_nil_of_length_eq_zero this.2⟩
/-- What definitions that count make. -/
def mrg : Ty → List Vt → Vt ⊕ Int
  | .bare s, l => if s = sFloat then mfl (meq l) else if s = sLines then mln l else if s = sUnit then mun l else meq l
  | .int _ _, l => meq l
  | .enum _, l => meq l
  | .list _, l => bndV (allU l)
  | .attrs k, l => msets (mrg k) l
theorem meq_flat {l : List Vt} (h : ∀ u ∈ l, u.ns = [] ∧ u.its = []) : Flat (meq l) := by
  intro v hv
  cases l with
  | nil => cases hv
  | cons a r =>
    have e : meq (a :: r) = if r.all (fun u => (eqV a u).1) = true then .inl a else .inr 27 := rfl
    rw [e] at hv
    split at hv
    · injection hv with hv; subst hv; exact h _ List.mem_cons_self
    · cases hv
theorem parts_get {x : List UInt8} : ∀ {ns : List (List UInt8)} {its : List Vt} {z : Vt}, partsB ns its = true → getN x ns its = some z → partB x z = true
  | [], _, _, _, h => by simp [getN] at h
  | _ :: _, [], _, _, h => by simp [getN] at h
  | n :: ns, v :: its, z, hp, h => by
    simp only [partsB, Bool.and_eq_true] at hp
    simp only [getN] at h
    split at h
    · rename_i e; injection h with h; subst h; rw [← e]; exact hp.1
    · exact parts_get hp.2 h
theorem uts_of {l : List Vt} (hr : ∀ u ∈ l, rtB u 32 = true) (ht : ∀ u ∈ l, tkB (.bare sUnit) u = true) : Uts l := by
  have hk : ∀ u ∈ l, u.k = 6 ∧ partsB u.ns u.its = true := fun u hu => by
    have := ht u hu
    rw [tkB, if_pos rfl] at this
    simpa using this
  have hz : ∀ x, ∀ z ∈ undV x l, rtB z 32 = true ∧ partB x z = true := fun x z hm => by
    unfold undV at hm
    obtain ⟨a, h1, h2⟩ := List.mem_filterMap.1 hm
    exact ⟨(rt_set (hr a h1) (hk a h1).1).2.2.2.2 z (getN_mem h2), parts_get (hk a h1).2 h2⟩
  refine ⟨fun u hu => (rt_set (hr u hu) (hk u hu).1).1, fun u hu => (rt_set (hr u hu) (hk u hu).1).2.2.2.2, fun j hj z hm => ?_, fun z hm => ?_⟩
  · obtain ⟨h1, h2⟩ := hz _ z hm
    have hk5 : z.k = 5 := by
      match j, hj with
      | 0, _ => simp [partB, nmQ, sAfter, sStart, sRequires] at h2; exact h2.1
      | 1, _ => simp [partB, nmQ, sAfter, sStart, sRequires] at h2; exact h2.1
    exact ⟨rt_256 h1, fun t ht => rt_text (rt_list h1 hk5 t ht)⟩
  · obtain ⟨h1, h2⟩ := hz _ z hm
    have hk4 : z.k = 4 := by simpa [partB] using h2
    exact rt_flat h1 (by omega) (by omega)
theorem ats_of {l : List Vt} {k : Ty} (hr : ∀ u ∈ l, rtB u 32 = true) (ht : ∀ u ∈ l, tkB (.attrs k) u = true) : Ats l ∧ ∀ x, ∀ z ∈ undV x l, rtB z 32 = true ∧ tkB k z = true := by
  have hk : ∀ u ∈ l, u.k = 6 ∧ ∀ z ∈ u.its, tkB k z = true := fun u hu => by
    have := ht u hu
    rw [tkB] at this
    simp only [Bool.and_eq_true, decide_eq_true_eq, List.all_eq_true] at this
    exact this
  refine ⟨⟨fun u hu => (rt_set (hr u hu) (hk u hu).1).1, fun u hu => by
    have := rt_set (hr u hu) (hk u hu).1
    omega, fun u hu => (rt_set (hr u hu) (hk u hu).1).2.2.1, fun u hu => (rt_set (hr u hu) (hk u hu).1).2.2.2.1⟩, fun x z hm => ?_⟩
  unfold undV at hm
  obtain ⟨a, h1, h2⟩ := List.mem_filterMap.1 hm
  exact ⟨(rt_set (hr a h1) (hk a h1).1).2.2.2.2 z (getN_mem h2), (hk a h1).2 z (getN_mem h2)⟩
theorem getN_some {x : List UInt8} : ∀ {ns : List (List UInt8)} {its : List Vt}, ns.length = its.length → x ∈ ns → ∃ z, getN x ns its = some z
  | [], _, _, h => by simp at h
  | _ :: _, [], hl, _ => by simp at hl
  | n :: ns, v :: its, hl, h => by
    simp only [getN]
    by_cases e : n = x
    · exact ⟨v, by rw [if_pos e]⟩
    · rw [if_neg e]
      exact getN_some (by simpa using hl) ((List.mem_cons.1 h).resolve_left (fun e2 => e e2.symm))
theorem und_ne {l : List Vt} (hA : Ats l) {x : List UInt8} (h : x ∈ gnm l) : undV x l ≠ [] := by
  obtain ⟨u, hu, hx⟩ := List.mem_flatMap.1 (gnm_mem.1 h)
  obtain ⟨z, hz⟩ := getN_some (hA.ns u hu) hx
  intro e
  have : z ∈ undV x l := List.mem_filterMap.2 ⟨u, hu, hz⟩
  rw [e] at this; simp at this
theorem mrg_err : ∀ (k : Ty) (l : List Vt) (n : Int), l ≠ [] → (∀ u ∈ l, rtB u 32 = true) → (∀ u ∈ l, tkB k u = true) → mrg k l = .inr n → n = 20 ∨ n = 27
  | .bare s, l, n, hne, _, _, h => by
    simp only [mrg] at h
    split at h
    · cases hm : meq l with
      | inl v => rw [hm] at h; cases h
      | inr e => rw [hm] at h; injection h with h; subst h; exact .inr (meq_err hne hm)
    · split at h
      · unfold mln at h
        split at h
        · cases h
        · injection h with h; exact .inl h.symm
      · split at h
        · unfold mun at h
          cases h0 : prt l 0 with
          | inr e => rw [h0] at h; injection h with h; subst h; exact prt_err h0
          | inl a =>
            rw [h0] at h
            simp only at h
            cases h1 : prt l 1 with
            | inr e => rw [h1] at h; injection h with h; subst h; exact prt_err h1
            | inl b =>
              rw [h1] at h
              simp only at h
              cases h2 : prt l 2 with
              | inr e => rw [h2] at h; injection h with h; subst h; exact prt_err h2
              | inl c => rw [h2] at h; cases h
        · exact .inr (meq_err hne h)
  | .int _ _, l, n, hne, _, _, h => .inr (meq_err hne h)
  | .enum _, l, n, hne, _, _, h => .inr (meq_err hne h)
  | .list _, l, n, _, _, _, h => .inl (bnd_err h)
  | .attrs k, l, n, _, hr, ht, h => by
    obtain ⟨hA, hU⟩ := ats_of hr ht
    simp only [mrg, msets] at h
    split at h
    · injection h with h; exact .inl h.symm
    · have key : ∀ (N : List (List UInt8)) (e : Int), (∀ x ∈ N, undV x l ≠ []) → msL (fun x => mrg k (undV x l)) N = .inr e → e = 20 ∨ e = 27 := by
        intro N
        induction N with
        | nil => intro e _ he; cases he
        | cons x r ih =>
          intro e hN he
          simp only [msL] at he
          cases hx : mrg k (undV x l) with
          | inr q => rw [hx] at he; injection he with he; subst he; exact mrg_err k _ _ (hN x List.mem_cons_self) (fun u hu => (hU x u hu).1) (fun u hu => (hU x u hu).2) hx
          | inl v =>
            rw [hx] at he
            simp only at he
            cases hr : msL (fun x => mrg k (undV x l)) r with
            | inr q => rw [hr] at he; injection he with he; subst he; exact ih _ (fun y hy => hN y (List.mem_cons_of_mem _ hy)) hr
            | inl vs => rw [hr] at he; cases he
      cases hm : msL (fun x => mrg k (undV x l)) (gnm l) with
      | inr e => rw [hm] at h; injection h with h; subst h; exact key _ _ (fun x hx => und_ne hA hx) hm
      | inl vs => rw [hm] at h; cases h
theorem mfl_flat {T : Vt ⊕ Int} (h : Flat T) : Flat (mfl T) := by
  intro v hv
  cases T with
  | inr e => cases hv
  | inl u =>
    simp only [mfl, Sum.inl.injEq] at hv
    subst hv
    split
    · exact ⟨rfl, rfl⟩
    · exact h u rfl
theorem mln_flat (l : List Vt) : Flat (mln l) := by
  intro v hv
  unfold mln at hv
  split at hv
  · injection hv with hv; subst hv; exact ⟨rfl, rfl⟩
  · cases hv

/-- The contract of merge. -/
theorem merge_any : ∀ (k : Ty), tyOk k → ∀ (w0 w : World) (b : Nat) (l : List Vt) (ad : Option Addr) (cap : Nat), Env w0 w → KIn w k b → Rws w0 w l ad → l ≠ [] → l.length ≤ cap → l.length ≤ 1000 → (∀ u ∈ l, rtB u 32 = true) → (∀ u ∈ l, tkB k u = true) →
    Calls Tryz.prog 34 #[pv b, .slice ad l.length cap] w fun e w' => HPost w0 w (mrg k l) e w' := by
  have eqn : ∀ (w0 w W : World) (l : List Vt) (ad : Option Addr) (cap : Nat), Env w0 w → Env w W → Rws w0 w l ad → l ≠ [] → l.length ≤ cap → l.length ≤ 1000 → (∀ u ∈ l, rtB u 32 = true) → (∀ u ∈ l, u.ns = [] ∧ u.its = []) → Calls Tryz.prog 58 #[.slice ad l.length cap] W fun e w' => MPost W (meq l) e w' := by
    intro w0 w W l ad cap e0 e1 hI hne hcap hlim hr hf
    have hI' := IIn.env e1 _ _ (hI.iin e0)
    cases l with
    | nil => exact absurd rfl hne
    | cons v r => exact mergeEqual_any W v r ad cap hI' (by simpa using hcap) (by simp at hlim; omega) hr (hf v List.mem_cons_self).1 (hf v List.mem_cons_self).2
  intro k
  induction k with
  | bare s =>
    intro hok w0 w b l ad cap e0 hk hI hne hcap hlim hr ht
    have hw : bareW s := hok
    have hkk : w.cell? ⟨b, 0, none⟩ = some (.string ⟨s.toArray⟩) := hk
    have hpos : 0 < l.length := List.length_pos_iff.2 hne
    have hfl : s ≠ sUnit → ∀ u ∈ l, u.ns = [] ∧ u.its = [] := fun hs u hu => by
      have h1 := ht u hu
      rw [tkB, if_neg hs] at h1
      unfold bareT at h1
      have h2 : u.k ≠ 5 ∧ u.k ≠ 6 := by
        split at h1
        · simp only [decide_eq_true_eq] at h1; omega
        · split at h1
          · simp only [Bool.or_eq_true, decide_eq_true_eq] at h1; omega
          · simp only [decide_eq_true_eq] at h1; omega
      exact rt_flat (hr u hu) h2.1 h2.2
    have cases5 : s = sBool ∨ s = sFloat ∨ s = sString ∨ s = sLines ∨ s = sUnit := by
      unfold bareW at hw; simpa using hw
    rcases cases5 with rfl | rfl | rfl | rfl | rfl
    · have hf := hfl (by decide)
      have hm : mrg (.bare sBool) l = meq l := by rw [mrg, if_neg (by decide), if_neg (by decide), if_neg (by decide)]
      rw [hm]
      exact (merge_eq w sBool (.inl rfl) b ad l.length cap (meq l) (meq_flat hf) hkk (eqn w0 w _ l ad cap e0 (Env.alloc w _) hI hne hcap hlim hr hf)).mono fun _ _ h => h.h (meq_flat hf)
    · have hf := hfl (by decide)
      have hm : mrg (.bare sFloat) l = mfl (meq l) := by rw [mrg, if_pos rfl]
      rw [hm]
      exact (merge_float w sFloat rfl b ad l.length cap (mfl (meq l)) (mfl_flat (meq_flat hf)) hkk (mergeFloats_any _ ad l.length cap (meq l) (meq_flat hf) (eqn w0 w _ l ad cap e0 ((Env.alloc w _).trans (Env.alloc _ _)) hI hne hcap hlim hr hf))).mono fun _ _ h => h.h (mfl_flat (meq_flat hf))
    · have hf := hfl (by decide)
      have hm : mrg (.bare sString) l = meq l := by rw [mrg, if_neg (by decide), if_neg (by decide), if_neg (by decide)]
      rw [hm]
      exact (merge_eq w sString (.inr (.inl rfl)) b ad l.length cap (meq l) (meq_flat hf) hkk (eqn w0 w _ l ad cap e0 (Env.alloc w _) hI hne hcap hlim hr hf)).mono fun _ _ h => h.h (meq_flat hf)
    · have hm : mrg (.bare sLines) l = mln l := by rw [mrg, if_neg (by decide), if_pos rfl]
      rw [hm]
      exact (merge_lines w sLines rfl b ad l.length cap (mln l) (mln_flat l) hkk (mergeLines_any _ l ad cap (IIn.env (Env.alloc w _) _ _ (hI.iin e0)) hpos hlim hr)).mono fun _ _ h => h.h (mln_flat l)
    · have hm : mrg (.bare sUnit) l = mun l := by rw [mrg, if_neg (by decide), if_neg (by decide), if_pos rfl]
      rw [hm]
      exact merge_unitH w0 w b ad l.length cap (mun l) hkk (mergeUnits_any w0 _ l ad cap (IIn.env (Env.alloc w _) _ _ (hI.iin e0)) hlim (uts_of hr ht))
  | int lo hi =>
    intro _ w0 w b l ad cap e0 hk hI hne hcap hlim hr ht
    have hf : ∀ u ∈ l, u.ns = [] ∧ u.its = [] := fun u hu => by
      have h1 := ht u hu
      rw [tkB] at h1
      simp only [Bool.and_eq_true, decide_eq_true_eq] at h1
      exact rt_flat (hr u hu) (by omega) (by omega)
    exact (merge_eq w sInt (.inr (.inr (.inl rfl))) b ad l.length cap (meq l) (meq_flat hf) hk.1 (eqn w0 w _ l ad cap e0 (Env.alloc w _) hI hne hcap hlim hr hf)).mono fun _ _ h => h.h (meq_flat hf)
  | enum ws =>
    intro _ w0 w b l ad cap e0 hk hI hne hcap hlim hr ht
    have hf : ∀ u ∈ l, u.ns = [] ∧ u.its = [] := fun u hu => by
      have h1 := ht u hu
      rw [tkB] at h1
      simp only [Bool.and_eq_true, decide_eq_true_eq] at h1
      exact rt_flat (hr u hu) (by omega) (by omega)
    exact (merge_eq w sEnum (.inr (.inr (.inr rfl))) b ad l.length cap (meq l) (meq_flat hf) hk.1 (eqn w0 w _ l ad cap e0 (Env.alloc w _) hI hne hcap hlim hr hf)).mono fun _ _ h => h.h (meq_flat hf)
  | list k ih =>
    intro _ w0 w b l ad cap e0 hk hI hne hcap hlim hr ht
    exact merge_listH w0 w b ad l.length cap (bndV (allU l)) hk.1 ((mergeLists_r w0 _ (e0.trans (Env.alloc w _)) l ad cap (hI.env (Env.alloc w _)) hlim (fun u hu => rt_256 (hr u hu))).mono fun _ _ h => h.h)
  | attrs k ih =>
    intro hok w0 w b l ad cap e0 hk hI hne hcap hlim hr ht
    obtain ⟨h0, c, hc, hkc⟩ := hk
    obtain ⟨hA, hU⟩ := ats_of hr ht
    have hlen : ∀ x, (undV x l).length ≤ 1000 := fun x => Nat.le_trans (List.length_filterMap_le _ _) hlim
    refine merge_attrsH w0 w b ad l.length cap (msets (mrg k) l) h0 c hc (mergeSets_any w0 _ (e0.trans (Env.alloc w _)) c (mrg k) l ad cap (hI.env (Env.alloc w _)) hlim hA (fun u hu s hs => Nat.le_trans (hA.nl u hu s hs) (by unfold lim; omega)) (fun x hx W ad' cap' eW hR hcap' => ?_) (fun x hx n hn => ?_))
    · exact ih hok w0 W c (undV x l) ad' cap' ((e0.trans (Env.alloc w _)).trans eW) (KIn.env ((Env.alloc w _).trans eW) k c hkc) hR (und_ne hA hx) hcap' (hlen x) (fun u hu => (hU x u hu).1) (fun u hu => (hU x u hu).2)
    · rcases mrg_err k _ n (und_ne hA hx) (fun u hu => (hU x u hu).1) (fun u hu => (hU x u hu).2) hn with rfl | rfl <;> decide

end Go.Proofs.YtniailfcmlongaaGreatDoor.Tr
