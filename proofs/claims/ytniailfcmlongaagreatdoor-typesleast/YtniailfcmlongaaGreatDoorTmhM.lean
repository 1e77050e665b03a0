import Derived.Test.YtniailfcmlongaaGreatDoorTonM
import Derived.Test.YtniailfcmlongaaGreatDoorTmgM
import Derived.Test.YtniailfcmlongaaGreatDoorTtbM
/- The contract of Merge of lists. (Written by gen/Tmi.py out of Tmg.) -/
namespace Go.Proofs.YtniailfcmlongaaGreatDoor.Tr
open Go.RowKit

theorem cntV_len (L : List Dt) : (cntV L).length = (cntF L).length := by
  unfold cntV
  rw [List.length_map]
  unfold insT
  rw [Array.length_toList]
  have := (Sort.insertionSort_holds (lt := ltOf cfT) swoT (cntF L).toArray 0 (cntF L).length (Nat.zero_le _) (by simp)).1.1
  simpa using this
theorem rt_256 {v : Vt} (h : rtB v 32 = true) : v.its.length ≤ 256 := by
  cases v with
  | mk k n f t ns its =>
    show its.length ≤ 256
    rw [rtB] at h
    split at h
    · simp only [Bool.and_eq_true, decide_eq_true_eq] at h
      exact h.1.1.2
    · split at h
      · simp only [Bool.and_eq_true, decide_eq_true_eq] at h
        exact h.1.2.1.2
      · have := (rightS_empty h).2
        simp only at this
        omega
/-- What comes of Merge of lists: too long, or a new row with these texts. -/
def TPost (w : World) (U : List Vt) (e : Ending) (w' : World) : Prop :=
  Fr (fun _ => False) w w' ∧ ((256 < U.length ∧ e = .returned (.tuple #[vZ.v, .int .i64 20])) ∨ (U.length ≤ 256 ∧ ∃ (X : List Vv) (ia : Option Addr) (ic : Nat), e = .returned (.tuple #[(⟨5, 0, 0, [], none, 0, 0, ia, X.length, ic⟩ : Vv).v, .int .i64 0]) ∧ w'.ownsRow w.heap.size 26 6 (.slice ia X.length ic) X.length (flatV X) ∧ X.length = U.length ∧ ∀ i (h : i < U.length) (h' : i < X.length), X[i].t = U[i].t))

set_option maxRecDepth 100000 in
set_option maxHeartbeats 4000000 in
theorem Merge_list (w : World) (t : List UInt8) (L : List Dt) (ad : Option Addr) (cap : Nat) (hl : t.length ≤ 140737488355328) (hm : Mx w) (k : Ty) (hk : readT t = some (.list k)) (hI : DsIn w L ad) (hlim : L.length ≤ 1000) (hne : L ≠ []) (h20 : (cntF L).length ≤ 20) (hc0 : 0 < (cntF L).length)
    (hr : (L.all fun d => rtB d.v 32) = true) (hr2 : ∀ v ∈ cntV L, rtB v 32 = true) (hT : ((cntV L).all fun u => tkB (.list k) u) = true) :
    Calls Tryz.prog 17 #[.string ⟨t.toArray⟩, .slice ad L.length cap] w fun e w' => TPost w (allU (cntV L)) e w' := by
  have HC := hid (read_any (vBox w vZ) t hl (hm.env (Env.alloc w _)))
  have HF0 := hid (vFr w vZ)
  have HB0 := hid (vBlk w vZ)
  rw [hk] at HC
  have HAR : Hid (∀ W, Env w W → Calls Tryz.prog 31 #[.slice ad L.length cap] W fun e w' => e = .returned (.bool true) ∧ Fr (fun _ => False) W w') := fun W e => by
    have := allRight_any W L ad cap (hI.env e) (by omega)
    rw [hr] at this
    exact this
  have HCt : Hid (∀ W, Env w W → Calls Tryz.prog 32 #[.slice ad L.length cap] W fun e w' => (∃ ia ic, e = .returned (.slice ia (cntV L).length ic) ∧ (cntV L).length ≤ ic ∧ IIn w' (cntV L) ia) ∧ Fr (fun _ => False) W w') := fun W e => (counting_any W L ad cap (hI.env e) hlim hne h20 hc0).mono fun _ _ ⟨⟨F, ia, ic, h1, h2, h3, h4, h5⟩, hf⟩ => by
    have e1 := cnt_of h3 h4
    have e2 : F.length = (cntV L).length := by
      have h : (insZ F.toArray).toList.length = F.length := (Array.length_toList (xs := insZ F.toArray)).trans ((insZ_size F.toArray).trans (by simp))
      rw [← e1, List.length_map, h]
    rw [e1] at h5
    rw [e2] at h1 h2
    exact ⟨⟨ia, ic, h1, h2, h5⟩, hf⟩
  have HTk : Hid (∀ W b ia ic, KIn W (.list k) b → IIn W (cntV L) ia → Calls Tryz.prog 33 #[pv b, .slice ia (cntV L).length ic] W fun e w' => e = .returned (.bool ((cntV L).all fun u => tkB (.list k) u)) ∧ Fr (fun _ => False) W w') := fun W b ia ic h1 h2 => takesAll_of (.list k) (takes_any (.list k) (readT_ok hk)) (cntV L) (fun u hu => ⟨32, hr2 u hu⟩) W ia ic b h2 (by
    have : (cntV L).length ≤ 20 := by
      unfold cntV; rw [List.length_map]
      have e : (insT (cntF L)).length = (cntF L).length := by
        unfold insT
        rw [Array.length_toList]
        have := (Sort.insertionSort_holds (lt := ltOf cfT) swoT (cntF L).toArray 0 (cntF L).length (Nat.zero_le _) (by simp)).1.1
        simpa using this
      rw [e]; exact h20
    unfold lim; omega) h1
  have HM : Hid (∀ W b ia ic, KIn W (.list k) b → IIn W (cntV L) ia → Calls Tryz.prog 34 #[pv b, .slice ia (cntV L).length ic] W fun e w' => LPost W W (allU (cntV L)) e w') := fun W b ia ic h1 h2 => merge_list W W b ia (cntV L).length ic _ h1.1 (mergeLists_any W (vBox W vZ) (Env.alloc W _) (cntV L) ia ic h2 (by rw [cntV_len]; omega) (fun u hu => rt_256 (hr2 u hu)))
  rw [hT] at HTk
  have hL0 : (((L.length : Nat) : Int) == 0) = false := by simp; exact hne
  generalize allU (cntV L) = U at *
  generalize cntV L = V at *
  clear hm hk hI hne h20 hc0 hr hr2 hT
  go_enter Tryz.func17, Tryz.ntmps17
  go_wp2_with fail
  refine HC.out.mono ?_
  rintro e w1 ⟨f1, ⟨h1, _⟩ | ⟨k1, b1, h1, rfl, hK1⟩⟩
  · cases h1
  cases h1
  have HF1 := hid (HF0.out.trans f1 (fun _ h => h.elim))
  have HB1 := hid (f1.blk HB0.out (fun h => h))
  have HK1 := hid hK1
  clear f1 hK1 HF0 HB0 HC
  go_wp2_with fail
  refine (HAR.out _ (Env.of HF1.out)).mono ?_
  rintro e w2 ⟨rfl, f2⟩
  have HF2 := hid (HF1.out.trans f2 (fun _ h => h.elim))
  have HB2 := hid (f2.blk HB1.out (fun h => h))
  have HK2 := hid (KIn.env (Env.of f2) _ _ HK1.out)
  clear f2 HF1 HB1 HK1 HAR
  go_wp2_with fail
  refine (HCt.out _ (Env.of HF2.out)).mono ?_
  rintro e w3 ⟨⟨ia, ic, rfl, hic, hII⟩, f3⟩
  have HF3 := hid (HF2.out.trans f3 (fun _ h => h.elim))
  have HB3 := hid (f3.blk HB2.out (fun h => h))
  have HK3 := hid (KIn.env (Env.of f3) _ _ HK2.out)
  have HI3 := hid hII
  clear f3 HF2 HB2 HK2 HCt hII
  go_wp2_with fail
  refine (HTk.out _ _ _ _ HK3.out HI3.out).mono ?_
  rintro e w4 ⟨rfl, f4⟩
  have HF4 := hid (HF3.out.trans f4 (fun _ h => h.elim))
  have HB4 := hid (f4.blk HB3.out (fun h => h))
  have HK4 := hid (KIn.env (Env.of f4) _ _ HK3.out)
  have HI4 := hid (IIn.env (Env.of f4) _ _ HI3.out)
  clear f4 HF3 HB3 HK3 HTk HI3
  have HC5 := hid (HM.out w4 _ ia ic HK4.out HI4.out)
  clear HM
  go_wp2_with fail
  refine HC5.out.mono ?_
  rintro e w6 ⟨f1, ⟨h256, rfl⟩ | ⟨h256, X, ia', ic', rfl, hO, hR⟩⟩
  · have HF6 := hid (HF4.out.trans f1 (fun _ h => h.elim))
    have HB6 := hid (f1.blk HB4.out (fun h => h))
    have HH := hid h256
    clear f1 h256
    go_wp2_with (refine wpList_storeV vZ (by rfl) _ _ (by rfl) HB6.out (by rfl) (by rfl) ?_; intro w5 b5 f5)
    have HF5 : Hid (Fr (fun _ => False) w w5) := HF6.out.trans f5 (fun j hj => .inr (by omega))
    have HB5 := hid b5
    clear b5 f5
    go_wp2_with fail
    exact bodyPost_ret (resVE rfl rfl HB5.out) rfl ⟨HF5.out, .inl ⟨HH.out, rfl⟩⟩
  · have HF6 := hid (HF4.out.trans f1 (fun _ h => h.elim))
    have HB6 := hid (f1.blk HB4.out (fun h => h))
    have HH := hid h256
    have HO := hid hO
    have HR := hid hR
    have HSz : Hid (w.heap.size < w4.heap.size) := HB4.out.lt
    clear f1 h256 hO hR
    go_wp2_with (refine wpList_storeV ⟨5, 0, 0, [], none, 0, 0, ia', X.length, ic'⟩ (by rfl) _ _ (by rfl) HB6.out (by rfl) (by rfl) ?_; intro w5 b5 f5)
    have HF5 : Hid (Fr (fun _ => False) w w5) := HF6.out.trans f5 (fun j hj => .inr (by omega))
    have HO5 : Hid (w5.ownsRow w.heap.size 26 6 (.slice ia' X.length ic') X.length (flatV X)) := own_down (own_keep HO.out HSz.out f5) (by have := HSz.out; omega)
    have HB5 := hid b5
    clear b5 f5
    go_wp2_with fail
    exact bodyPost_ret (resVE rfl rfl HB5.out) rfl ⟨HF5.out, .inr ⟨HH.out, X, ia', ic', rfl, HO5.out, HR.out.1, fun i h1 h2 => (HR.out.2 i h1 h2).parts.1.2.2.2⟩⟩
end Go.Proofs.YtniailfcmlongaaGreatDoor.Tr
/- mergeFloats. -/
namespace Go.Proofs.YtniailfcmlongaaGreatDoor.Tr
open Go.RowKit

/-- The float of an int. -/
def flV (n : Int) : Vt := .mk 3 0 (floatOfInt .f64 n) [] [] []
theorem vin_fl (W : World) (n : Int) : VIn W (flV n) ⟨3, 0, floatOfInt .f64 n, [], none, 0, 0, none, 0, 0⟩ := by
  unfold flV
  rw [VIn]
  exact ⟨⟨rfl, rfl, rfl, rfl⟩, ⟨⟨by decide, by decide⟩, ⟨by decide, by decide⟩, by simp, by simp⟩, ⟨rfl, by simp, by simp, fun e => absurd rfl e⟩, ⟨rfl, by simp, by simp⟩, by rw [IIn]; trivial⟩

set_option maxRecDepth 100000 in
set_option maxHeartbeats 4000000 in
theorem mergeFloats_err (w : World) (ad : Option Addr) (n cap : Nat) (er : Int) (hC : Calls Tryz.prog 58 #[.slice ad n cap] (vBox w vZ) fun e w' => MPost (vBox w vZ) (.inr er) e w') :
    Calls Tryz.prog 53 #[.slice ad n cap] w fun e w' => MPost w (.inr er) e w' := by
  have HC := hid hC
  have HF0 := hid (vFr w vZ)
  have HB0 := hid (vBlk w vZ)
  clear hC
  go_enter Tryz.func53, Tryz.ntmps53
  go_wp2_with fail
  refine HC.out.mono ?_
  rintro e w1 ⟨f1, ⟨_, e1, rfl⟩ | ⟨v1, x1, e1, rfl, hv1⟩⟩
  · obtain rfl := Sum.inr.inj e1
    have HF1 := hid (HF0.out.trans f1 (fun _ h => h.elim))
    have HB1 := hid (f1.blk HB0.out (fun h => h))
    clear f1 e1
    go_wp2_with (first
      | (refine wpList_storeV vZ (by rfl) _ _ (by rfl) (vBlk w1 vZ) (by rfl) (by rfl) ?_; intro w2 b2 f2; obtain ⟨c0, c1, c2, c3, c4, c5⟩ := b2.six; have HB2 := hid (f2.blk (HB1.out.alloc _) (fun h => absurd h (Nat.ne_of_lt HB1.out.lt))); have HF2 : Hid (Fr (fun _ => False) w w2) := (HF1.out.alloc _).trans f2 (fun j hj => .inr (by have := HF1.out.size; omega)); clear b2 f2)
      | (refine wpList_storeV vZ (by rfl) _ _ (by rfl) HB2.out (by rfl) (by rfl) ?_; intro w5 b5 f5; have HB5 := hid b5; have HF5 : Hid (Fr (fun _ => False) w w5) := HF2.out.trans f5 (fun j hj => .inr (by omega)); clear b5 f5))
    exact bodyPost_ret (resVE rfl rfl HB5.out) rfl ⟨HF5.out, .inl ⟨_, rfl, rfl⟩⟩
  · cases e1

set_option maxRecDepth 100000 in
set_option maxHeartbeats 4000000 in
/-- A float stays. -/
theorem mergeFloats_float (w : World) (ad : Option Addr) (n cap : Nat) (v : Vt) (hv : (v.k == 2) = false) (hfl : v.ns = [] ∧ v.its = []) (hC : Calls Tryz.prog 58 #[.slice ad n cap] (vBox w vZ) fun e w' => MPost (vBox w vZ) (.inl v) e w') :
    Calls Tryz.prog 53 #[.slice ad n cap] w fun e w' => MPost w (.inl v) e w' := by
  have HC := hid hC
  have HFl := hid hfl
  have HF0 := hid (vFr w vZ)
  have HB0 := hid (vBlk w vZ)
  clear hC hfl
  go_enter Tryz.func53, Tryz.ntmps53
  go_wp2_with fail
  refine HC.out.mono ?_
  rintro e w1 ⟨f1, ⟨_, e1, rfl⟩ | ⟨v1, x1, e1, rfl, hv1⟩⟩
  · cases e1
  · obtain rfl := Sum.inl.inj e1
    have HF1 := hid (HF0.out.trans f1 (fun _ h => h.elim))
    have HB1 := hid (f1.blk HB0.out (fun h => h))
    have hk := hv1.parts.1.1
    have HV := hid hv1
    clear f1 e1 hv1
    obtain ⟨k, n', f, t, na, nl, nc, ia, il, ic⟩ := x1
    simp only at hk
    rw [← hk] at hv
    clear hk
    go_wp2_with (first
      | (refine wpList_storeV ⟨k, n', f, t, na, nl, nc, ia, il, ic⟩ (by rfl) _ _ (by rfl) (vBlk w1 vZ) (by rfl) (by rfl) ?_; intro w2 b2 f2; obtain ⟨c0, c1, c2, c3, c4, c5⟩ := b2.six; have HB2 := hid (f2.blk (HB1.out.alloc _) (fun h => absurd h (Nat.ne_of_lt HB1.out.lt))); have HF2 : Hid (Fr (fun _ => False) w w2) := (HF1.out.alloc _).trans f2 (fun j hj => .inr (by have := HF1.out.size; omega)); clear b2 f2)
      | (refine wpList_storeV ⟨k, n', f, t, na, nl, nc, ia, il, ic⟩ (by rfl) _ _ (by rfl) HB2.out (by rfl) (by rfl) ?_; intro w5 b5 f5; have HB5 := hid b5; have HF5 : Hid (Fr (fun _ => False) w w5) := HF2.out.trans f5 (fun j hj => .inr (by omega)); clear b5 f5))
    have HV5 : Hid (∀ W, VIn W v ⟨k, n', f, t, na, nl, nc, ia, il, ic⟩) := fun W => vin_any HV.out HFl.out
    exact bodyPost_ret (resVE rfl rfl HB5.out) rfl ⟨HF5.out, .inr ⟨v, _, rfl, rfl, HV5.out _⟩⟩

set_option maxRecDepth 100000 in
set_option maxHeartbeats 4000000 in
/-- An int becomes its float. -/
theorem mergeFloats_int (w : World) (ad : Option Addr) (n cap : Nat) (v : Vt) (hv : v.k = 2) (hC : Calls Tryz.prog 58 #[.slice ad n cap] (vBox w vZ) fun e w' => MPost (vBox w vZ) (.inl v) e w') :
    Calls Tryz.prog 53 #[.slice ad n cap] w fun e w' => MPost w (.inl (flV v.n)) e w' := by
  have HC := hid hC
  have HF0 := hid (vFr w vZ)
  have HB0 := hid (vBlk w vZ)
  clear hC
  go_enter Tryz.func53, Tryz.ntmps53
  go_wp2_with fail
  refine HC.out.mono ?_
  rintro e w1 ⟨f1, ⟨_, e1, rfl⟩ | ⟨v1, x1, e1, rfl, hv1⟩⟩
  · cases e1
  · obtain rfl := Sum.inl.inj e1
    have HF1 := hid (HF0.out.trans f1 (fun _ h => h.elim))
    have HB1 := hid (f1.blk HB0.out (fun h => h))
    have hk := hv1.parts.1.1
    have HV := hid hv1
    clear f1 e1 hv1
    obtain ⟨k, n', f, t, na, nl, nc, ia, il, ic⟩ := x1
    simp only at hk
    rw [hv] at hk
    subst hk
    have hn := HV.out.parts.1.2.1
    simp only at hn
    subst hn
    go_wp2_with (first
      | (refine wpList_storeV ⟨2, v.n, f, t, na, nl, nc, ia, il, ic⟩ (by rfl) _ _ (by rfl) (vBlk w1 vZ) (by rfl) (by rfl) ?_; intro w2 b2 f2; obtain ⟨c0, c1, c2, c3, c4, c5⟩ := b2.six; have HB2 := hid (f2.blk (HB1.out.alloc _) (fun h => absurd h (Nat.ne_of_lt HB1.out.lt))); have HF2 : Hid (Fr (fun _ => False) w w2) := (HF1.out.alloc _).trans f2 (fun j hj => .inr (by have := HF1.out.size; omega)); clear b2 f2)
      | (refine wpList_storeV ⟨3, 0, floatOfInt .f64 v.n, [], none, 0, 0, none, 0, 0⟩ (by rfl) _ _ (by rfl) HB2.out (by rfl) (by rfl) ?_; intro w5 b5 f5; have HB5 := hid b5; have HF5 : Hid (Fr (fun _ => False) w w5) := HF2.out.trans f5 (fun j hj => .inr (by omega)); clear b5 f5))
    exact bodyPost_ret (resVE rfl rfl HB5.out) rfl ⟨HF5.out, .inr ⟨flV v.n, _, rfl, rfl, vin_fl _ _⟩⟩

/-- What floats make. -/
def mfl : Vt ⊕ Int → Vt ⊕ Int
  | .inl v => .inl (if v.k = 2 then flV v.n else v)
  | .inr e => .inr e
theorem mergeFloats_any (w : World) (ad : Option Addr) (n cap : Nat) (T : Vt ⊕ Int) (hfl : Flat T) (hC : Calls Tryz.prog 58 #[.slice ad n cap] (vBox w vZ) fun e w' => MPost (vBox w vZ) T e w') :
    Calls Tryz.prog 53 #[.slice ad n cap] w fun e w' => MPost w (mfl T) e w' := by
  cases T with
  | inr e => exact mergeFloats_err w ad n cap e hC
  | inl v =>
    by_cases h : v.k = 2
    · rw [show mfl (.inl v) = .inl (flV v.n) by simp [mfl, h]]; exact mergeFloats_int w ad n cap v h hC
    · rw [show mfl (.inl v) = .inl v by simp [mfl, h]]; exact mergeFloats_float w ad n cap v (by simpa using h) (hfl v rfl) hC
end Go.Proofs.YtniailfcmlongaaGreatDoor.Tr
/- Merge of any number of definitions, for results without parts and for lists; merge of floats. -/
namespace Go.Proofs.YtniailfcmlongaaGreatDoor.Tr
open Go.RowKit

set_option maxRecDepth 100000 in
set_option maxHeartbeats 4000000 in
theorem merge_float (w : World) (s : List UInt8) (hs : s = sFloat) (b : Nat) (ad : Option Addr) (n cap : Nat) (T : Vt ⊕ Int) (hfl : Flat T) (hk : w.cell? ⟨b, 0, none⟩ = some (.string ⟨s.toArray⟩)) (hC : Calls Tryz.prog 53 #[.slice ad n cap] (vBox w vZ) fun e w' => MPost (vBox w vZ) T e w') :
    Calls Tryz.prog 34 #[pv b, .slice ad n cap] w fun e w' => MPost w T e w' := by
  have HC := hid hC
  have HFl := hid hfl
  have HF0 := hid (vFr w vZ)
  have HB0 := hid (vBlk w vZ)
  have c0 : (w.alloc (.cells #[.int .i64 0, .int .i64 0, .float .f64 0, .string ⟨#[]⟩, .slice none 0 0, .slice none 0 0] 26)).cell? ⟨b, 0, none⟩ = some (.string ⟨s.toArray⟩) := (Env.alloc w _).cell hk
  clear hC hk hfl
  rcases hs with rfl
  all_goals
    go_enter Tryz.func34, Tryz.ntmps34
    go_wp2_with fail
    refine HC.out.mono ?_
    rintro e w1 ⟨f1, ⟨er, e1, rfl⟩ | ⟨v1, x1, e1, rfl, hv1⟩⟩
    · have HF1 := hid (HF0.out.trans f1 (fun _ h => h.elim))
      have HB1 := hid (f1.blk HB0.out (fun h => h))
      have HE := hid e1
      clear f1 e1
      go_wp2_with (refine wpList_storeV vZ (by rfl) _ _ (by rfl) HB1.out (by rfl) (by rfl) ?_; intro w5 b5 f5)
      have HF5 : Hid (Fr (fun _ => False) w w5) := HF1.out.trans f5 (fun j hj => .inr (by omega))
      have HB5 := hid b5
      clear b5 f5
      go_wp2_with fail
      exact bodyPost_ret (resVE rfl rfl HB5.out) rfl ⟨HF5.out, .inl ⟨er, HE.out, rfl⟩⟩
    · have HF1 := hid (HF0.out.trans f1 (fun _ h => h.elim))
      have HB1 := hid (f1.blk HB0.out (fun h => h))
      have HE := hid e1
      have HV := hid hv1
      clear f1 e1 hv1
      obtain ⟨k, n', f, t, na, nl, nc, ia, il, ic⟩ := x1
      go_wp2_with (refine wpList_storeV ⟨k, n', f, t, na, nl, nc, ia, il, ic⟩ (by rfl) _ _ (by rfl) HB1.out (by rfl) (by rfl) ?_; intro w5 b5 f5)
      have HF5 : Hid (Fr (fun _ => False) w w5) := HF1.out.trans f5 (fun j hj => .inr (by omega))
      have HV5 : Hid (∀ W, VIn W v1 ⟨k, n', f, t, na, nl, nc, ia, il, ic⟩) := fun W => vin_any HV.out (HFl.out v1 HE.out)
      have HB5 := hid b5
      clear b5 f5
      go_wp2_with fail
      exact bodyPost_ret (resVE rfl rfl HB5.out) rfl ⟨HF5.out, .inr ⟨v1, _, HE.out, rfl, HV5.out _⟩⟩

set_option maxRecDepth 100000 in
set_option maxHeartbeats 4000000 in
theorem Merge_ofB (w : World) (t : List UInt8) (L : List Dt) (ad : Option Addr) (cap : Nat) (hl : t.length ≤ 140737488355328) (hm : Mx w) (k : Ty) (hk : readT t = some k) (hI : DsIn w L ad) (hlim : L.length ≤ 1000) (hne : L ≠ []) (hc0 : 0 < (cntF L).length)
    (hr : (L.all fun d => rtB d.v 32) = true) (hr2 : ∀ v ∈ cntV L, rtB v 32 = true) (T : Vt ⊕ Int) (hfl : Flat T) (hT : ((cntV L).all fun u => tkB k u) = false → T = .inr 11)
    (hM : ((cntV L).all fun u => tkB k u) = true → ∀ W b ia ic, KIn W k b → IIn W (cntV L) ia → (cntV L).length ≤ ic → Calls Tryz.prog 34 #[pv b, .slice ia (cntV L).length ic] W fun e w' => MPost W T e w') :
    Calls Tryz.prog 17 #[.string ⟨t.toArray⟩, .slice ad L.length cap] w fun e w' => MPost w T e w' := by
  have HC := hid (read_any (vBox w vZ) t hl (hm.env (Env.alloc w _)))
  have HF0 := hid (vFr w vZ)
  have HB0 := hid (vBlk w vZ)
  rw [hk] at HC
  have HAR : Hid (∀ W, Env w W → Calls Tryz.prog 31 #[.slice ad L.length cap] W fun e w' => e = .returned (.bool true) ∧ Fr (fun _ => False) W w') := fun W e => by
    have := allRight_any W L ad cap (hI.env e) (by omega)
    rw [hr] at this
    exact this
  have HCt : Hid (∀ W, Env w W → Calls Tryz.prog 32 #[.slice ad L.length cap] W fun e w' => (∃ ia ic, e = .returned (.slice ia (cntV L).length ic) ∧ (cntV L).length ≤ ic ∧ IIn w' (cntV L) ia) ∧ Fr (fun _ => False) W w') := fun W e => (counting_big W L ad cap (hI.env e) hlim hne hc0).mono fun _ _ ⟨⟨F, ia, ic, h1, h2, h3, h4, h5⟩, hf⟩ => by
    have e1 := cnt_of h3 h4
    have e2 : F.length = (cntV L).length := by
      have h : (insZ F.toArray).toList.length = F.length := (Array.length_toList (xs := insZ F.toArray)).trans ((insZ_size F.toArray).trans (by simp))
      rw [← e1, List.length_map, h]
    rw [e1] at h5
    rw [e2] at h1 h2
    exact ⟨⟨ia, ic, h1, h2, h5⟩, hf⟩
  have HTk : Hid (∀ W b ia ic, KIn W k b → IIn W (cntV L) ia → Calls Tryz.prog 33 #[pv b, .slice ia (cntV L).length ic] W fun e w' => e = .returned (.bool ((cntV L).all fun u => tkB k u)) ∧ Fr (fun _ => False) W w') := fun W b ia ic h1 h2 => takesAll_of k (takes_any k (readT_ok hk)) (cntV L) (fun u hu => ⟨32, hr2 u hu⟩) W ia ic b h2 (by
    have : (cntV L).length ≤ 1000 := by
      unfold cntV; rw [List.length_map]
      have e : (insT (cntF L)).length = (cntF L).length := by
        unfold insT
        rw [Array.length_toList]
        have := (Sort.insertionSort_holds (lt := ltOf cfT) swoT (cntF L).toArray 0 (cntF L).length (Nat.zero_le _) (by simp)).1.1
        simpa using this
      rw [e]; exact Nat.le_trans (List.length_filter_le _ _) hlim
    unfold lim; omega) h1
  have HT := hid hT
  have HM := hid hM
  have HFl := hid hfl
  have hL0 : (((L.length : Nat) : Int) == 0) = false := by simp; exact hne
  generalize ((cntV L).all fun u => tkB k u) = q at *
  generalize cntV L = V at *
  clear hm hk hI hne hc0 hr hr2 hfl hT hM
  go_enter Tryz.func17, Tryz.ntmps17
  go_wp2_with fail
  refine HC.out.mono ?_
  rintro e w1 ⟨f1, ⟨h1, _⟩ | ⟨k1, b1, h1, rfl, hK1⟩⟩
  · cases h1
  cases h1
  have HF1 := hid (HF0.out.trans f1 (fun _ h => h.elim))
  have HB1 := hid (f1.blk HB0.out (fun h => h))
  have HK1 := hid hK1
  clear f1 hK1 HF0 HB0 HC
  go_wp2_with fail
  refine (HAR.out _ (Env.of HF1.out)).mono ?_
  rintro e w2 ⟨rfl, f2⟩
  have HF2 := hid (HF1.out.trans f2 (fun _ h => h.elim))
  have HB2 := hid (f2.blk HB1.out (fun h => h))
  have HK2 := hid (KIn.env (Env.of f2) _ _ HK1.out)
  clear f2 HF1 HB1 HK1 HAR
  go_wp2_with fail
  refine (HCt.out _ (Env.of HF2.out)).mono ?_
  rintro e w3 ⟨⟨ia, ic, rfl, hic, hII⟩, f3⟩
  have HF3 := hid (HF2.out.trans f3 (fun _ h => h.elim))
  have HB3 := hid (f3.blk HB2.out (fun h => h))
  have HK3 := hid (KIn.env (Env.of f3) _ _ HK2.out)
  have HI3 := hid hII
  clear f3 HF2 HB2 HK2 HCt hII
  go_wp2_with fail
  refine (HTk.out _ _ _ _ HK3.out HI3.out).mono ?_
  rintro e w4 ⟨rfl, f4⟩
  have HF4 := hid (HF3.out.trans f4 (fun _ h => h.elim))
  have HB4 := hid (f4.blk HB3.out (fun h => h))
  have HK4 := hid (KIn.env (Env.of f4) _ _ HK3.out)
  have HI4 := hid (IIn.env (Env.of f4) _ _ HI3.out)
  clear f4 HF3 HB3 HK3 HTk HI3
  cases q with
  | false =>
    have HE := hid (HT.out rfl)
    go_wp2_with (refine wpList_storeV vZ (by rfl) _ _ (by rfl) HB4.out (by rfl) (by rfl) ?_; intro w5 b5 f5)
    have HF5 : Hid (Fr (fun _ => False) w w5) := HF4.out.trans f5 (fun j hj => .inr (by omega))
    have HB5 := hid b5
    clear b5 f5
    go_wp2_with fail
    exact bodyPost_ret (resVE rfl rfl HB5.out) rfl ⟨HF5.out, .inl ⟨11, HE.out, rfl⟩⟩
  | true =>
    have HC5 := hid (HM.out rfl w4 _ ia ic HK4.out HI4.out hic)
    clear HM HT
    go_wp2_with fail
    refine HC5.out.mono ?_
    rintro e w6 ⟨f1, ⟨er, e1, rfl⟩ | ⟨v1, x1, e1, rfl, hv1⟩⟩
    · have HF6 := hid (HF4.out.trans f1 (fun _ h => h.elim))
      have HB6 := hid (f1.blk HB4.out (fun h => h))
      have HE := hid e1
      clear f1 e1
      go_wp2_with (refine wpList_storeV vZ (by rfl) _ _ (by rfl) HB6.out (by rfl) (by rfl) ?_; intro w5 b5 f5)
      have HF5 : Hid (Fr (fun _ => False) w w5) := HF6.out.trans f5 (fun j hj => .inr (by omega))
      have HB5 := hid b5
      clear b5 f5
      go_wp2_with fail
      exact bodyPost_ret (resVE rfl rfl HB5.out) rfl ⟨HF5.out, .inl ⟨er, HE.out, rfl⟩⟩
    · have HF6 := hid (HF4.out.trans f1 (fun _ h => h.elim))
      have HB6 := hid (f1.blk HB4.out (fun h => h))
      have HE := hid e1
      have HV5 : Hid (∀ W, VIn W v1 x1) := fun W => vin_any hv1 (HFl.out v1 e1)
      clear f1 e1 hv1
      obtain ⟨k', n', f', t', na, nl, nc, ia', il, ic'⟩ := x1
      go_wp2_with (refine wpList_storeV ⟨k', n', f', t', na, nl, nc, ia', il, ic'⟩ (by rfl) _ _ (by rfl) HB6.out (by rfl) (by rfl) ?_; intro w5 b5 f5)
      have HF5 : Hid (Fr (fun _ => False) w w5) := HF6.out.trans f5 (fun j hj => .inr (by omega))
      have HB5 := hid b5
      clear b5 f5
      go_wp2_with fail
      exact bodyPost_ret (resVE rfl rfl HB5.out) rfl ⟨HF5.out, .inr ⟨v1, _, HE.out, rfl, HV5.out _⟩⟩
set_option maxRecDepth 100000 in
set_option maxHeartbeats 4000000 in
theorem Merge_listB (w : World) (t : List UInt8) (L : List Dt) (ad : Option Addr) (cap : Nat) (hl : t.length ≤ 140737488355328) (hm : Mx w) (k : Ty) (hk : readT t = some (.list k)) (hI : DsIn w L ad) (hlim : L.length ≤ 1000) (hne : L ≠ []) (hc0 : 0 < (cntF L).length)
    (hr : (L.all fun d => rtB d.v 32) = true) (hr2 : ∀ v ∈ cntV L, rtB v 32 = true) (hT : ((cntV L).all fun u => tkB (.list k) u) = true) :
    Calls Tryz.prog 17 #[.string ⟨t.toArray⟩, .slice ad L.length cap] w fun e w' => TPost w (allU (cntV L)) e w' := by
  have HC := hid (read_any (vBox w vZ) t hl (hm.env (Env.alloc w _)))
  have HF0 := hid (vFr w vZ)
  have HB0 := hid (vBlk w vZ)
  rw [hk] at HC
  have HAR : Hid (∀ W, Env w W → Calls Tryz.prog 31 #[.slice ad L.length cap] W fun e w' => e = .returned (.bool true) ∧ Fr (fun _ => False) W w') := fun W e => by
    have := allRight_any W L ad cap (hI.env e) (by omega)
    rw [hr] at this
    exact this
  have HCt : Hid (∀ W, Env w W → Calls Tryz.prog 32 #[.slice ad L.length cap] W fun e w' => (∃ ia ic, e = .returned (.slice ia (cntV L).length ic) ∧ (cntV L).length ≤ ic ∧ IIn w' (cntV L) ia) ∧ Fr (fun _ => False) W w') := fun W e => (counting_big W L ad cap (hI.env e) hlim hne hc0).mono fun _ _ ⟨⟨F, ia, ic, h1, h2, h3, h4, h5⟩, hf⟩ => by
    have e1 := cnt_of h3 h4
    have e2 : F.length = (cntV L).length := by
      have h : (insZ F.toArray).toList.length = F.length := (Array.length_toList (xs := insZ F.toArray)).trans ((insZ_size F.toArray).trans (by simp))
      rw [← e1, List.length_map, h]
    rw [e1] at h5
    rw [e2] at h1 h2
    exact ⟨⟨ia, ic, h1, h2, h5⟩, hf⟩
  have HTk : Hid (∀ W b ia ic, KIn W (.list k) b → IIn W (cntV L) ia → Calls Tryz.prog 33 #[pv b, .slice ia (cntV L).length ic] W fun e w' => e = .returned (.bool ((cntV L).all fun u => tkB (.list k) u)) ∧ Fr (fun _ => False) W w') := fun W b ia ic h1 h2 => takesAll_of (.list k) (takes_any (.list k) (readT_ok hk)) (cntV L) (fun u hu => ⟨32, hr2 u hu⟩) W ia ic b h2 (by
    have : (cntV L).length ≤ 1000 := by
      unfold cntV; rw [List.length_map]
      have e : (insT (cntF L)).length = (cntF L).length := by
        unfold insT
        rw [Array.length_toList]
        have := (Sort.insertionSort_holds (lt := ltOf cfT) swoT (cntF L).toArray 0 (cntF L).length (Nat.zero_le _) (by simp)).1.1
        simpa using this
      rw [e]; exact Nat.le_trans (List.length_filter_le _ _) hlim
    unfold lim; omega) h1
  have HM : Hid (∀ W b ia ic, KIn W (.list k) b → IIn W (cntV L) ia → Calls Tryz.prog 34 #[pv b, .slice ia (cntV L).length ic] W fun e w' => LPost W W (allU (cntV L)) e w') := fun W b ia ic h1 h2 => merge_list W W b ia (cntV L).length ic _ h1.1 (mergeLists_any W (vBox W vZ) (Env.alloc W _) (cntV L) ia ic h2 (by rw [cntV_len]; exact Nat.le_trans (List.length_filter_le _ _) hlim) (fun u hu => rt_256 (hr2 u hu)))
  rw [hT] at HTk
  have hL0 : (((L.length : Nat) : Int) == 0) = false := by simp; exact hne
  generalize allU (cntV L) = U at *
  generalize cntV L = V at *
  clear hm hk hI hne hc0 hr hr2 hT
  go_enter Tryz.func17, Tryz.ntmps17
  go_wp2_with fail
  refine HC.out.mono ?_
  rintro e w1 ⟨f1, ⟨h1, _⟩ | ⟨k1, b1, h1, rfl, hK1⟩⟩
  · cases h1
  cases h1
  have HF1 := hid (HF0.out.trans f1 (fun _ h => h.elim))
  have HB1 := hid (f1.blk HB0.out (fun h => h))
  have HK1 := hid hK1
  clear f1 hK1 HF0 HB0 HC
  go_wp2_with fail
  refine (HAR.out _ (Env.of HF1.out)).mono ?_
  rintro e w2 ⟨rfl, f2⟩
  have HF2 := hid (HF1.out.trans f2 (fun _ h => h.elim))
  have HB2 := hid (f2.blk HB1.out (fun h => h))
  have HK2 := hid (KIn.env (Env.of f2) _ _ HK1.out)
  clear f2 HF1 HB1 HK1 HAR
  go_wp2_with fail
  refine (HCt.out _ (Env.of HF2.out)).mono ?_
  rintro e w3 ⟨⟨ia, ic, rfl, hic, hII⟩, f3⟩
  have HF3 := hid (HF2.out.trans f3 (fun _ h => h.elim))
  have HB3 := hid (f3.blk HB2.out (fun h => h))
  have HK3 := hid (KIn.env (Env.of f3) _ _ HK2.out)
  have HI3 := hid hII
  clear f3 HF2 HB2 HK2 HCt hII
  go_wp2_with fail
  refine (HTk.out _ _ _ _ HK3.out HI3.out).mono ?_
  rintro e w4 ⟨rfl, f4⟩
  have HF4 := hid (HF3.out.trans f4 (fun _ h => h.elim))
  have HB4 := hid (f4.blk HB3.out (fun h => h))
  have HK4 := hid (KIn.env (Env.of f4) _ _ HK3.out)
  have HI4 := hid (IIn.env (Env.of f4) _ _ HI3.out)
  clear f4 HF3 HB3 HK3 HTk HI3
  have HC5 := hid (HM.out w4 _ ia ic HK4.out HI4.out)
  clear HM
  go_wp2_with fail
  refine HC5.out.mono ?_
  rintro e w6 ⟨f1, ⟨h256, rfl⟩ | ⟨h256, X, ia', ic', rfl, hO, hR⟩⟩
  · have HF6 := hid (HF4.out.trans f1 (fun _ h => h.elim))
    have HB6 := hid (f1.blk HB4.out (fun h => h))
    have HH := hid h256
    clear f1 h256
    go_wp2_with (refine wpList_storeV vZ (by rfl) _ _ (by rfl) HB6.out (by rfl) (by rfl) ?_; intro w5 b5 f5)
    have HF5 : Hid (Fr (fun _ => False) w w5) := HF6.out.trans f5 (fun j hj => .inr (by omega))
    have HB5 := hid b5
    clear b5 f5
    go_wp2_with fail
    exact bodyPost_ret (resVE rfl rfl HB5.out) rfl ⟨HF5.out, .inl ⟨HH.out, rfl⟩⟩
  · have HF6 := hid (HF4.out.trans f1 (fun _ h => h.elim))
    have HB6 := hid (f1.blk HB4.out (fun h => h))
    have HH := hid h256
    have HO := hid hO
    have HR := hid hR
    have HSz : Hid (w.heap.size < w4.heap.size) := HB4.out.lt
    clear f1 h256 hO hR
    go_wp2_with (refine wpList_storeV ⟨5, 0, 0, [], none, 0, 0, ia', X.length, ic'⟩ (by rfl) _ _ (by rfl) HB6.out (by rfl) (by rfl) ?_; intro w5 b5 f5)
    have HF5 : Hid (Fr (fun _ => False) w w5) := HF6.out.trans f5 (fun j hj => .inr (by omega))
    have HO5 : Hid (w5.ownsRow w.heap.size 26 6 (.slice ia' X.length ic') X.length (flatV X)) := own_down (own_keep HO.out HSz.out f5) (by have := HSz.out; omega)
    have HB5 := hid b5
    clear b5 f5
    go_wp2_with fail
    exact bodyPost_ret (resVE rfl rfl HB5.out) rfl ⟨HF5.out, .inr ⟨HH.out, X, ia', ic', rfl, HO5.out, HR.out.1, fun i h1 h2 => (HR.out.2 i h1 h2).parts.1.2.2.2⟩⟩
end Go.Proofs.YtniailfcmlongaaGreatDoor.Tr
