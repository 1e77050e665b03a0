import Derived.Test.YtniailfcmlongaaGreatDoorTmlM
/- Sorting goes through a map. Nothing here speaks of the Go text. -/
namespace Go.Proofs.YtniailfcmlongaaGreatDoor.Tr
open Go.Sort

section
variable {α β : Type} [Inhabited α] [Inhabited β] (f : α → β) (lt : α → α → Bool) (lt' : β → β → Bool) (P : α → Prop) (hP : ∀ x y, P x → P y → lt' (f x) (f y) = lt x y)

def AllP (d : Array α) : Prop := ∀ i, i < d.size → P d[i]!
theorem map_get (d : Array α) (i : Nat) (h : i < d.size) : (d.map f)[i]! = f d[i]! := by
  rw [getElem!_pos (d.map f) i (by simpa using h), getElem!_pos d i h, Array.getElem_map]
theorem swp_sz (d : Array α) (i j : Nat) : (swp d i j).size = d.size := by simp [swp]
theorem swp_map (d : Array α) (i j : Nat) (hi : i < d.size) (hj : j < d.size) : (swp d i j).map f = swp (d.map f) i j := by
  unfold swp
  rw [map_get f d i hi, map_get f d j hj]
  simp [Array.map_setIfInBounds]
theorem swp_all (d : Array α) (i j : Nat) (hi : i < d.size) (hj : j < d.size) (h : AllP P d) : AllP P (swp d i j) := fun k hk => by
  rw [swp_sz] at hk
  unfold swp
  by_cases h1 : k = j
  · subst h1
    rw [getElem!_set_same _ _ _ (by simpa using hk)]
    exact h i hi
  · rw [getElem!_set_other _ _ _ _ h1]
    by_cases h2 : k = i
    · subst h2
      rw [getElem!_set_same _ _ _ hk]
      exact h j hj
    · rw [getElem!_set_other _ _ _ _ h2]
      exact h k hk
include hP in
theorem inner_map (a : Nat) : ∀ (j : Nat) (d : Array α), j < d.size → AllP P d → (insInner lt a j d).map f = insInner lt' a j (d.map f) ∧ AllP P (insInner lt a j d) ∧ (insInner lt a j d).size = d.size
  | 0, d, _, h => by unfold insInner; exact ⟨rfl, h, rfl⟩
  | j + 1, d, hj, h => by
    have e : lt' (d.map f)[j + 1]! (d.map f)[j]! = lt d[j + 1]! d[j]! := by
      rw [map_get f d (j + 1) hj, map_get f d j (by omega)]
      exact hP _ _ (h _ hj) (h _ (by omega))
    unfold insInner
    rw [e]
    split
    · have ih := inner_map a j (swp d (j + 1) j) (by rw [swp_sz]; omega) (swp_all P d _ _ hj (by omega) h)
      rw [swp_map f d _ _ hj (by omega), swp_sz] at ih
      exact ih
    · exact ⟨rfl, h, rfl⟩
include hP in
theorem outer_map (a b : Nat) : ∀ (m i : Nat) (d : Array α), b - i ≤ m → b ≤ d.size → AllP P d → (insOuter lt a b i d).map f = insOuter lt' a b i (d.map f)
  | 0, i, d, hm, hb, h => by
    unfold insOuter
    rw [if_neg (by omega), if_neg (by omega)]
  | m + 1, i, d, hm, hb, h => by
    unfold insOuter
    split
    · rename_i hi
      obtain ⟨h1, h2, h3⟩ := inner_map f lt lt' P hP a i d (by omega) h
      rw [outer_map a b m (i + 1) _ (by omega) (by rw [h3]; exact hb) h2, h1]
    · rfl
end

/-- Which of two definitions stands ahead. -/
def cfT (a b : Dt) : Int := Lib.compareInt a.o b.o
/-- Definitions by their orders, those of one order as they stood. -/
def insT (l : List Dt) : List Dt := (Sort.insertionSort (ltOf cfT) l.toArray 0 l.length).toList
theorem insZ_T (F : List Dz) (h : ∀ z ∈ F, z.2.o = z.1.o) : (insZ F.toArray).toList.map (·.1) = insT (F.map (·.1)) := by
  have hall : AllP (fun z : Dz => z.2.o = z.1.o) F.toArray := fun i hi => by
    have hi' : i < F.length := by simpa using hi
    rw [getElem!_pos _ i hi]
    simpa using h F[i] (List.getElem_mem hi')
  have e := outer_map (fun z : Dz => z.1) (ltOf cfZ) (ltOf cfT) (fun z => z.2.o = z.1.o) (fun x y hx hy => by unfold ltOf cfZ cfT; rw [hx, hy]) 0 F.toArray.size F.toArray.size (0 + 1) F.toArray (by omega) (Nat.le_refl _) hall
  unfold insT insZ Sort.insertionSort
  have e2 := congrArg Array.toList e
  simp only [Array.toList_map, List.map_toArray] at e2
  rw [e2]
  simp
/-- The values that count, in their order. -/
def cntV (L : List Dt) : List Vt := (insT (cntF L)).map (·.v)
theorem cnt_of {w : World} {L : List Dt} {F : List Dz} (hF : F.map (·.1) = cntF L) (hD : ∀ z ∈ F, DIn w z.1 z.2) : (insZ F.toArray).toList.map (·.1.v) = cntV L := by
  unfold cntV
  rw [← hF, ← insZ_T F (fun z hz => (hD z hz).2.2.1), List.map_map]
  rfl
end Go.Proofs.YtniailfcmlongaaGreatDoor.Tr
/- The contracts of merge (by its words) and Merge. (Written by gen/Tmg.py.) -/
namespace Go.Proofs.YtniailfcmlongaaGreatDoor.Tr
open Go.RowKit

theorem vin_any {w W : World} {v : Vt} {x : Vv} (h : VIn w v x) (hn : v.ns = [] ∧ v.its = []) : VIn W v x := by
  cases v with
  | mk k n f t ns its =>
    obtain ⟨hn, hi⟩ := hn
    simp only [Vt.ns, Vt.its] at hn hi
    subst hn hi
    rw [VIn] at h ⊢
    exact ⟨h.1, h.2.1, ⟨h.2.2.1.1, h.2.2.1.2.1, h.2.2.1.2.2.1, fun e => absurd rfl e⟩, h.2.2.2.1, by rw [IIn]; trivial⟩
theorem swoT : Sort.SWO (ltOf cfT) where
  irrefl := fun x => by unfold ltOf cfT; rw [cmpInt_lt]; simp
  trans := fun x y z h g => cmp_trans _ _ _ h g
  ntrans := fun x y z h g => by
    unfold ltOf cfT at *
    rw [cmpInt_lt] at *
    simp only [decide_eq_false_iff_not] at *
    omega
/-- What comes out holds nothing. -/
def Flat (T : Vt ⊕ Int) : Prop := ∀ v, T = .inl v → v.ns = [] ∧ v.its = []

set_option maxRecDepth 100000 in
set_option maxHeartbeats 4000000 in
theorem merge_eq (w : World) (s : List UInt8) (hs : s = sBool ∨ s = sString ∨ s = sInt ∨ s = sEnum) (b : Nat) (ad : Option Addr) (n cap : Nat) (T : Vt ⊕ Int) (hfl : Flat T) (hk : w.cell? ⟨b, 0, none⟩ = some (.string ⟨s.toArray⟩)) (hC : Calls Tryz.prog 58 #[.slice ad n cap] (vBox w vZ) fun e w' => MPost (vBox w vZ) T e w') :
    Calls Tryz.prog 34 #[pv b, .slice ad n cap] w fun e w' => MPost w T e w' := by
  have HC := hid hC
  have HFl := hid hfl
  have HF0 := hid (vFr w vZ)
  have HB0 := hid (vBlk w vZ)
  have c0 : (w.alloc (.cells #[.int .i64 0, .int .i64 0, .float .f64 0, .string ⟨#[]⟩, .slice none 0 0, .slice none 0 0] 26)).cell? ⟨b, 0, none⟩ = some (.string ⟨s.toArray⟩) := (Env.alloc w _).cell hk
  clear hC hk hfl
  rcases hs with rfl | rfl | rfl | rfl
  all_goals
    go_enter Tryz.func34, Tryz.ntmps34
    go_wp2_with fail
    refine HC.out.mono ?_
    rintro e w1 ⟨f1, ⟨er, e1, rfl⟩ | ⟨v1, x1, e1, rfl, hv1⟩⟩
    · have HF1 := hid (HF0.out.trans f1 (fun _ h => h.elim))
      have HB1 := hid (f1.blk HB0.out (fun h => h))
      have HE := hid e1
      clear f1 e1
      go_wp2_with (refine wpList_storeV vZ (by rfl) _ _ (by rfl) HB1.out (by rfl) (by rfl) ?_; intro w5 b5 f5)
      have HF5 : Hid (Fr (fun _ => False) w w5) := HF1.out.trans f5 (fun j hj => .inr (by omega))
      have HB5 := hid b5
      clear b5 f5
      go_wp2_with fail
      exact bodyPost_ret (resVE rfl rfl HB5.out) rfl ⟨HF5.out, .inl ⟨er, HE.out, rfl⟩⟩
    · have HF1 := hid (HF0.out.trans f1 (fun _ h => h.elim))
      have HB1 := hid (f1.blk HB0.out (fun h => h))
      have HE := hid e1
      have HV := hid hv1
      clear f1 e1 hv1
      obtain ⟨k, n', f, t, na, nl, nc, ia, il, ic⟩ := x1
      go_wp2_with (refine wpList_storeV ⟨k, n', f, t, na, nl, nc, ia, il, ic⟩ (by rfl) _ _ (by rfl) HB1.out (by rfl) (by rfl) ?_; intro w5 b5 f5)
      have HF5 : Hid (Fr (fun _ => False) w w5) := HF1.out.trans f5 (fun j hj => .inr (by omega))
      have HV5 : Hid (∀ W, VIn W v1 ⟨k, n', f, t, na, nl, nc, ia, il, ic⟩) := fun W => vin_any HV.out (HFl.out v1 HE.out)
      have HB5 := hid b5
      clear b5 f5
      go_wp2_with fail
      exact bodyPost_ret (resVE rfl rfl HB5.out) rfl ⟨HF5.out, .inr ⟨v1, _, HE.out, rfl, HV5.out _⟩⟩

set_option maxRecDepth 100000 in
set_option maxHeartbeats 4000000 in
theorem merge_lines (w : World) (s : List UInt8) (hs : s = sLines) (b : Nat) (ad : Option Addr) (n cap : Nat) (T : Vt ⊕ Int) (hfl : Flat T) (hk : w.cell? ⟨b, 0, none⟩ = some (.string ⟨s.toArray⟩)) (hC : Calls Tryz.prog 54 #[.slice ad n cap] (vBox w vZ) fun e w' => MPost (vBox w vZ) T e w') :
    Calls Tryz.prog 34 #[pv b, .slice ad n cap] w fun e w' => MPost w T e w' := by
  have HC := hid hC
  have HFl := hid hfl
  have HF0 := hid (vFr w vZ)
  have HB0 := hid (vBlk w vZ)
  have c0 : (w.alloc (.cells #[.int .i64 0, .int .i64 0, .float .f64 0, .string ⟨#[]⟩, .slice none 0 0, .slice none 0 0] 26)).cell? ⟨b, 0, none⟩ = some (.string ⟨s.toArray⟩) := (Env.alloc w _).cell hk
  clear hC hk hfl
  rcases hs with rfl
  all_goals
    go_enter Tryz.func34, Tryz.ntmps34
    go_wp2_with fail
    refine HC.out.mono ?_
    rintro e w1 ⟨f1, ⟨er, e1, rfl⟩ | ⟨v1, x1, e1, rfl, hv1⟩⟩
    · have HF1 := hid (HF0.out.trans f1 (fun _ h => h.elim))
      have HB1 := hid (f1.blk HB0.out (fun h => h))
      have HE := hid e1
      clear f1 e1
      go_wp2_with (refine wpList_storeV vZ (by rfl) _ _ (by rfl) HB1.out (by rfl) (by rfl) ?_; intro w5 b5 f5)
      have HF5 : Hid (Fr (fun _ => False) w w5) := HF1.out.trans f5 (fun j hj => .inr (by omega))
      have HB5 := hid b5
      clear b5 f5
      go_wp2_with fail
      exact bodyPost_ret (resVE rfl rfl HB5.out) rfl ⟨HF5.out, .inl ⟨er, HE.out, rfl⟩⟩
    · have HF1 := hid (HF0.out.trans f1 (fun _ h => h.elim))
      have HB1 := hid (f1.blk HB0.out (fun h => h))
      have HE := hid e1
      have HV := hid hv1
      clear f1 e1 hv1
      obtain ⟨k, n', f, t, na, nl, nc, ia, il, ic⟩ := x1
      go_wp2_with (refine wpList_storeV ⟨k, n', f, t, na, nl, nc, ia, il, ic⟩ (by rfl) _ _ (by rfl) HB1.out (by rfl) (by rfl) ?_; intro w5 b5 f5)
      have HF5 : Hid (Fr (fun _ => False) w w5) := HF1.out.trans f5 (fun j hj => .inr (by omega))
      have HV5 : Hid (∀ W, VIn W v1 ⟨k, n', f, t, na, nl, nc, ia, il, ic⟩) := fun W => vin_any HV.out (HFl.out v1 HE.out)
      have HB5 := hid b5
      clear b5 f5
      go_wp2_with fail
      exact bodyPost_ret (resVE rfl rfl HB5.out) rfl ⟨HF5.out, .inr ⟨v1, _, HE.out, rfl, HV5.out _⟩⟩

set_option maxRecDepth 100000 in
set_option maxHeartbeats 4000000 in
theorem Merge_arg (w : World) (t : List UInt8) (L : List Dt) (ad : Option Addr) (cap : Nat) (hl : t.length ≤ 140737488355328) (hm : Mx w) (hk : readT t = none) :
    Calls Tryz.prog 17 #[.string ⟨t.toArray⟩, .slice ad L.length cap] w fun e w' => MPost w (.inr 1) e w' := by
  have HC := hid (read_any (vBox w vZ) t hl (hm.env (Env.alloc w _)))
  have HF0 := hid (vFr w vZ)
  have HB0 := hid (vBlk w vZ)
  rw [hk] at HC
  clear hm hk
  go_enter Tryz.func17, Tryz.ntmps17
  go_wp2_with fail
  refine HC.out.mono ?_
  rintro e w1 ⟨f1, ⟨_, rfl⟩ | ⟨k1, b1, h1, _⟩⟩
  · have HF1 := hid (HF0.out.trans f1 (fun _ h => h.elim))
    have HB1 := hid (f1.blk HB0.out (fun h => h))
    clear f1
    go_wp2_with (refine wpList_storeV vZ (by rfl) _ _ (by rfl) HB1.out (by rfl) (by rfl) ?_; intro w5 b5 f5)
    have HF5 : Hid (Fr (fun _ => False) w w5) := HF1.out.trans f5 (fun j hj => .inr (by omega))
    have HB5 := hid b5
    clear b5 f5
    go_wp2_with fail
    exact bodyPost_ret (resVE rfl rfl HB5.out) rfl ⟨HF5.out, .inl ⟨1, rfl, rfl⟩⟩
  · cases h1

set_option maxRecDepth 100000 in
set_option maxHeartbeats 4000000 in
theorem Merge_of (w : World) (t : List UInt8) (L : List Dt) (ad : Option Addr) (cap : Nat) (hl : t.length ≤ 140737488355328) (hm : Mx w) (k : Ty) (hk : readT t = some k) (hI : DsIn w L ad) (hlim : L.length ≤ 1000) (hne : L ≠ []) (h20 : (cntF L).length ≤ 20) (hc0 : 0 < (cntF L).length)
    (hr : (L.all fun d => rtB d.v 32) = true) (hr2 : ∀ v ∈ cntV L, rtB v 32 = true) (T : Vt ⊕ Int) (hfl : Flat T) (hT : ((cntV L).all fun u => tkB k u) = false → T = .inr 11)
    (hM : ((cntV L).all fun u => tkB k u) = true → ∀ W b ia ic, KIn W k b → IIn W (cntV L) ia → (cntV L).length ≤ ic → Calls Tryz.prog 34 #[pv b, .slice ia (cntV L).length ic] W fun e w' => MPost W T e w') :
    Calls Tryz.prog 17 #[.string ⟨t.toArray⟩, .slice ad L.length cap] w fun e w' => MPost w T e w' := by
  have HC := hid (read_any (vBox w vZ) t hl (hm.env (Env.alloc w _)))
  have HF0 := hid (vFr w vZ)
  have HB0 := hid (vBlk w vZ)
  rw [hk] at HC
  have HAR : Hid (∀ W, Env w W → Calls Tryz.prog 31 #[.slice ad L.length cap] W fun e w' => e = .returned (.bool true) ∧ Fr (fun _ => False) W w') := fun W e => by
    have := allRight_any W L ad cap (hI.env e) (by omega)
    rw [hr] at this
    exact this
  have HCt : Hid (∀ W, Env w W → Calls Tryz.prog 32 #[.slice ad L.length cap] W fun e w' => (∃ ia ic, e = .returned (.slice ia (cntV L).length ic) ∧ (cntV L).length ≤ ic ∧ IIn w' (cntV L) ia) ∧ Fr (fun _ => False) W w') := fun W e => (counting_any W L ad cap (hI.env e) hlim hne h20 hc0).mono fun _ _ ⟨⟨F, ia, ic, h1, h2, h3, h4, h5⟩, hf⟩ => by
    have e1 := cnt_of h3 h4
    have e2 : F.length = (cntV L).length := by
      have h : (insZ F.toArray).toList.length = F.length := (Array.length_toList (xs := insZ F.toArray)).trans ((insZ_size F.toArray).trans (by simp))
      rw [← e1, List.length_map, h]
    rw [e1] at h5
    rw [e2] at h1 h2
    exact ⟨⟨ia, ic, h1, h2, h5⟩, hf⟩
  have HTk : Hid (∀ W b ia ic, KIn W k b → IIn W (cntV L) ia → Calls Tryz.prog 33 #[pv b, .slice ia (cntV L).length ic] W fun e w' => e = .returned (.bool ((cntV L).all fun u => tkB k u)) ∧ Fr (fun _ => False) W w') := fun W b ia ic h1 h2 => takesAll_of k (takes_any k (readT_ok hk)) (cntV L) (fun u hu => ⟨32, hr2 u hu⟩) W ia ic b h2 (by
    have : (cntV L).length ≤ 20 := by
      unfold cntV; rw [List.length_map]
      have e : (insT (cntF L)).length = (cntF L).length := by
        unfold insT
        rw [Array.length_toList]
        have := (Sort.insertionSort_holds (lt := ltOf cfT) swoT (cntF L).toArray 0 (cntF L).length (Nat.zero_le _) (by simp)).1.1
        simpa using this
      rw [e]; exact h20
    unfold lim; omega) h1
  have HT := hid hT
  have HM := hid hM
  have HFl := hid hfl
  have hL0 : (((L.length : Nat) : Int) == 0) = false := by simp; exact hne
  generalize ((cntV L).all fun u => tkB k u) = q at *
  generalize cntV L = V at *
  clear hm hk hI hne h20 hc0 hr hr2 hfl hT hM
  go_enter Tryz.func17, Tryz.ntmps17
  go_wp2_with fail
  refine HC.out.mono ?_
  rintro e w1 ⟨f1, ⟨h1, _⟩ | ⟨k1, b1, h1, rfl, hK1⟩⟩
  · cases h1
  cases h1
  have HF1 := hid (HF0.out.trans f1 (fun _ h => h.elim))
  have HB1 := hid (f1.blk HB0.out (fun h => h))
  have HK1 := hid hK1
  clear f1 hK1 HF0 HB0 HC
  go_wp2_with fail
  refine (HAR.out _ (Env.of HF1.out)).mono ?_
  rintro e w2 ⟨rfl, f2⟩
  have HF2 := hid (HF1.out.trans f2 (fun _ h => h.elim))
  have HB2 := hid (f2.blk HB1.out (fun h => h))
  have HK2 := hid (KIn.env (Env.of f2) _ _ HK1.out)
  clear f2 HF1 HB1 HK1 HAR
  go_wp2_with fail
  refine (HCt.out _ (Env.of HF2.out)).mono ?_
  rintro e w3 ⟨⟨ia, ic, rfl, hic, hII⟩, f3⟩
  have HF3 := hid (HF2.out.trans f3 (fun _ h => h.elim))
  have HB3 := hid (f3.blk HB2.out (fun h => h))
  have HK3 := hid (KIn.env (Env.of f3) _ _ HK2.out)
  have HI3 := hid hII
  clear f3 HF2 HB2 HK2 HCt hII
  go_wp2_with fail
  refine (HTk.out _ _ _ _ HK3.out HI3.out).mono ?_
  rintro e w4 ⟨rfl, f4⟩
  have HF4 := hid (HF3.out.trans f4 (fun _ h => h.elim))
  have HB4 := hid (f4.blk HB3.out (fun h => h))
  have HK4 := hid (KIn.env (Env.of f4) _ _ HK3.out)
  have HI4 := hid (IIn.env (Env.of f4) _ _ HI3.out)
  clear f4 HF3 HB3 HK3 HTk HI3
  cases q with
  | false =>
    have HE := hid (HT.out rfl)
    go_wp2_with (refine wpList_storeV vZ (by rfl) _ _ (by rfl) HB4.out (by rfl) (by rfl) ?_; intro w5 b5 f5)
    have HF5 : Hid (Fr (fun _ => False) w w5) := HF4.out.trans f5 (fun j hj => .inr (by omega))
    have HB5 := hid b5
    clear b5 f5
    go_wp2_with fail
    exact bodyPost_ret (resVE rfl rfl HB5.out) rfl ⟨HF5.out, .inl ⟨11, HE.out, rfl⟩⟩
  | true =>
    have HC5 := hid (HM.out rfl w4 _ ia ic HK4.out HI4.out hic)
    clear HM HT
    go_wp2_with fail
    refine HC5.out.mono ?_
    rintro e w6 ⟨f1, ⟨er, e1, rfl⟩ | ⟨v1, x1, e1, rfl, hv1⟩⟩
    · have HF6 := hid (HF4.out.trans f1 (fun _ h => h.elim))
      have HB6 := hid (f1.blk HB4.out (fun h => h))
      have HE := hid e1
      clear f1 e1
      go_wp2_with (refine wpList_storeV vZ (by rfl) _ _ (by rfl) HB6.out (by rfl) (by rfl) ?_; intro w5 b5 f5)
      have HF5 : Hid (Fr (fun _ => False) w w5) := HF6.out.trans f5 (fun j hj => .inr (by omega))
      have HB5 := hid b5
      clear b5 f5
      go_wp2_with fail
      exact bodyPost_ret (resVE rfl rfl HB5.out) rfl ⟨HF5.out, .inl ⟨er, HE.out, rfl⟩⟩
    · have HF6 := hid (HF4.out.trans f1 (fun _ h => h.elim))
      have HB6 := hid (f1.blk HB4.out (fun h => h))
      have HE := hid e1
      have HV5 : Hid (∀ W, VIn W v1 x1) := fun W => vin_any hv1 (HFl.out v1 e1)
      clear f1 e1 hv1
      obtain ⟨k', n', f', t', na, nl, nc, ia', il, ic'⟩ := x1
      go_wp2_with (refine wpList_storeV ⟨k', n', f', t', na, nl, nc, ia', il, ic'⟩ (by rfl) _ _ (by rfl) HB6.out (by rfl) (by rfl) ?_; intro w5 b5 f5)
      have HF5 : Hid (Fr (fun _ => False) w w5) := HF6.out.trans f5 (fun j hj => .inr (by omega))
      have HB5 := hid b5
      clear b5 f5
      go_wp2_with fail
      exact bodyPost_ret (resVE rfl rfl HB5.out) rfl ⟨HF5.out, .inr ⟨v1, _, HE.out, rfl, HV5.out _⟩⟩
end Go.Proofs.YtniailfcmlongaaGreatDoor.Tr
