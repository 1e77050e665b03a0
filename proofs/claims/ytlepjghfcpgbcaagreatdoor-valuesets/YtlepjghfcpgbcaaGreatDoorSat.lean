/- The contract of at; sets as trees. -/
import Derived.Test.YtlepjghfcpgbcaaGreatDoorRco
import Derived.Test.YtlepjghfcpgbcaaGreatDoorOdd
namespace Go.Proofs.YtlepjghfcpgbcaaGreatDoor.Tr
open Go.RowKit

def atF : List (List UInt8) → List UInt8 → Nat → Int
  | [], _, _ => -1
  | s :: r, nm, i => if s = nm then (i : Int) else atF r nm (i + 1)
theorem atF_in : ∀ (ns : List (List UInt8)) (nm : List UInt8) (i j : Nat) (h : j < ns.length), ns[j] = nm → (∀ q (hq : q < j), ns[q] ≠ nm) → atF ns nm i = ((i + j : Nat) : Int)
  | s :: r, nm, i, 0, _, e, _ => by rw [atF, if_pos (by simpa using e)]; simp
  | s :: r, nm, i, j + 1, h, e, hu => by
    rw [atF, if_neg (by simpa using hu 0 (by omega)), atF_in r nm (i + 1) j (by simpa using h) (by simpa using e) (fun q hq => by simpa using hu (q + 1) (by omega))]
    omega
theorem atF_out : ∀ (ns : List (List UInt8)) (nm : List UInt8) (i : Nat), (∀ s ∈ ns, s ≠ nm) → atF ns nm i = -1
  | [], _, _, _ => rfl
  | s :: r, nm, i, h => by rw [atF, if_neg (h s List.mem_cons_self), atF_out r nm (i + 1) (fun x hx => h x (List.mem_cons_of_mem _ hx))]
theorem atF_step (ns : List (List UInt8)) (nm : List UInt8) (i : Nat) (h : i < ns.length) : atF (ns.drop i) nm i = if ns[i] = nm then (i : Int) else atF (ns.drop (i + 1)) nm (i + 1) := by
  rw [drop_cons ns i h, atF]

set_option maxRecDepth 100000 in
set_option maxHeartbeats 2000000 in
theorem at_any (w : World) (x : Vv) (ns : List (List UInt8)) (nm : List UInt8) (hnl : x.nl = ns.length) (hs : Strs w x.na ns) (hl : ns.length ≤ 256) : Calls Tryz.prog 39 #[x.v, .string ⟨nm.toArray⟩] w fun e w' => e = .returned (.int .i64 (atF ns nm 0)) ∧ Fr (fun _ => False) w w' := by
  have HB := hid (vBlk w x)
  have HF := hid (vFr w x)
  have HS := hid hs
  clear hs
  obtain ⟨k, n, f, t, na, nl, nc, ia, il, ic⟩ := x
  simp only at hnl
  subst hnl
  simp only [Vv.v] at *
  obtain ⟨r, hr⟩ : ∃ r, r = atF ns nm 0 := ⟨_, rfl⟩
  rw [← hr]
  have HR := hid hr
  clear hr
  go_enter Tryz.func39, Tryz.ntmps39
  go_wp2_with fail
  go_loopw [5] (fun iv wr => ∃ (i : Nat), i ≤ ns.length ∧ iv = .int .i64 (i : Int) ∧ atF (ns.drop i) nm i = r ∧ Fr (fun _ => False) w wr ∧ Blk wr w.heap.size 26 (Vv.cs ⟨k, n, f, t, na, ns.length, nc, ia, il, ic⟩)) (fun iv _ => ns.length - (intOf iv).toNat)
  case atStart => exact ⟨0, by omega, rfl, by rw [HR.out]; simp, HF.out, HB.out⟩
  case round =>
    obtain ⟨i, hi, rfl, hA, hF, hB⟩ := hrel
    clear HB HF
    have HB := hid hB
    have HF := hid hF
    have HA := hid hA
    clear hB hF hA HR
    obtain ⟨c0, c1, c2, c3, c4, c5⟩ := HB.out.six
    by_cases hlt : i < ns.length
    · have hlt' : (i : Int) < ((ns.length : Nat) : Int) := by omega
      obtain ⟨b, o, e1, e2⟩ := HS.out.at i hlt
      have e3 := (Env.of HF.out).cell e2
      subst e1
      have HN := hid (atF_step ns nm i hlt)
      rw [HA.out] at HN
      clear e2
      generalize ns[i] = m at *
      by_cases hq : m = nm
      · rw [if_pos hq] at HN
        subst hq
        go_wp2_with fail
        go_ret
        exact ⟨by rw [HN.out]; rfl, HF.out⟩
      · rw [if_neg hq] at HN
        have hq' : (m == nm) = false := by simpa using hq
        clear hq
        go_wp2_with fail
        exact ⟨⟨i + 1, by omega, by first | rfl | (congr 1), HN.out.symm, HF.out, HB.out⟩, by simp [intOf]; omega⟩
    · have hlt' : ¬ (i : Int) < ((ns.length : Nat) : Int) := by omega
      have HE : Hid (r = -1) := by
        unfold Hid
        rw [← HA.out, List.drop_eq_nil_of_le (by omega), atF]
      go_wp2_with fail
      go_ret
      exact ⟨by rw [HE.out]; rfl, HF.out⟩

/-- A row's items as trees. -/
def vtE (R : List Et) : List Vt := R.map (·.2.1)
theorem vtE_len (R : List Et) : (vtE R).length = R.length := by simp [vtE]
theorem rtL_all : ∀ (l : List Vt) (room : Nat), rtL l room = true ↔ ∀ v ∈ l, rtB v room = true
  | [], _ => by simp [rtL]
  | v :: r, room => by rw [rtL, Bool.and_eq_true, rtL_all r room]; simp
/-- What is known of the items of a right set. -/
structure SetOk (w : World) (A : List Et) : Prop where
  vin : ∀ e ∈ A, VIn w e.2.1 e.2.2
  srt : Srt A
  len : A.length ≤ 256
  name : ∀ e ∈ A, e.1.length ≤ 1024
  right : ∀ e ∈ A, rtB e.2.1 31 = true
theorem set_open {w : World} {u : Vt} {x : Vv} (hx : VIn w u x) (hr : rtB u 32 = true) (h6 : u.k = 6) : ∃ A : List Et, nmE A = u.ns ∧ vtE A = u.its ∧ SetIn w x A ∧ SetOk w A ∧ u = .mk 6 0 0 [] (nmE A) (vtE A) := by
  obtain ⟨X, hXl, hXc, hXv⟩ := hx.parts.2.2.2.2.fields
  have hns := hx.parts.2.2.1
  have hil := hx.parts.2.2.2.1
  cases u with
  | mk k n f t ns its =>
    simp only [Vt.k, Vt.ns, Vt.its] at *
    subst h6
    rw [rtB, if_neg (by decide), if_pos rfl] at hr
    simp only [Bool.and_eq_true, decide_eq_true_eq] at hr
    obtain ⟨⟨⟨hl, hn⟩, ⟨_, h256⟩, hrt⟩, hbare⟩ := hr
    have hz1 : (its.zip X).length = its.length := by rw [List.length_zip, hXl, Nat.min_self]
    have hz : (ns.zip (its.zip X)).length = ns.length := by rw [List.length_zip, hz1, hl, Nat.min_self]
    have e1 : nmE (ns.zip (its.zip X)) = ns := by unfold nmE; exact List.map_fst_zip (by rw [hz1, hl]; exact Nat.le_refl _)
    have e2 : vtE (ns.zip (its.zip X)) = its := by
      unfold vtE
      have : (fun (e : Et) => e.2.1) = (fun p : Vt × Vv => p.1) ∘ (fun e : Et => e.2) := rfl
      rw [this, ← List.map_map, List.map_snd_zip (by rw [hz1, hl]; exact Nat.le_refl _), List.map_fst_zip (by rw [hXl]; exact Nat.le_refl _)]
    have e3 : vvE (ns.zip (its.zip X)) = X := by
      unfold vvE
      have : (fun (e : Et) => e.2.2) = (fun p : Vt × Vv => p.2) ∘ (fun e : Et => e.2) := rfl
      rw [this, ← List.map_map, List.map_snd_zip (by rw [hz1, hl]; exact Nat.le_refl _), List.map_snd_zip (by rw [hXl]; exact Nat.le_refl _)]
    have hget : ∀ i (h : i < (ns.zip (its.zip X)).length), (ns.zip (its.zip X))[i] = (ns[i]'(by omega), its[i]'(by omega), X[i]'(by omega)) := fun i h => by
      rw [List.getElem_zip, List.getElem_zip]
    have hb : n = 0 ∧ f = 0 ∧ t = [] := by
      unfold bareB at hbare
      simp at hbare
      exact ⟨hbare.1.1, hbare.1.2, hbare.2⟩
    obtain ⟨rfl, rfl, rfl⟩ := hb
    refine ⟨ns.zip (its.zip X), e1, e2, ⟨?_, ?_, ?_, ?_, by omega⟩, ⟨?_, ?_, by omega, ?_, ?_⟩, by rw [e1, e2]⟩
    · rw [hz]; exact hns.1
    · rw [hz, hl]; exact hil.1
    · have := hns.2.2.2
      rw [← e1] at this; exact this
    · have : SrcV w x.ia X := hXc
      rw [← e3] at this; exact this
    · intro e he
      obtain ⟨i, hi, rfl⟩ := List.getElem_of_mem he
      rw [hget i hi]
      exact hXv i (by omega) (by omega)
    · unfold Srt
      rw [List.pairwise_iff_getElem]
      intro i j hi hj hij
      rw [hget i hi, hget j hj]
      exact rn_lt hn j i (by omega) hij
    · intro e he
      obtain ⟨i, hi, rfl⟩ := List.getElem_of_mem he
      rw [hget i hi]
      exact rn_len hn _ (List.getElem_mem _)
    · intro e he
      obtain ⟨i, hi, rfl⟩ := List.getElem_of_mem he
      rw [hget i hi]
      exact (rtL_all _ _).1 hrt _ (List.getElem_mem _)
/-- A row that was made is a right set. -/
theorem set_made {w w' : World} {R : List Et} {na ia : Option Addr} {nc ic B : Nat} (hk : SetOk w R) (e : Env w w') (h1 : w'.ownsRow B 9 1 (.slice na R.length nc) (nmE R).length (strC (nmE R))) (h2 : w'.ownsRow B 26 6 (.slice ia R.length ic) (vvE R).length (flatV (vvE R))) :
    VIn w' (.mk 6 0 0 [] (nmE R) (vtE R)) ⟨6, 0, 0, [], na, R.length, nc, ia, R.length, ic⟩ ∧ rtB (.mk 6 0 0 [] (nmE R) (vtE R)) 32 = true := by
  have hlim : R.length ≤ lim := by have := hk.len; unfold lim; omega
  constructor
  · obtain ⟨ia', ic', e', hv⟩ := vin_of_own (its := vtE R) (X := vvE R) (by rw [vtE_len, ← vvE_len]; exact h2) (by rw [vvE_len, vtE_len]) (fun i hi hi' => by
      have : i < R.length := by rw [vtE_len] at hi; exact hi
      simp only [vtE, vvE, List.getElem_map]
      exact VIn.env e _ _ (hk.vin _ (List.getElem_mem this))) (by rw [vtE_len]; exact hk.len)
    rw [vtE_len] at e' hv
    simp only [Value.slice.injEq, true_and] at e'
    obtain ⟨rfl, rfl⟩ := e'
    rw [VIn] at hv ⊢
    refine ⟨⟨rfl, rfl, rfl, rfl⟩, ⟨⟨by omega, by omega⟩, hv.2.1.2.1, hv.2.1.2.2.1, fun s hs => ?_⟩, ⟨(nmE_len R).symm, ?_, ?_, strs_own h1⟩, hv.2.2.2.1, hv.2.2.2.2⟩
    · obtain ⟨e, he, rfl⟩ := List.mem_map.1 hs
      have := hk.name e he
      unfold lim; omega
    · rw [nmE_len]
      rcases h1.2 with ⟨h0, hn⟩ | ⟨g, c, cur, h0, _, _, hc, _⟩
      · simp only [Value.slice.injEq] at h0; rw [h0.2.1]; exact Nat.zero_le _
      · simp only [Value.slice.injEq] at h0; rw [nmE_len] at hc; show R.length ≤ nc; omega
    · rw [nmE_len]; exact hlim
  · rw [rtB, if_neg (by decide), if_pos rfl]
    have hn : rnB (nmE R) = true := rn_mk (by
      unfold nmE
      rw [List.pairwise_map]
      exact hk.srt) (fun s hs => by obtain ⟨e, he, rfl⟩ := List.mem_map.1 hs; exact hk.name e he)
    have hi : rtL (vtE R) 31 = true := (rtL_all _ _).2 (fun v hv => by obtain ⟨e, he, rfl⟩ := List.mem_map.1 hv; exact hk.right e he)
    rw [hn, hi, vtE_len, nmE_len, decide_eq_true hk.len]
    simp [bareB]
/-- What a set over another one is made of. -/
theorem mg_ok {w : World} {A B : List Et} (hA : SetOk w A) (hB : SetOk w B) (hl : (mg A B).length ≤ 256) : SetOk w (mg A B) := by
  have hm := mg_mem A B hA.srt hB.srt
  refine ⟨fun e he => ?_, mg_srt A B hA.srt hB.srt, hl, fun e he => ?_, fun e he => ?_⟩
  all_goals
    rcases (hm e).1 he with h | ⟨h, _⟩
  · exact hB.vin e h
  · exact hA.vin e h
  · exact hB.name e h
  · exact hA.name e h
  · exact hB.right e h
  · exact hA.right e h
/-- Where a name of a set stands. -/
theorem at_mem {A : List Et} (hs : Srt A) {r : Et} (h : r ∈ A) : ∃ j, ∃ hj : j < A.length, A[j] = r ∧ atF (nmE A) r.1 0 = (j : Int) := by
  obtain ⟨j, hj, rfl⟩ := List.getElem_of_mem h
  refine ⟨j, hj, rfl, ?_⟩
  rw [atF_in (nmE A) _ 0 j (by rw [nmE_len]; exact hj) (by simp [nmE]) (fun q hq => ?_), Nat.zero_add]
  simp only [nmE, List.getElem_map]
  exact bl_ne (List.pairwise_iff_getElem.1 hs q j (by omega) hj hq)
theorem at_not {A : List Et} {k : List UInt8} (h : ¬ keyIn k A) : atF (nmE A) k 0 = -1 := atF_out _ _ _ fun s hs e => by
  obtain ⟨r, hr, rfl⟩ := List.mem_map.1 hs
  exact h ⟨r, hr, e⟩
theorem at_key {A : List Et} {k : List UInt8} (hs : Srt A) (h : keyIn k A) : 0 ≤ atF (nmE A) k 0 := by
  obtain ⟨r, hr, rfl⟩ := h
  obtain ⟨j, _, _, e⟩ := at_mem hs hr
  rw [e]; omega
end Go.Proofs.YtlepjghfcpgbcaaGreatDoor.Tr
