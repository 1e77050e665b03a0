/- homes: all homes as the log tells them. -/
import Derived.Test.YtagcpjekeogkbaaMad
namespace Go.Proofs.Ytagcpjekeogkbaa.Wl
open Go.RowKit Dk

/-- Sectors one behind the other. -/
def cat (T : Nat → Sec) (n k : Nat) : Sec := (List.range k).flatMap fun i => T (n + i)
theorem cat_succ (T : Nat → Sec) (n k : Nat) : cat T n (k + 1) = cat T n k ++ T (n + k) := by simp [cat, List.range_succ]
theorem cat_congr {T T' : Nat → Sec} {n k : Nat} (h : ∀ i, i < k → T (n + i) = T' (n + i)) : cat T n k = cat T' n k := by
  induction k with
  | zero => rfl
  | succ k ih => rw [cat_succ, cat_succ, ih (fun i hi => h i (by omega)), h k (by omega)]

theorem conv_owned {w : World} {B g cap n : Nat} (l : Sec) (h : w.ownsRow B 5 1 (.slice (some ⟨g, 0, none⟩) n cap) n (bs l)) :
    (convert 38 9 (.slice (some ⟨g, 0, none⟩) n cap)).run Try.prog w = .ok (.string (strB l)) w := by
  have hl : l.length = n := by have := h.1; rw [bs_length] at this; omega
  subst hl
  refine run_convert_bytes_back (P := Try.prog) w 38 9 5 ⟨g, 0, none⟩ cap l Try.underlying38 Try.underlying5 Try.underlying9 (fun j hj => ?_)
  exact h.cells rfl j _ (by simp [bs, bv, hj])

/-- A log that can be asked: of all its homes from n on. -/
structure Asks (n : Nat) (D : Dsk) (L : Lg) : Prop where
  up : D.up = true
  dead : L.dead = false
  f : L.f = 0
  ln : L.n = n
  z : L.z = n + 24
theorem Asks.reach {n : Nat} {D : Dsk} {L : Lg} (h : Asks n D L) (k : Nat) (hk : k < 24) : L.reach ((n + k : Nat) : Int) = 0 := by
  unfold Lg.reach
  rw [h.dead, h.f, h.ln, h.z]
  simp [isHome]
  omega
theorem tell_length {G : Nat → Prop} {w : World} {l p bl bt : Nat} {D : Dsk} {L : Lg} (h : OwnL G w l p bl bt D L) (k : Nat) (hk : k < D.n) : (L.tell D k).length = 128 := by
  unfold Lg.tell
  cases h1 : get L.st k with
  | some s => exact h.r.mt.sec h1
  | none =>
    simp only
    cases h2 : get L.lg k with
    | some s => exact h.r.ml.sec h2
    | none => exact sec_length _ _ _ h.d.ok.lN hk

set_option maxRecDepth 100000 in
set_option maxHeartbeats 1000000 in
theorem homes_any {G : Nat → Prop} {w : World} {l p bl bt : Nat} {D : Dsk} {L : Lg} (h : OwnL G w l p bl bt D L) (n : Nat) (ha : Asks n D L) (hn : n ≤ 255) :
    Calls Try.prog 12 #[pv l, .int .i64 (n : Int)] w fun e w' => e = .returned (.tuple #[.string (strB (cat (L.tell D) n 24)), .bool true]) ∧ Nw w w' := by
  obtain ⟨i0, hi0, hz0, hz1, hz2⟩ := info_parts Dk.info5
  have H := hid h
  have HA := hid ha
  have HDn : Hid (∀ k, k < 24 → n + k < D.n) := fun k hk => by rw [h.n, ha.z]; omega
  clear h ha
  go_enter Try.func12, Try.ntmps12
  go_wp2_with fail
  go_loopw [6, 7] (fun av i wr => ∃ k : Nat, k ≤ 24 ∧ i = .int .i64 (k : Int) ∧ wr.ownsRow w.heap.size 5 1 av (k * 128) (bs (cat (L.tell D) n k)) ∧ Nw w wr) (fun _ i _ => 24 - (intOf i).toNat)
  case atStart => exact ⟨0, Nat.zero_le _, rfl, by simpa [bs, cat] using World.ownsRow_nil w w.heap.size 5 1, Fr.refl _ _⟩
  case round =>
    obtain ⟨k, hkn, rfl, hO, hF⟩ := hrel
    have HO := hid hO
    have HF := hid hF
    clear hO hF
    by_cases hlt : k < 24
    · have hk1 : (k : Int) < 24 := by omega
      have HR := hid (Read_ok (H.out.nw HF.out) (n + k) (HA.out.reach k hlt) HA.out.up)
      have Htl : Hid ((bs (L.tell D (n + k))).length = 128 * 1) := by unfold Hid; rw [bs_length, tell_length H.out _ (HDn.out k hlt)]
      have Hcs : Hid (bs (cat (L.tell D) n (k + 1)) = bs (cat (L.tell D) n k) ++ bs (L.tell D (n + k))) := by unfold Hid; rw [cat_succ]; simp [bs]
      have hnk : ((n + k : Nat) : Int) = (n : Int) + (k : Int) := by omega
      rw [hnk] at HR
      clear hnk
      generalize hA : cat (L.tell D) n (k + 1) = A1 at *
      have HA1 := hid hA
      generalize cat (L.tell D) n k = A at *
      generalize L.tell D (n + k) = s at *
      clear hA
      go_wp2_with fail
      refine HR.out.mono ?_
      rintro e w1 ⟨gr, tr, rfl, hb, hge, f1⟩
      have HO2 : Hid (w1.ownsRow w.heap.size 5 1 _ (k * 128) (bs A)) := owns_of_eq HO.out (fun b hb => f1.block b (HO.out.lt b hb).2 id)
      have HF1 := hid (Nw.tr HF.out f1)
      have HN : Hid (∀ j u, (bs s)[j]? = some u → w1.cell? ((⟨gr, 0, none⟩ : Addr).add j) = some u) := fun j u hu => by
        rw [Addr.add_mid, Nat.zero_add, hb.cell]; exact hu
      have hsz := hid HF1.out.size
      clear HR hb hge f1
      go_wp2_with (at_builtin; refine wpList_append_lies _ (by rfl) _ _ _ (by rfl) w.heap.size 5 i0 _ 1 1 Try.underlying38 hi0 hz0 hz1 hz2 rfl (by omega) _ (k * 128) (bs A) (by rfl) (by exact HO2.out) ⟨gr, 0, none⟩ 128 128 (bs s) (by rfl) Htl.out (by exact HN.out) (bs_one _) (by omega) (by unfold maxLen; omega) (by omega) (by exact hsz.out) w1.heap.size (by rfl) ?_; intro g cap2 w2 hown hgrow hat hlt2)
      have HF2 : Hid (Nw w w2) := HF1.out.grown hgrow (fun b hb => .inr (HO.out.lt b hb).1)
      have HO3 : Hid (w2.ownsRow w.heap.size 5 1 (.slice (some ⟨g, 0, none⟩) (k * 128 + 128) cap2) ((k + 1) * 128) (bs A1)) := by
        unfold Hid
        rw [show (k + 1) * 128 = k * 128 + 128 by omega, Hcs.out]
        exact hown
      clear hown hgrow hat hlt2
      exact ⟨⟨k + 1, by omega, by go_num, by rw [HA1.out]; exact HO3.out, HF2.out⟩, by simp [intOf]; omega⟩
    · obtain rfl : k = 24 := by omega
      obtain ⟨g, cap2, rfl, _, _⟩ := HO.out.form (by omega)
      have hcv := conv_owned _ HO.out
      generalize hS : strB (cat (L.tell D) n 24) = S at *
      have HS := hid hS
      clear HO hS
      go_wp2
      go_ret2
      exact ⟨by rw [HS.out]; rfl, HF.out⟩

end Go.Proofs.Ytagcpjekeogkbaa.Wl
