/- The law's own: small, made; bytes as strings. -/
import Derived.Test.YtagcpjekeogkbaaCalm
import Derived.Laws.IdiomStrings
namespace Go.Proofs.Ytagcpjekeogkbaa.Wl
open Go.RowKit Dk

def smallN (a : Int) (n : Nat) : Nat := (if a < 0 then (-(a + 1)).toNat else a.toNat) % n

set_option maxRecDepth 100000 in
set_option maxHeartbeats 400000 in
theorem small_any (w : World) (a : Int) (n : Nat) (h0 : -9223372036854775808 ≤ a) (h1 : a ≤ 9223372036854775807) (hn : 1 ≤ n) (hn2 : n ≤ 1000) :
    Calls Try.prog 14 #[.int .i64 a, .int .i64 (n : Int)] w fun x w' => x = .returned (.int .i64 ((smallN a n : Nat) : Int)) ∧ w' = w := by
  have hn0 : ((n : Int) == 0) = false := by simp; omega
  have hn1 : ¬ (n : Int) = 0 := by omega
  have hn3 : ¬ (n : Int) = -1 := by omega
  by_cases ha : a < 0
  · have e1 : IntKind.i64.wrap (a + 1) = a + 1 := by simp [IntKind.wrap, IntKind.bits, IntKind.signed]; omega
    have e2 : IntKind.i64.wrap (-(a + 1)) = -(a + 1) := by simp [IntKind.wrap, IntKind.bits, IntKind.signed]; omega
    have HE : Hid (((smallN a n : Nat) : Int) = -((a + 1).tmod (n : Int))) := by
      unfold Hid smallN
      rw [if_pos ha, ← Int.neg_tmod]
      obtain ⟨k, hk⟩ := Int.eq_ofNat_of_zero_le (show 0 ≤ -(a + 1) by omega)
      rw [hk]
      rfl
    go_enter Try.func14, Try.ntmps14
    go_wp2
    go_ret
    exact ⟨by rw [HE.out]; rfl, rfl⟩
  · have HE : Hid (((smallN a n : Nat) : Int) = a % (n : Int)) := by
      unfold Hid smallN
      rw [if_neg ha]
      obtain ⟨k, hk⟩ := Int.eq_ofNat_of_zero_le (show 0 ≤ a by omega)
      rw [hk]
      rfl
    go_enter Try.func14, Try.ntmps14
    go_wp2
    go_ret
    exact ⟨by rw [HE.out]; rfl, rfl⟩

structure MadeF (n : Nat) (D : Dsk) : Prop where
  calm : Calm D
  hn : D.n = n + 24
  sm : Sm D 4000
  hsec : ∀ j, 0 < j → j < n + 24 → sec D.N j = zeros
theorem made_facts (n : Nat) : MadeF n (fmtD (Dsk.new (n + 24)) 0) := by
  obtain ⟨a1, a2, a3, a4⟩ := fmt_calm (new_calm (n + 24)) 0 (by simp [Dsk.new])
  refine ⟨a2, a3, ?_, fun j h0 hj => ?_⟩
  · have e : fmtD (Dsk.new (n + 24)) 0 = ((Dsk.new (n + 24)).write 0 (ctl 1 0 beg)).flush := by
      have b1 := writeE_calm (new_calm (n + 24)) 0 (by simp [Dsk.new])
      have b1' : (Dsk.new (n + 24)).writeE 0 128 = 0 := b1
      simp [fmtD, b1']
    rw [e]
    exact Sm.flush (Sm.write ⟨by simp [Dsk.new], by simp [Dsk.new]⟩ _ _)
  · rw [a4 j hj, if_neg (by omega), sec_new _ _ hj]

def MadePost (G : Nat → Prop) (w : World) (n : Nat) (x : Ending) (w' : World) : Prop :=
  ∃ p l bl bt, x = .returned (.tuple #[pv p, pv l, .int .i64 (n : Int)]) ∧ OwnL G w' l p bl bt (fmtD (Dsk.new (n + 24)) 0) (Lg.new 0 n (n + 24) 1) ∧ Kp G w w'

set_option maxRecDepth 100000 in
set_option maxHeartbeats 1000000 in
theorem made_any (G : Nat → Prop) (w : World) (hG : ∀ k, G k → k < w.heap.size) (a : Int) (h0 : -9223372036854775808 ≤ a) (h1 : a ≤ 9223372036854775807) :
    Calls Try.prog 9 #[.int .i64 a] w (MadePost G w (4 + smallN a 12)) := by
  have HSm := hid (small_any w a 12 h0 h1 (by omega) (by omega))
  have hlt : smallN a 12 < 12 := Nat.mod_lt _ (by omega)
  have HNew := hid (own_new G w hG (4 + smallN a 12 + 24) (by omega) (by omega))
  have HF := hid (made_facts (4 + smallN a 12))
  have HFm := hid (fmt_calm (new_calm (4 + smallN a 12 + 24)) 0 (by simp [Dsk.new]))
  generalize smallN a 12 = k at *
  have HMb : Hid (mayBe ((0 : Nat) : Int) ((4 + k : Nat) : Int) (((4 + k + 24 : Nat)) : Int) = true) := by simp [Hid, mayBe]; omega
  go_enter Try.func9, Try.ntmps9
  go_wp2_with fail
  refine HSm.out.mono ?_
  rintro x w1 ⟨rfl, rfl⟩
  clear HSm
  rw [show ((4 + k + 24 : Nat) : Int) = 4 + (k : Int) + 24 by omega] at HNew
  go_wp2_with fail
  have HNew' := HNew.out
  refine HNew'.mono ?_
  rintro x w2 ⟨p, rfl, o2, k2⟩
  have HFo := hid (Format_ok o2 (by have := HF.out.sm; exact ⟨by simp [Dsk.new], by simp [Dsk.new]⟩) 0 (4 + k) HMb.out)
  rw [HFm.out.1, show ((4 + k : Nat) : Int) = 4 + (k : Int) by omega] at HFo
  have HK2 := hid k2
  clear HNew HNew' o2 k2
  go_wp2_with fail
  refine HFo.out.mono ?_
  rintro x w3 ⟨rfl, o3, k3⟩
  have HOp := hid (Open_fresh o3 0 (4 + k) 1 HF.out.calm.up (by rw [HF.out.hn]; exact HMb.out) (by omega) (by rw [HFm.out.2.2.2 0 (by simp [Dsk.new]), if_pos rfl]))
  rw [HF.out.hn, show ((4 + k : Nat) : Int) = 4 + (k : Int) by omega] at HOp
  have HK3 := hid (Kp.trans HK2.out k3)
  clear HFo o3 k3 HK2
  go_wp2_with fail
  refine HOp.out.mono ?_
  rintro x w4 ⟨l, bl, bt, rfl, o4, k4, _⟩
  have HO4 := hid o4
  have HK4 := hid (Kp.trans HK3.out k4)
  clear HOp o4 k4 HK3
  go_wp2
  refine bodyPost_ret (results_tmp3 rfl _ _ _) rfl ?_
  exact ⟨p, l, bl, bt, by rw [show ((4 + k : Nat) : Int) = 4 + (k : Int) by omega]; rfl, HO4.out, HK4.out⟩

/-! ### Bytes as strings -/
def strB (l : List UInt8) : ByteArray := ⟨l.toArray⟩
theorem conv_blk {w : World} {b : Nat} {t : TypeId} (l : List UInt8) (h : Blk w b t (bs l)) (cap n : Nat) (hn : l.length = n) :
    (convert 38 9 (.slice (some ⟨b, 0, none⟩) n cap)).run Try.prog w = .ok (.string (strB l)) w := by
  subst hn
  refine run_convert_bytes_back (P := Try.prog) w 38 9 5 ⟨b, 0, none⟩ cap l Try.underlying38 Try.underlying5 Try.underlying9 (fun j hj => ?_)
  rw [Addr.add_mid, Nat.zero_add, h.cell]
  simp [bs, bv, hj]

end Go.Proofs.Ytagcpjekeogkbaa.Wl
