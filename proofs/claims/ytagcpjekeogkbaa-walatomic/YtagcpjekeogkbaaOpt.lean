/- Open of an image that tells; Read, Commit, Stage where power is gone. -/
import Derived.Test.YtagcpjekeogkbaaPl
import Derived.Test.YtagcpjekeogkbaaOpx
namespace Go.Proofs.Ytagcpjekeogkbaa.Wl
open Go.RowKit Dk

theorem foldupd_lt : ∀ (a : List Sec) (s : Nat), s < 18446744073709551616 → a.foldl upd s < 18446744073709551616
  | [], _, h => h
  | x :: r, s, h => foldupd_lt r _ (upd_lt s x h)
theorem places_flat {f n z e : Nat} {ms : List SMap} {D : Dsk} (h : Img f n z e ms D.N) : placesOf D f (flat ms).length = flat ms := by
  apply List.ext_getElem
  · rw [placesOf_length]
  · intro k h1 h2
    simp only [placesOf, List.getElem_map, List.getElem_range]
    exact h.row k h2

def OpenedPost (G : Nat → Prop) (w : World) (p n : Nat) (T : Nat → Sec) (D : Dsk) (x : Ending) (w' : World) : Prop :=
  ∃ L l bl bt, x = .returned (.tuple #[pv l, .int .i64 0]) ∧ OwnL G w' l p bl bt D L ∧ Kp G w w' ∧ w.heap.size ≤ l ∧ Asks n D L ∧ (∃ ms, Lm ms T D L) ∧ L.st = []

theorem Open_tel {G : Nat → Prop} {w : World} {p : Nat} {D : Dsk} (h : Dk.Own G w p D) (n : Nat) (T : Nat → Sec) (hs : Still D) (hz : D.n = n + 24) (hn : 4 ≤ n) (hn2 : n ≤ 255) (hr : Rec 0 n (n + 24) T D.N) :
    Calls Try.prog 20 #[pv p, .int .i64 0, .int .i64 (n : Int)] w (OpenedPost G w p n T D) := by
  obtain ⟨e, ms, he, ht⟩ := hr
  have hmb : mayBe ((0 : Nat) : Int) (n : Int) (D.n : Int) = true := by rw [hz]; simp [mayBe]; omega
  have hok : ∀ m ∈ ms, OkRow (Lg.new 0 n D.n 0) m := fun m hm => (ht.i.ok m hm).to rfl rfl hz
  have hle := ht.i.le
  have key := Open_ctl h 0 n e (flat ms).length ((flat ms).foldl upd beg) hs.up hmb he hle (foldupd_lt _ _ beg_lt) ht.i.ctl
    { Lg.at 0 n D.n e (flat ms).length ((flat ms).foldl upd beg) with lg := ms.foldl merge [] } 0 (.inr ⟨by rw [places_flat ht.i], rfl, ms, places_flat ht.i, hok, rfl⟩)
  refine key.mono ?_
  rintro x w' (⟨_, l, bl, bt, hx, ho, hk, hsz⟩ | ⟨h0, _⟩)
  · refine ⟨_, l, bl, bt, hx, ho, hk, hsz, ⟨hs.up, rfl, rfl, rfl, hz⟩, ⟨ms, hs, ?_, rfl, rfl, rfl, rfl⟩, rfl⟩
    show Tel 0 n D.n e ms T D.N
    rw [hz]
    exact ht
  · exact absurd rfl h0

set_option maxRecDepth 100000 in
set_option maxHeartbeats 1000000 in
theorem Read_off {G : Nat → Prop} {w : World} {l p bl bt : Nat} {D : Dsk} {L : Lg} (h : OwnL G w l p bl bt D L) (k : Nat) (hr : L.reach (k : Int) = 0) (hup : D.up = false) :
    Calls Try.prog 26 #[pv l, .int .i64 (k : Int)] w fun x w' => x = .returned (.tuple #[.slice none 0 0, .int .i64 40]) ∧ OwnL G w' l p bl bt D (L.noted 40) ∧ Kp G w w' := by
  have HR := hid (lreach_any h.r (k : Int))
  rw [hr] at HR
  have H0 := hid h
  clear hr h
  go_enter Try.func26, Try.ntmps26
  go_wp2_with fail
  refine HR.out.mono ?_
  rintro x w1 ⟨rfl, f1⟩
  have h1 := H0.out.nw f1
  have HF1 : Hid (Kp G w w1) := f1.kp
  have HUp := hid (own_up h1.d)
  rw [hup] at HUp
  have c0 : w1.cell? ⟨l, 0, none⟩ = some (pv p) := by simpa [Lg.cells] using h1.r.hl.cell 0
  have HNo := hid (noted_any h1 40)
  clear HR f1 h1 H0
  go_wp2_with fail
  refine HUp.out.mono ?_
  rintro x w2 ⟨rfl, rfl⟩
  clear HUp
  go_wp2_with fail
  refine HNo.out.mono ?_
  rintro x w3 ⟨rfl, o3, k3⟩
  have HO3 := hid o3
  have HK3 := hid (Kp.trans HF1.out k3)
  clear HNo o3 k3
  go_wp2
  go_ret2
  exact ⟨rfl, HO3.out, HK3.out⟩

/-- What a disk of which nothing is loose has lost: nothing. -/
theorem crash_still {D : Dsk} (h : Still D) (keep : Nat) : (D.crash keep).N = D.N ∧ (D.crash keep).L = D.N ∧ (D.crash keep).Q = [] ∧ (D.crash keep).up = false ∧ (D.crash keep).n = D.n ∧ (D.crash keep).bound = false ∧ (D.crash keep).deeds = D.deeds := by
  have e : D.crash keep = D.fail keep := by simp [Dsk.crash, h.up]
  have e2 : settleTo keep D.Q D.L D.Q.length = D.N := by rw [h.q, h.l]; rfl
  rw [e]
  exact ⟨e2, e2, rfl, rfl, rfl, rfl, rfl⟩
theorem start_still {D : Dsk} (h : Still D) (keep : Nat) : Still (D.crash keep).start ∧ (D.crash keep).start.N = D.N ∧ (D.crash keep).start.n = D.n ∧ (D.crash keep).start.bound = false := by
  obtain ⟨a1, a2, a3, a4, a5, a6, _⟩ := crash_still h keep
  exact ⟨⟨rfl, a3, a2.trans a1.symm⟩, a1, a5, a6⟩
/-- The disk of a log, by itself. -/
theorem OwnL.own {G : Nat → Prop} {w : World} {l p bl bt : Nat} {D : Dsk} {L : Lg} (h : OwnL G w l p bl bt D L) : Dk.Own G w p D := h.d.less (fun _ hk => .inl hk)

end Go.Proofs.Ytagcpjekeogkbaa.Wl
