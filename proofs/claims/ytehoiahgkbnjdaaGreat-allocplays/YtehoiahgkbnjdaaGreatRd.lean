
/- Read. -/
import Derived.Test.YtehoiahgkbnjdaaGreatOpn
namespace Go.Proofs.YtehoiahgkbnjdaaGreat.Wl
open Go.RowKit Dk

/-- What a home is, as the log tells it. -/
def Lg.tell (L : Lg) (D : Dsk) (k : Nat) : Sec := match get L.st k with | some s => s | none => match get L.lg k with | some s => s | none => sec D.N k

set_option maxRecDepth 100000 in
set_option maxHeartbeats 400000 in
theorem noted_zero (w : World) (l : Nat) : Calls Tryz.prog 53 #[pv l, .int .i64 0] w fun x w' => x = .returned (.int .i64 0) ∧ w' = w := by
  go_enter Tryz.func53, Tryz.ntmps53
  go_wp2
  go_ret
  exact ⟨rfl, rfl⟩

def ReadPost (w : World) (b : Sec) (x : Ending) (w' : World) : Prop := ∃ g t, x = .returned (.tuple #[.slice (some ⟨g, 0, none⟩) 128 128, .int .i64 0]) ∧ Blk w' g t (bs b) ∧ w.heap.size ≤ g ∧ Nw w w'

set_option maxRecDepth 100000 in
set_option maxHeartbeats 4000000 in
theorem Read_ok {G : Nat → Prop} {w : World} {l p bl bt : Nat} {D : Dsk} {L : Lg} (h : OwnL G w l p bl bt D L) (k : Nat) (hr : L.reach (k : Int) = 0) (hup : D.up = true) :
    Calls Tryz.prog 18 #[pv l, .int .i64 (k : Int)] w (ReadPost w (L.tell D k)) := by
  obtain ⟨k', hk', hk⟩ := reach_home hr
  obtain rfl : k = k' := by omega
  have hkz : k < 1048576 := by have := h.r.ok.z; have := hk.1; omega
  have hz := zero66
  have HR := hid (lreach_any h.r (k : Int))
  rw [hr] at HR
  have H0 := hid h
  have Hk := hid hk
  clear hr hk hk' h
  go_enter Tryz.func18, Tryz.ntmps18
  go_wp2_with fail
  refine HR.out.mono ?_
  rintro x w1 ⟨rfl, f1⟩
  have h1 := H0.out.nw f1
  have HF1 := hid f1
  have HUp := hid (own_up h1.d)
  rw [hup] at HUp
  have c0 : w1.cell? ⟨l, 0, none⟩ = some (pv p) := by simpa [Lg.cells] using h1.r.hl.cell 0
  have c7 : w1.cell? ⟨l, 7, none⟩ = some (.map (some bl)) := by simpa [Lg.cells] using h1.r.hl.cell 7
  have c8 : w1.cell? ⟨l, 8, none⟩ = some (.map (some bt)) := by simpa [Lg.cells] using h1.r.hl.cell 8
  have H1 := hid h1
  clear HR f1 h1
  go_wp2_with fail
  refine HUp.out.mono ?_
  rintro x w2 ⟨rfl, rfl⟩
  clear HUp
  obtain ⟨s0, hs0, hlk, hs0e⟩ := look57 H1.out.r.mt k hkz
  have HS0 := hid hs0
  have HT : Hid (L.tell D k = match get L.st k with | some s => s | none => match get L.lg k with | some s => s | none => sec D.N k) := rfl
  clear hs0
  cases hst : get L.st k with
  | some s =>
    obtain rfl : s0 = s := hs0e s hst
    rw [hst] at hlk HT
    simp only [Option.isSome_some] at hlk
    have HT2 := hid HT.out
    simp only at HT2
    clear HT hs0e
    go_wp2_with (first | (refine store66n (by rfl) _ _ (by rfl) s0 HS0.out zs66 (by rfl) (by rfl) ?_))
    go_ret2
    exact ⟨w2.heap.size, 81, rfl, by rw [HT2.out]; exact Blk.new w2 81 (bs s0), HF1.out.size, HF1.out.alloc _⟩
  | none =>
    rw [hst] at hlk HT
    simp only [Option.isSome_none] at hlk
    have H3 := hid (H1.out.alloc (.cells (bs s0).toArray 81))
    obtain ⟨s1, hs1, hlk1, hs1e⟩ := look57 H3.out.r.ml k hkz
    have HS1 := hid hs1
    have HB7 := hid (Blk.new w2 81 (bs s0))
    have HF3 : Hid (Nw w (w2.alloc (.cells (bs s0).toArray 81))) := HF1.out.alloc _
    have d0 : (w2.alloc (.cells (bs s0).toArray 81)).cell? ⟨l, 0, none⟩ = some (pv p) := by simpa [Lg.cells] using H3.out.r.hl.cell 0
    have d7 : (w2.alloc (.cells (bs s0).toArray 81)).cell? ⟨l, 7, none⟩ = some (.map (some bl)) := by simpa [Lg.cells] using H3.out.r.hl.cell 7
    have HF4 : Hid (Nw w ((w2.alloc (.cells (bs s0).toArray 81)).setCells w2.heap.size 0 (bs s1))) := HF3.out.setCells (.inr HF1.out.size) _ _
    have HB74 := hid (Blk.all HB7.out HS0.out HS1.out)
    have H4 := hid (H0.out.nw HF4.out)
    have e0 : ((w2.alloc (.cells (bs s0).toArray 81)).setCells w2.heap.size 0 (bs s1)).cell? ⟨l, 0, none⟩ = some (pv p) := by simpa [Lg.cells] using H4.out.r.hl.cell 0
    clear hs1 hs0e
    cases hlg : get L.lg k with
    | some s =>
      obtain rfl : s1 = s := hs1e s hlg
      rw [hlg] at hlk1 HT
      simp only [Option.isSome_some] at hlk1
      have HT2 := hid HT.out
      simp only at HT2
      clear HT hs1e
      go_wp2_with (first
        | (refine store66n (by rfl) _ _ (by rfl) s0 HS0.out zs66 (by rfl) (by rfl) ?_)
        | (refine wpList_store66 (by rfl) _ _ (by rfl) HB7.out HS0.out HS1.out (by rfl) (by rfl) ?_))
      go_ret2
      exact ⟨w2.heap.size, 81, rfl, by rw [HT2.out]; exact HB74.out, HF1.out.size, HF4.out⟩
    | none =>
      rw [hlg] at hlk1 HT
      simp only [Option.isSome_none] at hlk1
      have HT2 := hid HT.out
      simp only at HT2
      have HRd := hid (own_read H4.out.d k hup (by have := H4.out.n; have := Hk.out.1; omega))
      have HNo := fun W => hid (noted_zero W l)
      clear HT hs1e
      go_wp2_with (first
        | (refine store66n (by rfl) _ _ (by rfl) s0 HS0.out zs66 (by rfl) (by rfl) ?_)
        | (refine wpList_store66 (by rfl) _ _ (by rfl) HB7.out HS0.out HS1.out (by rfl) (by rfl) ?_))
      refine HRd.out.mono ?_
      rintro x w5 ⟨rfl, rfl⟩
      have HF5 := hid (HF4.out.alloc (.cells (bs (sec D.N k)).toArray 117))
      have HBn := hid (Blk.new ((w2.alloc (.cells (bs s0).toArray 81)).setCells w2.heap.size 0 (bs s1)) 117 (bs (sec D.N k)))
      have HSz : Hid (w.heap.size ≤ ((w2.alloc (.cells (bs s0).toArray 81)).setCells w2.heap.size 0 (bs s1)).heap.size) := HF4.out.size
      clear HRd
      generalize ((w2.alloc (.cells (bs s0).toArray 81)).setCells w2.heap.size 0 (bs s1)).heap.size = gg at *
      generalize ((w2.alloc (.cells (bs s0).toArray 81)).setCells w2.heap.size 0 (bs s1)).alloc (.cells (bs (sec D.N k)).toArray 117) = W5 at *
      go_wp2_with fail
      refine (HNo W5).out.mono ?_
      rintro x w6 ⟨rfl, rfl⟩
      go_wp2
      go_ret2
      exact ⟨gg, 117, rfl, by rw [HT2.out]; exact HBn.out, HSz.out, HF5.out⟩

end Go.Proofs.YtehoiahgkbnjdaaGreat.Wl
