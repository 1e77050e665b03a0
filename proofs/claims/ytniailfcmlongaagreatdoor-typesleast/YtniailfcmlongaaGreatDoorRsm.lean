/- The document's Same, of two values that are one tree. -/
import Derived.Test.YtniailfcmlongaaGreatDoorLspM
import Derived.Test.YtniailfcmlongaaGreatDoorDplM
namespace Go.Proofs.YtniailfcmlongaaGreatDoor.Tr
open Go.RowKit

/-- What the document's Same tells of a value and its like. -/
def RsOf (u : Vt) : Prop := ∀ (x y : Vv) (w : World), VIn w u x → VIn w u y → Calls Tryz.prog 18 #[x.v, y.v] w fun e w' => e = .returned (.bool true) ∧ Fr (fun _ => False) w w'


set_option maxRecDepth 100000 in
set_option maxHeartbeats 4000000 in
theorem rsame_tree : ∀ (m : Nat) (u : Vt), SizeOf.sizeOf u ≤ m → RsOf u := by
  intro m
  induction m with
  | zero =>
    intro v hv
    exfalso
    cases v
    simp only [Vt.mk.sizeOf_spec] at hv
    omega
  | succ m ih =>
    intro u hu x y w hx hy
    have HIH : Hid (∀ z ∈ u.its, RsOf z) := fun z hz => ih z (by have := Vt.its_lt hz; omega)
    have HI := hid hx.parts.2.2.2.2
    have HI' := hid hy.parts.2.2.2.2
    have HNs := hid hx.parts.2.2.1.2.2.2
    have HNs' := hid hy.parts.2.2.1.2.2.2
    obtain ⟨⟨p1, p2, p3, p4⟩, _, ⟨p5, _, hnl, _⟩, ⟨p6, _, hil⟩, _⟩ := hx.parts
    obtain ⟨⟨r1, r2, r3, r4⟩, _, ⟨r5, _, hnl', _⟩, ⟨r6, _, hil'⟩, _⟩ := hy.parts
    have hnl2 : u.ns.length ≤ 140737488351232 := hnl
    have hil2 : u.its.length ≤ 140737488351232 := hil
    clear ih hu hx hy hnl hil hnl' hil'
    obtain ⟨k, n, f, t, na, nl, nc, ia, il, ic⟩ := x
    obtain ⟨k', n', f', t', na', nl', nc', ia', il', ic'⟩ := y
    simp only at p1 p2 p3 p4 p5 p6 r1 r2 r3 r4 r5 r6
    subst p1 p2 p3 p4 p5 p6 r1 r2 r3 r4 r5 r6
    have HB := hid (two_blk w ⟨u.k, u.n, u.f, u.t, na, u.ns.length, nc, ia, u.its.length, ic⟩ ⟨u.k, u.n, u.f, u.t, na', u.ns.length, nc', ia', u.its.length, ic'⟩)
    have HF := hid (two_fr w ⟨u.k, u.n, u.f, u.t, na, u.ns.length, nc, ia, u.its.length, ic⟩ ⟨u.k, u.n, u.f, u.t, na', u.ns.length, nc', ia', u.its.length, ic'⟩)
    have hfb := fun W => fbits_any W u.f
    have ht : (u.t != u.t) = false := by simp
    have ht2 : (u.t == u.t) = true := by simp
    have hk : (u.k != u.k) = false := by simp
    have hn : (u.n != u.n) = false := by simp
    have hff : (((u.f : Nat) : Int) == ((u.f : Nat) : Int)) = true := by simp
    simp only [Vv.v] at *
    obtain ⟨c0, c1, c2, c3, c4, c5⟩ := HB.out.1.six
    obtain ⟨d0, d1, d2, d3, d4, d5⟩ := HB.out.2.six
    go_enter Tryz.func18, Tryz.ntmps18
    go_wp2_with fail
    go_quiet (fail)
    have HF0 := hid (HF.out.drewN nq)
    have HB0 := hid (And.intro (((Fr.refl (fun _ => False) _).drewN nq).blk HB.out.1 (fun h => h)) (((Fr.refl (fun _ => False) _).drewN nq).blk HB.out.2 (fun h => h)))
    go_wp2_with fail
    clear c0 c1 c2 c3 c4 c5 d0 d1 d2 d3 d4 d5
    go_loopw [6] (fun iv wr => ∃ i : Nat, i ≤ u.ns.length ∧ iv = .int .i64 (i : Int) ∧ Fr (fun _ => False) w wr ∧ (Blk wr w.heap.size 26 (Vv.cs ⟨u.k, u.n, u.f, u.t, na, u.ns.length, nc, ia, u.its.length, ic⟩) ∧ Blk wr (w.heap.size + 1) 26 (Vv.cs ⟨u.k, u.n, u.f, u.t, na', u.ns.length, nc', ia', u.its.length, ic'⟩))) (fun iv _ => u.ns.length - (intOf iv).toNat)
    case atStart => exact ⟨0, Nat.zero_le _, rfl, HF0.out, HB0.out⟩
    case round =>
      obtain ⟨i, hi, rfl, hF, hB⟩ := hrel
      clear HB HF HB0 HF0
      have HB := hid hB
      have HF := hid hF
      clear hB hF
      obtain ⟨c0, c1, c2, c3, c4, c5⟩ := HB.out.1.six
      obtain ⟨d0, d1, d2, d3, d4, d5⟩ := HB.out.2.six
      by_cases hlt : i < u.ns.length
      · have hlt' : (i : Int) < ((u.ns.length : Nat) : Int) := by omega
        have hne : u.ns ≠ [] := fun e => by rw [e] at hlt; simp at hlt
        obtain ⟨b, o, rfl, h1⟩ := HNs.out hne
        obtain ⟨b', o', rfl, h1'⟩ := HNs'.out hne
        have q1 := (Env.of HF.out).cell (h1 i hlt)
        have q1' := (Env.of HF.out).cell (h1' i hlt)
        generalize u.ns[i]'hlt = s at *
        clear h1 h1' hne
        have hs : (s != s) = false := by simp
        have hs2 : (s == s) = true := by simp
        go_wp2_with fail
        go_quiet (fail)
        have HF2 := hid (HF.out.drewN nq)
        have HB2 := hid (And.intro (show Blk (wr.drewN nq) w.heap.size 26 _ from HB.out.1) (show Blk (wr.drewN nq) (w.heap.size + 1) 26 _ from HB.out.2))
        go_wp2_with fail
        exact ⟨⟨i + 1, by omega, by first | rfl | (congr 1), HF2.out, HB2.out⟩, by simp [intOf]; omega⟩
      · have hlt' : ¬ (i : Int) < ((u.ns.length : Nat) : Int) := by omega
        clear HNs HNs'
        go_wp2_with fail
        rename World => wq
        clear c0 c1 c2 c3 c4 c5 d0 d1 d2 d3 d4 d5 hlt hlt' hi
        go_loopw [7, 8] (fun iv _ wr => ∃ i : Nat, i ≤ u.its.length ∧ iv = .int .i64 (i : Int) ∧ Fr (fun _ => False) w wr ∧ (Blk wr w.heap.size 26 (Vv.cs ⟨u.k, u.n, u.f, u.t, na, u.ns.length, nc, ia, u.its.length, ic⟩) ∧ Blk wr (w.heap.size + 1) 26 (Vv.cs ⟨u.k, u.n, u.f, u.t, na', u.ns.length, nc', ia', u.its.length, ic'⟩))) (fun iv _ _ => u.its.length - (intOf iv).toNat)
        case atStart => exact ⟨0, Nat.zero_le _, rfl, HF.out, HB.out⟩
        case round =>
          obtain ⟨i, hi, rfl, hF, hB⟩ := hrel
          clear HB HF
          have HB := hid hB
          have HF := hid hF
          clear hB hF
          obtain ⟨c0, c1, c2, c3, c4, c5⟩ := HB.out.1.six
          obtain ⟨d0, d1, d2, d3, d4, d5⟩ := HB.out.2.six
          by_cases hlt : i < u.its.length
          · have hlt' : (i : Int) < ((u.its.length : Nat) : Int) := by omega
            obtain ⟨b, o, e1⟩ := HI.out.some (fun e => by rw [e] at hlt; simp at hlt)
            obtain ⟨b', o', e1'⟩ := HI'.out.some (fun e => by rw [e] at hlt; simp at hlt)
            subst e1 e1'
            obtain ⟨x, e2, e3⟩ := HI.out.get i hlt
            obtain ⟨y, g2, g3⟩ := HI'.out.get i hlt
            have HK : Hid (∀ W', Fr (fun _ => False) wr W' → (sixB W' b (o + i * 6) x ∧ sixB W' b' (o' + i * 6) y) ∧ W'.cell? ⟨w.heap.size, 5, none⟩ = some (.slice (some ⟨b, o, none⟩) u.its.length ic) ∧ W'.cell? ⟨w.heap.size + 1, 5, none⟩ = some (.slice (some ⟨b', o', none⟩) u.its.length ic')) := fun W' hf => ⟨⟨(e2.env (Env.of (HF.out.trans hf (fun _ h => h.elim)))).six, (g2.env (Env.of (HF.out.trans hf (fun _ h => h.elim)))).six⟩, (hf.blk HB.out.1 (fun h => h)).six.2.2.2.2.2, (hf.blk HB.out.2 (fun h => h)).six.2.2.2.2.2⟩
            have HC2 : Hid (Calls Tryz.prog 18 #[x.v, y.v] wr.drew fun e w' => e = .returned (.bool true) ∧ Fr (fun _ => False) wr.drew w') := HIH.out _ (List.getElem_mem hlt) x y wr.drew (VIn.env (Env.of HF.out.drew) _ _ e3) (VIn.env (Env.of HF.out.drew) _ _ g3)
            clear e2 e3 g2 g3
            go_wp2_with fail
            go_region_held3 (fun W' => (sixB W' b (o + i * 6) x ∧ sixB W' b' (o' + i * 6) y) ∧ W'.cell? ⟨w.heap.size, 5, none⟩ = some (.slice (some ⟨b, o, none⟩) u.its.length ic) ∧ W'.cell? ⟨w.heap.size + 1, 5, none⟩ = some (.slice (some ⟨b', o', none⟩) u.its.length ic'))
              (first | exact HK.out _ (Fr.refl _ _).drew | exact HK.out _ F1.out)
              ((go_at_call 18; refine HC2.out.mono ?_; rintro e w2 ⟨rfl, f2⟩; have F1 : Hid (Fr (fun _ => False) wr w2) := (Fr.refl _ wr).drew.trans f2 (fun _ h => h.elim)))
            have HF2 := hid (HF.out.trans F1.out (fun _ h => h.elim))
            have HB2 := hid (And.intro (F1.out.blk HB.out.1 (fun h => h)) (F1.out.blk HB.out.2 (fun h => h)))
            go_wp2_with fail
            exact ⟨⟨i + 1, by omega, by first | rfl | (congr 1), HF2.out, HB2.out⟩, by simp [intOf]; omega⟩
          · have hlt' : ¬ (i : Int) < ((u.its.length : Nat) : Int) := by omega
            go_wp2_with fail
            go_ret
            exact ⟨rfl, HF.out⟩
theorem rsame_any (u : Vt) : RsOf u := rsame_tree _ u (Nat.le_refl _)
end Go.Proofs.YtniailfcmlongaaGreatDoor.Tr
