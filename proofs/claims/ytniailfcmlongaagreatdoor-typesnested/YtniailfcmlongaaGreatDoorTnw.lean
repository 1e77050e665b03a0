/- The walk of TypesNested. -/
import Derived.Test.YtniailfcmlongaaGreatDoorTsw
import Derived.Test.YtniailfcmlongaaGreatDoorTdg
import Derived.Test.YtniailfcmlongaaGreatDoorTne
import Derived.Test.YtniailfcmlongaaGreatDoorTsm
import Derived.Test.YtniailfcmlongaaGreatDoorTin
import Derived.Test.YtniailfcmlongaaGreatDoorDru
namespace Go.Proofs.YtniailfcmlongaaGreatDoor.Tr
open Go.RowKit

/-- The fields of a list of one value, of a set of one. -/
abbrev lX (g : Nat) : Vv := ⟨5, 0, 0, [], none, 0, 0, some ⟨g, 0, none⟩, 1, 1⟩
abbrev sX (gn g : Nat) : Vv := ⟨6, 0, 0, [], some ⟨gn, 0, none⟩, 1, 1, some ⟨g, 0, none⟩, 1, 1⟩
theorem iin_one {W : World} {v : Vt} {x : Vv} {g : Nat} {t : TypeId} (h : VIn W v x) (hB : Blk W g t x.cs) : IIn W [v] (some ⟨g, 0, none⟩) := by
  rw [IIn]
  refine ⟨g, 0, x, rfl, fun j u hu => ?_, h, by rw [IIn]; trivial⟩
  rw [Nat.zero_add, hB.cell j]
  exact hu
theorem vin_l {W : World} {v : Vt} {x : Vv} {g : Nat} {t : TypeId} (h : VIn W v x) (hB : Blk W g t x.cs) : VIn W (lV v) (lX g) := by
  unfold lV
  rw [VIn]
  exact ⟨⟨rfl, rfl, rfl, rfl⟩, ⟨⟨by decide, by decide⟩, ⟨by decide, by decide⟩, by simp, by simp⟩, ⟨rfl, by simp, by simp, fun e => absurd rfl e⟩, ⟨rfl, by simp, by simp [lim]⟩, iin_one h hB⟩
theorem vin_s {W : World} {v : Vt} {x : Vv} {g gn : Nat} {t tn : TypeId} (h : VIn W v x) (hB : Blk W g t x.cs) (hN : Blk W gn tn [.string ⟨#[97]⟩]) : VIn W (sV v) (sX gn g) := by
  unfold sV
  rw [VIn]
  exact ⟨⟨rfl, rfl, rfl, rfl⟩, ⟨⟨by decide, by decide⟩, ⟨by decide, by decide⟩, by simp, by simp [lim]⟩, ⟨rfl, by simp, by simp [lim], fun _ => ⟨gn, 0, rfl, fun i hi => by
    obtain rfl : i = 0 := by simp at hi; omega
    exact hN.cell 0⟩⟩, ⟨rfl, by simp, by simp [lim]⟩, iin_one h hB⟩
/-- The memory behind the making of both. -/
def nestW (w : World) (x : Vv) : World :=
  ((((w.alloc (.cells #[.int .i64 x.k, .int .i64 x.n, .float .f64 x.f, .string ⟨x.t.toArray⟩, .slice x.na x.nl x.nc, .slice x.ia x.il x.ic] 26)).alloc
    (.cells #[.int .i64 5, .int .i64 0, .float .f64 0, .string ⟨#[]⟩, .slice none 0 0, .slice (some ⟨w.heap.size, 0, none⟩) 1 1] 26)).alloc
    (.cells #[.string ⟨#[97]⟩] 9)).alloc
    (.cells #[.int .i64 x.k, .int .i64 x.n, .float .f64 x.f, .string ⟨x.t.toArray⟩, .slice x.na x.nl x.nc, .slice x.ia x.il x.ic] 26)).alloc
    (.cells #[.int .i64 6, .int .i64 0, .float .f64 0, .string ⟨#[]⟩, .slice (some ⟨w.heap.size + 1 + 1, 0, none⟩) 1 1, .slice (some ⟨w.heap.size + 1 + 1 + 1, 0, none⟩) 1 1] 26)
theorem nest_parts (w : World) (x : Vv) : Fr (fun _ => False) w (nestW w x) ∧ Blk (nestW w x) w.heap.size 26 x.cs ∧ Blk (nestW w x) (w.heap.size + 1) 26 (lX w.heap.size).cs ∧ Blk (nestW w x) (w.heap.size + 1 + 1) 9 [.string ⟨#[97]⟩] ∧ Blk (nestW w x) (w.heap.size + 1 + 1 + 1) 26 x.cs ∧ Blk (nestW w x) (w.heap.size + 1 + 1 + 1 + 1) 26 (sX (w.heap.size + 1 + 1) (w.heap.size + 1 + 1 + 1)).cs := by
  refine ⟨((((((Fr.refl _ w).alloc _).alloc _).alloc _).alloc _).alloc _), ?_, ?_, ?_, ?_, ?_⟩
  · exact ((((Blk.new w 26 x.cs).alloc _).alloc _).alloc _).alloc _
  · have h := Blk.new (w.alloc (.cells #[.int .i64 x.k, .int .i64 x.n, .float .f64 x.f, .string ⟨x.t.toArray⟩, .slice x.na x.nl x.nc, .slice x.ia x.il x.ic] 26)) 26 (lX w.heap.size).cs
    rw [World.size_alloc] at h
    exact ((h.alloc _).alloc _).alloc _
  · have h := Blk.new ((w.alloc (.cells #[.int .i64 x.k, .int .i64 x.n, .float .f64 x.f, .string ⟨x.t.toArray⟩, .slice x.na x.nl x.nc, .slice x.ia x.il x.ic] 26)).alloc (.cells #[.int .i64 5, .int .i64 0, .float .f64 0, .string ⟨#[]⟩, .slice none 0 0, .slice (some ⟨w.heap.size, 0, none⟩) 1 1] 26)) 9 [.string ⟨#[97]⟩]
    rw [World.size_alloc, World.size_alloc] at h
    exact (h.alloc _).alloc _
  · have h := Blk.new (((w.alloc (.cells #[.int .i64 x.k, .int .i64 x.n, .float .f64 x.f, .string ⟨x.t.toArray⟩, .slice x.na x.nl x.nc, .slice x.ia x.il x.ic] 26)).alloc (.cells #[.int .i64 5, .int .i64 0, .float .f64 0, .string ⟨#[]⟩, .slice none 0 0, .slice (some ⟨w.heap.size, 0, none⟩) 1 1] 26)).alloc (.cells #[.string ⟨#[97]⟩] 9)) 26 x.cs
    rw [World.size_alloc, World.size_alloc, World.size_alloc] at h
    exact h.alloc _
  · have h := Blk.new ((((w.alloc (.cells #[.int .i64 x.k, .int .i64 x.n, .float .f64 x.f, .string ⟨x.t.toArray⟩, .slice x.na x.nl x.nc, .slice x.ia x.il x.ic] 26)).alloc (.cells #[.int .i64 5, .int .i64 0, .float .f64 0, .string ⟨#[]⟩, .slice none 0 0, .slice (some ⟨w.heap.size, 0, none⟩) 1 1] 26)).alloc (.cells #[.string ⟨#[97]⟩] 9)).alloc (.cells #[.int .i64 x.k, .int .i64 x.n, .float .f64 x.f, .string ⟨x.t.toArray⟩, .slice x.na x.nl x.nc, .slice x.ia x.il x.ic] 26)) 26 (sX (w.heap.size + 1 + 1) (w.heap.size + 1 + 1 + 1)).cs
    rw [World.size_alloc, World.size_alloc, World.size_alloc, World.size_alloc] at h
    exact h
/-- What holds while the law asks. -/
structure NS (w W : World) (v : Vt) (x : Vv) (g : Nat) : Prop where
  fr : Fr (fun _ => False) w W
  bx : Blk W w.heap.size 26 x.cs
  bl : Blk W (g + 1) 26 (lX g).cs
  bs : Blk W (g + 1 + 1 + 1 + 1) 26 (sX (g + 1 + 1) (g + 1 + 1 + 1)).cs
  vx : VIn W v x
  vl : VIn W (lV v) (lX g)
  vs : VIn W (sV v) (sX (g + 1 + 1) (g + 1 + 1 + 1))
theorem NS.next {w W W' : World} {v : Vt} {x : Vv} {g : Nat} (h : NS w W v x g) (f : Fr (fun _ => False) W W') : NS w W' v x g :=
  ⟨h.fr.trans f (fun _ h => h.elim), f.blk h.bx (fun h => h), f.blk h.bl (fun h => h), f.blk h.bs (fun h => h), VIn.env (Env.of f) _ _ h.vx, VIn.env (Env.of f) _ _ h.vl, VIn.env (Env.of f) _ _ h.vs⟩
theorem ns_first {w w2 : World} {v : Vt} {x : Vv} (hf : Fr (fun _ => False) w w2) (hb : Blk w2 w.heap.size 26 x.cs) (hx : VIn w v x) : NS w (nestW w2 x) v x w2.heap.size := by
  obtain ⟨f, p1, p2, p3, p4, p5⟩ := nest_parts w2 x
  have hF := hf.trans f (fun _ h => h.elim)
  have hX := VIn.env (Env.of hF) _ _ hx
  exact ⟨hF, f.blk hb (fun h => h), p2, p5, hX, vin_l hX p1, vin_s hX p4 p3⟩
theorem lst_cat (t : List UInt8) : ByteArray.mk #[108, 105, 115, 116, 32] ++ ByteArray.mk t.toArray = ⟨(lstT t).toArray⟩ := str_cat [108, 105, 115, 116, 32] t
theorem att_cat (t : List UInt8) : ByteArray.mk #[97, 116, 116, 114, 115, 32] ++ ByteArray.mk t.toArray = ⟨(attT t).toArray⟩ := str_cat [97, 116, 116, 114, 115, 32] t

set_option maxRecDepth 100000 in
set_option maxHeartbeats 8000000 in
theorem typesNested_walk (w : World) (t : List UInt8) (ht : t.length ≤ 140737488351232) (v : Vt) (x : Vv) (hx : VIn w v x) (hm : Mx w) : Calls Tryz.prog 9 #[.string ⟨t.toArray⟩, x.v] w fun e w' => e = .returned (.bool true) ∧ Fr (fun _ => False) w w' := by
  have hst := fun (W : World) (a : Addr) (m : Mode) (f : Nat) => run_store Tryz.prog W a (.float .f64 f) m rfl
  have HS := hid (fun W (e : Env w W) => shown_any W (hm.env e))
  have HFx := hid (vFr w x)
  have HBx := hid (vBlk w x)
  have HX := hid hx
  have HR0 : Hid (∀ W, Env w W → Calls Tryz.prog 12 #[.string ⟨t.toArray⟩] W fun e w' => e = .returned (.bool (readT t).isSome) ∧ Fr (fun _ => False) W w') := fun W e => tRight_any W t (by omega) (hm.env e)
  have HR1 : Hid (∀ W, Env w W → Calls Tryz.prog 12 #[.string ⟨(lstT t).toArray⟩] W fun e w' => e = .returned (.bool (readT (lstT t)).isSome) ∧ Fr (fun _ => False) W w') := fun W e => tRight_any W (lstT t) (by simp [lstT]; omega) (hm.env e)
  have HR2 : Hid (∀ W, Env w W → Calls Tryz.prog 12 #[.string ⟨(attT t).toArray⟩] W fun e w' => e = .returned (.bool (readT (attT t)).isSome) ∧ Fr (fun _ => False) W w') := fun W e => tRight_any W (attT t) (by simp [attT]; omega) (hm.env e)
  have HO : Hid (∀ s u y W, s.length ≤ 140737488355328 → Env w W → VIn W u y → Calls Tryz.prog 14 #[.string ⟨s.toArray⟩, y.v] W fun e w' => e = .returned (.bool (ofB s u)) ∧ Fr (fun _ => False) W w') := fun s u y W hs e hy => tOf_any W s hs (hm.env e) u y hy
  have HSm : Hid (∀ W cap, Env w W → Calls Tryz.prog 11 #[.slice (some ⟨W.heap.size, 0, none⟩) 1 cap] (dBox W ⟨x, 0, 0⟩) fun e w' => e = .returned (.bool (smB [⟨v, 0, 0⟩])) ∧ Fr (fun _ => False) (dBox W ⟨x, 0, 0⟩) w') := fun W cap e => small_any (dBox W ⟨x, 0, 0⟩) [⟨v, 0, 0⟩] _ cap (ds_one (dBlk W _) ⟨VIn.env (e.trans (Env.alloc W _)) _ _ hx, rfl, rfl, i64_zero, i64_zero⟩) (by simp)
  generalize smB [⟨v, 0, 0⟩] = q at HSm
  have hszl : ¬ 9223372036854775807 < 5 + t.length := by omega
  have hsza : ¬ 9223372036854775807 < 6 + t.length := by omega
  have HLen := hid ht
  clear hm hx ht
  obtain ⟨k, n, f, tx, na, nl, nc, ia, il, ic⟩ := x
  simp only [Vv.v] at *
  go_enter Tryz.func9, Tryz.ntmps9
  go_wp2_with fail
  refine (HS.out _ (Env.of HFx.out)).mono ?_
  rintro e w1 ⟨rfl, f1⟩
  have HF1 := hid (HFx.out.trans f1 (fun _ h => h.elim))
  have HB1 := hid (f1.blk HBx.out (fun h => h))
  clear f1 HFx HBx HS
  obtain ⟨c0, c1, c2, c3, c4, c5⟩ := HB1.out.six
  go_wp2_with fail
  refine (HSm.out _ _ (Env.of HF1.out)).mono ?_
  rintro e w2 ⟨rfl, f2⟩
  have HF2 : Hid (Fr (fun _ => False) w w2) := (HF1.out.alloc _).trans f2 (fun _ h => h.elim)
  have HB2 := hid (f2.blk (HB1.out.alloc _) (fun h => h))
  clear f2 HF1 HB1 HSm c0 c1 c2 c3 c4 c5
  have HN := hid (ns_first HF2.out HB2.out HX.out)
  obtain ⟨c0, c1, c2, c3, c4, c5⟩ := HB2.out.six
  obtain ⟨d0, d1, d2, d3, d4, d5⟩ := (((HB2.out.alloc (.cells #[.int .i64 k, .int .i64 n, .float .f64 f, .string ⟨tx.toArray⟩, .slice na nl nc, .slice ia il ic] 26)).alloc (.cells #[.int .i64 5, .int .i64 0, .float .f64 0, .string ⟨#[]⟩, .slice none 0 0, .slice (some ⟨w2.heap.size, 0, none⟩) 1 1] 26)).alloc (.cells #[.string ⟨#[97]⟩] 9)).six
  cases q with
  | false =>
    go_wp2_with fail
    go_ret
    exact ⟨rfl, HN.out.fr⟩
  | true =>
    go_wp2_with fail
    change Calls _ _ _ (nestW w2 ⟨k, n, f, tx, na, nl, nc, ia, il, ic⟩) _
    clear c0 c1 c2 c3 c4 c5 d0 d1 d2 d3 d4 d5 HF2 HB2 HX
    generalize nestW w2 ⟨k, n, f, tx, na, nl, nc, ia, il, ic⟩ = w3 at *
    generalize w2.heap.size = g at *
    have hcl := lst_cat t
    have hca := att_cat t
    have HNs : Hid (∀ o1 o2 : Bool, (readT (lstT t)).isSome = true → (readT (attT t)).isSome = true → rtB (lV v) 32 = true → (readT t).isSome = true ∧ ofB (lstT t) (lV v) = ofB t v ∧ ofB (attT t) (sV v) = ofB t v ∧ ofB (lstT t) (sV v) = false ∧ ofB (attT t) (lV v) = false) := fun _ _ h1 h2 h3 => by
      obtain ⟨kd, hk, hl⟩ := read_lst h1
      exact ⟨by rw [hk]; rfl, nested hk hl (read_att hk h2) h3⟩
    have HC3 := hid (rright_any HN.out.vl w3 (Env.of (Fr.refl _ _)))
    generalize hq1 : rtB (lV v) 32 = q1 at HC3 HNs
    have HN3 := hid HN.out
    clear HN hq1
    refine (HC3.out).mono ?_
    rintro e w4 ⟨rfl, f4⟩
    have HN4 := hid (HN3.out.next f4)
    clear f4 HN3 HC3
    cases q1 with
    | false =>
      go_wp2_with fail
      go_ret
      exact ⟨rfl, HN4.out.fr⟩
    | true =>
      go_wp2_with fail
      try simp only [hcl]
      generalize hq2 : (readT (lstT t)).isSome = q2 at HR1 HNs
      clear hq2
      refine (HR1.out _ (Env.of HN4.out.fr)).mono ?_
      rintro e w5 ⟨rfl, f5⟩
      have HN5 := hid (HN4.out.next f5)
      clear f5 HN4 HR1
      cases q2 with
      | false =>
        go_wp2_with fail
        go_ret
        exact ⟨rfl, HN5.out.fr⟩
      | true =>
        go_wp2_with fail
        try simp only [hca]
        generalize hq3 : (readT (attT t)).isSome = q3 at HR2 HNs
        clear hq3
        refine (HR2.out _ (Env.of HN5.out.fr)).mono ?_
        rintro e w6 ⟨rfl, f6⟩
        have HN6 := hid (HN5.out.next f6)
        clear f6 HN5 HR2
        cases q3 with
        | false =>
          go_wp2_with fail
          go_ret
          exact ⟨rfl, HN6.out.fr⟩
        | true =>
          obtain ⟨n0, n1, n2, n3, n4⟩ := HNs.out true true (by first | rfl | trivial) (by first | rfl | trivial) (by first | rfl | trivial)
          have hl5 : (lstT t).length ≤ 140737488355328 := by have := HLen.out; simp [lstT]; omega
          have hl6 : (attT t).length ≤ 140737488355328 := by have := HLen.out; simp [attT]; omega
          have hl0 : t.length ≤ 140737488355328 := by have := HLen.out; omega
          have HO0 : Hid (∀ W, NS w W v ⟨k, n, f, tx, na, nl, nc, ia, il, ic⟩ g → Calls Tryz.prog 14 #[.string ⟨t.toArray⟩, .agg #[.int .i64 k, .int .i64 n, .float .f64 f, .string ⟨tx.toArray⟩, .slice na nl nc, .slice ia il ic]] W fun e w' => e = .returned (.bool (ofB t v)) ∧ Fr (fun _ => False) W w') := fun W h => HO.out t v ⟨k, n, f, tx, na, nl, nc, ia, il, ic⟩ W hl0 (Env.of h.fr) h.vx
          have HO1 : Hid (∀ W, NS w W v ⟨k, n, f, tx, na, nl, nc, ia, il, ic⟩ g → Calls Tryz.prog 14 #[.string ⟨(lstT t).toArray⟩, .agg #[.int .i64 5, .int .i64 0, .float .f64 0, .string ⟨#[]⟩, .slice none 0 0, .slice (some ⟨g, 0, none⟩) 1 1]] W fun e w' => e = .returned (.bool (ofB t v)) ∧ Fr (fun _ => False) W w') := fun W h => by
            have := HO.out (lstT t) (lV v) (lX g) W hl5 (Env.of h.fr) h.vl
            rw [n1] at this; exact this
          have HO2 : Hid (∀ W, NS w W v ⟨k, n, f, tx, na, nl, nc, ia, il, ic⟩ g → Calls Tryz.prog 14 #[.string ⟨(attT t).toArray⟩, .agg #[.int .i64 6, .int .i64 0, .float .f64 0, .string ⟨#[]⟩, .slice (some ⟨g + 1 + 1, 0, none⟩) 1 1, .slice (some ⟨g + 1 + 1 + 1, 0, none⟩) 1 1]] W fun e w' => e = .returned (.bool (ofB t v)) ∧ Fr (fun _ => False) W w') := fun W h => by
            have := HO.out (attT t) (sV v) (sX (g + 1 + 1) (g + 1 + 1 + 1)) W hl6 (Env.of h.fr) h.vs
            rw [n2] at this; exact this
          have HO3 : Hid (∀ W, NS w W v ⟨k, n, f, tx, na, nl, nc, ia, il, ic⟩ g → Calls Tryz.prog 14 #[.string ⟨(lstT t).toArray⟩, .agg #[.int .i64 6, .int .i64 0, .float .f64 0, .string ⟨#[]⟩, .slice (some ⟨g + 1 + 1, 0, none⟩) 1 1, .slice (some ⟨g + 1 + 1 + 1, 0, none⟩) 1 1]] W fun e w' => e = .returned (.bool false) ∧ Fr (fun _ => False) W w') := fun W h => by
            have := HO.out (lstT t) (sV v) (sX (g + 1 + 1) (g + 1 + 1 + 1)) W hl5 (Env.of h.fr) h.vs
            rw [n3] at this; exact this
          have HO4 : Hid (∀ W, NS w W v ⟨k, n, f, tx, na, nl, nc, ia, il, ic⟩ g → Calls Tryz.prog 14 #[.string ⟨(attT t).toArray⟩, .agg #[.int .i64 5, .int .i64 0, .float .f64 0, .string ⟨#[]⟩, .slice none 0 0, .slice (some ⟨g, 0, none⟩) 1 1]] W fun e w' => e = .returned (.bool false) ∧ Fr (fun _ => False) W w') := fun W h => by
            have := HO.out (attT t) (lV v) (lX g) W hl6 (Env.of h.fr) h.vl
            rw [n4] at this; exact this
          rw [n0] at HR0
          generalize ofB t v = o at *
          clear n0 n1 n2 n3 n4 hl0 hl5 hl6 HO HNs
          obtain ⟨c0, c1, c2, c3, c4, c5⟩ := HN6.out.bx.six
          go_wp2_with fail
          clear c0 c1 c2 c3 c4 c5
          refine (HO0.out _ HN6.out).mono ?_
          rintro e w7 ⟨rfl, f7⟩
          have HN7 := hid (HN6.out.next f7)
          clear f7 HN6
          go_wp2_with fail
          refine (HR0.out _ (Env.of HN7.out.fr)).mono ?_
          rintro e w8 ⟨rfl, f8⟩
          have HN8 := hid (HN7.out.next f8)
          clear f8 HN7
          obtain ⟨c0, c1, c2, c3, c4, c5⟩ := HN8.out.bl.six
          go_wp2_with fail
          try simp only [hcl]
          clear c0 c1 c2 c3 c4 c5
          refine (HO1.out _ HN8.out).mono ?_
          rintro e w9 ⟨rfl, f9⟩
          have HN9 := hid (HN8.out.next f9)
          clear f9 HN8
          obtain ⟨c0, c1, c2, c3, c4, c5⟩ := HN9.out.bs.six
          cases o
          all_goals
            go_wp2_with fail
            try simp only [hca]
            clear c0 c1 c2 c3 c4 c5
            refine (HO2.out _ HN9.out).mono ?_
            rintro e w10 ⟨rfl, f10⟩
            have HN10 := hid (HN9.out.next f10)
            clear f10
            obtain ⟨c0, c1, c2, c3, c4, c5⟩ := HN10.out.bs.six
            go_wp2_with fail
            try simp only [hcl]
            clear c0 c1 c2 c3 c4 c5
            refine (HO3.out _ HN10.out).mono ?_
            rintro e w11 ⟨rfl, f11⟩
            have HN11 := hid (HN10.out.next f11)
            clear f11
            obtain ⟨c0, c1, c2, c3, c4, c5⟩ := HN11.out.bl.six
            go_wp2_with fail
            try simp only [hca]
            clear c0 c1 c2 c3 c4 c5
            refine (HO4.out _ HN11.out).mono ?_
            rintro e w12 ⟨rfl, f12⟩
            have HN12 := hid (HN11.out.next f12)
            clear f12
            go_wp2_with fail
            go_ret
            exact ⟨rfl, HN12.out.fr⟩
end Go.Proofs.YtniailfcmlongaaGreatDoor.Tr
