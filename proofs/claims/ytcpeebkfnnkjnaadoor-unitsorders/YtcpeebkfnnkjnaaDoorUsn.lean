/- The contract of same; what look-ups find, in every world that has the map. -/
import Derived.Test.YtcpeebkfnnkjnaaDoorUso
import Derived.Test.YtcpeebkfnnkjnaaDoorUtw
import Derived.Test.YtcpeebkfnnkjnaaDoorUdd
namespace Go.Proofs.YtcpeebkfnnkjnaaDoor.Tr
open Go.RowKit Go.Maps

set_option maxRecDepth 100000 in
set_option maxHeartbeats 4000000 in
theorem usame_any (w : World) (u v : Ut) (x y : Uv) (hx : UIn w u x) (hy : UIn w v y) : Calls Tryd.prog 39 #[x.v, y.v] w fun e w' => e = .returned (.bool (decide (u = v))) ∧ Fr (fun _ => False) w w' := by
  have HB := hid (two_blk w x y)
  have HF := hid (two_fr w x y)
  have HC1 := hid (fun (W : World) (e : Env w W) => eqStrs W x.ra y.ra x.rc y.rc u.r v.r (hx.r.env e) (hy.r.env e) hx.ok.r hy.ok.r)
  have HC2 := hid (fun (W : World) (e : Env w W) => eqStrs W x.aa y.aa x.ac y.ac u.a v.a (hx.a.env e) (hy.a.env e) hx.ok.a hy.ok.a)
  rw [ut_eq]
  obtain ⟨p1, p2, p3, p4, _, _, _⟩ := hx
  obtain ⟨r1, r2, r3, r4, _, _, _⟩ := hy
  rw [← p3, ← r3] at HC1
  rw [← p4, ← r4] at HC2
  rw [← p1, ← p2, ← r1, ← r2]
  generalize decide (u.r = v.r) = P at *
  generalize decide (u.a = v.a) = Q at *
  clear p1 p2 p3 p4 r1 r2 r3 r4
  obtain ⟨n, s, ra, rl, rc, aa, al, ac⟩ := x
  obtain ⟨n', s', ra', rl', rc', aa', al', ac'⟩ := y
  simp only [Uv.v] at *
  obtain ⟨c0, c1, c2, c3⟩ := HB.out.1.fourU
  obtain ⟨d0, d1, d2, d3⟩ := HB.out.2.fourU
  have HR0 := hid (HC1.out _ (Env.of HF.out))
  cases hn : (n == n') with
  | false =>
    go_enter Tryd.func39, Tryd.ntmps39
    go_wp2_with fail
    go_ret
    exact ⟨by simp, HF.out⟩
  | true =>
    cases hs : (s == s') with
    | false =>
      go_enter Tryd.func39, Tryd.ntmps39
      go_wp2_with fail
      go_ret
      exact ⟨by simp, HF.out⟩
    | true =>
      cases P with
      | false =>
        go_enter Tryd.func39, Tryd.ntmps39
        go_wp2_with fail
        refine HR0.out.mono ?_
        rintro e w1 ⟨rfl, f1⟩
        have HF1 := hid (HF.out.trans f1 (fun _ h => h.elim))
        clear f1 HR0 HC1 HC2 c0 c1 c2 c3 d0 d1 d2 d3 HB HF
        go_wp2_with fail
        go_ret
        exact ⟨by simp, HF1.out⟩
      | true =>
        go_enter Tryd.func39, Tryd.ntmps39
        go_wp2_with fail
        refine HR0.out.mono ?_
        rintro e w1 ⟨rfl, f1⟩
        have HF1 := hid (HF.out.trans f1 (fun _ h => h.elim))
        have HB1 := hid (And.intro (f1.blk HB.out.1 (fun h => h)) (f1.blk HB.out.2 (fun h => h)))
        have HR1 := hid (HC2.out _ (Env.of HF1.out))
        clear f1 HR0 HC1 HC2 c0 c1 c2 c3 d0 d1 d2 d3 HB HF
        obtain ⟨c0, c1, c2, c3⟩ := HB1.out.1.fourU
        obtain ⟨d0, d1, d2, d3⟩ := HB1.out.2.fourU
        go_wp2_with fail
        refine HR1.out.mono ?_
        rintro e w2 ⟨rfl, f2⟩
        have HF2 := hid (HF1.out.trans f2 (fun _ h => h.elim))
        clear f2 HR1 c0 c1 c2 c3 d0 d1 d2 d3 HB1 HF1
        go_wp2_with fail
        go_ret
        exact ⟨by simp, HF2.out⟩

/-- A place, or 0. -/
def lkI (o : Option Nat) : Int := match o with
  | some j => (j : Int)
  | none => 0
theorem pm_look {W : World} {m : Nat} {l : List Ut} (h : Pm W m l) {x : Nm} (hx : x.length ≤ lim) (W' : World) (hW : W'.heap[m]? = W.heap[m]?) :
    (Instr.lookup 47 (.map (some m)) (.string ⟨x.toArray⟩) false).run Tryd.prog W' = .ok (.int .i64 (lkI (fi l x))) W' ∧
    (Instr.lookup 47 (.map (some m)) (.string ⟨x.toArray⟩) true).run Tryd.prog W' = .ok (.tuple #[.int .i64 (lkI (fi l x)), .bool (fi l x).isSome]) W' := by
  obtain ⟨n, D, _, hM, hT⟩ := h
  have hM' : W'.ownsMap Tryd.prog 9 (plainElem Tryd.prog 3) m n D := by
    obtain ⟨es, clock, g1, g2⟩ := hM
    exact ⟨es, clock, hW.trans g1, g2⟩
  have hval : ∀ c : Int, D.atKey (.string x) (.lit (.int .i64 0)) = .lit (.int .i64 c) → c = lkI (fi l x) := fun c hc => by
    have : Tells D x (fi l x) := hT x
    cases hf : fi l x with
    | some j =>
      rw [hf] at this
      exact Tells.at this hc
    | none =>
      rw [hf] at this
      have this : Maps.has D (.string x) = false := this
      rw [atKey_of_not_has this] at hc
      injection hc with hc
      injection hc with _ hc
      exact hc.symm
  constructor
  · obtain ⟨c, hrun, hat, _⟩ := hM'.lookup_int lawS Tryd.underlying47 Tryd.underlying3 (zero3 _) (keyS hx)
    rw [hrun, hval c hat]
  · obtain ⟨v, ps, hrun, hv⟩ := hM'.look_ok lawS Tryd.underlying47 (zero3 _) (plainElem_int (q := .i64) (a := 0) Tryd.underlying3 (by decide)) (keyS hx)
    obtain ⟨c, rfl, hc, _⟩ := plainElem_int_inv Tryd.underlying3 hv
    rw [hrun, hval c (congrArg Prod.fst hc), Tells.has (hT x)]

theorem entry_one {es : Array MapEntry} {clock : Nat} {k : TypeId} {R : Value → Option (DataW Unit × List MemPlace)} (F : WideElems.Fit Tryd.prog k R es clock) {a b : MapEntry} (ha : a ∈ es.toList) (hb : b ∈ es.toList) (e : a.key = b.key) : a = b := by
  have hn : es.toList.Pairwise (fun x y => x.key ≠ y.key) := ((MapKept.stamped_iff es clock).1 F.stamped).2.2
  obtain ⟨i, hi, rfl⟩ := List.getElem_of_mem ha
  obtain ⟨j, hj, rfl⟩ := List.getElem_of_mem hb
  rcases Nat.lt_trichotomy i j with h | h | h
  · exact absurd e (List.pairwise_iff_getElem.1 hn i j hi hj h)
  · subst h; rfl
  · exact absurd e.symm (List.pairwise_iff_getElem.1 hn j i hj hi h)
/-- A look-up among groups, in every world that has the map. -/
theorem groups_look {W : World} {m n : Nat} {D : DataW Unit} {x : Nm} (h : W.ownsGroups Tryd.prog 9 (m + 1) 3 .i64 m n D) (hn : n < maxLen) (hx : x.length ≤ lim) :
    ∃ v zs, (∀ W', W'.heap[m]? = W.heap[m]? → (Instr.lookup 56 (.map (some m)) (.string ⟨x.toArray⟩) false).run Tryd.prog W' = .ok v W') ∧ D.atKey (.string x) .nil = rowDatum .i64 v zs ∧ W.ownsInts (m + 1) 3 .i64 v zs ∧ zs.length ≤ n ∧
      W.groupBack Tryd.prog 56 9 (m + 1) 3 .i64 m n D (.string ⟨x.toArray⟩) (.string x) v := by
  have hkey := keyS hx
  have h0 := h
  obtain ⟨es, clock, hb, F, hs, rfl, hbb, hlen, hap⟩ := h
  rcases Maps.fit_look false lawS Tryd.underlying56 (zeroR W) hb F hkey with ⟨hrun, hno, hat⟩ | ⟨e0, y, hm0, h3, hrun, hR, hat, _⟩
  · refine ⟨.slice none 0 0, [], fun W' hW => ?_, hat _, World.ownsInts_nil _ _ _ _, Nat.zero_le _, groups_back lawS Tryd.underlying56 hb F hs hn hbb hlen hap hkey (fun x _ _ => ?_) (by simp [Value.ownBlock])⟩
    · rcases Maps.fit_look false lawS Tryd.underlying56 (zeroR W') (hW.trans hb) F hkey with ⟨hrun', _, _⟩ | ⟨e1, _, hm1, h31, _⟩
      · exact hrun'
      · exact absurd h31 (hno e1 hm1)
    · cases x.val.ownBlock <;> simp [Value.ownBlock]
  · obtain ⟨zs, ho, rfl⟩ := rowElem_inv hR
    refine ⟨e0.val, zs, fun W' hW => ?_, hat _, ho, hlen e0 hm0 zs ho, groups_back lawS Tryd.underlying56 hb F hs hn hbb hlen hap hkey (fun x hx hne => hap x hx e0 hm0 (by rw [h3]; exact hne)) (fun e1 => ?_)⟩
    · rcases Maps.fit_look false lawS Tryd.underlying56 (zeroR W') (hW.trans hb) F hkey with ⟨_, hno, _⟩ | ⟨e1, _, hm1, h31, hrun', _⟩
      · exact absurd h3 (hno e0 hm0)
      · rw [entry_one F hm1 hm0 (h31.trans h3.symm)] at hrun'
        exact hrun'
    · have := (ho.1.lt m e1).1
      omega
end Go.Proofs.YtcpeebkfnnkjnaaDoor.Tr
