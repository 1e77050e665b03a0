/- The contract of entries over any bytes: some list in memory of its own. -/
import Derived.Test.YtipppagkajcheaaGreatDoorEtx
import Derived.Test.YtipppagkajcheaaGreatDoorEns
import Derived.Test.YtipppagkajcheaaGreatDoorCox
namespace Go.Proofs.YtipppagkajcheaaGreatDoor.Tr
open Go.RowKit

theorem Rx.grown {B : Nat} {W W' : World} {rb N : Nat} {r : Option Nat} (h : Rx B W rb N) (g : W.grownBy W' r) (hr : ∀ k, r = some k → B ≤ k ∧ k ≠ rb) : Rx B W' rb N := by
  obtain ⟨ad, cap, M, h1, h2, h3⟩ := h
  exact ⟨ad, cap, M, h1.grown g hr, h2, h3⟩
theorem Rx.pass {B : Nat} {W : World} {rb N : Nat} (h : Rx B W rb N) (hE : Erc W) (y : UInt8) (ys : List UInt8) :
    Calls Tryz.prog 27 #[.pointer (some ⟨rb, 0, none⟩), .string ⟨(y :: ys).toArray⟩] W fun e W' => ∃ ok : Bool, e = .returned (.bool ok) ∧ Fr (fun k => k = rb) W W' ∧ Rx B W' rb N ∧ Erc W' := by
  obtain ⟨ad, cap, M, h1, h2, h3⟩ := h
  refine (pass_any B W rb ad cap M y ys h1 h2).mono (fun e W' hh => ?_)
  obtain ⟨ok, M', ⟨he, f, ad', cap', hr, hz⟩, hM, _⟩ := hh
  exact ⟨ok, he, f, ⟨ad', cap', M', hr, hz, by omega⟩, hE.rd h1.blk f⟩

def EnB (N : Nat) (x : Ent) : Prop := x.path.length ≤ N ∧ x.data.length ≤ 2048 ∧ 0 ≤ x.kind ∧ x.kind ≤ 3
def EnPost (w : World) (b : List UInt8) (e : Ending) (w' : World) : Prop := ∃ (L : List Ent) (v : Value) (ok : Bool), e = .returned (.tuple #[v, .bool ok]) ∧ Cop w w' L L.length v ∧ L.length ≤ 24 ∧ (∀ x ∈ L, EnB b.length x) ∧ (b = [] → ok = false)
theorem en_none {w w' : World} (b : List UInt8) (f : Fr (fun _ => False) w w') : EnPost w b (.returned (.tuple #[.slice none 0 0, .bool false])) w' :=
  ⟨[], _, false, rfl, Cop.none f, by simp, (by intro x hx; cases hx), fun _ => rfl⟩

set_option maxRecDepth 100000 in
set_option maxHeartbeats 4000000 in
theorem entries_any (w : World) (ad : Option Addr) (cap : Nat) (b : List UInt8) (hs : Src w ad b) (hc : b.length ≤ cap) (hz : ad = none → cap = 0) (hlow : ∀ a, ad = some a → a.block < w.heap.size) (hl : b.length ≤ 140737488351232) (hE : Erc w) :
    Calls Tryz.prog 15 #[.slice ad b.length cap] w (EnPost w b) := by
  obtain ⟨iE, hiE, hzE0, hzE1, hzE2⟩ := info_parts infoE
  have HE := hid (And.intro hiE (And.intro hzE0 (And.intro hzE1 hzE2)))
  clear hiE hzE0 hzE1 hzE2
  have HW0 : Hid (Fr (fun _ => False) w (w.alloc (.cells #[.slice ad b.length cap] 54))) := (Fr.refl _ w).alloc _
  have HR0 : Hid (Rd w.heap.size (w.alloc (.cells #[.slice ad b.length cap] 54)) w.heap.size ad cap b) := ⟨Blk.new w 54 _, hc, hs.fr HW0.out, hlow⟩
  have HP0 := hid (pass_any w.heap.size _ w.heap.size ad cap b 116 [114, 101, 101, 10] HR0.out hz)
  have HE0 := hid (hE.fr HW0.out)
  have HL0 : Hid (1 < w.heap.size ∧ 2 < w.heap.size) := by
    obtain ⟨e1, h1, _⟩ := hE 1 (.inl rfl)
    obtain ⟨e2, h2, _⟩ := hE 2 (.inr rfl)
    exact ⟨World.block_lt_of_cell? w _ h1, World.block_lt_of_cell? w _ h2⟩
  have HEn := hid (fun (W : World) (h : Rx w.heap.size W w.heap.size b.length) (hE : Erc W) => entry_any w.heap.size W w.heap.size b.length h (by omega) hE)
  have HB0 := hid HR0.out.blk
  have HNo := hid (fun (W : World) (f : Fr (fun _ => False) w W) => en_none b f)
  clear hs hc hl hz hE HR0 hlow
  go_enter Tryz.func15, Tryz.ntmps15
  go_wp2_with (go_at_call 27; refine HP0.out.mono ?_; rintro e w1 ⟨ok, M, ⟨rfl, g1, ad1, cap1, hr1, hz1⟩, hM1, hok⟩; have HF1 : Hid (Fr (fun _ => False) w w1) := HW0.out.trans g1 (fun k h => .inr (by omega)); have HR1 : Hid (Rx w.heap.size w1 w.heap.size b.length) := ⟨ad1, cap1, M, hr1, hz1, hM1⟩; have HE1 := hid (HE0.out.rd HB0.out g1); have HOk := hid hok; clear g1 hr1 hz1 hM1 hok; refine Hid.out ?_)
  refine hid ?_
  clear HP0 HW0 HE0 HB0
  cases ok with
  | false =>
    go_wp2
    go_ret2
    exact HNo.out _ HF1.out
  | true =>
  have HNe : Hid (b = [] → ∀ ok : Bool, ok = false) := fun h => by have := HOk.out h; cases this
  clear HOk
  go_wp2_with fail
  go_loopw [5] (fun lv wr => ∃ L : List Ent, L.length ≤ 24 ∧ Cop w wr L L.length lv ∧ Rx w.heap.size wr w.heap.size b.length ∧ Erc wr ∧ (∀ x ∈ L, EnB b.length x)) (fun lv _ => 24 - lenOf lv)
  case atStart => exact ⟨[], by simp, Cop.none HF1.out, HR1.out, HE1.out, (by intro x hx; cases hx)⟩
  case round =>
    obtain ⟨L, hi, hC, hr, her, hbd⟩ := hrel
    obtain ⟨M0, hM0, ho0, hd0⟩ := hC.own
    clear hd0
    obtain ⟨va, vc, rfl⟩ := own_len ho0
    have HC := hid hC
    have HR := hid hr
    have HEr := hid her
    have HBd := hid hbd
    clear HF1 HR1 HE1 hC hr her hbd hM0 ho0
    obtain ⟨ad0, cap0, M0', hrd0, _, _⟩ := HR.out
    have HBr := hid hrd0.blk
    clear hrd0
    have HCr := hid (fun (W : World) (f : Fr (fun k => k = w.heap.size) wr W) => HC.out.rd HBr.out (Nat.le_refl _) f)
    by_cases h24 : L.length < 24
    · have hi24 : ((L.length : Nat) : Int) < 24 := by omega
      have HPs := hid (HR.out.pass HEr.out 101 [110, 100, 10])
      clear HR HEr
      go_wp2_with (go_at_call 27; refine HPs.out.mono ?_; rintro e w2 ⟨ok2, rfl, g2, hr2, he2⟩; have G2 := hid g2; have HR2 := hid hr2; have HE2 := hid he2; clear g2 hr2 he2; refine Hid.out ?_)
      refine hid ?_
      clear HPs
      cases ok2 with
      | true =>
        go_wp2
        go_ret2
        exact ⟨L, _, true, rfl, HCr.out _ G2.out, hi, HBd.out, fun h => HNe.out h true⟩
      | false =>
      go_wp2_with (go_at_call 28; refine (HEn.out _ HR2.out HE2.out).mono ?_; rintro e w3 ⟨x, ok3, da, dc, rfl, hbx, ho3, g3, hr3, he3⟩; have O3 := hid ho3; have G3 := hid g3; have HR3 := hid hr3; have HE3 := hid he3; have HBx := hid hbx; clear ho3 g3 hr3 he3 hbx; refine Hid.out ?_)
      refine hid ?_
      clear HEn HR2 HE2
      have HG3 : Hid (Fr (fun k => k = w.heap.size) wr w3) := G2.out.trans G3.out (fun _ h => .inl h)
      have hsz2 := G2.out.size
      have hsz3 := G3.out.size
      have hszw := HC.out.f.size
      cases ok3 with
      | false =>
        have HFn := hid (HCr.out _ HG3.out).f
        go_wp2
        go_ret2
        all_goals exact HNo.out _ (by first | exact HFn.out | exact HFn.out.alloc _ | exact (HFn.out.alloc _).alloc _)
      | true =>
      have HSt := hid (fun (W4 : World) (mm : Mv) (f4 : Fr (fun k => k = w.heap.size) wr W4) (hd : DOwn w.heap.size W4 x mm) => cop_step (L := L ++ [x]) (i := L.length) (by simp) (HC.out.more x) HBr.out (Nat.le_refl _) f4 (by rw [List.getElem_concat_length (by rfl)]; exact hd))
      have HF4 : Hid (Fr (fun k => k = w.heap.size) wr ((w3.alloc (.cells #[.string ⟨x.path.toArray⟩, .int .i64 x.kind, .slice da x.data.length dc] 36)).alloc (.cells #[.string ⟨x.path.toArray⟩, .int .i64 x.kind, .slice da x.data.length dc] 36))) := (HG3.out.alloc _).alloc _
      have HFa : Hid (Fr (fun _ => False) w3 ((w3.alloc (.cells #[.string ⟨x.path.toArray⟩, .int .i64 x.kind, .slice da x.data.length dc] 36)).alloc (.cells #[.string ⟨x.path.toArray⟩, .int .i64 x.kind, .slice da x.data.length dc] 36))) := ((Fr.refl _ w3).alloc _).alloc _
      have HD4 : Hid (DOwn w.heap.size ((w3.alloc (.cells #[.string ⟨x.path.toArray⟩, .int .i64 x.kind, .slice da x.data.length dc] 36)).alloc (.cells #[.string ⟨x.path.toArray⟩, .int .i64 x.kind, .slice da x.data.length dc] 36)) x (da, dc)) :=
        owns_base ((O3.out.alloc _).alloc _) (by omega)
      obtain ⟨Z, ho4, hend⟩ := HSt.out _ (da, dc) HF4.out HD4.out
      rw [List.getElem_concat_length (by rfl)] at hend
      have HO4 := hid ho4
      have HEnd := hid hend
      have HR4 := hid (HR3.out.fr HFa.out)
      have HE4 := hid (HE3.out.fr HFa.out)
      have hne4 : ∀ k, (Value.slice va L.length vc).ownBlock = some k → w.heap.size ≤ k ∧ k ≠ w.heap.size := fun k hk => ⟨(ho4.lt k hk).1, fun e => by
        obtain ⟨_, _, _, hrr, _, _⟩ := HR4.out
        have hb' := hrr.blk
        unfold Blk at hb'
        rcases ho4.2 with ⟨h0, _⟩ | ⟨g', cap', cur, h0, _, hh, _⟩
        · rw [h0] at hk; cases hk
        · rw [h0] at hk
          have hg : g' = w.heap.size := (Option.some.inj (show some g' = some k from hk)).trans e
          rw [hg, hb'] at hh
          cases hh⟩
      have HNe4 := hid hne4
      have HN4 : Hid (∀ j u, (entC x (da, dc))[j]? = some u → ((w3.alloc (.cells #[.string ⟨x.path.toArray⟩, .int .i64 x.kind, .slice da x.data.length dc] 36)).alloc (.cells #[.string ⟨x.path.toArray⟩, .int .i64 x.kind, .slice da x.data.length dc] 36)).cell? ((⟨w3.heap.size + 1, 0, none⟩ : Addr).add j) = some u) := by
        intro j u hu
        have h2 := (Blk.new (w3.alloc (.cells #[.string ⟨x.path.toArray⟩, .int .i64 x.kind, .slice da x.data.length dc] 36)) 36 (entC x (da, dc))).cell j
        rw [World.size_alloc] at h2
        rw [Addr.add_mid, Nat.zero_add]
        exact h2.trans hu
      have HB4 : Hid (w.heap.size ≤ ((w3.alloc (.cells #[.string ⟨x.path.toArray⟩, .int .i64 x.kind, .slice da x.data.length dc] 36)).alloc (.cells #[.string ⟨x.path.toArray⟩, .int .i64 x.kind, .slice da x.data.length dc] 36)).heap.size) := by
        unfold Hid; simp; omega
      have HLx : Hid (∀ y ∈ L ++ [x], EnB b.length y) := fun y hy => by
        rcases List.mem_append.1 hy with h | h
        · exact HBd.out y h
        · have : y = x := by simpa using h
          rw [this]; exact HBx.out
      have hlx : (L ++ [x]).length = L.length + 1 := by simp
      have HLl := hid hlx
      clear ho4 hend hne4 HF4 HD4 HFa HSt HG3 G2 G3 HR3 HE3 O3 HC HBr HCr HBd HBx hlx HNo
      generalize hLn : L.length = i at *
      have HLn := hid hLn
      clear hLn
      go_wp2_with (at_builtin; refine wpList_append_lies _ (by rfl) _ _ 24 (by rfl) w.heap.size 36 iE _ 3 48 Tryz.underlying24 HE.out.1 HE.out.2.1 HE.out.2.2.1 HE.out.2.2.2 rfl (by omega) (.slice va i vc) i Z (by rfl) HO4.out ⟨w3.heap.size + 1, 0, none⟩ 1 1 (entC x (da, dc)) (by rfl) (by rfl) HN4.out (by intro u hu; simp [entC] at hu; rcases hu with rfl | rfl | rfl <;> rfl) (by omega) (by unfold maxLen; omega) (by omega) HB4.out _ rfl ?_
                   intro g cap5 W5 hown5 hgrow _ _
                   have HC5 := hid (HEnd.out W5 _ hown5 hgrow)
                   have HR5 := hid (HR4.out.grown hgrow HNe4.out)
                   have HE5 := hid (HE4.out.grown hgrow (fun k hk => by have h1 := (HNe4.out k hk).1; have h2 := HL0.out; omega))
                   clear hown5 hgrow)
      exact ⟨⟨L ++ [x], by rw [HLl.out]; omega, by rw [HLl.out]; exact HC5.out, HR5.out, HE5.out, HLx.out⟩, by have := HLn.out; simp [lenOf]; omega⟩
    · have hi24 : ¬ ((L.length : Nat) : Int) < 24 := by omega
      clear HCr HEn HR HEr
      go_wp2
      go_ret2
      exact ⟨L, _, true, rfl, HC.out, hi, HBd.out, fun h => HNe.out h true⟩

end Go.Proofs.YtipppagkajcheaaGreatDoor.Tr
