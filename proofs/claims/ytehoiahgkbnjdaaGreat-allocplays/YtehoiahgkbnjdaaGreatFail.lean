
/- The contracts of fail, Crash, deed and Flush: what a loss of power takes. -/
import Derived.Test.YtehoiahgkbnjdaaGreatSettle
namespace Go.Proofs.YtehoiahgkbnjdaaGreat.Dk
open Go.RowKit

/-- 'copy' between two slices of elements of many cells: all is read before anything is written. -/
theorem run_copy_rows {P : Program} (w : World) (dT sT ty elem : TypeId) (b o dLen dCap : Nat) (a : Addr) (sLen sCap sz : Nat) (cs : List Value)
    (hu : P.underlying dT = some (.slice elem)) (hs : (P.info? elem).map (·.size) = some sz) (hn : cs.length = Nat.min sLen dLen * sz)
    (hsrc : ∀ j v, cs[j]? = some v → w.cell? (a.add j) = some v) (ht : w.there b o cs.length) (h1 : ∀ v ∈ cs, v.oneCell' = true) :
    (Builtin.copy_ #[dT, sT] ty #[.slice (some ⟨b, o, none⟩) dLen dCap, .slice (some a) sLen sCap]).run P w = .ok (goInt (Nat.min sLen dLen)) (w.setCells b o cs) := by
  have hl := run_loadCells_list (P := P) w a cs hsrc
  have hst := run_storeCells_cells (P := P) b o cs 0 w (fun j hj => by simpa using (ht j hj).1) (fun j hj => by simpa using (ht j hj).2) h1
  cases hq : P.info? elem with
  | none => simp [hq] at hs
  | some i =>
    have hi : i.size = sz := by simpa [hq] using hs
    simp [Builtin.copy_, run_underlying hu, Builtin.lenOf, Builtin.firstCells, sizeOf, typeInfo, hq, hi, ← hn, hl, hst]

theorem step_copy_rows {P : Program} {ops : Array Oper} {o : Oper} {a : Act} {w : World} {K : Act → World → Prop} {Q : Exit → Act → World → Prop} {E : Prop} (hgd : o.guard = none) (d s : Operand) (dT sT : TypeId)
    (ho : o.op = .call { callee := .builtin .copy, args := #[d, s], argTypes := #[dT, sT] }) (elem : TypeId) (sz : Nat) (hu : P.underlying dT = some (.slice elem)) (hsz : (P.info? elem).map (·.size) = some sz)
    (b off dLen dCap : Nat) (ad : Addr) (sLen sCap : Nat) (hd : a.eval d = .slice (some ⟨b, off, none⟩) dLen dCap) (hs : a.eval s = .slice (some ad) sLen sCap)
    (cs : List Value) (hn : cs.length = Nat.min sLen dLen * sz)
    (hsrc : ∀ j v, cs[j]? = some v → w.cell? (ad.add j) = some v) (ht : w.there b off cs.length) (h1 : ∀ v ∈ cs, v.oneCell' = true)
    (h : K (a.put o.dst (goInt (Nat.min sLen dLen))) (w.setCells b off cs)) :
    if Region.wanted o (yielded ops a.tmps) = true then Oper.wp P o a w K Q else E := by
  have hw : Region.wanted o (yielded ops a.tmps) = true := by simp [Region.wanted, hgd]
  rw [if_pos hw]
  have hrun := run_copy_rows (P := P) w dT sT o.type elem b off dLen dCap ad sLen sCap sz cs hu hsz hn hsrc ht h1
  unfold Oper.wp
  simp [execOp, ho, resolve, invoke, builtin, hd, hs, hrun, Result.andThen]
  exact h

theorem Rep.copied {B : Nat} {w : World} {p bl bn : Nat} {lv : Value} {D : Dsk} (h : Rep B w p bl bn lv D) :
    Rep B (w.setCells bn 0 (bs D.L)) p bl bn lv { D with N := D.L } where
  hp := h.hp.setCells_ne h.pn _ _
  hl := h.hl.setCells_ne h.ln _ _
  hn := by
    have := Blk.setCells (bs D.L) 0 h.hn (by rw [List.length_append, bs_length, bs_length, h.ok.lN, h.ok.lL]; omega)
    rw [bs_splice_app _ _ _ _ (by rw [h.ok.lN, h.ok.lL]; omega)] at this
    have e : splice D.N 0 D.L = D.L := by simp [splice, List.drop_eq_nil_of_le (show D.N.length ≤ D.L.length by rw [h.ok.lN, h.ok.lL]; omega)]
    rw [e] at this
    exact this
  hq := owns_of_eq h.hq (fun k hk => Dk.setCells_ne _ _ _ (fun e => h.qn (by rw [hk, e])))
  pB := h.pB
  lB := h.lB
  nB := h.nB
  pl := h.pl
  pn := h.pn
  ln := h.ln
  qp := h.qp
  ql := h.ql
  qn := h.qn
  ok := { h.ok with lN := h.ok.lL }

/-- What a loss of power leaves. -/
def Dsk.fail (D : Dsk) (keep : Nat) : Dsk :=
  { n := D.n, cl := D.cl, cn := D.cn, zl := D.zl, zn := D.zn, L := settleTo keep D.Q D.L D.Q.length, N := settleTo keep D.Q D.L D.Q.length, Q := [], up := false, deeds := D.deeds, bound := false, after := 0, keep := 0 }

theorem foot_sub {p bl bn : Nat} {lv : Value} (k : Nat) (h : foot p bl bn (.slice none 0 0) k) : foot p bl bn lv k := by
  rcases h with h | h | h | h
  · exact .inl h
  · exact .inr (.inl h)
  · exact .inr (.inr (.inl h))
  · simp [Value.ownBlock] at h

set_option maxRecDepth 100000 in
set_option maxHeartbeats 400000 in
theorem fail_any {B : Nat} {w : World} {p bl bn : Nat} {lv : Value} {D : Dsk} (h : Rep B w p bl bn lv D) (keep : Nat) (hk : keep < 18446744073709551616) (hQ : D.Q.length < 4611686018427387904) :
    Calls Tryz.prog 95 #[pv p, .int .u64 (keep : Int)] w fun e w' => e = .returned (.tuple #[]) ∧ Rep B w' p bl bn (.slice none 0 0) (D.fail keep) ∧ Fr (foot p bl bn lv) w w' := by
  go_enter Tryz.func95, Tryz.ntmps95
  go_wp2_with fail
  refine (settle_any h keep hk hQ).mono ?_
  rintro e w1 ⟨rfl, h1, h2⟩
  have HF : Hid (Fr (foot p bl bn lv) w w1) := h2
  have H1 : Hid (Rep B w1 p bl bn (.slice none 0 0) { D with L := settleTo keep D.Q D.L D.Q.length, Q := [] }) := h1
  have c0 := h1.c0
  have c1 := h1.c1
  have hsrc : Hid (∀ j v, (bs (settleTo keep D.Q D.L D.Q.length))[j]? = some v → w1.cell? ((⟨bl, 0, none⟩ : Addr).add j) = some v) := fun j v hv => by
    rw [Addr.add_mid, Nat.zero_add, h1.hl.cell, List.getElem?_append_left (List.getElem?_eq_some_iff.1 hv).1]; exact hv
  have ht : Hid (w1.there bn 0 (bs (settleTo keep D.Q D.L D.Q.length)).length) := h1.hn.there _ _ (by
    have a1 := h1.ok.lN; have a2 := h1.ok.lL; simp only [List.length_append, bs_length] at *; omega)
  have hn : Hid ((bs (settleTo keep D.Q D.L D.Q.length)).length = Nat.min D.n D.n * 128) := by
    unfold Hid
    have a2 := h1.ok.lL; simp only [bs_length] at *; rw [a2]; simp
  have HC : Hid (Rep B (w1.drew.setCells bn 0 (bs (settleTo keep D.Q D.L D.Q.length))) p bl bn (.slice none 0 0) { D with L := settleTo keep D.Q D.L D.Q.length, N := settleTo keep D.Q D.L D.Q.length, Q := [] }) := h1.drew.copied
  have n1 : p ≠ bn := h1.pn
  clear h1 h2 h
  go_wp2_with fail
  go_region_held3 (fun w' => w'.cell? ⟨p, 0, none⟩ = some (.slice (some ⟨bl, 0, none⟩) D.n D.cl) ∧ w'.cell? ⟨p, 1, none⟩ = some (.slice (some ⟨bn, 0, none⟩) D.n D.cn))
    (first
      | exact ⟨c0, c1⟩
      | (go_split_ands
         refine ⟨?_, ?_⟩
         · (rw [World.cell?_setCells_out _ _ _ _ _ (fun e _ => absurd e n1)]; assumption)
         · (rw [World.cell?_setCells_out _ _ _ _ _ (fun e _ => absurd e n1)]; assumption)))
    (refine step_copy_rows (by rfl) _ _ 101 101 (by rfl) 117 128 Tryz.underlying101 size59 bn 0 D.n D.cn ⟨bl, 0, none⟩ D.n D.cl (by rfl) (by rfl) (bs (settleTo keep D.Q D.L D.Q.length)) hn.out (by exact hsrc.out) (by exact ht.out) (bs_one _) ?_)
  generalize hW : w1.drew.setCells bn 0 (bs (settleTo keep D.Q D.L D.Q.length)) = W at *
  have HFW : Hid (Fr (foot p bl bn lv) w W) := by
    unfold Hid; rw [← hW]; exact HF.out.drew.setCells (.inl (.inr (.inr (.inl rfl)))) _ _
  clear hW
  have c3 := HC.out.c3
  have fz := HC.out.fz
  have HD : Hid (Rep B (W.setCell ⟨p, 3, none⟩ (.bool false)) p bl bn (.slice none 0 0) { D with L := settleTo keep D.Q D.L D.Q.length, N := settleTo keep D.Q D.L D.Q.length, Q := [], up := false }) :=
    HC.out.field 3 _ rfl rfl rfl rfl { HC.out.ok with }
  go_wp2_with fail
  refine (disarm_any HD.out).mono ?_
  rintro e w' ⟨rfl, h1, h2⟩
  have H1' : Hid (Rep B w' p bl bn (.slice none 0 0) (D.fail keep)) := h1
  have H2 := HFW.out.trans ((((Fr.refl (foot p bl bn lv) W).setCell (p := ⟨p, 3, none⟩) (.inl (.inl rfl)) (.bool false))).trans (h2.mono (fun k => foot_sub (lv := lv) k)) (fun k hk => .inl hk)) (fun k hk => .inl hk)
  have H2' : Hid (Fr (foot p bl bn lv) w w') := H2
  clear h1 h2 H2
  go_wp2
  go_end0
  exact ⟨rfl, H1'.out, H2'.out⟩

/-- A deed: the disk behind it and the answer. -/
def Dsk.deed (D : Dsk) : Dsk := if D.bound = true ∧ D.after = 0 then D.fail D.keep else { D with deeds := D.deeds + 1, after := if D.bound then D.after - 1 else D.after }
def Dsk.deedE (D : Dsk) : Int := if D.bound = true ∧ D.after = 0 then 41 else 0

set_option maxHeartbeats 800000 in
theorem deed_any {B : Nat} {w : World} {p bl bn : Nat} {lv : Value} {D : Dsk} (h : Rep B w p bl bn lv D) (hQ : D.Q.length < 4611686018427387904) (hd : D.deeds < 4611686018427387904) :
    Calls Tryz.prog 87 #[pv p] w fun e w' => e = .returned (.int .i64 D.deedE) ∧ Did B p bl bn lv w D.deed w' := by
  have c5 := h.c5
  have c6 := h.c6
  have c7 := h.c7
  have c4 := h.c4
  have fz := h.fz
  have a0 := h.ok.a0
  have a1 := h.ok.a1
  have hk := h.ok.k
  have H : Hid (Rep B w p bl bn lv D) := h
  clear h
  unfold Dsk.deed Dsk.deedE
  cases hb : D.bound
  · rw [hb] at c5
    rw [if_neg (by simp), if_neg (by simp)]
    have H1 : Hid (Rep B (w.setCell ⟨p, 4, none⟩ (.int .i64 ((D.deeds : Int) + 1))) p bl bn lv { D with deeds := D.deeds + 1, bound := false }) :=
      H.out.field 4 _ (by simp [Dsk.head, hb]) rfl rfl rfl { H.out.ok with }
    clear hb
    go_enter Tryz.func87, Tryz.ntmps87
    go_wp2
    go_ret
    exact ⟨rfl, lv, H1.out, fun k hk => .inl hk, (Fr.refl _ _).setCell (.inl (.inl rfl)) _⟩
  · rw [hb] at c5
    by_cases h0 : D.after = 0
    · rw [if_pos ⟨rfl, h0⟩, if_pos ⟨rfl, h0⟩]
      rw [h0] at c6
      clear hb h0
      go_enter Tryz.func87, Tryz.ntmps87
      go_wp2_with fail
      refine (fail_any H.out D.keep hk hQ).mono ?_
      rintro e w' ⟨rfl, h1, h2⟩
      have H2 : Hid (Did B p bl bn lv w (D.fail D.keep) w') := ⟨_, h1, fun k hk => by simp [Value.ownBlock] at hk, h2⟩
      clear h1 h2
      go_wp2
      go_ret
      exact ⟨rfl, H2.out⟩
    · rw [if_neg (by simp [h0]), if_neg (by simp [h0])]
      have H1 : Rep B (w.setCell ⟨p, 6, none⟩ (.int .i64 (D.after - 1))) p bl bn lv { D with after := D.after - 1 } :=
        H.out.field 6 _ rfl rfl rfl rfl { H.out.ok with a0 := by show 0 ≤ D.after - 1; omega, a1 := by show D.after - 1 ≤ _; omega }
      have H2 : Hid (Rep B ((w.setCell ⟨p, 6, none⟩ (.int .i64 (D.after - 1))).setCell ⟨p, 4, none⟩ (.int .i64 ((D.deeds : Int) + 1))) p bl bn lv { D with deeds := D.deeds + 1, bound := true, after := D.after - 1 }) :=
        H1.field 4 _ (by simp [Dsk.head, hb]) rfl rfl rfl { H1.ok with }
      have hb0 : (D.after == 0) = false := by simpa using h0
      have HF : Hid (Fr (foot p bl bn lv) w ((w.setCell ⟨p, 6, none⟩ (.int .i64 (D.after - 1))).setCell ⟨p, 4, none⟩ (.int .i64 ((D.deeds : Int) + 1)))) := ((Fr.refl _ _).setCell (.inl (.inl rfl)) _).setCell (.inl (.inl rfl)) _
      clear hb h0 H1
      go_enter Tryz.func87, Tryz.ntmps87
      go_wp2
      go_ret
      exact ⟨rfl, lv, H2.out, fun k hk => .inl hk, HF.out⟩

end Go.Proofs.YtehoiahgkbnjdaaGreat.Dk
