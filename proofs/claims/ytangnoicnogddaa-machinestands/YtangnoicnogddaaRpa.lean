/- The contract of the document's Path. -/
import Derived.Test.YtangnoicnogddaaMay
import Derived.Test.YtangnoicnogddaaPln2
namespace Go.Proofs.Ytangnoicnogddaa.Tr
open Go.RowKit

def strs (L : List (List UInt8)) : List Value := L.map fun l => .string ⟨l.toArray⟩
theorem strs_length (L : List (List UInt8)) : (strs L).length = L.length := by simp [strs]
theorem strs_app (L M : List (List UInt8)) : strs (L ++ M) = strs L ++ strs M := by simp [strs]
theorem info9 : (Try.prog.info? 9).map (fun i => (i.zero, i.size, i.bytes)) = some (some (.string ⟨#[]⟩), 1, 16) := by kernel_rfl

/-- What Path leaves: the names in a row of its own, and whether it is a path. -/
def PathPost (w : World) (r : List (List UInt8) × Bool) (e : Ending) (w' : World) : Prop :=
  ∃ v, e = .returned (.tuple #[v, .bool r.2]) ∧ w'.ownsRow w.heap.size 9 1 v r.1.length (strs r.1) ∧ Fr (fun _ => False) w w'
theorem ownsRow_none (w : World) (B : Nat) (e : TypeId) (s : Nat) : w.ownsRow B e s (.slice none 0 0) 0 [] := ⟨by simp, .inl ⟨rfl, rfl⟩⟩
theorem PathPost.none (w w' : World) (b : Bool) (h : Fr (fun _ => False) w w') : PathPost w ([], b) (.returned (.tuple #[.slice none 0 0, .bool b])) w' :=
  ⟨_, rfl, ownsRow_none _ _ _ _, h⟩

/-- 'append(v, s)' of one string onto a row of the call's own. -/
theorem wpList_append_str {ops : Array Oper} {rest : List Oper} {o : Oper} {a : Act} {W : World} {Q : Exit → Act → World → Prop} (hgd : o.guard = none) (d s : Operand)
    (ho : o.op = .call { callee := .builtin .append, args := #[d, s], argTypes := #[30, 30] }) (base : Nat) (v : Value) (L : List (List UInt8)) (x : List UInt8) (ad : Nat)
    (hd : a.eval d = v) (hs : a.eval s = .slice (some ⟨ad, 0, none⟩) 1 1) (hown : W.ownsRow base 9 1 v L.length (strs L)) (hbase : base ≤ W.heap.size) (hsz : L.length < 8796093022207)
    (hsrc : W.cell? ⟨ad, 0, none⟩ = some (.string ⟨x.toArray⟩))
    (h : ∀ g cap W', W'.ownsRow base 9 1 (.slice (some ⟨g, 0, none⟩) (L.length + 1) cap) (L ++ [x]).length (strs (L ++ [x])) → W.grownBy W' v.ownBlock → wpList Try.prog ops Q rest (a.put o.dst (.slice (some ⟨g, 0, none⟩) (L.length + 1) cap)) W') : wpList Try.prog ops Q (o :: rest) a W := by
  obtain ⟨i0, hi0, hz0, hz1, hz2⟩ := info_parts info9
  refine wpList_append_lies W hgd d s 30 ho base 9 i0 _ 1 16 Try.underlying30 hi0 hz0 hz1 hz2 rfl (by omega) v L.length (strs L) hd hown ⟨ad, 0, none⟩ 1 1 (strs [x]) hs rfl (fun j u hu => ?_) (fun u hu => ?_) (by omega) (by unfold maxLen; omega) (by omega) hbase _ rfl ?_
  · match j, hu with
    | 0, hu => simp [strs] at hu; subst hu; rw [Addr.add_mid]; exact hsrc
    | n + 1, hu => simp [strs] at hu
  · simp [strs] at hu; subst hu; rfl
  · intro g cap W' h1 h2 _ _
    refine h g cap W' ?_ h2
    rw [strs_app]
    simpa using h1

theorem own_len {B : Nat} {w : World} {e : TypeId} {s : Nat} {v : Value} {n : Nat} {xs : List Value} (h : w.ownsRow B e s v n xs) : ∃ a cap, v = .slice a n cap := by
  rcases h.2 with ⟨h0, h1⟩ | ⟨g, cap, _, hv, _⟩
  · exact ⟨none, 0, by rw [h0, h1]⟩
  · exact ⟨_, cap, hv⟩

set_option maxRecDepth 100000 in
set_option maxHeartbeats 1000000 in
theorem rpath_any (w : World) (l : List UInt8) : Calls Try.prog 87 #[.string ⟨l.toArray⟩] w (PathPost w (pathN l)) := by
  by_cases h0 : l = [47]
  · subst h0
    have HP := hid pathN_root
    go_enter Try.func87, Try.ntmps87
    go_wp2
    go_ret2
    rw [HP.out]; exact .none w w _ (Fr.refl _ _)
  have h0' : (l == [47]) = false := by simpa using h0
  by_cases h1 : l.length = 0
  · have HP := hid (pathN_no l h0 (.inl h1))
    obtain rfl := List.length_eq_zero_iff.1 h1
    go_enter Try.func87, Try.ntmps87
    go_wp2
    go_ret2
    rw [HP.out]; exact .none w w _ (Fr.refl _ _)
  have h1' : ((l.length : Int) == 0) = false := by simp; intro h; simp [h] at h1
  by_cases h2 : 200 < l.length
  · have HP := hid (pathN_no l h0 (.inr (.inl h2)))
    have h2' : (200 : Int) < (l.length : Int) := by omega
    clear h0
    go_enter Try.func87, Try.ntmps87
    go_wp2
    go_ret2
    rw [HP.out]; exact .none w w _ (Fr.refl _ _)
  have h2' : ¬ (200 : Int) < (l.length : Int) := by omega
  have hpos : (0 : Int) < (l.length : Int) := by omega
  have hp0 : 0 < l.length := by omega
  have hat := str_at l 0 (by omega)
  have hhd : l.head? = some l[0] := by rw [List.head?_eq_getElem?, List.getElem?_eq_getElem hp0]
  by_cases h3 : l[0] = 47
  · have HNo : Hid (¬ (l.length = 0 ∨ 200 < l.length ∨ l.head? ≠ some 47)) := by unfold Hid; rw [hhd, h3]; exact fun h => h.elim h1 (fun h => h.elim h2 (fun h => h rfl))
    have HI := hid (PInv.start l hp0)
    have h3' : (((((ByteArray.mk l.toArray)[0]'(by simpa [ByteArray.size] using hp0)).toNat : Int)) != 47) = false := by rw [hat, h3]; rfl
    have H0 := hid h0
    clear h0 h3 hat hhd
    go_enter Try.func87, Try.ntmps87
    go_wp2_with fail
    go_loopw [4, 5, 6] (fun ov fv iv wr => ∃ (i f : Nat) (D : List (List UInt8)), PInv l i f D ∧ iv = .int .i64 (i : Int) ∧ fv = .int .i64 (f : Int) ∧ wr.ownsRow w.heap.size 9 1 ov D.length (strs D) ∧ Fr (fun _ => False) w wr) (fun _ _ iv _ => l.length + 1 - (intOf iv).toNat)
    case atStart => exact ⟨1, 1, [], HI.out, rfl, rfl, ownsRow_none _ _ _ _, Fr.refl _ _⟩
    case round =>
      obtain ⟨i, f, D, hI, rfl, rfl, hO, hF⟩ := hrel
      have HI' := hid hI
      have hf1 := hI.pos
      have hfi := hI.fi
      have hil := hI.il
      have hfew := hI.few
      have HO := hid hO
      have HF := hid hF
      clear hI hO hF HI
      by_cases hle : i ≤ l.length
      · have hi1 : (i : Int) ≤ ((l.length : Nat) : Int) := by omega
        have hi0 : (0 : Int) ≤ (i : Int) := Int.natCast_nonneg _
        have hf0 : (0 : Int) ≤ (f : Int) := Int.natCast_nonneg _
        have hfi' : (f : Int) ≤ (i : Int) := by omega
        by_cases hsk : ∃ h : i < l.length, l[i] ≠ 47
        · obtain ⟨hlt, hne⟩ := hsk
          have hi2 : (i : Int) < ((l.length : Nat) : Int) := by omega
          have hne' : (((((ByteArray.mk l.toArray)[i]'(by simpa [ByteArray.size] using hlt)).toNat : Int)) != 47) = true := by
            rw [str_at l i hlt]
            exact bne_iff_ne.2 (fun h => hne (UInt8.toNat_inj.1 (by have e : (47 : UInt8).toNat = 47 := rfl; rw [e]; omega)))
          have HI2 := hid (HI'.out.skip hlt hne)
          clear hne
          go_wp2
          exact ⟨⟨i + 1, f, D, HI2.out, by go_num, rfl, HO.out, HF.out⟩, by simp [intOf]; omega⟩
        · have he : ∀ h : i < l.length, l[i] = 47 := fun h => Classical.byContradiction fun hc => hsk ⟨h, hc⟩
          have HT := hid (HI'.out.take hle he)
          have HB := hid (HI'.out.bad hle he)
          have HX := hid (ext_sub l f i)
          have hgo : ∀ (K : Prop), (¬ (i : Int) < ((l.length : Nat) : Int) → K) → ((i : Int) < ((l.length : Nat) : Int) → (∀ h : i < l.length, ((((((ByteArray.mk l.toArray)[i]'(by simpa [ByteArray.size] using h)).toNat : Int)) != 47) = false)) → K) → K := by
            intro K k1 k2
            by_cases hlt : i < l.length
            · exact k2 (by omega) (fun h => by rw [str_at l i h, he h]; rfl)
            · exact k1 (by omega)
          have HD : Hid (D.length < 8796093022207) := by unfold Hid; omega
          clear he hsk
          refine hgo _ (fun hnl => ?_) (fun hlt' hq => ?_)
          · clear hgo
            cases hb : nameB (sub l f i) with
            | true =>
              have HT' := hid (HT.out hb)
              go_wp2_with (first
                | (go_at_call 35; rw [HX.out]; refine (rname_any _ (sub l f i)).mono ?_; rintro e w1 ⟨rfl, f1⟩; rw [hb]; have F1 := hid (HF.out.trans f1 (fun _ h => h.elim)); have O1 := hid (owns_of_eq HO.out (fun k hk => f1.block k (HO.out.lt k hk).2 (fun h => h)) ); clear f1)
                | (at_builtin; refine wpList_append_str (by rfl) _ _ (by rfl) w.heap.size _ D (sub l f i) w1.heap.size (by rfl) (by rfl) (by exact O1.out.alloc _) (by have := F1.out.size; simp; omega) HD.out (by rw [← HX.out]; simp) ?_
                   intro g cap w2 hown hgrow
                   have O2 := hid hown
                   have F2 : Hid (Fr (fun _ => False) w w2) := (F1.out.alloc _).grown hgrow (fun k hk => .inr (O1.out.lt k hk).1)
                   clear hown hgrow))
              exact ⟨⟨i + 1, i + 1, D ++ [sub l f i], HT'.out, by go_num, by go_num, O2.out, F2.out⟩, by simp [intOf]; omega⟩
            | false =>
              have HP := hid (pathN_bad l H0.out HNo.out (HB.out hb))
              go_wp2_with (first
                | (go_at_call 35; rw [HX.out]; refine (rname_any _ (sub l f i)).mono ?_; rintro e w1 ⟨rfl, f1⟩; rw [hb]; have F1 := hid (HF.out.trans f1 (fun _ h => h.elim)); have O1 := hid (owns_of_eq HO.out (fun k hk => f1.block k (HO.out.lt k hk).2 (fun h => h)) ); clear f1)
                | (at_builtin; refine wpList_append_str (by rfl) _ _ (by rfl) w.heap.size _ D (sub l f i) w1.heap.size (by rfl) (by rfl) (by exact O1.out.alloc _) (by have := F1.out.size; simp; omega) HD.out (by rw [← HX.out]; simp) ?_
                   intro g cap w2 hown hgrow
                   have O2 := hid hown
                   have F2 : Hid (Fr (fun _ => False) w w2) := (F1.out.alloc _).grown hgrow (fun k hk => .inr (O1.out.lt k hk).1)
                   clear hown hgrow))
              go_ret2
              rw [HP.out]; exact .none w _ _ F1.out
          · have hlt : i < l.length := by omega
            have hq' := hq hlt
            clear hgo hq
            cases hb : nameB (sub l f i) with
            | true =>
              have HT' := hid (HT.out hb)
              go_wp2_with (first
                | (go_at_call 35; rw [HX.out]; refine (rname_any _ (sub l f i)).mono ?_; rintro e w1 ⟨rfl, f1⟩; rw [hb]; have F1 := hid (HF.out.trans f1 (fun _ h => h.elim)); have O1 := hid (owns_of_eq HO.out (fun k hk => f1.block k (HO.out.lt k hk).2 (fun h => h)) ); clear f1)
                | (at_builtin; refine wpList_append_str (by rfl) _ _ (by rfl) w.heap.size _ D (sub l f i) w1.heap.size (by rfl) (by rfl) (by exact O1.out.alloc _) (by have := F1.out.size; simp; omega) HD.out (by rw [← HX.out]; simp) ?_
                   intro g cap w2 hown hgrow
                   have O2 := hid hown
                   have F2 : Hid (Fr (fun _ => False) w w2) := (F1.out.alloc _).grown hgrow (fun k hk => .inr (O1.out.lt k hk).1)
                   clear hown hgrow))
              exact ⟨⟨i + 1, i + 1, D ++ [sub l f i], HT'.out, by go_num, by go_num, O2.out, F2.out⟩, by simp [intOf]; omega⟩
            | false =>
              have HP := hid (pathN_bad l H0.out HNo.out (HB.out hb))
              go_wp2_with (first
                | (go_at_call 35; rw [HX.out]; refine (rname_any _ (sub l f i)).mono ?_; rintro e w1 ⟨rfl, f1⟩; rw [hb]; have F1 := hid (HF.out.trans f1 (fun _ h => h.elim)); have O1 := hid (owns_of_eq HO.out (fun k hk => f1.block k (HO.out.lt k hk).2 (fun h => h)) ); clear f1)
                | (at_builtin; refine wpList_append_str (by rfl) _ _ (by rfl) w.heap.size _ D (sub l f i) w1.heap.size (by rfl) (by rfl) (by exact O1.out.alloc _) (by have := F1.out.size; simp; omega) HD.out (by rw [← HX.out]; simp) ?_
                   intro g cap w2 hown hgrow
                   have O2 := hid hown
                   have F2 : Hid (Fr (fun _ => False) w w2) := (F1.out.alloc _).grown hgrow (fun k hk => .inr (O1.out.lt k hk).1)
                   clear hown hgrow))
              go_ret2
              rw [HP.out]; exact .none w _ _ F1.out
      · obtain rfl : i = l.length + 1 := by omega
        have hn : ¬ ((l.length + 1 : Nat) : Int) ≤ ((l.length : Nat) : Int) := by omega
        have hd := HI'.out.done rfl
        have HP := hid (pathN_ok l H0.out HNo.out (by rw [hd]; exact HI'.out.names))
        rw [hd] at HP
        obtain ⟨oa, oc, rfl⟩ := own_len HO.out
        clear hd
        go_wp2
        go_ret2
        rw [HP.out]
        exact ⟨_, congrArg (fun x => Ending.returned (.tuple #[.slice oa D.length oc, .bool x])) (by simp; omega), HO.out, HF.out⟩
  · have HP := hid (pathN_no l h0 (.inr (.inr (by rw [hhd]; intro h; exact h3 (Option.some.inj h)))))
    have h3' : (((((ByteArray.mk l.toArray)[0]'(by simpa [ByteArray.size] using hp0)).toNat : Int)) != 47) = true := by
      rw [hat]
      exact bne_iff_ne.2 (fun h => h3 (UInt8.toNat_inj.1 (by have e : (47 : UInt8).toNat = 47 := rfl; rw [e]; omega)))
    clear h0 h3 hat hhd
    go_enter Try.func87, Try.ntmps87
    go_wp2
    go_ret2
    rw [HP.out]; exact .none w w _ (Fr.refl _ _)

end Go.Proofs.Ytangnoicnogddaa.Tr
