/- The contracts of stop, remove, drop, admit. -/
import Derived.Test.YtangnoicnogddaaMrm
namespace Go.Proofs.Ytangnoicnogddaa.Tr
open Go.RowKit

section
variable {O D : Nat → Prop} {w : World} {mb : Nat} {s : St} {fv uv rv : Value} {pa : Option Addr} {pc : Nat} {XF : List Xv} {XR : List Uv}
theorem strC_ins (l : List Nm) (k : Nat) (n : Nm) : strC (ins l k n) = (strC l).take k ++ [.string ⟨n.toArray⟩] ++ (strC l).drop k := by
  simp [strC, ins, List.map_take, List.map_drop]
theorem flatE_ins (l : List Xv) (k : Nat) (x : Xv) : flatE (ins l k x) = (flatE l).take (k * 3) ++ x.cs ++ (flatE l).drop (k * 3) := by
  rw [flatE_take, flatE_drop, ins, flatE_app, flatE_cons, List.append_assoc]
theorem MI.ins_u (h : MI O D w mb s fv uv rv pa pc XF XR) {k : Nat} (hk : k ≤ s.u.length) (hl : s.u.length ≤ 1000) (n : Nm) (vb vc : Nat) (tA : TypeId) (hB : Blk w vb tA [.string ⟨n.toArray⟩]) (hv : ¬ O vb) :
    Calls Try.prog 47 #[uv, .int .i64 (k : Int), .slice (some ⟨vb, 0, none⟩) 1 vc] w fun e w' => PutP 1 O w mb { s with u := ins s.u k n } e w' := by
  refine (ins9_any w uv (strC s.u) [.string ⟨n.toArray⟩] s.u.length k vb vc tA h.u (strC_one _) hB rfl (by simp [Value.oneCell']) (fun e => hv (h.bu vb e).1) hk hl).mono ?_
  rintro e w1 ⟨v', rfl, o, hg, hb⟩
  obtain ⟨a, c, rfl⟩ := own_len o
  rw [← strC_ins] at o
  have F : Fr (fun k => uv.ownBlock = some k) w w1 := (Fr.refl _ w).grown hg (fun k hk => .inl hk)
  refine h.nxt_u (u' := ins s.u k n) F (by rw [ins_len]; exact o) (fun i hi => hb i hi)
theorem ek_zero (w : World) : EK D w ⟨[], 0, []⟩ xZ := ⟨rfl, rfl, rfl, ⟨fun h => absurd rfl h, Nat.le_refl _, by simp, by simp, by simp, by simp⟩, fun h => by simp at h⟩
theorem MI.ins_f (h : MI O D w mb s fv uv rv pa pc XF XR) {k : Nat} (hk : k ≤ s.f.length) (hl : s.f.length ≤ 1000) (vb vc : Nat) (tA : TypeId) (hB : Blk w vb tA xZ.cs) (hv : ¬ O vb) :
    Calls Try.prog 44 #[fv, .int .i64 (k : Int), .slice (some ⟨vb, 0, none⟩) 1 vc] w fun e w' => PutP 0 O w mb { s with f := ins s.f k ⟨[], 0, []⟩ } e w' := by
  refine (insE_any w fv (flatE XF) xZ.cs s.f.length k vb vc tA h.f (flatE_one _) hB rfl (xv_one _) (fun e => hv (h.bf vb e).1) hk hl).mono ?_
  rintro e w1 ⟨v', rfl, o, hg, hb⟩
  obtain ⟨a, c, rfl⟩ := own_len o
  rw [← flatE_ins] at o
  have F : Fr (fun k => fv.ownBlock = some k) w w1 := (Fr.refl _ w).grown hg (fun k hk => .inl hk)
  exact h.nxt_f (f' := ins s.f k ⟨[], 0, []⟩) F (by rw [ins_len]; exact o) (fun i hi => hb i hi) (by rw [ins_len, ins_len, h.fl]) (pair_ins _ _ _ h.fl k hk _ _ (ek_zero w) h.fe)

set_option maxRecDepth 100000 in
set_option maxHeartbeats 4000000 in
theorem stop_any (h : MI O D w mb s fv uv rv pa pc XF XR) (hs : s.ok) (n : Nm) :
    Calls Try.prog 19 #[.pointer (some ⟨mb, 2, none⟩), .string ⟨n.toArray⟩] w fun e w' => DoPost O w mb (stopF s n) e w' := by
  have HS := hid (slot_any h (by have := hs.rl; unfold lim; omega) n)
  have HM := hid h
  clear h
  cases hf : fi s.r n with
  | none =>
    have HR : Hid (stopF s n = (s, 0)) := by unfold Hid stopF; rw [hf]
    rw [fiI_none hf] at HS
    rw [HR.out]
    clear HR
    go_enter Try.func19, Try.ntmps19
    go_wp2_with (go_at_call 36; refine HS.out.mono ?_; rintro e w1 ⟨rfl, f1⟩; have F1 := hid f1; clear f1)
    go_ret
    exact DoPost.of (r := (s, 0)) (Next.of F1.out.upO ⟨_, _, _, _, _, _, _, _, HM.out.keep0 F1.out⟩)
  | some k =>
    have hk := fi_lt hf
    rw [fiI_some hf] at HS
    have hk0 : ¬ (k : Int) < 0 := by omega
    have hk24 : k ≤ 1000 := by have := hs.rl; omega
    cases hb : s.p.headD false with
    | true =>
      have HR : Hid (stopF s n = ({ s with p := s.p.tail }, 71)) := by unfold Hid stopF; rw [hf]; simp only [hb, if_true]
      rw [HR.out]
      have HT := hid (fun (W : World) (f : Fr (fun _ => False) w W) => fails_any (HM.out.keep0 f))
      simp only [TryPost, hb] at HT
      clear HR hb
      go_enter Try.func19, Try.ntmps19
      go_wp2_with (first
        | (go_at_call 36; refine HS.out.mono ?_; rintro e w1 ⟨rfl, f1⟩; have F1 := hid f1; clear f1)
        | (go_at_call 37; refine (HT.out _ F1.out).mono ?_; rintro e w2 ⟨rfl, f2, pa2, pc2, h2⟩; have F2 := hid f2; have H2 := hid h2; clear f2 h2))
      go_ret
      exact DoPost.of (r := ({ s with p := s.p.tail }, 71)) ((Next.of F2.out ⟨_, _, _, _, _, _, _, _, H2.out⟩).after F1.out.upO)
    | false =>
      have HR : Hid (stopF s n = ({ s with r := s.r.eraseIdx k, p := s.p.tail }, 0)) := by unfold Hid stopF; rw [hf]; simp only [hb, Bool.false_eq_true, if_false]
      rw [HR.out]
      have HT := hid (fun (W : World) (f : Fr (fun _ => False) w W) => fails_any (HM.out.keep0 f))
      simp only [TryPost, hb] at HT
      clear HR hb hf
      obtain ⟨fa, fc, ua, uc, ra, rc, rfl, rfl, rfl⟩ := HM.out.rows
      go_enter Try.func19, Try.ntmps19
      go_wp2_with (first
        | (go_at_call 36; refine HS.out.mono ?_; rintro e w1 ⟨rfl, f1⟩; have F1 := hid f1; clear f1)
        | (go_at_call 37; refine (HT.out _ F1.out).mono ?_; rintro e w2 ⟨rfl, f2, pa2, pc2, h2⟩; have F2 := hid f2; have H2 := hid h2; have c2 := h2.cells.2.2.1; clear f2 h2)
        | (go_at_call 38; refine (H2.out.del_r hk).mono ?_; rintro e w3 ⟨a3, n3, q3, rfl, ⟨u3, c3⟩, z3, nx⟩; have NX := hid nx; clear nx))
      go_ret
      exact DoPost.of (r := ({ s with r := s.r.eraseIdx k, p := s.p.tail }, 0)) ((NX.out.after F2.out).after F1.out.upO)
set_option maxRecDepth 100000 in
set_option maxHeartbeats 4000000 in
theorem remove_any (h : MI O D w mb s fv uv rv pa pc XF XR) (hs : s.ok) (n : Nm) :
    Calls Try.prog 20 #[.pointer (some ⟨mb, 0, none⟩), .string ⟨n.toArray⟩] w fun e w' => DoPost O w mb (removeF s n, 0) e w' := by
  have HS := hid (place_any h hs n)
  have HM := hid h
  clear h
  cases ha : isAt (paths s.f) n with
  | false =>
    have HR : Hid (removeF s n = s) := by unfold Hid removeF; rw [ha]; rfl
    rw [HR.out]
    rw [ha] at HS
    clear HR ha
    go_enter Try.func20, Try.ntmps20
    go_wp2_with (go_at_call 39; refine HS.out.mono ?_; rintro e w1 ⟨rfl, f1⟩; have F1 := hid f1; clear f1)
    go_ret
    exact DoPost.of (r := (s, 0)) (Next.of F1.out.upO ⟨_, _, _, _, _, _, _, _, HM.out.keep0 F1.out⟩)
  | true =>
    have HR : Hid (removeF s n = { s with f := s.f.eraseIdx (pos (paths s.f) n) }) := by unfold Hid removeF; rw [ha]; rfl
    rw [HR.out]
    rw [ha] at HS
    have hk : pos (paths s.f) n < s.f.length := by have := pos_lt_of ha; simpa [paths] using this
    have hk24 : pos (paths s.f) n ≤ 1000 := by have := hs.fl; omega
    clear HR ha
    generalize pos (paths s.f) n = k at *
    obtain ⟨fa, fc, ua, uc, ra, rc, rfl, rfl, rfl⟩ := HM.out.rows
    go_enter Try.func20, Try.ntmps20
    go_wp2_with (first
      | (go_at_call 39; refine HS.out.mono ?_; rintro e w1 ⟨rfl, f1⟩; have F1 := hid f1; have H1 := hid (HM.out.keep0 f1); have c0 := (HM.out.keep0 f1).cells.1; clear f1)
      | (go_at_call 40; refine (H1.out.del_f hk).mono ?_; rintro e w3 ⟨a3, n3, q3, rfl, ⟨u3, c3⟩, z3, nx⟩; have NX := hid nx; clear nx))
    go_ret
    exact DoPost.of (r := (_, 0)) (NX.out.after F1.out.upO)
set_option maxRecDepth 100000 in
set_option maxHeartbeats 4000000 in
theorem drop_any (h : MI O D w mb s fv uv rv pa pc XF XR) (hs : s.ok) (n : Nm) :
    Calls Try.prog 21 #[.pointer (some ⟨mb, 0, none⟩), .string ⟨n.toArray⟩] w fun e w' => DoPost O w mb (dropF s n, 0) e w' := by
  have HM := hid h
  obtain ⟨fa, fc, ua, uc, ra, rc, rfl, rfl, rfl⟩ := h.rows
  have HS := hid (bsS_any w s.u ua uc n h.strs hs.u (by have := hs.ul; omega))
  have c1 := h.cells.2.1
  clear h
  cases ha : isAt s.u n with
  | false =>
    have HR : Hid (dropF s n = s) := by unfold Hid dropF; rw [ha]; rfl
    rw [HR.out]
    rw [ha] at HS
    clear HR ha
    go_enter Try.func21, Try.ntmps21
    go_wp2_with (go_at_call 41; refine HS.out.mono ?_; rintro e w1 ⟨rfl, q, rfl⟩)
    go_ret
    have F1 := (Fr.refl (fun _ => False) w).drewN q
    exact DoPost.of (r := (s, 0)) (Next.of F1.upO ⟨_, _, _, _, _, _, _, _, HM.out.keep0 F1⟩)
  | true =>
    have HR : Hid (dropF s n = { s with u := s.u.eraseIdx (pos s.u n) }) := by unfold Hid dropF; rw [ha]; rfl
    rw [HR.out]
    rw [ha] at HS
    have hk : pos s.u n < s.u.length := pos_lt_of ha
    have hk24 : pos s.u n ≤ 1000 := by have := hs.ul; omega
    clear HR ha
    generalize pos s.u n = k at *
    go_enter Try.func21, Try.ntmps21
    go_wp2_with (first
      | (go_at_call 41; refine HS.out.mono ?_; rintro e w1 ⟨rfl, q, hw⟩; have F1 : Hid (Fr (fun _ => False) w w1) := by rw [hw]; exact (Fr.refl _ w).drewN q
         have H1 := hid (HM.out.keep0 F1.out); have c1' := (HM.out.keep0 F1.out).cells.2.1; clear hw)
      | (go_at_call 42; refine (H1.out.del_u hk).mono ?_; rintro e w3 ⟨a3, n3, q3, rfl, ⟨u3, c3⟩, z3, nx⟩; have NX := hid nx; clear nx))
    go_ret
    exact DoPost.of (r := (_, 0)) (NX.out.after F1.out.upO)
end
end Go.Proofs.Ytangnoicnogddaa.Tr
