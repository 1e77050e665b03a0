/- The contract of Order. -/
import Derived.Test.YtcpeebkfnnkjnaaDoorUst
namespace Go.Proofs.YtcpeebkfnnkjnaaDoor.Tr
open Go.RowKit Go.Maps

def insU (u : Ut) : List Ut → List Ut
  | [] => [u]
  | v :: r => if v.n < u.n then v :: insU u r else u :: v :: r
/-- By rising names. -/
def srt (l : List Ut) : List Ut := l.foldr insU []
theorem insU_perm (u : Ut) : ∀ l : List Ut, (insU u l).Perm (u :: l)
  | [] => List.Perm.refl _
  | v :: r => by
    unfold insU
    split
    · exact ((insU_perm u r).cons v).trans (List.Perm.swap u v r)
    · exact List.Perm.refl _
theorem srt_perm : ∀ l : List Ut, (srt l).Perm l
  | [] => List.Perm.refl _
  | u :: l => (insU_perm u (srt l)).trans ((srt_perm l).cons u)
theorem insU_rising (u : Ut) : ∀ l : List Ut, Rising l → Rising (insU u l)
  | [], _ => List.pairwise_singleton _ _
  | v :: r, h => by
    have h' := List.pairwise_cons.1 h
    unfold insU
    split
    · rename_i hlt
      refine List.pairwise_cons.2 ⟨fun b hb => ?_, insU_rising u r h'.2⟩
      rcases List.mem_cons.1 ((insU_perm u r).mem_iff.1 hb) with rfl | hb
      · exact fun h2 => List.lt_irrefl _ (List.lt_trans hlt h2)
      · exact h'.1 b hb
    · rename_i hlt
      refine List.pairwise_cons.2 ⟨fun b hb => ?_, h⟩
      rcases List.mem_cons.1 hb with rfl | hb
      · exact hlt
      · intro h2
        have h3 := List.not_lt.1 (h'.1 b hb)
        have h4 := List.not_lt.1 hlt
        exact List.not_lt.2 (List.le_trans h4 h3) h2
theorem srt_rising : ∀ l : List Ut, Rising (srt l)
  | [] => List.Pairwise.nil
  | u :: l => insU_rising u (srt l) (srt_rising l)
theorem eq_of_name {l : List Ut} (hn : (l.map (·.n)).Nodup) {a b : Ut} (ha : a ∈ l) (hb : b ∈ l) (e : a.n = b.n) : a = b := by
  obtain ⟨i, hi, rfl⟩ := List.getElem_of_mem ha
  obtain ⟨j, hj, rfl⟩ := List.getElem_of_mem hb
  have h1 := fi_self hn hi
  have h2 := fi_self hn hj
  rw [e, h2] at h1
  injection h1 with h1
  subst h1
  rfl
theorem srt_eq {l R : List Ut} (hn : (l.map (·.n)).Nodup) (hp : R.Perm l) (hr : Rising R) : R = srt l := by
  refine List.Perm.eq_of_pairwise (le := fun a b : Ut => ¬ b.n < a.n) (fun a b ha hb h1 h2 => ?_) hr (srt_rising l) (hp.trans (srt_perm l).symm)
  exact eq_of_name hn (hp.mem_iff.1 ha) ((srt_perm l).mem_iff.1 hb) (List.le_antisymm (List.not_lt.1 h1) (List.not_lt.1 h2))
/-- What Order tells. -/
def ordF (l : List Ut) : List Ut × Nm × Int :=
  if 24 < l.length then ([], [], 30) else
  match twF l with
  | some n => ([], n, 10)
  | none => match lkF (srt l) (srt l) with
    | some n => ([], n, 28)
    | none => match runF (srt l).length (srt l) [] with
      | (out, none) => (out, [], 0)
      | (_, some n) => ([], n, 29)
def OrdPost (w : World) (r : List Ut × Nm × Int) (e : Ending) (w' : World) : Prop := Fr (fun _ => False) w w' ∧ ∃ v X, e = .returned (.tuple #[v, .string ⟨r.2.1.toArray⟩, .int .i64 r.2.2]) ∧ Ot w.heap.size w' r.1 v X
theorem ot_none (B : Nat) (W : World) : Ot B W [] (.slice none 0 0) [] := ⟨World.ownsRow_nil _ _ _ _, rowIs_nil _, fun x hx => by simp at hx⟩
theorem Ot.down {B B' : Nat} {W : World} {out : List Ut} {v : Value} {X : List Uv} (h : Ot B W out v X) (hb : B' ≤ B) : Ot B' W out v X := ⟨owns_down h.own hb, h.row, fun x hx => ⟨(h.lw x hx).1.down hb, (h.lw x hx).2.down hb⟩⟩

set_option maxRecDepth 100000 in
set_option maxHeartbeats 4000000 in
theorem order_any (w0 w : World) (e0 : Env w0 w) (l : List Ut) (ad : Option Addr) (cap : Nat) (hU : Us w0 w l ad) (hl : l.length ≤ 1000000) (hS : ∀ u ∈ l, u.r.length ≤ 1000000 ∧ u.a.length ≤ 1000000) (hT : TabAt 1 Lib.deBruijn32tab w) :
    Calls Tryd.prog 12 #[.slice ad l.length cap] w fun e w' => OrdPost w (ordF l) e w' := by
  have HU := hid hU
  have HE0 := hid e0
  have HT := hid hT
  have HS := hid hS
  clear hU e0 hT hS
  by_cases h24 : 24 < l.length
  · have h24' : (24 : Int) < ((l.length : Nat) : Int) := by omega
    have HR : Hid (ordF l = ([], [], 30)) := by unfold Hid ordF; rw [if_pos h24]
    go_enter Tryd.func12, Tryd.ntmps12
    go_wp2_with fail
    go_ret3
    refine ⟨Fr.refl _ _, .slice none 0 0, [], ?_, ?_⟩
    · rw [HR.out]; rfl
    · rw [HR.out]; exact ot_none _ _
  · have h24' : ¬ ((24 : Int) < ((l.length : Nat) : Int)) := by omega
    have HTw := hid (twice_any w0 w l ad cap HU.out hl)
    have HR0 : Hid (ordF l = match twF l with
      | some n => ([], n, 10)
      | none => match lkF (srt l) (srt l) with
        | some n => ([], n, 28)
        | none => match runF (srt l).length (srt l) [] with
          | (out, none) => (out, [], 0)
          | (_, some n) => ([], n, 29)) := by unfold Hid ordF; rw [if_neg h24]
    cases htw : twF l with
    | some n =>
      rw [htw] at HTw HR0
      simp only at HR0
      simp only [optV, Option.getD_some, Option.isSome_some] at HTw
      go_enter Tryd.func12, Tryd.ntmps12
      go_wp2_with fail
      refine HTw.out.mono ?_
      rintro e w1 ⟨rfl, f1⟩
      have HF1 := hid f1
      clear f1
      go_wp2_with fail
      go_ret3
      refine ⟨HF1.out, .slice none 0 0, [], ?_, ?_⟩
      · rw [HR0.out]; rfl
      · rw [HR0.out]; exact ot_none _ _
    | none =>
      rw [htw] at HTw HR0
      simp only at HR0
      have HNd := hid (nodup_of_twF htw)
      simp only [optV, Option.getD_none, Option.isSome_none] at HTw
      clear htw
      go_enter Tryd.func12, Tryd.ntmps12
      go_wp2_with fail
      refine HTw.out.mono ?_
      rintro e w1 ⟨rfl, f1⟩
      have HF1 := hid f1
      have HCl := hid (cloneU_any w0 w1 l ad cap (HU.out.env (Env.of f1)) hl)
      clear f1 HTw
      go_wp2_with fail
      refine HCl.out.mono ?_
      rintro e w2 ⟨⟨v, X, rfl, hO, hX⟩, f2⟩
      obtain ⟨va, vc, hv⟩ := own_len hO
      subst hv
      have HF2 := hid (HF1.out.trans f2 (fun _ h => h.elim))
      have HSo := hid (sort_any w0 w2 l X w1.heap.size va vc hO hX hl)
      have HVa : Hid (∀ k o, va = some ⟨k, o, none⟩ → w.heap.size ≤ k) := fun k o e => by
        subst e
        have h1 := (own_lt hO k rfl).1
        have h2 := HF1.out.size
        omega
      have HXl := hid hX.1
      clear hO hX f2 HCl HF1
      go_wp2_with fail
      refine HSo.out.mono ?_
      rintro e w3 ⟨rfl, f3, R, hp, hr, hU3⟩
      have hRs := srt_eq HNd.out hp hr
      have HF3 : Hid (Fr (fun _ => False) w w3) := HF2.out.trans f3 (fun k hk => by
        obtain ⟨o, e⟩ := hk
        exact .inr (HVa.out k o e))
      have hRl : R.length = l.length := hp.length_eq
      have hXR : X.length = R.length := by rw [HXl.out, hRl]
      rw [hXR]
      have HNR : Hid ((R.map (·.n)).Nodup) := (List.Perm.nodup_iff (hp.map (fun u : Ut => u.n))).2 HNd.out
      have HSR : Hid (∀ u ∈ R, u.r.length ≤ 1000000 ∧ u.a.length ≤ 1000000) := fun u hu => HS.out u (hp.mem_iff.1 hu)
      have HUR := hid hU3
      rw [← hRs] at HR0
      have hR24 : R.length ≤ 24 := by omega
      have HPl := hid (places_any w0 w3 R va vc hU3 (by omega))
      clear f3 hp hr hU3 hRs HSo HF2 HVa HXl hXR hRl HS HNd HU
      go_wp2_with fail
      refine HPl.out.mono ?_
      rintro e w4 ⟨m, rfl, hPm, hm, f4⟩
      have HF4 := hid (HF3.out.trans f4 (fun _ h => h.elim))
      have HU4 := hid (HUR.out.env (Env.of f4))
      have HE4 := hid (HE0.out.trans (Env.of HF4.out))
      have HPm := hid hPm
      have HLk := hid (lacking_any w0 w4 HE4.out R R va vc m HU4.out (by omega) hPm)
      clear f4 hPm hm HPl HF3 HUR HE0
      cases hlk : lkF R R with
      | some n =>
        rw [hlk] at HLk HR0
        simp only at HR0
        simp only [optV, Option.getD_some, Option.isSome_some] at HLk
        go_wp2_with fail
        refine HLk.out.mono ?_
        rintro e w5 ⟨rfl, f5⟩
        have HF5 := hid (HF4.out.trans f5 (fun _ h => h.elim))
        clear f5
        go_wp2_with fail
        go_ret3
        refine ⟨HF5.out, .slice none 0 0, [], ?_, ?_⟩
        · rw [HR0.out]; rfl
        · rw [HR0.out]; exact ot_none _ _
      | none =>
        rw [hlk] at HLk HR0
        simp only at HR0
        simp only [optV, Option.getD_none, Option.isSome_none] at HLk
        clear hlk
        go_wp2_with fail
        refine HLk.out.mono ?_
        rintro e w5 ⟨rfl, f5⟩
        have HF5 := hid (HF4.out.trans f5 (fun _ h => h.elim))
        have HSt := hid (started_any w0 w5 (HE4.out.trans (Env.of f5)) R va vc m (HU4.out.env (Env.of f5)) hR24 HNR.out (HPm.out.fr f5 (fun h => h)) HSR.out (fun j hj => (Env.of HF5.out).cell (HT.out j hj)))
        clear f5 HLk HU4 HE4 HPm HF4
        generalize runF R.length R [] = r at *
        obtain ⟨out, on⟩ := r
        go_wp2_with fail
        refine HSt.out.mono ?_
        rintro e w6 ⟨f6, h6⟩
        have HF6 := hid (HF5.out.trans f6 (fun _ h => h.elim))
        have hsz := HF5.out.size
        clear f6 HSt
        cases on with
        | some n =>
          simp only at h6 HR0
          subst h6
          go_wp2_with fail
          go_ret3
          refine ⟨HF6.out, .slice none 0 0, [], ?_, ?_⟩
          · rw [HR0.out]; rfl
          · rw [HR0.out]; exact ot_none _ _
        | none =>
          simp only at h6 HR0
          obtain ⟨v, X', rfl, hO⟩ := h6
          have HO := hid hO
          clear hO
          go_wp2_with fail
          go_ret3
          refine ⟨HF6.out, v, X', ?_, ?_⟩
          · rw [HR0.out]; rfl
          · rw [HR0.out]; exact HO.out.down hsz
end Go.Proofs.YtcpeebkfnnkjnaaDoor.Tr
