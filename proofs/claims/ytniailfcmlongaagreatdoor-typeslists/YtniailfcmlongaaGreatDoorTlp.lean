/- TypesLists in plain words; its arguments in memory; appending at an operation. -/
import Derived.Test.YtniailfcmlongaaGreatDoorTst
import Derived.Test.YtniailfcmlongaaGreatDoorTmi
namespace Go.Proofs.YtniailfcmlongaaGreatDoor.Tr
open Go.RowKit

/-- The strings that are taken of a row, when n were taken ahead of it. -/
def takeS (l : List (List UInt8)) (n : Nat) : List (List UInt8) := l.foldl (fun S x => if n + S.length < 256 ∧ x.length ≤ 1024 then S ++ [x] else S) []
theorem takeS_snoc (l : List (List UInt8)) (n k : Nat) (h : k < l.length) : takeS (l.take (k + 1)) n = if n + (takeS (l.take k) n).length < 256 ∧ l[k].length ≤ 1024 then takeS (l.take k) n ++ [l[k]] else takeS (l.take k) n := by
  unfold takeS
  rw [List.take_succ_eq_append_getElem h, List.foldl_append]
  rfl
theorem fold_full (n : Nat) : ∀ (r : List (List UInt8)) (S : List (List UInt8)), 256 ≤ n + S.length → r.foldl (fun S x => if n + S.length < 256 ∧ x.length ≤ 1024 then S ++ [x] else S) S = S
  | [], _, _ => rfl
  | x :: r, S, h => by
    rw [List.foldl_cons, if_neg (fun e => by omega)]
    exact fold_full n r S h
theorem takeS_full (l : List (List UInt8)) (n k : Nat) (h : 256 ≤ n + (takeS (l.take k) n).length) : takeS l n = takeS (l.take k) n := by
  unfold takeS at *
  conv => lhs; rw [← List.take_append_drop k l]
  rw [List.foldl_append]
  exact fold_full n (l.drop k) _ h
theorem fold_ok (n : Nat) (hn : n ≤ 256) : ∀ (r : List (List UInt8)) (S : List (List UInt8)), n + S.length ≤ 256 → (∀ s ∈ S, s.length ≤ 1024) → n + (r.foldl (fun S x => if n + S.length < 256 ∧ x.length ≤ 1024 then S ++ [x] else S) S).length ≤ 256 ∧ ∀ s ∈ r.foldl (fun S x => if n + S.length < 256 ∧ x.length ≤ 1024 then S ++ [x] else S) S, s.length ≤ 1024
  | [], _, h1, h2 => ⟨h1, h2⟩
  | x :: r, S, h1, h2 => by
    rw [List.foldl_cons]
    by_cases hx : n + S.length < 256 ∧ x.length ≤ 1024
    · rw [if_pos hx]
      refine fold_ok n hn r _ (by simp; omega) (fun s hs => ?_)
      rcases List.mem_append.1 hs with h | h
      · exact h2 s h
      · simp only [List.mem_singleton] at h; subst h; exact hx.2
    · rw [if_neg hx]
      exact fold_ok n hn r S h1 h2
theorem takeS_ok (l : List (List UInt8)) (n : Nat) (hn : n ≤ 256) : n + (takeS l n).length ≤ 256 ∧ ∀ s ∈ takeS l n, s.length ≤ 1024 := fold_ok n hn l [] (by simpa using hn) (by simp)
/-- A string, a list of strings. -/
def txV (s : List UInt8) : Vt := .mk 4 0 0 s [] []
def lsV (S : List (List UInt8)) : Vt := .mk 5 0 0 [] [] (S.map txV)
theorem lsV_its (S : List (List UInt8)) : (lsV S).its = S.map txV := rfl
theorem rt_txV {s : List UInt8} (h : s.length ≤ 1024) (n : Nat) : rtB (txV s) n = true := by
  unfold txV
  rw [rtB, if_neg (by decide), if_neg (by decide)]
  show (decide (s.length ≤ 1024) && true) = true
  rw [decide_eq_true h]; rfl
theorem rt_lsV {S : List (List UInt8)} (h1 : S.length ≤ 256) (h2 : ∀ s ∈ S, s.length ≤ 1024) : rtB (lsV S) 32 = true := by
  unfold lsV
  rw [rtB, if_pos rfl]
  show ((true && decide ((S.map txV).length ≤ 256) && rtL (S.map txV) 31) && true) = true
  rw [decide_eq_true (by simpa using h1), (rtL_all 31 (S.map txV)).2 (fun u hu => by
    obtain ⟨s, hs, rfl⟩ := List.mem_map.1 hu
    exact rt_txV (h2 s hs) 31)]
  rfl
theorem tk_lsV (S : List (List UInt8)) : tkB (.list (.bare sString)) (lsV S) = true := by
  unfold lsV
  rw [tkB]
  simp only [Vt.k, Vt.its, Bool.and_eq_true, decide_eq_true_eq, true_and, List.all_eq_true]
  intro u hu
  obtain ⟨s, hs, rfl⟩ := List.mem_map.1 hu
  unfold txV
  rw [tkB, if_neg (by decide)]
  unfold bareT
  rw [if_neg (by decide), if_neg (by decide)]
  rfl
/-- The definitions of the first i rows, and how many strings they have. -/
def dfs (T : List (List (List UInt8))) (O : List Int) : Nat → List Dt × Nat
  | 0 => ([], 0)
  | i + 1 => ((dfs T O i).1 ++ [⟨lsV (takeS (T.getD i []) (dfs T O i).2), 100, O.getD i 0⟩], (dfs T O i).2 + (takeS (T.getD i []) (dfs T O i).2).length)
theorem dfs_len (T : List (List (List UInt8))) (O : List Int) : ∀ i, (dfs T O i).1.length = i ∧ (dfs T O i).2 ≤ 256
  | 0 => ⟨rfl, Nat.zero_le _⟩
  | i + 1 => by
    obtain ⟨h1, h2⟩ := dfs_len T O i
    refine ⟨by rw [dfs]; simp [h1], ?_⟩
    rw [dfs]
    exact (takeS_ok _ _ h2).1
/-- What all definitions have in common. -/
def DfOk (d : Dt) : Prop := d.p = 100 ∧ rtB d.v 32 = true ∧ tkB (.list (.bare sString)) d.v = true
theorem dfs_ok (T : List (List (List UInt8))) (O : List Int) : ∀ i, ∀ d ∈ (dfs T O i).1, DfOk d
  | 0, d, h => by simp [dfs] at h
  | i + 1, d, h => by
    rw [dfs] at h
    rcases List.mem_append.1 h with h | h
    · exact dfs_ok T O i d h
    · simp only [List.mem_singleton] at h
      subst h
      have hk := takeS_ok (T.getD i []) (dfs T O i).2 (dfs_len T O i).2
      exact ⟨rfl, rt_lsV (by omega) hk.2, tk_lsV _⟩
theorem dfs_sum (T : List (List (List UInt8))) (O : List Int) : ∀ i, (allU ((dfs T O i).1.map (·.v))).length = (dfs T O i).2
  | 0 => rfl
  | i + 1 => by
    have ih := dfs_sum T O i
    rw [dfs]
    unfold allU at *
    rw [List.map_append, List.flatMap_append, List.length_append, ih]
    simp [lsV_its]
theorem least_all {L : List Dt} (hne : L ≠ []) (h : ∀ d ∈ L, d.p = 100) : leastP L = 100 := by
  cases L with
  | nil => exact absurd rfl hne
  | cons d r =>
    show r.foldl lessP d.p = 100
    rw [h d (by simp)]
    have hr : ∀ x ∈ r, x.p = 100 := fun x hx => h x (by simp [hx])
    clear h hne
    induction r with
    | nil => rfl
    | cons a r ih =>
      rw [List.foldl_cons]
      have e : lessP 100 a = 100 := by unfold lessP; rw [hr a (by simp)]; rfl
      rw [e]
      exact ih (fun x hx => hr x (by simp [hx]))
theorem cnt_all {L : List Dt} (hne : L ≠ []) (h : ∀ d ∈ L, d.p = 100) : cntF L = L := by
  unfold cntF
  rw [least_all hne h]
  exact List.filter_eq_self.2 fun d hd => by simp [h d hd]
theorem cntV_tag {L : List Dt} (hne : L ≠ []) (h : ∀ d ∈ L, d.p = 100) : cntV L = (tagS L).map (·.1.v) := by
  unfold cntV
  rw [cnt_all hne h, ← tagS_insT, List.map_map]
  rfl
theorem all_perm {α : Type} {f : α → List Vt} {a b : List α} (h : a.Perm b) : (a.flatMap f).length = (b.flatMap f).length := (h.flatMap_right f).length_eq
theorem cntV_sum {L : List Dt} (hne : L ≠ []) (h : ∀ d ∈ L, d.p = 100) : (allU (cntV L)).length = (allU (L.map (·.v))).length := by
  rw [cntV_tag hne h]
  unfold allU
  have hp := (tagS_perm L).map (fun z : Tg => z.1.v)
  have e : L.zipIdx.map (fun z : Tg => z.1.v) = L.map (·.v) := by
    have h1 : (L.zipIdx.map Prod.fst) = L := by simp
    have h2 : (L.zipIdx.map Prod.fst).map (fun d : Dt => d.v) = L.map (fun d : Dt => d.v) := by rw [h1]
    rw [List.map_map] at h2
    exact h2
  rw [e] at hp
  exact all_perm hp

/-- Rows of texts, rows of numbers. -/
def Txs (w : World) (ad : Option Addr) (T : List (List (List UInt8))) : Prop := T ≠ [] → ∃ b o, ad = some ⟨b, o, none⟩ ∧ ∀ i (h : i < T.length), ∃ ai ci, w.cell? ⟨b, o + i, none⟩ = some (.slice ai T[i].length ci) ∧ Strs w ai T[i] ∧ T[i].length ≤ lim ∧ ∀ s ∈ T[i], s.length ≤ lim
def Ods (w : World) (ad : Option Addr) (O : List Int) : Prop := O ≠ [] → ∃ b o, ad = some ⟨b, o, none⟩ ∧ ∀ i (h : i < O.length), w.cell? ⟨b, o + i, none⟩ = some (.int .i64 O[i]) ∧ I64 O[i]

/-- Appending one value, at the operation. -/
theorem wp_app_value {o : Oper} {a : Act} {W : World} {K : Act → World → Prop} {Q : Exit → Act → World → Prop} (d s : Operand) (ho : o.op = .call { callee := .builtin .append, args := #[d, s], argTypes := #[24, 24] })
    (base : Nat) (v : Value) (X : List Vv) (x : Vv) (g cap : Nat) (hd : a.eval d = v) (hs : a.eval s = .slice (some ⟨g, 0, none⟩) 1 cap) (hown : W.ownsRow base 26 6 v X.length (flatV X)) (hg : Blk W g 26 x.cs) (hb : base ≤ W.heap.size) (hl : X.length ≤ 1000)
    (h : ∀ ia ic W', W'.ownsRow base 26 6 (.slice ia (X.length + 1) ic) (X ++ [x]).length (flatV (X ++ [x])) → W.grownBy W' v.ownBlock → K (a.put o.dst (.slice ia (X.length + 1) ic)) W') : o.wp Tryz.prog a W K Q := by
  obtain ⟨i0, hi0, hz0, hz1, hz2⟩ := info_parts infoV
  refine wp_append_lies W d s 24 ho base 26 i0 _ 6 88 Tryz.underlying24 hi0 hz0 hz1 hz2 rfl (by omega) v X.length (flatV X) hd hown ⟨g, 0, none⟩ 1 cap x.cs hs rfl (fun j u hu => by rw [Addr.add_mid, Nat.zero_add, hg.cell]; exact hu) (vv_one x) (by omega) (by unfold maxLen; omega) (by omega) hb _ rfl ?_
  intro g' cap' W' h1 h2 _ _
  refine h _ _ W' ?_ h2
  rw [List.length_append, flatV_app]
  exact h1
/-- Appending one definition, at the operation: where the row lies then. -/
theorem wp_app_def {o : Oper} {a : Act} {W : World} {K : Act → World → Prop} {Q : Exit → Act → World → Prop} (d s : Operand) (ho : o.op = .call { callee := .builtin .append, args := #[d, s], argTypes := #[31, 31] })
    (base : Nat) (v : Value) (F : List Dz) (z : Dz) (g cap : Nat) (hd : a.eval d = v) (hs : a.eval s = .slice (some ⟨g, 0, none⟩) 1 cap) (hown : W.ownsRow base 30 8 v F.length (flatD F)) (hg : Blk W g 30 z.2.cs) (hb : base ≤ W.heap.size) (hl : F.length ≤ 1000)
    (h : ∀ g' ic W', W'.ownsRow base 30 8 (.slice (some ⟨g', 0, none⟩) (F.length + 1) ic) (F ++ [z]).length (flatD (F ++ [z])) → W.grownBy W' v.ownBlock → (v.ownBlock = some g' ∨ g' = W.heap.size) → K (a.put o.dst (.slice (some ⟨g', 0, none⟩) (F.length + 1) ic)) W') : o.wp Tryz.prog a W K Q := by
  obtain ⟨i0, hi0, hz0, hz1, hz2⟩ := info_parts infoD
  refine wp_append_lies W d s 31 ho base 30 i0 _ 8 104 Tryz.underlying31 hi0 hz0 hz1 hz2 rfl (by omega) v F.length (flatD F) hd hown ⟨g, 0, none⟩ 1 cap z.2.cs hs rfl (fun j u hu => by rw [Addr.add_mid, Nat.zero_add, hg.cell]; exact hu) (dv_one z.2) (by omega) (by unfold maxLen; omega) (by omega) hb _ rfl ?_
  intro g' cap' W' h1 h2 h3 _
  refine h g' cap' W' ?_ h2 h3
  rw [List.length_append, flatD_app]
  exact h1
end Go.Proofs.YtniailfcmlongaaGreatDoor.Tr
