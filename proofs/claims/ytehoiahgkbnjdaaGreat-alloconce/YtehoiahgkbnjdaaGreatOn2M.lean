import Derived.Test.YtehoiahgkbnjdaaGreatPlM
import Derived.Test.YtehoiahgkbnjdaaGreatOpsM
/- AllocOnce: what is given, and in mid-way; plain facts. -/
namespace Go.Proofs.YtehoiahgkbnjdaaGreat.Al
open Go.RowKit Go.Shelf Dk Wl

def isF : Value → Bool
  | .bool false => true
  | _ => false
def gv (n : Nat) (B : Sec) : List Value := (List.range n).map fun k => .bool (decide ((lay n).da ≤ k) && bitOf B (k - (lay n).da))
theorem gv_length (n : Nat) (B : Sec) : (gv n B).length = n := by simp [gv]
theorem gv_get (n : Nat) (B : Sec) (k : Nat) (hk : k < n) : (gv n B)[k]? = some (.bool (decide ((lay n).da ≤ k) && bitOf B (k - (lay n).da))) := by simp [gv, hk]
theorem gv_set (n : Nat) (B : Sec) (hB : B.length = 128) (k : Nat) (h1 : (lay n).da ≤ k) (h2 : k < n) (h3 : n ≤ 1024) : (gv n B).set k (.bool (!bitOf B (k - (lay n).da))) = gv n (flipB B (k - (lay n).da)) := by
  apply List.ext_getElem?
  intro i
  by_cases hi : i < n
  · rw [gv_get n _ i hi, List.getElem?_set]
    by_cases he : k = i
    · subst he
      rw [if_pos rfl, if_pos (by rw [gv_length]; exact h2), bitOf_flip _ _ _ (by omega), if_pos rfl]
      simp [h1]
    · rw [if_neg he, gv_get n _ i hi]
      by_cases hd : (lay n).da ≤ i
      · rw [bitOf_flip _ _ _ (by omega), if_neg (by omega)]
      · simp [hd]
  · rw [List.getElem?_eq_none (by rw [List.length_set, gv_length]; omega), List.getElem?_eq_none (by rw [gv_length]; omega)]
theorem gv_same (n : Nat) (B : Sec) (k : Nat) (h2 : k < n) (hb : bitOf B (k - (lay n).da) = false) : (gv n B).set k (.bool false) = gv n B := by
  apply List.ext_getElem?
  intro i
  by_cases hi : i < n
  · rw [gv_get n _ i hi, List.getElem?_set]
    by_cases he : k = i
    · subst he
      rw [if_pos rfl, if_pos (by rw [gv_length]; exact h2), hb]
      simp
    · rw [if_neg he, gv_get n _ i hi]
  · rw [List.getElem?_eq_none (by rw [List.length_set, gv_length]; omega), List.getElem?_eq_none (by rw [gv_length]; omega)]
theorem gv_zeros (n : Nat) : gv n zeros = List.replicate n (.bool false) := by
  apply List.ext_getElem?
  intro i
  by_cases hi : i < n
  · rw [gv_get n _ i hi, bitOf_zeros]
    simp [hi]
  · rw [List.getElem?_eq_none (by rw [gv_length]; omega), List.getElem?_eq_none (by simp; omega)]
def cntF (gb : Nat) (w : World) : Nat := match w.heap[gb]? with
  | some (.cells cs _ _) => cs.toList.countP isF
  | _ => 0
theorem cntF_blk {w : World} {gb : Nat} {t : TypeId} {xs : List Value} (h : Blk w gb t xs) : cntF gb w = xs.countP isF := by
  unfold cntF
  rw [show w.heap[gb]? = some (.cells xs.toArray t) from h]
theorem gv_cnt (n : Nat) (B : Sec) (hB : B.length = 128) (k : Nat) (h1 : (lay n).da ≤ k) (h2 : k < n) (h3 : n ≤ 1024) (hb : bitOf B (k - (lay n).da) = false) : (gv n (flipB B (k - (lay n).da))).countP isF + 1 = (gv n B).countP isF := by
  have hlt : k < (gv n B).length := by rw [gv_length]; exact h2
  have hg : (gv n B)[k] = .bool false := by
    have := gv_get n B k h2
    rw [List.getElem?_eq_getElem hlt, hb] at this
    simpa using this
  have hp : 0 < (gv n B).countP isF := List.countP_pos_iff.2 ⟨_, List.getElem_mem hlt, by rw [hg]; rfl⟩
  rw [← gv_set n B hB k h1 h2 h3, hb, List.countP_set hlt, hg]
  simp [isF]
  omega
theorem gv_le (n : Nat) (B : Sec) : (gv n B).countP isF ≤ n := by
  have := List.countP_le_length (p := isF) (l := gv n B)
  rwa [gv_length] at this

structure On (G : Nat → Prop) (w wr : World) (l p sp yb gb db n M : Nat) (c : UInt8) (bl bt : Nat) (T : Nat → Sec) (D : Dsk) (L : Lg) (B : Sec) : Prop where
  o : OwnL (fun k => G k ∨ k = sp ∨ k = yb ∨ k = gb ∨ k = db) wr l p bl bt D L
  s : Spc (fun k => G k ∨ k = sp ∨ k = yb ∨ k = gb ∨ k = db) wr sp l (lay n)
  a : AI n (600 * (gv n B).countP isF + M) T D L
  b : over L.st T (lay n).mp = B
  lb : B.length = 128
  st : L.st = [] ∨ ∃ s, L.st = [((lay n).mp, s)]
  y : Blk wr yb 38 (lay n).cells
  g : Blk wr gb 4 (gv n B)
  d : Blk wr db 5 (bs (List.replicate 128 c))
  kp : Kp G w wr
def OnE (G : Nat → Prop) (w wr : World) (l p sp yb gb db n M : Nat) (c : UInt8) : Prop := ∃ bl bt T D L B, On G w wr l p sp yb gb db n M c bl bt T D L B

section
variable {G : Nat → Prop} {w wr w1 : World} {l p sp yb gb db n M M' : Nat} {c : UInt8} {bl bt : Nat} {T : Nat → Sec} {D : Dsk} {L : Lg} {B : Sec}
abbrev OnG (G : Nat → Prop) (sp yb gb db : Nat) : Nat → Prop := fun k => G k ∨ k = sp ∨ k = yb ∨ k = gb ∨ k = db
theorem On.past (h : On G w wr l p sp yb gb db n M c bl bt T D L B) (o1 : OwnL (OnG G sp yb gb db) w1 l p bl bt D L) (k1 : Kp (OnG G sp yb gb db) wr w1) : On G w w1 l p sp yb gb db n M c bl bt T D L B :=
  { h with o := o1, s := h.s.kp k1, y := Kp.blk k1 h.y (.inr (.inr (.inl rfl))), g := Kp.blk k1 h.g (.inr (.inr (.inr (.inl rfl)))), d := Kp.blk k1 h.d (.inr (.inr (.inr (.inr rfl)))), kp := Kp.trans h.kp (Kp.less k1 (fun _ hk => .inl hk)) }
theorem On.less (h : On G w wr l p sp yb gb db n M c bl bt T D L B) (hM : M' ≤ M) : On G w wr l p sp yb gb db n M' c bl bt T D L B :=
  { h with a := { h.a with sm := h.a.sm.le (by omega) } }
theorem On.len (h : On G w wr l p sp yb gb db n M c bl bt T D L B) : L.st.length ≤ 1 := by
  rcases h.st with e | ⟨s, e⟩ <;> rw [e] <;> simp
/-- Behind Free: the map is turned at k, and so is what was given. -/
theorem On.free (h : On G w wr l p sp yb gb db n M c bl bt T D L B) {L' : Lg} (o1 : OwnL (OnG G sp yb gb db) w1 l p bl bt D L') (k1 : Kp (OnG G sp yb gb db) wr w1) (a1 : AI n (600 * (gv n B).countP isF + M) T D L') (k : Nat) (hk1 : (lay n).da ≤ k) (hk2 : k < n) (h3 : n ≤ 1024) (hb : bitOf B (k - (lay n).da) = true)
    (hst : L'.st = ins (lay n).mp (flipB B (k - (lay n).da)) L.st) (hM : M' + 600 ≤ M) (hgw : w.heap.size ≤ gb) (hg1 : yb ≠ gb) (hg2 : db ≠ gb) (hg3 : sp ≠ gb) :
    On G w (w1.setCell ⟨gb, k, none⟩ (.bool false)) l p sp yb gb db n M' c bl bt T D L' (flipB B (k - (lay n).da)) := by
  have hy : Blk w1 yb 38 (lay n).cells := Kp.blk k1 h.y (.inr (.inr (.inl rfl)))
  have hg : Blk w1 gb 4 (gv n B) := Kp.blk k1 h.g (.inr (.inr (.inr (.inl rfl))))
  have hd : Blk w1 db 5 (bs (List.replicate 128 c)) := Kp.blk k1 h.d (.inr (.inr (.inr (.inr rfl))))
  have hs := h.s.kp k1
  have hc : (gv n (flipB B (k - (lay n).da))).countP isF ≤ (gv n B).countP isF + 1 := by
    have hlt : k < (gv n B).length := by rw [gv_length]; exact hk2
    rw [← gv_set n B h.lb k hk1 hk2 h3, List.countP_set hlt]
    split <;> split <;> omega
  have hl : (lay n).mp = (lay n).mp := rfl
  refine ⟨o1.pokeG (.inr (.inr (.inr (.inl rfl)))) _ _, ⟨hs.b.setCell_ne (a := ⟨gb, k, none⟩) hg3 _, hs.g⟩, { a1 with sm := a1.sm.le (by omega) }, ?_, by rw [flipB_length]; exact h.lb, ?_, hy.setCell_ne (a := ⟨gb, k, none⟩) hg1 _, ?_, hd.setCell_ne (a := ⟨gb, k, none⟩) hg2 _, ?_⟩
  · rw [hst]
    rcases h.st with e | ⟨s, e⟩ <;> rw [e] <;> simp [over, ins, Wl.get]
  · rw [hst]
    rcases h.st with e | ⟨s, e⟩ <;> rw [e] <;> simp [ins]
  · have := hg.setCell k (.bool false)
    rw [← gv_set n B h.lb k hk1 hk2 h3, hb]
    exact this
  · exact Fr.setCell (Kp.trans h.kp (Kp.less k1 (fun _ hk => .inl hk))) (p := ⟨gb, k, none⟩) (.inr hgw) _
theorem On.keep (h : On G w wr l p sp yb gb db n M c bl bt T D L B) (k : Nat) (hk2 : k < n) (hb : bitOf B (k - (lay n).da) = false) (hgw : w.heap.size ≤ gb) (hg1 : yb ≠ gb) (hg2 : db ≠ gb) (hg3 : sp ≠ gb) :
    On G w (wr.setCell ⟨gb, k, none⟩ (.bool false)) l p sp yb gb db n M c bl bt T D L B := by
  refine { h with o := h.o.pokeG (.inr (.inr (.inr (.inl rfl)))) _ _, s := ⟨h.s.b.setCell_ne (a := ⟨gb, k, none⟩) hg3 _, h.s.g⟩, y := h.y.setCell_ne (a := ⟨gb, k, none⟩) hg1 _, g := ?_, d := h.d.setCell_ne (a := ⟨gb, k, none⟩) hg2 _, kp := Fr.setCell h.kp (p := ⟨gb, k, none⟩) (.inr hgw) _ }
  have := h.g.setCell k (.bool false)
  rw [gv_same n B k hk2 hb] at this
  exact this
end

end Go.Proofs.YtehoiahgkbnjdaaGreat.Al
/- AllocOnce: one block is given, read, written and committed. -/
namespace Go.Proofs.YtehoiahgkbnjdaaGreat.Al
open Go.RowKit Go.Shelf Dk Wl

/-- A block was given, and noted. -/
structure OnS (G : Nat → Prop) (w wr : World) (l p sp yb gb db n M : Nat) (c : UInt8) (bl bt : Nat) (T : Nat → Sec) (D : Dsk) (L : Lg) (B : Sec) (j : Nat) : Prop where
  o : OwnL (OnG G sp yb gb db) wr l p bl bt D L
  s : Spc (OnG G sp yb gb db) wr sp l (lay n)
  a : AI n (600 * (gv n B).countP isF + M + 600) T D L
  b : over L.st T (lay n).mp = B
  z : over L.st T j = zeros
  lb : B.length = 128
  st : L.st.length ≤ 3
  y : Blk wr yb 38 (lay n).cells
  g : Blk wr gb 4 (gv n B)
  d : Blk wr db 5 (bs (List.replicate 128 c))
  kp : Kp G w wr
  j1 : (lay n).da ≤ j
  j2 : j < n

section
variable {G : Nat → Prop} {w wr w1 w2 : World} {l p sp yb gb db n M M' : Nat} {c : UInt8} {bl bt : Nat} {T : Nat → Sec} {D : Dsk} {L : Lg} {B : Sec} {j : Nat}
theorem On.gave (h : On G w wr l p sp yb gb db n M c bl bt T D L B) {L' : Lg} (o1 : OwnL (OnG G sp yb gb db) w1 l p bl bt D L') (k1 : Kp (OnG G sp yb gb db) wr w1) (a1 : AI n (600 * (gv n B).countP isF + M) T D L') (hk1 : (lay n).da ≤ j) (hk2 : j < n) (h1 : 64 ≤ n) (h3 : n ≤ 1024) (hb : bitOf B (j - (lay n).da) = false)
    (hst : L'.st = ins j zeros (ins (lay n).mp (flipB B (j - (lay n).da)) L.st)) (hgw : w.heap.size ≤ gb) (hg1 : yb ≠ gb) (hg2 : db ≠ gb) (hg3 : sp ≠ gb) :
    OnS G w (w1.setCell ⟨gb, j, none⟩ (.bool true)) l p sp yb gb db n M c bl bt T D L' (flipB B (j - (lay n).da)) j := by
  have hlay := lay_b n h1 h3
  have hy : Blk w1 yb 38 (lay n).cells := Kp.blk k1 h.y (.inr (.inr (.inl rfl)))
  have hg : Blk w1 gb 4 (gv n B) := Kp.blk k1 h.g (.inr (.inr (.inr (.inl rfl))))
  have hd : Blk w1 db 5 (bs (List.replicate 128 c)) := Kp.blk k1 h.d (.inr (.inr (.inr (.inr rfl))))
  have hs := h.s.kp k1
  have hc := gv_cnt n B h.lb j hk1 hk2 h3 hb
  have hsr : Srt L.st := h.o.r.mt.2.1
  have hsr2 : Srt (ins (lay n).mp (flipB B (j - (lay n).da)) L.st) := ins_srt _ _ _ hsr
  refine ⟨o1.pokeG (.inr (.inr (.inr (.inl rfl)))) _ _, ⟨hs.b.setCell_ne (a := ⟨gb, j, none⟩) hg3 _, hs.g⟩, { a1 with sm := a1.sm.le (by omega) }, ?_, ?_, by rw [flipB_length]; exact h.lb, ?_, hy.setCell_ne (a := ⟨gb, j, none⟩) hg1 _, ?_, hd.setCell_ne (a := ⟨gb, j, none⟩) hg2 _, ?_, hk1, hk2⟩
  · rw [hst]
    unfold over
    rw [get_ins _ _ _ _ hsr2, if_neg (by omega), get_ins _ _ _ _ hsr, if_pos rfl]
  · rw [hst]
    unfold over
    rw [get_ins _ _ _ _ hsr2, if_pos rfl]
  · rw [hst]
    have e1 := ins_len j zeros (ins (lay n).mp (flipB B (j - (lay n).da)) L.st)
    have e2 := ins_len (lay n).mp (flipB B (j - (lay n).da)) L.st
    have e3 := h.len
    omega
  · have := hg.setCell j (.bool true)
    rw [← gv_set n B h.lb j hk1 hk2 h3, hb]
    exact this
  · exact Fr.setCell (Kp.trans h.kp (Kp.less k1 (fun _ hk => .inl hk))) (p := ⟨gb, j, none⟩) (.inr hgw) _
theorem OnS.past (h : OnS G w wr l p sp yb gb db n M c bl bt T D L B j) (k1 : Nw wr w1) : OnS G w w1 l p sp yb gb db n M c bl bt T D L B j :=
  { h with o := h.o.nw k1, s := h.s.kp k1.kp, y := h.y.of_eq (k1.block _ h.y.lt id), g := h.g.of_eq (k1.block _ h.g.lt id), d := h.d.of_eq (k1.block _ h.d.lt id), kp := Kp.trans h.kp k1.kp }
theorem OnS.read (h : OnS G w wr l p sp yb gb db n M c bl bt T D L B j) (h1 : 64 ≤ n) (h3 : n ≤ 1024) : Calls Tryz.prog 18 #[pv l, .int .i64 (j : Int)] wr (ReadPost wr zeros) := by
  have hlay := lay_b n h1 h3
  have j1 := h.j1
  have j2 := h.j2
  have := Read_ok h.o j (h.a.reach j j2 (.inr (by omega))) h.a.up
  rwa [h.a.tell j j2 (.inr (by omega)), h.z] at this
theorem OnS.stage (h : OnS G w wr l p sp yb gb db n M c bl bt T D L B j) (h1 : 64 ≤ n) (h3 : n ≤ 1024) :
    Calls Tryz.prog 19 #[pv l, .int .i64 (j : Int), .slice (some ⟨db, 0, none⟩) 128 128] wr fun x w' => x = .returned (.int .i64 0) ∧ OwnL (OnG G sp yb gb db) w' l p bl bt D (L.stage (j : Int) (List.replicate 128 c)) ∧ Kp (OnG G sp yb gb db) wr w' := by
  have hlay := lay_b n h1 h3
  have hll := lay_ll n h3
  have j1 := h.j1
  have j2 := h.j2
  have st := h.st
  have he := h.a.stageE j j2 (.inr (by omega)) (by unfold cost; omega)
  have := stage_any h.o (j : Int) (List.replicate 128 c) (some ⟨db, 0, none⟩) 128 (fun _ => ⟨db, 0, rfl, h.d.range 0 _ (by simp), h.d.lt⟩) (h.a.few h3)
  rw [List.length_replicate, he] at this
  exact this
theorem OnS.commit (h : OnS G w wr l p sp yb gb db n M c bl bt T D L B j) (o1 : OwnL (OnG G sp yb gb db) w1 l p bl bt D (L.stage (j : Int) (List.replicate 128 c))) (k1 : Kp (OnG G sp yb gb db) wr w1) (h1 : 64 ≤ n) (h3 : n ≤ 1024) (hM : 3000 ≤ M) :
    Calls Tryz.prog 20 #[pv l] w1 fun x w' => x = .returned (.int .i64 0) ∧ (∃ bl' bt' T' D' L', On G w w' l p sp yb gb db n M c bl' bt' T' D' L' B) ∧ Kp (OnG G sp yb gb db) w1 w' := by
  have hlay := lay_b n h1 h3
  have hll := lay_ll n h3
  have j1 := h.j1
  have j2 := h.j2
  have st := h.st
  obtain ⟨a2, t2⟩ := h.a.stage j j2 (.inr (by omega)) (List.replicate 128 c) (by simp) (by unfold cost; omega)
  have hC := Commit_any o1 (a2.sm.le (by omega)) (by have := a2.lg; omega) (by have := cost_le a2.c; omega) (by rw [a2.ln]; exact a2.c)
  have hac := AI.commit (m := 600 * (gv n B).countP isF + M) a2 h3 o1.r.ok o1.r.ml.2.1 o1.r.mt.2.1 o1.r.mt.2.2
  rw [hac.1] at hC
  refine hC.mono ?_
  rintro x w' ⟨rfl, ⟨bl', bt', o'⟩, k'⟩
  have kk := Kp.trans k1 k'
  refine ⟨rfl, ⟨bl', bt', _, _, _, ⟨o', h.s.kp kk, hac.2.1, ?_, h.lb, .inl hac.2.2, Kp.blk kk h.y (.inr (.inr (.inl rfl))), Kp.blk kk h.g (.inr (.inr (.inr (.inl rfl)))), Kp.blk kk h.d (.inr (.inr (.inr (.inr rfl)))), Kp.trans h.kp (Kp.less kk (fun _ hk => .inl hk))⟩⟩, k'⟩
  rw [hac.2.2]
  show over (L.stage (j : Int) (List.replicate 128 c)).st T (lay n).mp = B
  rw [t2]
  unfold over
  rw [get_ins _ _ _ _ h.o.r.mt.2.1, if_neg (by omega)]
  exact h.b
/-- A block that was made just now is kept besides. -/
theorem OnS.more (h : OnS G w wr l p sp yb gb db n M c bl bt T D L B j) (f : Nw wr w1) (g : Nat) (hg : wr.heap.size ≤ g) (hg2 : g < w1.heap.size) : OnS (fun k => G k ∨ k = g) w w1 l p sp yb gb db n M c bl bt T D L B j := by
  have h1 := h.past f
  refine { h1 with o := ?_, s := ⟨h1.s.b, .inr (.inl rfl)⟩, kp := ?_ }
  · refine (h.o.new (X := fun k => k = g) f (fun k e => by subst e; exact ⟨hg, hg2⟩)).less (fun k hk => ?_)
    rcases hk with (hk | hk) | hk
    · exact .inl (.inl hk)
    · exact .inr hk
    · exact .inl (.inr hk)
  · refine ⟨h1.kp.os, h1.kp.tape, h1.kp.output, h1.kp.size, fun k hk hn => h1.kp.block k hk (fun hnG => hn (fun hor => hor.elim hnG (fun e => ?_)))⟩
    have := h.kp.size
    omega
theorem On.lessG {g : Nat} (h : On (fun k => G k ∨ k = g) w wr l p sp yb gb db n M c bl bt T D L B) : On G w wr l p sp yb gb db n M c bl bt T D L B :=
  { h with o := h.o.less (fun _ hk => hk.imp .inl id), s := ⟨h.s.b, .inr (.inl rfl)⟩, kp := Kp.less h.kp (fun _ hk => .inl hk) }
end

end Go.Proofs.YtehoiahgkbnjdaaGreat.Al
