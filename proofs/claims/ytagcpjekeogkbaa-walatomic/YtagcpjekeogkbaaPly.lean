/- play: its walk. -/
import Derived.Test.YtagcpjekeogkbaaPl
namespace Go.Proofs.Ytagcpjekeogkbaa.Wl
open Go.RowKit Dk

def PlayPost (G : Nat → Prop) (w : World) (l p n m : Nat) (w' : World) : Prop :=
  ∃ bl bt D L T, OwnL G w' l p bl bt D L ∧ PI n m T D L ∧ Kp G w w'

theorem OwnL.srts {G : Nat → Prop} {w : World} {l p bl bt : Nat} {D : Dsk} {L : Lg} (h : OwnL G w l p bl bt D L) : Srt L.lg ∧ Srt L.st ∧ ∀ q ∈ L.st, q.2.length = 128 := ⟨h.r.ml.2.1, h.r.mt.2.1, h.r.mt.2.2⟩

/-- One home is staged, with a sector of one byte. -/
theorem stage_one {G : Nat → Prop} {w : World} {l p bl bt : Nat} {D : Dsk} {L : Lg} {n m : Nat} {T : Nat → Sec} (h : OwnL G w l p bl bt D L) (hp : PI n m T D L) (hn : n ≤ 255) (k : Nat) (hk : k < 24) (c : Int) :
    Calls Try.prog 13 #[pv l, .int .i64 ((n + k : Nat) : Int), .slice (some ⟨w.heap.size, 0, none⟩) 128 128] (w.alloc (.cells (bs (fullB c)).toArray 5)) fun x w' => ∃ e, (e = 0 ∨ e = 45) ∧ x = .returned (.int .i64 e) ∧ (∃ L', OwnL G w' l p bl bt D L' ∧ PI n m T D L') ∧ Kp G w w' := by
  obtain ⟨h1, h2⟩ := hp.stage h.srts.2.1 k hk (fullB c) (fullB_length c)
  have hst := cost_le hp.c
  have := stage_any (h.alloc (.cells (bs (fullB c)).toArray 5)) ((n + k : Nat) : Int) (fullB c) (some ⟨w.heap.size, 0, none⟩) 128 (fun _ => ⟨w.heap.size, 0, rfl, (Blk.new w 5 (bs (fullB c))).range 0 _ (by simp), by simp⟩) (by omega)
  rw [fullB_length] at this
  refine this.mono ?_
  rintro x w' ⟨hx, ho, hk⟩
  exact ⟨_, h1, hx, ⟨_, ho, h2⟩, Kp.trans (show Kp G _ _ from (Fr.refl _ w).alloc _) hk⟩

set_option maxRecDepth 100000 in
set_option maxHeartbeats 4000000 in
theorem play_any {G : Nat → Prop} {w : World} {l p bl bt : Nat} {D : Dsk} {L : Lg} (h : OwnL G w l p bl bt D L) (n : Nat) (T : Nat → Sec) (hp : PI n 60000 T D L) (hn : n ≤ 255) (ad : Option Addr) (len cap : Nat) (ha : ArgOps G w ad len) :
    Calls Try.prog 10 #[pv l, .int .i64 (n : Int), .slice ad len cap] w fun x w' => x = .returned (.int .i64 0) ∧ PlayPost G w l p n 20000 w' := by
  have HA := hid ha
  have HI : Hid (PlayPost G w l p n (60000 - 600 * 0) w) := ⟨bl, bt, D, L, T, h, hp, Fr.refl _ w⟩
  clear h hp ha
  go_enter Try.func10, Try.ntmps10
  go_wp2_with fail
  go_loopw [7] (fun i wr => ∃ k : Nat, k ≤ len ∧ k ≤ 60 ∧ i = .int .i64 (k : Int) ∧ PlayPost G w l p n (60000 - 600 * k) wr) (fun i _ => 60 - (intOf i).toNat)
  case atStart => exact ⟨0, Nat.zero_le _, Nat.zero_le _, rfl, HI.out⟩
  case round =>
    obtain ⟨k, hk, hk60, rfl, hI⟩ := hrel
    have HI2 := hid hI
    clear hI HI
    by_cases hlt : k < len ∧ k < 60
    · have hk1 : (k : Int) < (len : Int) := by omega
      have hk2 : (k : Int) < 60 := by omega
      have hk0 : (0 : Int) ≤ (k : Int) := Int.natCast_nonneg _
      obtain ⟨bl1, bt1, D1, L1, T1, o1, p1, k1⟩ := HI2.out
      obtain ⟨lb, lo, x, rfl, hx, hg⟩ := HA.out k hlt.1
      have hx1 := hx.kp k1 hg
      have ck := hx1.kind
      have ca := hx1.a
      have cc := hx1.c
      have HX := hid hx1
      have HO := hid o1
      have HP := hid p1
      have HK := hid k1
      have HSm : Hid (∀ W, _) := fun W => small_any W x.a 24 hx1.a0.1 hx1.a0.2 (by omega) (by omega)
      have hsm : smallN x.a 24 < 24 := Nat.mod_lt _ (by omega)
      have HFl : Hid (Calls Try.prog 15 #[.int .u8 x.c] wr.drew fun e w' => e = .returned (.slice (some ⟨wr.heap.size, 0, none⟩) 128 128) ∧ w' = wr.drew.alloc (.cells (bs (fullB x.c)).toArray 5)) := full_any wr.drew x.c hx1.c0.1 hx1.c0.2
      have HSt : Hid (Calls Try.prog 13 #[pv l, .int .i64 ((n + smallN x.a 24 : Nat) : Int), .slice (some ⟨wr.heap.size, 0, none⟩) 128 128] (wr.alloc (.cells (bs (fullB x.c)).toArray 5)).drew fun x w' => ∃ e, (e = 0 ∨ e = 45) ∧ x = .returned (.int .i64 e) ∧ (∃ L', OwnL G w' l p bl1 bt1 D1 L' ∧ PI n (60000 - 600 * k) T1 D1 L') ∧ Kp G wr.drew w') := stage_one o1.drew p1 hn (smallN x.a 24) hsm x.c
      have Hcast : Hid (((n + smallN x.a 24 : Nat) : Int) = (n : Int) + (smallN x.a 24 : Int)) := by unfold Hid; omega
      rw [Hcast.out] at HSt
      have HCm := hid (Commit_any o1 (p1.sm.le (by omega)) (by have := p1.lg; omega) (by have := cost_le p1.c; omega) (by rw [p1.a.ln]; exact p1.c))
      have HCp := hid (PI.commit (m := 60000 - 600 * (k + 1)) (p1.le (by omega)) o1.r.ok o1.srts.1 o1.srts.2.1 o1.srts.2.2)
      have HHm := hid (Home_any o1 (p1.sm.le (by have := p1.lg; omega)) (by have := p1.lg; omega))
      have HHp := hid (PI.home (m := 60000 - 600 * (k + 1)) (p1.le (by omega)) o1.r.ok o1.srts.1)
      have HDr := hid (drop_any o1)
      have HDp := hid ((p1.le (m' := 60000 - 600 * (k + 1)) (by omega)).drop)
      rw [HCp.out.1] at HCm
      rw [HHp.out.1] at HHm
      have HSame : Hid (PlayPost G w l p n (60000 - 600 * (k + 1)) wr) := ⟨bl1, bt1, D1, L1, T1, o1, p1.le (by omega), k1⟩
      have HN : Hid (∀ w' D' L' T' a b, OwnL G w' l p a b D' L' → PI n (60000 - 600 * (k + 1)) T' D' L' → Kp G wr w' → PlayPost G w l p n (60000 - 600 * (k + 1)) w') := fun w' D' L' T' a b h1 h2 h3 => ⟨a, b, D', L', T', h1, h2, Kp.trans k1 h3⟩
      have HP1 : Hid (∀ L', PI n (60000 - 600 * k) T1 D1 L' → PI n (60000 - 600 * (k + 1)) T1 D1 L') := fun L' h => h.le (by omega)
      have ca2 : wr.drew.cell? ⟨lb, lo + k * 5 + 1, none⟩ = some (.int .i64 x.a) := ca
      have cc2 : wr.drew.cell? ⟨lb, lo + k * 5 + 3, none⟩ = some (.int .u8 x.c) := cc
      have Hlt := hid hx1.lt
      have HcellF : Hid (∀ w', Kp G wr w' → w'.cell? ⟨lb, lo + k * 5 + 1, none⟩ = some (.int .i64 x.a) ∧ w'.cell? ⟨lb, lo + k * 5 + 3, none⟩ = some (.int .u8 x.c)) := fun w' f => ⟨(hx1.kp f hg).a, (hx1.kp f hg).c⟩
      have hwr : IntKind.i64.wrap ((n : Int) + (smallN x.a 24 : Int)) = (n : Int) + (smallN x.a 24 : Int) := by simp [IntKind.wrap, IntKind.bits, IntKind.signed]; omega
      clear hx hx1 o1 p1 k1 HI2 HX HO HP HK ca cc Hcast
      generalize smallN x.a 24 = sm at *
      generalize fullB x.c = fb at *
      go_wp2_with fail
      · go_region_held3 (fun w' => w'.cell? ⟨lb, lo + k * 5 + 1, none⟩ = some (.int .i64 x.a) ∧ w'.cell? ⟨lb, lo + k * 5 + 3, none⟩ = some (.int .u8 x.c))
          (first
            | exact ⟨ca2, cc2⟩
            | exact HcellF.out _ (show Kp G _ _ from Nw.kp ((Fr.refl _ wr).drew))
            | exact HcellF.out _ (show Kp G _ _ from Nw.kp (((Fr.refl _ wr).drew).alloc _))
            | exact HcellF.out _ k4)
          (first
            | (go_at_call 14; refine (HSm.out _).mono ?_; rintro y w2 ⟨rfl, rfl⟩)
            | (go_at_call 15; refine HFl.out.mono ?_; rintro y w3 ⟨rfl, rfl⟩)
            | (go_at_call 13; refine HSt.out.mono ?_; rintro y w4 ⟨e4, he4, rfl, ⟨L4, o4, p4⟩, k4'⟩; have k4 : Kp G wr w4 := Kp.trans (show Kp G _ _ from Nw.kp ((Fr.refl _ wr).drew)) k4'))
        have HR := hid (HN.out _ _ _ _ _ _ o4 (HP1.out _ p4) k4)
        clear o4 p4 k4 k4' HSm HFl HSt HCm HCp HHm HHp HDr HDp HSame HN HP1 HcellF
        rcases he4 with rfl | rfl
        · go_wp2
          exact ⟨⟨k + 1, by omega, by omega, by simp, HR.out⟩, by simp [intOf]; omega⟩
        · go_wp2
          exact ⟨⟨k + 1, by omega, by omega, by simp, HR.out⟩, by simp [intOf]; omega⟩
      · refine HCm.out.mono ?_
        rintro y w2 ⟨rfl, ⟨b2, t2, o2⟩, k2⟩
        obtain ⟨T2, p2⟩ := HCp.out.2
        have HR := hid (HN.out _ _ _ _ _ _ o2 p2 k2)
        clear o2 p2 k2 HSm HFl HSt HCm HCp HHm HHp HDr HDp HSame HN HP1 HcellF
        go_wp2
        exact ⟨⟨k + 1, by omega, by omega, by simp, HR.out⟩, by simp [intOf]; omega⟩
      · refine HHm.out.mono ?_
        rintro y w2 ⟨rfl, ⟨b2, o2⟩, k2⟩
        have HR := hid (HN.out _ _ _ _ _ _ o2 HHp.out.2.1 k2)
        clear o2 k2 HSm HFl HSt HCm HCp HHm HHp HDr HDp HSame HN HP1 HcellF
        go_wp2
        exact ⟨⟨k + 1, by omega, by omega, by simp, HR.out⟩, by simp [intOf]; omega⟩
      · refine HDr.out.mono ?_
        rintro y w2 ⟨rfl, ⟨t2, o2⟩, k2⟩
        have HR := hid (HN.out _ _ _ _ _ _ o2 HDp.out k2)
        clear o2 k2 HSm HFl HSt HCm HCp HHm HHp HDr HDp HSame HN HP1 HcellF
        go_wp2
        exact ⟨⟨k + 1, by omega, by omega, by simp, HR.out⟩, by simp [intOf]; omega⟩
      · exact ⟨⟨k + 1, by omega, by omega, by simp, HSame.out⟩, by simp [intOf]; omega⟩
    · have HR : Hid (PlayPost G w l p n 20000 wr) := by
        obtain ⟨bl1, bt1, D1, L1, T1, o1, p1, k1⟩ := HI2.out
        exact ⟨bl1, bt1, D1, L1, T1, o1, p1.le (by omega), k1⟩
      by_cases h1 : k < len
      · have hk1 : (k : Int) < (len : Int) := by omega
        have hk2 : ¬ (k : Int) < 60 := by omega
        go_wp2
        go_ret
        exact ⟨rfl, HR.out⟩
      · have hk1 : ¬ (k : Int) < (len : Int) := by omega
        go_wp2
        go_ret
        exact ⟨rfl, HR.out⟩

end Go.Proofs.Ytagcpjekeogkbaa.Wl
