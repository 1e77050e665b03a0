/- The document's examples, as the laws show them. -/
import Derived.Test.YtipppagkajcheaaGreatDoorRfs
import Derived.Test.YtipppagkajcheaaGreatDoorSam
namespace Go.Proofs.YtipppagkajcheaaGreatDoor.Tr
open Go.RowKit

def exA : List Ent := [⟨[97], 1, [120]⟩, ⟨[98, 47, 99], 3, [47, 122]⟩]
def exB : List Ent := [⟨[], 0, [120, 47, 115, 116, 111, 114, 101, 47, 48, 49, 50, 51, 52, 53, 54, 55, 56, 57, 97, 98, 99, 100, 101, 102, 45, 97, 32, 98, 47, 115, 116, 111, 114, 101, 47, 48, 49, 50, 51, 52, 53, 54, 55, 56, 57, 97, 98, 99, 100, 101, 102, 45]⟩]
def exC : List Ent := [⟨[97, 47, 47, 98], 1, []⟩]
theorem exA_right : rightB exA = true := by decide +kernel
theorem exA_bytes : bytesL exA = [116, 114, 101, 101, 10, 102, 32, 97, 32, 49, 10, 120, 10, 108, 32, 98, 47, 99, 32, 50, 10, 47, 122, 10, 101, 110, 100, 10] := by
  unfold bytesL
  rw [exA_right]
  simp only [exA, bodyL, List.flatMap_cons, List.flatMap_nil, entL, List.length_cons, List.length_nil, Nat.zero_add, Nat.reduceAdd]
  rw [decL_small 1 (by decide), decL_small 2 (by decide)]
  decide
theorem exC_right : rightB exC = false := by decide +kernel
theorem exB_refs : refsB exB = [[47, 115, 116, 111, 114, 101, 47, 48, 49, 50, 51, 52, 53, 54, 55, 56, 57, 97, 98, 99, 100, 101, 102, 45, 97]] := by decide +kernel
theorem ents_two {W : World} {b : Nat} {x y : Ent} {da ea : Option Addr} {dc ec : Nat} (h : Blk W b 36 [.string ⟨x.path.toArray⟩, .int .i64 x.kind, .slice da x.data.length dc, .string ⟨y.path.toArray⟩, .int .i64 y.kind, .slice ea y.data.length ec]) (hx : EntV W x da dc) (hy : EntV W y ea ec) : Ents W (some ⟨b, 0, none⟩) [x, y] := fun _ =>
  ⟨b, 0, rfl, fun i hi => by
    match i, hi with
    | 0, _ => exact ⟨da, dc, h.cell 0, h.cell 1, h.cell 2, hx⟩
    | 1, _ => exact ⟨ea, ec, h.cell 3, h.cell 4, h.cell 5, hy⟩
    | n + 2, hi => exact absurd hi (by simp)⟩
theorem ents_one {W : World} {b : Nat} {x : Ent} {da : Option Addr} {dc : Nat} (h : Blk W b 36 [.string ⟨x.path.toArray⟩, .int .i64 x.kind, .slice da x.data.length dc]) (hx : EntV W x da dc) : Ents W (some ⟨b, 0, none⟩) [x] := fun _ =>
  ⟨b, 0, rfl, fun i hi => by
    match i, hi with
    | 0, _ => exact ⟨da, dc, h.cell 0, h.cell 1, h.cell 2, hx⟩
    | n + 1, hi => exact absurd hi (by simp)⟩

theorem src_own {w : World} {B n cap : Nat} {ad : Option Addr} {b : List UInt8} (h : w.ownsRow B 5 1 (.slice ad n cap) b.length (bs b)) : Src w ad b := fun hb => by
  obtain ⟨g, cap', hv, _, _, hr⟩ := owned_range h hb
  cases hv
  exact ⟨g, 0, rfl, hr⟩

set_option maxRecDepth 100000 in
set_option maxHeartbeats 4000000 in
theorem shown_any (w : World) (hT : Tab w) : Calls Tryz.prog 5 #[] w fun e w' => e = .returned (.bool true) ∧ Fr (fun _ => False) w w' := by
  have HT := hid hT
  clear hT
  have hcv1 := Lib.run_convert_bytes_const (P := Tryz.prog) w 22 5 #[.int .u8 120] 1 1 Tryz.underlying22 Tryz.underlying5
  have hcv2 := Lib.run_convert_bytes_const (P := Tryz.prog) (w.alloc (.cells #[.int .u8 120] 5 (1, 2))) 22 5 #[.int .u8 47, .int .u8 122] 2 2 Tryz.underlying22 Tryz.underlying5
  simp only [World.size_alloc] at hcv2
  have HF3 : Hid (Fr (fun _ => False) w (((w.alloc (.cells #[.int .u8 120] 5 (1, 2))).alloc (.cells #[.int .u8 47, .int .u8 122] 5 (2, 3))).alloc (.cells #[.string ⟨#[97]⟩, .int .i64 1, .slice (some ⟨w.heap.size, 0, none⟩) 1 1, .string ⟨#[98, 47, 99]⟩, .int .i64 3, .slice (some ⟨w.heap.size + 1, 0, none⟩) 2 2] 36))) := (((Fr.refl _ w).alloc _).alloc _).alloc _
  have HE3 : Hid (Ents (((w.alloc (.cells #[.int .u8 120] 5 (1, 2))).alloc (.cells #[.int .u8 47, .int .u8 122] 5 (2, 3))).alloc (.cells #[.string ⟨#[97]⟩, .int .i64 1, .slice (some ⟨w.heap.size, 0, none⟩) 1 1, .string ⟨#[98, 47, 99]⟩, .int .i64 3, .slice (some ⟨w.heap.size + 1, 0, none⟩) 2 2] 36)) (some ⟨w.heap.size + 2, 0, none⟩) exA) := by
    have hb := Blk.new ((w.alloc (.cells #[.int .u8 120] 5 (1, 2))).alloc (.cells #[.int .u8 47, .int .u8 122] 5 (2, 3))) 36 [.string ⟨#[97]⟩, .int .i64 1, .slice (some ⟨w.heap.size, 0, none⟩) 1 1, .string ⟨#[98, 47, 99]⟩, .int .i64 3, .slice (some ⟨w.heap.size + 1, 0, none⟩) 2 2]
    simp only [World.size_alloc] at hb
    have s1 : Src (w.alloc (.cells #[.int .u8 120] 5 (1, 2))) (some ⟨w.heap.size, 0, none⟩) [120] := Src.const [120] rfl
    have s2 : Src ((w.alloc (.cells #[.int .u8 120] 5 (1, 2))).alloc (.cells #[.int .u8 47, .int .u8 122] 5 (2, 3))) (some ⟨w.heap.size + 1, 0, none⟩) [47, 122] := by
      have := Src.const (w := w.alloc (.cells #[.int .u8 120] 5 (1, 2))) [47, 122] rfl
      rw [World.size_alloc] at this
      exact this
    exact ents_two (x := ⟨[97], 1, [120]⟩) (y := ⟨[98, 47, 99], 3, [47, 122]⟩) hb ⟨s1.fr (((Fr.refl _ _).alloc _).alloc _), by simp, by simp, by simp, by simp, by simp⟩ ⟨s2.fr ((Fr.refl _ _).alloc _), by simp, by simp, by simp, by simp, by simp⟩
  have hs3 : (((w.alloc (.cells #[.int .u8 120] 5 (1, 2))).alloc (.cells #[.int .u8 47, .int .u8 122] 5 (2, 3))).alloc (.cells #[.string ⟨#[97]⟩, .int .i64 1, .slice (some ⟨w.heap.size, 0, none⟩) 1 1, .string ⟨#[98, 47, 99]⟩, .int .i64 3, .slice (some ⟨w.heap.size + 1, 0, none⟩) 2 2] 36)).heap.size = w.heap.size + 3 := by simp
  have hcv3 := Lib.run_convert_bytes_const (P := Tryz.prog) (((w.alloc (.cells #[.int .u8 120] 5 (1, 2))).alloc (.cells #[.int .u8 47, .int .u8 122] 5 (2, 3))).alloc (.cells #[.string ⟨#[97]⟩, .int .i64 1, .slice (some ⟨w.heap.size, 0, none⟩) 1 1, .string ⟨#[98, 47, 99]⟩, .int .i64 3, .slice (some ⟨w.heap.size + 1, 0, none⟩) 2 2] 36)) 22 5 #[.int .u8 120, .int .u8 47, .int .u8 115, .int .u8 116, .int .u8 111, .int .u8 114, .int .u8 101, .int .u8 47, .int .u8 48, .int .u8 49, .int .u8 50, .int .u8 51, .int .u8 52, .int .u8 53, .int .u8 54, .int .u8 55, .int .u8 56, .int .u8 57, .int .u8 97, .int .u8 98, .int .u8 99, .int .u8 100, .int .u8 101, .int .u8 102, .int .u8 45, .int .u8 97, .int .u8 32, .int .u8 98, .int .u8 47, .int .u8 115, .int .u8 116, .int .u8 111, .int .u8 114, .int .u8 101, .int .u8 47, .int .u8 48, .int .u8 49, .int .u8 50, .int .u8 51, .int .u8 52, .int .u8 53, .int .u8 54, .int .u8 55, .int .u8 56, .int .u8 57, .int .u8 97, .int .u8 98, .int .u8 99, .int .u8 100, .int .u8 101, .int .u8 102, .int .u8 45] 52 52 Tryz.underlying22 Tryz.underlying5
  rw [hs3] at hcv3
  have hq : #[(Value.int .u8 120 : Value), .int .u8 47, .int .u8 115, .int .u8 116, .int .u8 111, .int .u8 114, .int .u8 101, .int .u8 47, .int .u8 48, .int .u8 49, .int .u8 50, .int .u8 51, .int .u8 52, .int .u8 53, .int .u8 54, .int .u8 55, .int .u8 56, .int .u8 57, .int .u8 97, .int .u8 98, .int .u8 99, .int .u8 100, .int .u8 101, .int .u8 102, .int .u8 45, .int .u8 97, .int .u8 32, .int .u8 98, .int .u8 47, .int .u8 115, .int .u8 116, .int .u8 111, .int .u8 114, .int .u8 101, .int .u8 47, .int .u8 48, .int .u8 49, .int .u8 50, .int .u8 51, .int .u8 52, .int .u8 53, .int .u8 54, .int .u8 55, .int .u8 56, .int .u8 57, .int .u8 97, .int .u8 98, .int .u8 99, .int .u8 100, .int .u8 101, .int .u8 102, .int .u8 45].size = 52 := rfl
  have HX5 : Hid (∀ W3 : World, W3.heap.size = w.heap.size + 3 → Ents ((W3.alloc (.cells #[.int .u8 120, .int .u8 47, .int .u8 115, .int .u8 116, .int .u8 111, .int .u8 114, .int .u8 101, .int .u8 47, .int .u8 48, .int .u8 49, .int .u8 50, .int .u8 51, .int .u8 52, .int .u8 53, .int .u8 54, .int .u8 55, .int .u8 56, .int .u8 57, .int .u8 97, .int .u8 98, .int .u8 99, .int .u8 100, .int .u8 101, .int .u8 102, .int .u8 45, .int .u8 97, .int .u8 32, .int .u8 98, .int .u8 47, .int .u8 115, .int .u8 116, .int .u8 111, .int .u8 114, .int .u8 101, .int .u8 47, .int .u8 48, .int .u8 49, .int .u8 50, .int .u8 51, .int .u8 52, .int .u8 53, .int .u8 54, .int .u8 55, .int .u8 56, .int .u8 57, .int .u8 97, .int .u8 98, .int .u8 99, .int .u8 100, .int .u8 101, .int .u8 102, .int .u8 45] 5 (52, 53))).alloc (.cells #[.string ⟨#[]⟩, .int .i64 0, .slice (some ⟨w.heap.size + 3, 0, none⟩) 52 52] 36)) (some ⟨w.heap.size + 3 + 1, 0, none⟩) exB) := by
    intro W3 hW3
    have hb := Blk.new (W3.alloc (.cells #[.int .u8 120, .int .u8 47, .int .u8 115, .int .u8 116, .int .u8 111, .int .u8 114, .int .u8 101, .int .u8 47, .int .u8 48, .int .u8 49, .int .u8 50, .int .u8 51, .int .u8 52, .int .u8 53, .int .u8 54, .int .u8 55, .int .u8 56, .int .u8 57, .int .u8 97, .int .u8 98, .int .u8 99, .int .u8 100, .int .u8 101, .int .u8 102, .int .u8 45, .int .u8 97, .int .u8 32, .int .u8 98, .int .u8 47, .int .u8 115, .int .u8 116, .int .u8 111, .int .u8 114, .int .u8 101, .int .u8 47, .int .u8 48, .int .u8 49, .int .u8 50, .int .u8 51, .int .u8 52, .int .u8 53, .int .u8 54, .int .u8 55, .int .u8 56, .int .u8 57, .int .u8 97, .int .u8 98, .int .u8 99, .int .u8 100, .int .u8 101, .int .u8 102, .int .u8 45] 5 (52, 53))) 36 [.string ⟨#[]⟩, .int .i64 0, .slice (some ⟨w.heap.size + 3, 0, none⟩) 52 52]
    rw [World.size_alloc, hW3] at hb
    have s1 : Src (W3.alloc (.cells #[.int .u8 120, .int .u8 47, .int .u8 115, .int .u8 116, .int .u8 111, .int .u8 114, .int .u8 101, .int .u8 47, .int .u8 48, .int .u8 49, .int .u8 50, .int .u8 51, .int .u8 52, .int .u8 53, .int .u8 54, .int .u8 55, .int .u8 56, .int .u8 57, .int .u8 97, .int .u8 98, .int .u8 99, .int .u8 100, .int .u8 101, .int .u8 102, .int .u8 45, .int .u8 97, .int .u8 32, .int .u8 98, .int .u8 47, .int .u8 115, .int .u8 116, .int .u8 111, .int .u8 114, .int .u8 101, .int .u8 47, .int .u8 48, .int .u8 49, .int .u8 50, .int .u8 51, .int .u8 52, .int .u8 53, .int .u8 54, .int .u8 55, .int .u8 56, .int .u8 57, .int .u8 97, .int .u8 98, .int .u8 99, .int .u8 100, .int .u8 101, .int .u8 102, .int .u8 45] 5 (52, 53))) (some ⟨w.heap.size + 3, 0, none⟩) [120, 47, 115, 116, 111, 114, 101, 47, 48, 49, 50, 51, 52, 53, 54, 55, 56, 57, 97, 98, 99, 100, 101, 102, 45, 97, 32, 98, 47, 115, 116, 111, 114, 101, 47, 48, 49, 50, 51, 52, 53, 54, 55, 56, 57, 97, 98, 99, 100, 101, 102, 45] := by
      have := Src.const (w := W3) [120, 47, 115, 116, 111, 114, 101, 47, 48, 49, 50, 51, 52, 53, 54, 55, 56, 57, 97, 98, 99, 100, 101, 102, 45, 97, 32, 98, 47, 115, 116, 111, 114, 101, 47, 48, 49, 50, 51, 52, 53, 54, 55, 56, 57, 97, 98, 99, 100, 101, 102, 45] rfl
      rw [hW3] at this
      exact this
    exact ents_one (x := ⟨[], 0, [120, 47, 115, 116, 111, 114, 101, 47, 48, 49, 50, 51, 52, 53, 54, 55, 56, 57, 97, 98, 99, 100, 101, 102, 45, 97, 32, 98, 47, 115, 116, 111, 114, 101, 47, 48, 49, 50, 51, 52, 53, 54, 55, 56, 57, 97, 98, 99, 100, 101, 102, 45]⟩) hb ⟨s1.fr ((Fr.refl _ _).alloc _), by simp, by simp, by simp, by simp, by simp⟩
  have HE5 := hid (HX5.out _ hs3)
  have HF5 : Hid (Fr (fun _ => False) (((w.alloc (.cells #[.int .u8 120] 5 (1, 2))).alloc (.cells #[.int .u8 47, .int .u8 122] 5 (2, 3))).alloc (.cells #[.string ⟨#[97]⟩, .int .i64 1, .slice (some ⟨w.heap.size, 0, none⟩) 1 1, .string ⟨#[98, 47, 99]⟩, .int .i64 3, .slice (some ⟨w.heap.size + 1, 0, none⟩) 2 2] 36)) (((((w.alloc (.cells #[.int .u8 120] 5 (1, 2))).alloc (.cells #[.int .u8 47, .int .u8 122] 5 (2, 3))).alloc (.cells #[.string ⟨#[97]⟩, .int .i64 1, .slice (some ⟨w.heap.size, 0, none⟩) 1 1, .string ⟨#[98, 47, 99]⟩, .int .i64 3, .slice (some ⟨w.heap.size + 1, 0, none⟩) 2 2] 36)).alloc (.cells #[.int .u8 120, .int .u8 47, .int .u8 115, .int .u8 116, .int .u8 111, .int .u8 114, .int .u8 101, .int .u8 47, .int .u8 48, .int .u8 49, .int .u8 50, .int .u8 51, .int .u8 52, .int .u8 53, .int .u8 54, .int .u8 55, .int .u8 56, .int .u8 57, .int .u8 97, .int .u8 98, .int .u8 99, .int .u8 100, .int .u8 101, .int .u8 102, .int .u8 45, .int .u8 97, .int .u8 32, .int .u8 98, .int .u8 47, .int .u8 115, .int .u8 116, .int .u8 111, .int .u8 114, .int .u8 101, .int .u8 47, .int .u8 48, .int .u8 49, .int .u8 50, .int .u8 51, .int .u8 52, .int .u8 53, .int .u8 54, .int .u8 55, .int .u8 56, .int .u8 57, .int .u8 97, .int .u8 98, .int .u8 99, .int .u8 100, .int .u8 101, .int .u8 102, .int .u8 45] 5 (52, 53))).alloc (.cells #[.string ⟨#[]⟩, .int .i64 0, .slice (some ⟨w.heap.size + 3, 0, none⟩) 52 52] 36))) := ((Fr.refl _ _).alloc _).alloc _
  have HRf := hid (refs_any _ _ exB 1 HE5.out (by decide) (by decide))
  rw [exB_refs] at HRf
  clear HX5 HE5
  go_enter Tryz.func5, Tryz.ntmps5
  go_wp2_with fail
  refine HRf.out.mono ?_
  rintro e w1 ⟨v1, rfl, ho1, f1⟩
  obtain ⟨g1, cap1, rfl, _, _⟩ := World.ownsRow.form ho1 (by decide)
  have cR : w1.cell? ⟨g1, 0, none⟩ = some (.string ⟨#[47, 115, 116, 111, 114, 101, 47, 48, 49, 50, 51, 52, 53, 54, 55, 56, 57, 97, 98, 99, 100, 101, 102, 45, 97]⟩) := by
    rcases ho1.2 with ⟨h0, _⟩ | ⟨g, cap', cur, h0, _, hg, _, _, _, ht⟩
    · cases h0
    · cases h0
      rw [cell_of_row _ g1 0 _ 9 _ hg]
      have h2 := congrArg (fun l => l[0]?) ht
      simp only [List.getElem?_take] at h2
      simpa [strs] using h2
  have hf3 := HF5.out.trans f1 (fun _ h => h.elim)
  have HE1 := hid (HE3.out.fr hf3)
  have HF1 := hid (HF3.out.trans hf3 (fun _ h => h.elim))
  clear hcv1 hcv2 hcv3 hq hs3 HE3 HF3 HF5 HRf ho1 f1 hf3
  have HBy := hid (bytes_any w1 _ exA 2 HE1.out (by decide) (HT.out.fr HF1.out))
  rw [exA_bytes] at HBy
  go_wp2_with (first
    | (go_at_call 10; refine HBy.out.mono ?_; rintro e w2 ⟨v2, rfl, ho2, f2⟩; obtain ⟨va2, vc2, rfl⟩ := own_len ho2; have F2 := hid (HF1.out.trans f2 (fun _ h => h.elim)); have cR2 := cell_fr f2 cR; have hcv2 := conv_bytes (src_own ho2) vc2; clear f2 ho2; refine Hid.out ?_))
  refine hid ?_
  have hlen : [(116 : UInt8), 114, 101, 101, 10, 102, 32, 97, 32, 49, 10, 120, 10, 108, 32, 98, 47, 99, 32, 50, 10, 47, 122, 10, 101, 110, 100, 10].length = 28 := rfl
  rw [hlen] at hcv2
  clear hlen
  have HR1 : Hid (Calls Tryz.prog 11 #[.slice none 0 0] w2 fun e w' => e = .returned (.bool true) ∧ Fr (fun _ => False) w2 w') := right_any w2 none [] 0 (Ents.nil _ _) (Nat.le_refl _)
  have HR2 : Hid (∀ W : World, Calls Tryz.prog 11 #[.slice (some ⟨W.heap.size, 0, none⟩) 1 1] (W.alloc (.cells #[.string ⟨#[97, 47, 47, 98]⟩, .int .i64 1, .slice none 0 0] 36)) fun e w' => e = .returned (.bool false) ∧ Fr (fun _ => False) W w') := fun W => by
    have := right_any (W.alloc (.cells #[.string ⟨#[97, 47, 47, 98]⟩, .int .i64 1, .slice none 0 0] 36)) (some ⟨W.heap.size, 0, none⟩) exC 1
      (ents_one (x := ⟨[97, 47, 47, 98], 1, []⟩) (Blk.new W 36 [.string ⟨#[97, 47, 47, 98]⟩, .int .i64 1, .slice none 0 0]) ⟨Src.nil _ _, by simp, by simp, by simp, by simp, by simp⟩) (by decide)
    rw [exC_right] at this
    exact this.mono (fun e w' h => ⟨h.1, ((Fr.refl _ W).alloc _).trans h.2 (fun _ h => h.elim)⟩)
  clear HBy HE1 HF1 cR
  go_wp2_with (go_at_call 11; refine HR1.out.mono ?_; rintro e w3 ⟨rfl, f3⟩; have F3 := hid (F2.out.trans f3 (fun _ h => h.elim)); have cR3 := cell_fr f3 cR2; clear f3; refine Hid.out ?_)
  refine hid ?_
  clear HR1 cR2 F2 hcv2
  go_wp2_with (go_at_call 11; refine (HR2.out _).mono ?_; rintro e w4 ⟨rfl, f4⟩; have F4 := hid (F3.out.trans f4 (fun _ h => h.elim)); have cR4 := cell_fr f4 cR3; clear f4)
  go_ret
  exact ⟨rfl, F4.out⟩

end Go.Proofs.YtipppagkajcheaaGreatDoor.Tr
