/-
  Walks for spec.l02Draw and spec.MakePoint.
-/
import Derived.Test.YthepgmpkakmcdaaAhead
import Derived.Handy
namespace Go.Proofs.Ythepgmpkakmcdaa
open Go.RowKit

set_option maxHeartbeats 800000 in
theorem draw_any (A : Option Addr) (n c g B : Nat) (w : World) (hC : CodeAt w B A n) (hg : CurAt w A n c g) (hB : B ≤ g) (hn : n ≤ 1048576) :
    Calls Try.prog 36 #[.pointer (some ⟨g, 0, none⟩)] w fun e w' => (∃ x y : Int, 0 ≤ x ∧ x < 9 ∧ 0 ≤ y ∧ y < 9 ∧ e = .returned (.agg #[.int .i64 x, .int .i64 y])) ∧ Below B w w' := by
  have hgl := hg.lt
  have hba : Below B w (w.alloc (.cells #[.int .i64 0, .int .i64 0] 24)) := (Below.refl _ _).alloc (by omega) _
  have hg' : CurAt (w.alloc (.cells #[.int .i64 0, .int .i64 0] 24)) A n c g := by
    obtain ⟨i, x, hh, hi⟩ := hg
    exact ⟨i, x, (Below.heap_alloc w _ g hgl).trans hh, hi⟩
  have hz : (w.alloc (.cells #[.int .i64 0, .int .i64 0] 24)).heap[w.heap.size]? = some (.cells #[.int .i64 0, .int .i64 0] 24 (0, 0)) := heap_alloc_new w _
  have HB1 := Lib.hid (below_any A n c g B 9 _ (hC.below hba) hg' hB hn (by omega) (by omega))
  have HC := Lib.hid (hC.below hba)
  clear hC hg hg'
  go_enter Try.func36, Try.ntmps36
  go_wp2_with fail
  refine HB1.out.mono ?_
  rintro e w1 ⟨⟨x, hx1, hx2, rfl⟩, hg1, hb1⟩
  have hz1 := (hb1.block w.heap.size (by simp) (by simp; omega)).trans hz
  have hgl1 := hg1.lt
  have b1 := hba.trans (og_below hb1 hB (by simp; omega))
  have HB2 := Lib.hid (below_any A n c g B 9 w1 (HC.out.below (og_below hb1 hB (by simp; omega))) hg1 hB hn (by omega) (by omega))
  clear hg1 hb1 hz
  go_wp2_with fail
  refine HB2.out.mono ?_
  rintro e w2 ⟨⟨y, hy1, hy2, rfl⟩, hg2, hb2⟩
  have hz2 := (hb2.block w.heap.size (Array.getElem?_eq_some_iff.1 hz1).1 (by simp; omega)).trans hz1
  have b2 := b1.trans (og_below hb2 hB hgl1)
  have c0 : w2.cell? ⟨w.heap.size, 0, none⟩ = some (.int .i64 0) := cell_of_row w2 w.heap.size 0 _ _ _ hz2
  have c1 : w2.cell? ⟨w.heap.size, 1, none⟩ = some (.int .i64 0) := cell_of_row w2 w.heap.size 1 _ _ _ hz2
  have f0 := frozen_of_row w2 w.heap.size 0 _ _ hz2
  have f1 := frozen_of_row w2 w.heap.size 1 _ _ hz2
  have H1 := heap_setCell_same w2 w.heap.size 0 _ _ (.int .i64 x) hz2
  have H2 := heap_setCell_same _ w.heap.size 1 _ _ (.int .i64 y) H1
  have d0 : (w2.setCell ⟨w.heap.size, 0, none⟩ (.int .i64 x)).cell? ⟨w.heap.size, 0, none⟩ = some (.int .i64 x) := cell_of_row _ w.heap.size 0 _ _ _ H1
  have d1 : ((w2.setCell ⟨w.heap.size, 0, none⟩ (.int .i64 x)).setCell ⟨w.heap.size, 1, none⟩ (.int .i64 y)).cell? ⟨w.heap.size, 1, none⟩ = some (.int .i64 y) := cell_of_row _ w.heap.size 1 _ _ _ H2
  have hBw : B ≤ w.heap.size := by omega
  have R := Lib.hid ((b2.setCell (p := ⟨w.heap.size, 0, none⟩) hBw (.int .i64 x)).setCell (p := ⟨w.heap.size, 1, none⟩) hBw (.int .i64 y))
  clear hg2 hb2 hz1 hz2 b1 H1 H2 b2
  go_wp2_with fail
  (try simp only [Exit.inBlock, Exit.then])
  refine bodyPost_ret (v := (.agg #[.int .i64 x, .int .i64 y])) (by simp [results, Try.results36, go_sem, d0, d1]) rfl ?_
  exact ⟨⟨x, y, hx1, hx2, hy1, hy2, rfl⟩, R.out⟩
/-- A point with both numbers below 9. -/
theorem point_any (A : Option Addr) (n c : Nat) (m : Int) (w : World) (hC : CodeAt w w.heap.size A n) (hn : n ≤ 1048576) (hm1 : 0 ≤ m) (hm2 : m ≤ 1000) :
    Calls Try.prog 13 #[.slice A n c, .int .i64 m] w fun e w' => (∃ x y : Int, 0 ≤ x ∧ x < 9 ∧ 0 ≤ y ∧ y < 9 ∧ e = .returned (.agg #[.int .i64 x, .int .i64 y])) ∧ Below w.heap.size w w' := by
  have hba : Below w.heap.size w (w.alloc (.cells #[.int .i64 0, .int .i64 0] 24)) := (Below.refl _ _).alloc (Nat.le_refl _) _
  have hz : (w.alloc (.cells #[.int .i64 0, .int .i64 0] 24)).heap[w.heap.size]? = some (.cells #[.int .i64 0, .int .i64 0] 24 (0, 0)) := heap_alloc_new w _
  have HC := Lib.hid ((hC.below hba).mono hba.size)
  have HN := Lib.hid (ahead_any A n c m _ HC.out hn hm1 hm2)
  clear hC
  go_enter Try.func13, Try.ntmps13
  go_wp2_with fail
  refine HN.out.mono ?_
  rintro e w1 ⟨g, rfl, hgw, hg, hb⟩
  have hz1 := (hb.block w.heap.size (by simp)).trans hz
  have b1 := hba.trans (hb.mono hba.size)
  have HDr := Lib.hid (draw_any A n c g _ w1 (HC.out.below hb) hg hgw hn)
  clear hg hz
  go_wp2_with fail
  refine HDr.out.mono ?_
  rintro e w2 ⟨⟨x, y, hx1, hx2, hy1, hy2, rfl⟩, hb2⟩
  have hz2 := (hb2.block w.heap.size (by simp)).trans hz1
  have b2 := b1.trans (hb2.mono (by simp))
  have c0 : w2.cell? ⟨w.heap.size, 0, none⟩ = some (.int .i64 0) := cell_of_row w2 w.heap.size 0 _ _ _ hz2
  have c1 : w2.cell? ⟨w.heap.size, 1, none⟩ = some (.int .i64 0) := cell_of_row w2 w.heap.size 1 _ _ _ hz2
  have f0 := frozen_of_row w2 w.heap.size 0 _ _ hz2
  have f1 := frozen_of_row w2 w.heap.size 1 _ _ hz2
  have H1 := heap_setCell_same w2 w.heap.size 0 _ _ (.int .i64 x) hz2
  have H2 := heap_setCell_same _ w.heap.size 1 _ _ (.int .i64 y) H1
  have d0 : (w2.setCell ⟨w.heap.size, 0, none⟩ (.int .i64 x)).cell? ⟨w.heap.size, 0, none⟩ = some (.int .i64 x) := cell_of_row _ w.heap.size 0 _ _ _ H1
  have d1 : ((w2.setCell ⟨w.heap.size, 0, none⟩ (.int .i64 x)).setCell ⟨w.heap.size, 1, none⟩ (.int .i64 y)).cell? ⟨w.heap.size, 1, none⟩ = some (.int .i64 y) := cell_of_row _ w.heap.size 1 _ _ _ H2
  have hBw : w.heap.size ≤ w.heap.size := Nat.le_refl _
  have R := Lib.hid ((b2.setCell (p := ⟨w.heap.size, 0, none⟩) hBw (.int .i64 x)).setCell (p := ⟨w.heap.size, 1, none⟩) hBw (.int .i64 y))
  clear hb hb2 hz1 hz2 b1 H1 H2 b2
  go_wp2_with fail
  (try simp only [Exit.inBlock, Exit.then])
  refine bodyPost_ret (v := (.agg #[.int .i64 x, .int .i64 y])) (by simp [results, Try.results13, go_sem, d0, d1]) rfl ?_
  exact ⟨⟨x, y, hx1, hx2, hy1, hy2, rfl⟩, R.out⟩
end Go.Proofs.Ythepgmpkakmcdaa
