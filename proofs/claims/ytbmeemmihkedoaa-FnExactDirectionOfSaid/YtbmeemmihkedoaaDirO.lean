/-
  DirectionOf of both programs, and its law.
-/
import Derived.Test.YtbmeemmihkedoaaMeasS
import Derived.Test.YtbmeemmihkedoaaIntsLaw
import Derived.Test.YtbmeemmihkedoaaHas
namespace Go.Proofs.Ytbmeemmihkedoaa
open Go.RowKit

def dirB (ax ay bx by' : Int) : Bool := okP ax ay && okP bx by' && !(ax == bx && ay == by')
def dirV (ax ay bx by' : Int) : List Int := bif dirB ax ay bx by' then [(dirP (bx - ax) (by' - ay)).1, (dirP (bx - ax) (by' - ay)).2] else []
theorem dirV_len (ax ay bx by' : Int) : (dirV ax ay bx by').length ≤ 41 := by
  unfold dirV
  cases dirB ax ay bx by' <;> simp
def DirOut (ax ay bx by' : Int) (w : World) (e : Ending) (w' : World) : Prop := ∃ v, e = .returned (.tuple #[v, .bool (dirB ax ay bx by')]) ∧ w'.ownsRow w.heap.size 3 1 v (dirV ax ay bx by').length (ints (dirV ax ay bx by')) ∧ Below w.heap.size w w'
theorem own_of_at {w : World} {B g : Nat} {p q : Int} (h : At w g p q 3) (hB : B ≤ g) : w.ownsRow B 3 1 (.slice (some ⟨g, 0, none⟩) 2 2) 2 (ints [p, q]) :=
  ⟨rfl, .inr ⟨g, 2, _, rfl, hB, h, by omega, by unfold maxLen; omega, rfl, rfl⟩⟩
theorem dirOut_no {ax ay bx by' : Int} {w w' : World} (h : dirB ax ay bx by' = false) (hb : Below w.heap.size w w') : DirOut ax ay bx by' w (.returned (.tuple #[.slice none 0 0, .bool false])) w' := by
  refine ⟨_, by rw [h], ?_, hb⟩
  unfold dirV
  rw [h]
  exact World.ownsRow_nil _ _ _ _
theorem dirOut_yes {ax ay bx by' : Int} {w w' : World} {g : Nat} (h : dirB ax ay bx by' = true) (ha : At w' g (dirP (bx - ax) (by' - ay)).1 (dirP (bx - ax) (by' - ay)).2 3) (hg : w.heap.size ≤ g) (hb : Below w.heap.size w w') : DirOut ax ay bx by' w (.returned (.tuple #[.slice (some ⟨g, 0, none⟩) 2 2, .bool true])) w' := by
  refine ⟨_, by rw [h], ?_, hb⟩
  unfold dirV
  rw [h]
  exact own_of_at ha hg
set_option maxRecDepth 100000 in
set_option maxHeartbeats 2000000 in
theorem spec_dirOf (ax ay bx by' : Int) (w : World) : Calls Try.prog 14 #[(.agg #[.int .i64 ax, .int .i64 ay]), (.agg #[.int .i64 bx, .int .i64 by'])] w (DirOut ax ay bx by' w) := by
  have GP := guard_pt
  have EP := fun w x y x' y' => eql_pt w x y x' y'
  have HN := Lib.hid (fun w' (h : dirB ax ay bx by' = false) hb => dirOut_no (w := w) (w' := w') h hb)
  have HY := Lib.hid (fun w' g (h : dirB ax ay bx by' = true) ha hg hb => dirOut_yes (w := w) (w' := w') (g := g) h ha hg hb)
  have SO := Lib.hid (fun x y W => spec_ok x y W)
  have t0 := two0 w ax ay bx by' 27
  have b0 := below2 w (.cells #[.int .i64 ax, .int .i64 ay] 27) (.cells #[.int .i64 bx, .int .i64 by'] 27)
  go_enter Try.func14, Try.ntmps14
  go_wp2_with fail
  refine (SO.out _ _ _).mono ?_
  rintro e w1 ⟨rfl, hb1⟩
  have t1 := t0.step hb1
  have b1 := below_on b0 hb1
  clear hb1 t0 b0
  cases ha : okP ax ay
  · have hd : dirB ax ay bx by' = false := by unfold dirB; rw [ha]; rfl
    go_wp2_with fail
    go_returns
    exact HN.out _ hd b1
  have c1 := t1.2.c0; have c2 := t1.2.c1
  go_wp2_with fail
  refine (SO.out _ _ _).mono ?_
  rintro e w2 ⟨rfl, hb2⟩
  have t2 := t1.step hb2
  have b2 := below_on b1 hb2
  clear hb2 t1 b1 c1 c2
  cases hb : okP bx by'
  · have hd : dirB ax ay bx by' = false := by unfold dirB; rw [ha, hb]; rfl
    go_wp2_with fail
    go_returns
    exact HN.out _ hd b2
  have c1 := t2.1.c0; have c2 := t2.1.c1; have c3 := t2.2.c0; have c4 := t2.2.c1
  cases hx : (ax == bx && ay == by')
  · have hd : dirB ax ay bx by' = true := by unfold dirB; rw [ha, hb, hx]; rfl
    have h1 := okP_bounds ha; have h2 := okP_bounds hb
    have h0 : ¬ (bx - ax = 0 ∧ by' - ay = 0) := fun e => by
      have : (ax == bx && ay == by') = true := by rw [Bool.and_eq_true, beq_iff_eq, beq_iff_eq]; omega
      rw [this] at hx; cases hx
    have HD := Lib.hid (fun W => dirS_any (bx - ax) (by' - ay) W h0 (by omega) (by omega))
    have f1 : wrap64 (bx - ax) = bx - ax := wrap_id (by omega)
    have f2 : wrap64 (by' - ay) = by' - ay := wrap_id (by omega)
    clear h1 h2 h0
    go_wp2_with fail
    refine (HD.out _).mono ?_
    rintro e w3 ⟨g, rfl, hat, hg, hb3⟩
    go_wp2_with fail
    go_returns
    exact HY.out _ g hd hat (Nat.le_trans b2.size hg) (below_on b2 hb3)
  · have hd : dirB ax ay bx by' = false := by unfold dirB; rw [ha, hb, hx]; rfl
    go_wp2_with fail
    go_returns
    exact HN.out _ hd b2
set_option maxRecDepth 100000 in
set_option maxHeartbeats 2000000 in
theorem impl_dirOf (ax ay bx by' : Int) (w : World) : Calls Try.prog 16 #[(.agg #[.int .i64 ax, .int .i64 ay]), (.agg #[.int .i64 bx, .int .i64 by'])] w (DirOut ax ay bx by' w) := by
  have GP := guard_pt
  have EP := fun w x y x' y' => eql_pt w x y x' y'
  have HN := Lib.hid (fun w' (h : dirB ax ay bx by' = false) hb => dirOut_no (w := w) (w' := w') h hb)
  have HY := Lib.hid (fun w' g (h : dirB ax ay bx by' = true) ha hg hb => dirOut_yes (w := w) (w' := w') (g := g) h ha hg hb)
  have HP := Lib.hid (pts2 w ax ay bx by')
  have HO := Lib.hid (all2 ax ay bx by')
  go_enter Try.func16, Try.ntmps16
  go_wp2_with fail
  refine (all_any _ _ [(ax, ay), (bx, by')] _ HP.out (by simp) (by simp)).mono ?_
  rintro e w1 ⟨rfl, hb1⟩
  have t1 := ((two0 w ax ay bx by' 27).alloc _).step hb1
  have b1 := below_on (below3 w _ _ _) hb1
  clear hb1 HP
  cases hok : allOk [(ax, ay), (bx, by')]
  · have hd : dirB ax ay bx by' = false := by unfold dirB; rw [← HO.out, hok]; rfl
    go_wp2_with fail
    go_returns
    exact HN.out _ hd b1
  have hok2 := HO.out.symm
  rw [hok] at hok2
  simp only [Bool.and_eq_true] at hok2
  obtain ⟨ha, hb⟩ := hok2
  have c1 := t1.1.c0; have c2 := t1.1.c1; have c3 := t1.2.c0; have c4 := t1.2.c1
  cases hx : (ax == bx && ay == by')
  · have hd : dirB ax ay bx by' = true := by unfold dirB; rw [ha, hb, hx]; rfl
    have h1 := okP_bounds ha; have h2 := okP_bounds hb
    have h0 : ¬ (bx - ax = 0 ∧ by' - ay = 0) := fun e => by
      have : (ax == bx && ay == by') = true := by rw [Bool.and_eq_true, beq_iff_eq, beq_iff_eq]; omega
      rw [this] at hx; cases hx
    have HD := Lib.hid (fun W => head_any ax ay bx by' W ha hb h0)
    unfold headV at HD
    generalize (dirP (bx - ax) (by' - ay)).1 = p at *
    generalize (dirP (bx - ax) (by' - ay)).2 = q at *
    clear h1 h2 h0
    go_wp2_with fail
    refine (HD.out _).mono ?_
    rintro e w3 ⟨rfl, hb3⟩
    have a3 := at_new w3 p q 27
    have d1 := a3.c0; have d2 := a3.c1
    have b3 := (below_on b1 hb3).alloc (Nat.le_trans b1.size hb3.size) (.cells #[.int .i64 p, .int .i64 q] 27)
    clear a3 c1 c2 c3 c4 t1
    go_wp2_with fail
    go_returns
    have an := at_new (w3.alloc (.cells #[.int .i64 p, .int .i64 q] 27)) p q 3
    rw [size_alloc] at an
    exact HY.out _ _ hd an (by have := b3.size; rwa [size_alloc] at this) (b3.alloc b3.size _)
  · have hd : dirB ax ay bx by' = false := by unfold dirB; rw [ha, hb, hx]; rfl
    go_wp2_with fail
    go_returns
    exact HN.out _ hd b1
set_option maxRecDepth 100000 in
set_option maxHeartbeats 4000000 in
theorem law_dirOf (ax ay bx by' : Int) (w : World) : Calls Try.prog 3 #[(.agg #[.int .i64 ax, .int .i64 ay]), (.agg #[.int .i64 bx, .int .i64 by'])] w fun e w' => e = .returned (.bool true) ∧ Below w.heap.size w w' := by
  have hlen := dirV_len ax ay bx by'
  have SP := Lib.hid (fun w => spec_dirOf ax ay bx by' w)
  have IM := Lib.hid (fun w => impl_dirOf ax ay bx by' w)
  unfold DirOut at SP IM
  obtain ⟨L, hL⟩ : ∃ L, L = dirV ax ay bx by' := ⟨_, rfl⟩
  rw [← hL] at hlen SP IM
  clear hL
  generalize dirB ax ay bx by' = bb at *
  have hmax : L.length ≤ 1048576 := by omega
  have HM := Lib.hid hmax; clear hmax hlen
  go_enter Try.func3, Try.ntmps3
  go_wp2_with fail
  obtain ⟨w1, t1, b1, h1⟩ : ∃ w1, Two w1 w.heap.size ax ay bx by' 23 ∧ Below w.heap.size w w1 ∧ w1 = _ := ⟨_, two0 w ax ay bx by' 23, below2 w _ _, rfl⟩
  rw [← h1]
  clear h1
  have c1 := t1.1.c0; have c2 := t1.1.c1; have c3 := t1.2.c0; have c4 := t1.2.c1
  have b1d := b1.drew
  go_region_held3 (fun w' => w'.cell? ⟨w.heap.size, 0, none⟩ = some (.int .i64 ax) ∧ w'.cell? ⟨w.heap.size, 1, none⟩ = some (.int .i64 ay) ∧ w'.cell? ⟨w.heap.size + 1, 0, none⟩ = some (.int .i64 bx) ∧ w'.cell? ⟨w.heap.size + 1, 1, none⟩ = some (.int .i64 by') ∧ Below w.heap.size w w')
    (first
      | go_keep
      | (go_split_ands
         exact ⟨cell_on hq rfl (by assumption), cell_on hq rfl (by assumption), cell_on hq rfl (by assumption), cell_on hq rfl (by assumption), below_on (by assumption) hq⟩))
    (first
      | (go_at_call 15; refine (to_any _ _ _).mono ?_; rintro e wq ⟨rfl, hq⟩)
      | (go_at_call 14; refine (SP.out _).mono ?_; rintro e wq ⟨v0, rfl, own0, hq⟩))
  rename_i hH
  obtain ⟨w2, e2⟩ : ∃ w2, w2 = wq := ⟨_, rfl⟩
  rw [← e2] at own0 hH ⊢
  clear e2 hq c1 c2 c3 c4 b1d t1 b1
  obtain ⟨c1, c2, c3, c4, b2⟩ := hH
  replace own0 := own_base own0 (Nat.zero_le _)
  go_wp2_with fail
  have b2d : Below w2.heap.size w2 w2.drew := (Below.refl _ _).drew
  have own0d := own_drew own0
  go_region_held3 (fun w' => w'.cell? ⟨w.heap.size, 0, none⟩ = some (.int .i64 ax) ∧ w'.cell? ⟨w.heap.size, 1, none⟩ = some (.int .i64 ay) ∧ w'.cell? ⟨w.heap.size + 1, 0, none⟩ = some (.int .i64 bx) ∧ w'.cell? ⟨w.heap.size + 1, 1, none⟩ = some (.int .i64 by') ∧ Below w2.heap.size w2 w' ∧ w'.ownsRow 0 3 1 v0 L.length (ints L))
    (first
      | go_keep
      | (go_split_ands
         exact ⟨cell_on hq rfl (by assumption), cell_on hq rfl (by assumption), cell_on hq rfl (by assumption), cell_on hq rfl (by assumption), below_on (by assumption) hq, own_below (by assumption) hq⟩))
    (first
      | (go_at_call 15; refine (to_any _ _ _).mono ?_; rintro e wq ⟨rfl, hq⟩)
      | (go_at_call 16; refine (IM.out _).mono ?_; rintro e wq ⟨v1, rfl, own1, hq⟩))
  rename_i wa ha wb hb hH
  replace own1 := own_base own1 (show w2.heap.size ≤ wb.heap.size from Nat.le_trans ha.size hb.size)
  obtain ⟨w3, e3⟩ : ∃ w3, w3 = wq := ⟨_, rfl⟩
  rw [← e3] at own1 hH ⊢
  clear e3 hq b2d own0d ha hb
  have hap := own0
  have a1 := c1; have a3 := c3
  clear own0 c1 c2 c3 c4
  obtain ⟨c1, c2, c3, c4, b3', own0⟩ := hH
  have hne := own_apart_g hap (Nat.le_refl _) own1
  have b3 := b2.trans (b3'.mono b2.size)
  have h1lt : ∀ k, v1.ownBlock = some k → w2.heap.size ≤ k := fun k hk => (own1.lt k hk).1
  clear hap
  obtain ⟨_, A0, d0, rfl, p0⟩ := own_ints own0
  obtain ⟨_, A1, d1, rfl, p1⟩ := own_ints own1
  go_wp2_with fail
  refine (eq_ints A1 A0 d1 d0 L w3 p1 p0 HM.out).mono ?_
  rintro e w4 ⟨rfl, hb4⟩
  replace own0 := own_below own0 hb4
  replace own1 := own_below own1 hb4
  replace b3' := below_on b3' hb4
  replace c1 := cell_on hb4 rfl c1; replace c2 := cell_on hb4 rfl c2; replace c3 := cell_on hb4 rfl c3; replace c4 := cell_on hb4 rfl c4
  clear hb4 p0 p1 b3
  go_wp2_with fail
  refine (mark_ints _ _ _ _ w4 own1 HM.out).mono ?_
  rintro e w5 ⟨rfl, own1m, hg5⟩
  replace own0 := own0.kept hg5 hne
  have la : w.heap.size < w2.heap.size := World.block_lt_of_cell? w2 _ a1
  have lb : w.heap.size + 1 < w2.heap.size := World.block_lt_of_cell? w2 _ a3
  replace c1 := hg5.cell c1 (fun e => by have : w2.heap.size ≤ w.heap.size := h1lt _ e.symm; omega)
  replace c2 := hg5.cell c2 (fun e => by have : w2.heap.size ≤ w.heap.size := h1lt _ e.symm; omega)
  replace c3 := hg5.cell c3 (fun e => by have : w2.heap.size ≤ w.heap.size + 1 := h1lt _ e.symm; omega)
  replace c4 := hg5.cell c4 (fun e => by have : w2.heap.size ≤ w.heap.size + 1 := h1lt _ e.symm; omega)
  replace b3' := b3'.grown hg5 b3'.size h1lt
  clear hg5 own1
  go_wp2_with fail
  refine (held_ints _ _ _ w5 own1m HM.out).mono ?_
  rintro e w6 ⟨rfl, rfl⟩
  go_wp2_with fail
  have b6 := b2.trans (b3'.mono b2.size)
  have b6d : Below w6.heap.size w6 w6.drew := (Below.refl _ _).drew
  have own0d := own_drew own0
  have own1d := own_drew own1m
  go_region_held3 (fun w' => w'.cell? ⟨w.heap.size, 0, none⟩ = some (.int .i64 ax) ∧ w'.cell? ⟨w.heap.size, 1, none⟩ = some (.int .i64 ay) ∧ w'.cell? ⟨w.heap.size + 1, 0, none⟩ = some (.int .i64 bx) ∧ w'.cell? ⟨w.heap.size + 1, 1, none⟩ = some (.int .i64 by') ∧ Below w6.heap.size w6 w' ∧ w'.ownsRow 0 3 1 (.slice A0 L.length d0) L.length (ints L) ∧ w'.ownsRow w2.heap.size 3 1 (.slice A1 L.length d1) L.length (marksI L.length))
    (first
      | go_keep
      | (go_split_ands
         exact ⟨cell_on hq rfl (by assumption), cell_on hq rfl (by assumption), cell_on hq rfl (by assumption), cell_on hq rfl (by assumption), below_on (by assumption) hq, own_below (by assumption) hq, own_below (by assumption) hq⟩))
    (first
      | (go_at_call 15; refine (to_any _ _ _).mono ?_; rintro e wq ⟨rfl, hq⟩)
      | (go_at_call 16; refine (IM.out _).mono ?_; rintro e wq ⟨v2, rfl, own2, hq⟩))
  rename_i hH
  obtain ⟨w7, e7⟩ : ∃ w7, w7 = wq := ⟨_, rfl⟩
  rw [← e7] at own2 hH ⊢
  clear e7 hq b6d own0d own1d own0 own1m c1 c2 c3 c4
  obtain ⟨-, -, -, -, b7, own0, own1⟩ := hH
  replace b7 := below_on b6 b7
  obtain ⟨_, A2, d2, rfl, p2⟩ := own_ints own2
  have p0 := intsA_of own0
  go_wp2_with fail
  refine (eq_ints A2 A0 d2 d0 L w7 p2 p0 HM.out).mono ?_
  rintro e w8 ⟨rfl, hb8⟩
  replace own1 := own_below own1 hb8
  have b8 := below_on b7 hb8
  clear hb8 p0 p2 own0 own2 b7
  go_wp2_with fail
  refine (held_ints _ _ _ w8 own1 HM.out).mono ?_
  rintro e w9 ⟨rfl, rfl⟩
  go_wp2_with fail
  go_ret
  exact ⟨rfl, b8⟩
end Go.Proofs.Ytbmeemmihkedoaa
