/-
  Walks for eqPointS, markPointS, heldPointS and the law of PointsOn.
-/
import Derived.Test.YthepgmpkakmcdaaLine
namespace Go.Proofs.Ythepgmpkakmcdaa
open Go.RowKit

theorem cell_on {w w' : World} {B : Nat} {a : Addr} {v : Value} (hb : Below B w w') (hB : B = w.heap.size) (h : w.cell? a = some v) : w'.cell? a = some v := by
  subst hB
  exact (hb.cell (World.block_lt_of_cell? w a h)).trans h

/-- The cells of a slice of points. -/
def PtsA (w : World) (A : Option Addr) (L : List (Int × Int)) : Prop := ∀ k (h : k < L.length), ∃ g, A = some ⟨g, 0, none⟩ ∧ w.cell? ⟨g, k * 2, none⟩ = some (.int .i64 L[k].1) ∧ w.cell? ⟨g, k * 2 + 1, none⟩ = some (.int .i64 L[k].2)
theorem flat_at (L : List (Int × Int)) : ∀ k (h : k < L.length), (flat L)[k * 2]? = some (.int .i64 L[k].1) ∧ (flat L)[k * 2 + 1]? = some (.int .i64 L[k].2) := by
  induction L with
  | nil => intro k h; simp at h
  | cons p L ih =>
    intro k h
    have e : flat (p :: L) = .int .i64 p.1 :: .int .i64 p.2 :: flat L := rfl
    rw [e]
    cases k with
    | zero => exact ⟨rfl, rfl⟩
    | succ k =>
      have := ih k (by simpa using h)
      have e1 : (k + 1) * 2 = k * 2 + 1 + 1 := by omega
      have e2 : (k + 1) * 2 + 1 = k * 2 + 1 + 1 + 1 := by omega
      rw [e2, e1]
      simpa using this
theorem own_pts {w : World} {B : Nat} {e : TypeId} {v : Value} {n : Nat} {L : List (Int × Int)} (h : w.ownsRow B e 2 v n (flat L)) :
    n = L.length ∧ ∃ A c, v = .slice A L.length c ∧ PtsA w A L := by
  have hl : L.length = n := by have := h.1; rw [flat_len] at this; omega
  refine ⟨hl.symm, ?_⟩
  subst hl
  rcases h.2 with ⟨rfl, h0⟩ | ⟨g, cap, cur, rfl, hg, hh, _⟩
  · exact ⟨none, 0, by rw [h0], fun k hk => by omega⟩
  · refine ⟨some ⟨g, 0, none⟩, cap, rfl, fun k hk => ⟨g, rfl, ?_, ?_⟩⟩
    · rw [h.cellAt (k * 2) (by omega)]; exact (flat_at L k hk).1
    · rw [h.cellAt (k * 2 + 1) (by omega)]; exact (flat_at L k hk).2
theorem ptsA_of {w : World} {B : Nat} {e : TypeId} {A : Option Addr} {n c : Nat} {L : List (Int × Int)} (h : w.ownsRow B e 2 (.slice A n c) n (flat L)) : PtsA w A L := by
  obtain ⟨_, A', c', hv, hP⟩ := own_pts h
  simp only [Value.slice.injEq] at hv
  obtain ⟨rfl, -, -⟩ := hv
  exact hP
theorem pts_lt {w : World} {B : Nat} {e : TypeId} {A : Option Addr} {n c : Nat} {xs : List Value} (h : w.ownsRow B e 2 (.slice A n c) n xs) : ∀ g, A = some ⟨g, 0, none⟩ → g < w.heap.size := fun g hA => (h.lt g (by rw [hA]; rfl)).2
theorem ptsA_on {w w' : World} {A : Option Addr} {L : List (Int × Int)} (h : PtsA w A L) (hb : Below w.heap.size w w') : PtsA w' A L := fun k hk => by
  obtain ⟨g, hA, h1, h2⟩ := h k hk
  exact ⟨g, hA, cell_on hb rfl h1, cell_on hb rfl h2⟩

set_option maxHeartbeats 800000 in
theorem eq_pts (A1 A2 : Option Addr) (c1 c2 : Nat) (L : List (Int × Int)) (w : World) (h1 : PtsA w A1 L) (h2 : PtsA w A2 L) (hL : L.length ≤ 1048576) :
    Calls Try.prog 31 #[.slice A1 L.length c1, .slice A2 L.length c2] w fun e w' => e = .returned (.bool true) ∧ Below w.heap.size w w' := by
  have H1 := Lib.hid h1; clear h1
  have H2 := Lib.hid h2; clear h2
  go_enter Try.func31, Try.ntmps31
  go_wp2_with fail
  go_loopw [5] (fun i w' => ∃ k : Nat, k ≤ L.length ∧ i = .int .i64 k ∧ Below w.heap.size w w') (fun i _ => L.length - (intOf i).toNat)
  case atStart => exact ⟨0, Nat.zero_le _, rfl, Below.refl _ _⟩
  case round =>
    obtain ⟨wo, rfl⟩ : ∃ wo : World, wo = wr := ⟨_, rfl⟩
    obtain ⟨k, hk, rfl, hb⟩ := hrel
    by_cases hlt : k < L.length
    · obtain ⟨g1, rfl, hc1, hd1⟩ := ptsA_on H1.out hb k hlt
      obtain ⟨g2, rfl, hc2, hd2⟩ := ptsA_on H2.out hb k hlt
      obtain ⟨x, hx⟩ : ∃ x, x = L[k].1 := ⟨_, rfl⟩
      obtain ⟨y, hy⟩ : ∃ y, y = L[k].2 := ⟨_, rfl⟩
      rw [← hx] at hc1 hc2
      rw [← hy] at hd1 hd2
      clear hx hy
      have HQ := Lib.hid (fun d os => Calls.regrown_of (w := wo) (d := d) (os := os) (eqPt_any x y x y _))
      have k1 := cell_regrown hc1; have k2 := cell_regrown hd1; have k3 := cell_regrown hc2; have k4 := cell_regrown hd2
      go_wp2_with fail
      refine wp_region_quiet_below (by kernel_rfl) (by kernel_rfl) ?_
      repeat (first
        | go_big_quiet_step (first | exact Calls.regrown_of (eqPt_any _ _ _ _ _))
        | quiet_step (first | exact Calls.regrown_of (eqPt_any _ _ _ _ _)))
      refine wpQuiet_nil ?_
      rintro _ ⟨⟨dq, osq⟩, rfl⟩
      have hb2 := hb.trans ((below_regrown wo dq osq).mono hb.size)
      clear hc1 hd1 hc2 hd2 k1 k2 k3 k4
      simp only at *
      generalize Go.Sort.grow (redrawn wo dq) osq = w2 at *
      go_wp2_with fail
      go_roundw
      case rel => exact ⟨k + 1, by omega, by go_num, hb2⟩
      case measure => simp [intOf]; omega
    · go_wp2_with fail
      go_ret
      exact ⟨rfl, hb⟩
/-- The marks 1, 2 .. m. -/
def marksI (m : Nat) : List Value := (List.range m).map fun (j : Nat) => .int .i64 (1 + (j : Int))
theorem marksI_len (m : Nat) : (marksI m).length = m := by simp [marksI]
theorem marksI_step {j : Nat} {xs : List Value} (hj : j < xs.length) : (marksI j ++ xs.drop j).set j (.int .i64 (1 + (j : Int))) = marksI (j + 1) ++ xs.drop (j + 1) := by
  have h1 := marksI_len j
  rw [List.set_append_right _ _ (by rw [h1]; exact Nat.le_refl _), h1, Nat.sub_self, List.drop_eq_getElem_cons hj, List.set_cons_zero]
  simp [marksI, List.range_succ]
theorem only_set {w w1 : World} {g : Nat} (h : w.grownBy w1 (some g)) (j : Nat) (u : Value) : w.grownBy (w1.setCell ⟨g, j, none⟩ u) (some g) :=
  ⟨h.os, h.tape, h.output, by simpa [World.setCell] using h.size, fun k hk hr => (Below.heap_setCell w1 ⟨g, j, none⟩ u k (by
    intro e; exact hr (by rw [e]))).trans (h.block k hk hr)⟩
theorem cell_some {w : World} {B : Nat} {e : TypeId} {g n cap : Nat} {xs : List Value} (h : w.ownsRow B e 2 (.slice (some ⟨g, 0, none⟩) n cap) n xs) (j : Nat) (hj : j < n * 2) : ∃ u, w.cell? ⟨g, j, none⟩ = some u := by
  rw [h.cellAt j hj]
  have : j < xs.length := by rw [h.1]; exact hj
  exact ⟨_, List.getElem?_eq_getElem this⟩

set_option maxHeartbeats 800000 in
/-- Every number of an owned slice of points is overwritten by its mark. -/
theorem mark_pts (B : Nat) (v : Value) (n : Nat) (xs : List Value) (w : World) (hown : w.ownsRow B 24 2 v n xs) (hn : n ≤ 1048576) :
    Calls Try.prog 32 #[v, .int .i64 1] w fun e w' => e = .returned (.int .i64 (1 + 2 * n)) ∧ w'.ownsRow B 24 2 v n (marksI (n * 2)) ∧ w.grownBy w' v.ownBlock := by
  have hl : xs.length = n * 2 := hown.1
  rcases hown.2 with ⟨rfl, rfl⟩ | ⟨g, cap, cur, rfl, _⟩
  · go_enter Try.func32, Try.ntmps32
    go_wp2_with fail
    refine wp_loop_rounds 1 ?_
    rw [rounds_succ]
    go_wp2_with fail
    go_ret
    exact ⟨rfl, World.ownsRow_nil _ _ _ _, World.grownBy.refl _ _⟩
  · go_enter Try.func32, Try.ntmps32
    go_wp2_with fail
    go_loopw [1, 5] (fun m i wr => ∃ k : Nat, k ≤ n ∧ i = .int .i64 k ∧ m = .int .i64 (1 + 2 * k) ∧ wr.ownsRow B 24 2 (.slice (some ⟨g, 0, none⟩) n cap) n (marksI (k * 2) ++ xs.drop (k * 2)) ∧ w.grownBy wr (some g)) (fun _ i _ => n - (intOf i).toNat)
    case atStart => exact ⟨0, Nat.zero_le _, rfl, rfl, by simpa [marksI] using hown, World.grownBy.refl _ _⟩
    case round =>
      obtain ⟨k, hk, rfl, rfl, hown', hgr⟩ := hrel
      by_cases hlt : k < n
      · obtain ⟨u1, hc1⟩ := cell_some hown' (k * 2) (by omega)
        have hf1 := hown'.frozenAt (k * 2)
        have hs1 := (hown'.stored (k * 2) (.int .i64 (1 + 2 * (k : Int)))).1
        have e1 : (1 : Int) + 2 * (k : Int) = 1 + ((k * 2 : Nat) : Int) := by omega
        have hs2 := hs1
        rw [e1, marksI_step (by omega)] at hs2
        rw [← e1] at hs2
        have hg2 := only_set hgr (k * 2) (.int .i64 (1 + 2 * (k : Int)))
        obtain ⟨u2, hc2⟩ := cell_some hs2 (k * 2 + 1) (by omega)
        have hf2 := hs2.frozenAt (k * 2 + 1)
        have hs3 := (hs2.stored (k * 2 + 1) (.int .i64 (1 + 2 * (k : Int) + 1))).1
        have e2 : (1 : Int) + 2 * (k : Int) + 1 = 1 + ((k * 2 + 1 : Nat) : Int) := by omega
        have hs4 := hs3
        rw [e2, marksI_step (by omega)] at hs4
        rw [← e2] at hs4
        have hg4 := only_set hg2 (k * 2 + 1) (.int .i64 (1 + 2 * (k : Int) + 1))
        have R := Lib.hid (And.intro hs4 hg4)
        clear hs1 hs2 hs3 hs4 hg2 hg4 hown' hgr hown e1 e2
        go_wp2_with fail
        go_roundw
        case rel => exact ⟨k + 1, by omega, by go_num, by go_num, by rw [show (k + 1) * 2 = k * 2 + 1 + 1 from by omega]; exact R.out.1, R.out.2⟩
        case measure => simp [intOf]; omega
      · obtain rfl : k = n := by omega
        rw [List.drop_of_length_le (by omega), List.append_nil] at hown'
        have R := Lib.hid hown'
        clear hown' hown
        go_wp2_with fail
        go_ret
        exact ⟨rfl, R.out, hgr⟩
set_option maxHeartbeats 800000 in
/-- The marks are still there. -/
theorem held_pts (B : Nat) (v : Value) (n : Nat) (w : World) (hown : w.ownsRow B 24 2 v n (marksI (n * 2))) (hn : n ≤ 1048576) :
    Calls Try.prog 33 #[v, .int .i64 1] w fun e w' => e = .returned (.int .i64 (1 + 2 * n)) ∧ w' = w := by
  have hM : ∀ j, j < n * 2 → (marksI (n * 2))[j]? = some (.int .i64 (1 + (j : Int))) := fun j hj => by simp [marksI, hj]
  rcases hown.2 with ⟨rfl, rfl⟩ | ⟨g, cap, cur, rfl, _⟩
  · clear hM
    go_enter Try.func33, Try.ntmps33
    go_wp2_with fail
    refine wp_loop_rounds 1 ?_
    rw [rounds_succ]
    go_wp2_with fail
    go_ret
    exact ⟨rfl, rfl⟩
  · have HC : Hid (∀ j, j < n * 2 → w.cell? ⟨g, j, none⟩ = some (.int .i64 (1 + (j : Int)))) := fun j hj => (hown.cellAt j hj).trans (hM j hj)
    clear hM hown
    go_enter Try.func33, Try.ntmps33
    go_wp2_with fail
    go_loopw [1, 5] (fun m i wr => ∃ k : Nat, k ≤ n ∧ i = .int .i64 k ∧ m = .int .i64 (1 + 2 * k) ∧ wr = w) (fun _ i _ => n - (intOf i).toNat)
    case atStart => exact ⟨0, Nat.zero_le _, rfl, rfl, rfl⟩
    case round =>
      obtain ⟨k, hk, rfl, rfl, rfl⟩ := hrel
      by_cases hlt : k < n
      · have hc1 := HC.out (k * 2) (by omega)
        have hc2 := HC.out (k * 2 + 1) (by omega)
        have e1 : (1 : Int) + ((k * 2 : Nat) : Int) = 1 + 2 * (k : Int) := by omega
        have e2 : (1 : Int) + ((k * 2 + 1 : Nat) : Int) = 1 + 2 * (k : Int) + 1 := by omega
        rw [e1] at hc1
        rw [e2] at hc2
        clear e1 e2
        go_wp2_with fail
        go_roundw
        case rel => exact ⟨k + 1, by omega, by go_num, by go_num, by first | trivial | rfl⟩
        case measure => simp [intOf]; omega
      · obtain rfl : k = n := by omega
        go_wp2_with fail
        go_ret
        exact ⟨rfl, rfl⟩
theorem lineV_len (ax ay bx by' : Int) : (lineV ax ay bx by').length ≤ 41 := by
  unfold lineV
  cases ha : okP ax ay <;> cases hb : okP bx by'
  · simp
  · simp
  · simp
  · have h1 := okP_bounds ha; have h2 := okP_bounds hb
    have : stepsN ax ay bx by' ≤ 40 := gcd_le (by omega) (by omega)
    simp [lineL_len]; omega
theorem own_apart {w w1 : World} {B0 B1 : Nat} {e : TypeId} {v0 v1 : Value} {n0 n1 : Nat} {xs0 xs1 : List Value} (h0 : w.ownsRow B0 e 2 v0 n0 xs0) (hB : w.heap.size ≤ B1) (h1 : w1.ownsRow B1 e 2 v1 n1 xs1) : v0.ownBlock = none ∨ v0.ownBlock ≠ v1.ownBlock := by
  cases hv : v0.ownBlock with
  | none => exact .inl rfl
  | some k =>
    refine .inr fun he => ?_
    have a1 := (h0.lt k hv).2
    have a2 := (h1.lt k he.symm).1
    omega
theorem own_drew {w : World} {B : Nat} {e : TypeId} {size : Nat} {v : Value} {n : Nat} {xs : List Value} (h : w.ownsRow B e size v n xs) : w.drew.ownsRow B e size v n xs := h

set_option maxHeartbeats 4000000 in
theorem law_line (ax ay bx by' : Int) (w : World) : Calls Try.prog 10 #[(.agg #[.int .i64 ax, .int .i64 ay]), (.agg #[.int .i64 bx, .int .i64 by'])] w fun e w' => e = .returned (.bool true) ∧ Below w.heap.size w w' := by
  have hlen := lineV_len ax ay bx by'
  have SP := Lib.hid (fun w => spec_line ax ay bx by' w)
  have IM := Lib.hid (fun w => impl_line ax ay bx by' w)
  unfold LineOut at SP IM
  obtain ⟨L, hL⟩ : ∃ L, L = lineV ax ay bx by' := ⟨_, rfl⟩
  rw [← hL] at hlen SP IM
  clear hL
  have hmax : L.length ≤ 1048576 := by omega
  have HM := Lib.hid hmax; clear hmax hlen
  go_enter Try.func10, Try.ntmps10
  go_wp2_with fail
  obtain ⟨w1, t1, b1, h1⟩ : ∃ w1, Two w1 w.heap.size ax ay bx by' 35 ∧ Below w.heap.size w w1 ∧ w1 = _ := ⟨_, two0 w ax ay bx by' 35, below2 w _ _, rfl⟩
  rw [← h1]
  clear h1
  have c1 := t1.1.c0; have c2 := t1.1.c1; have c3 := t1.2.c0; have c4 := t1.2.c1
  have b1d := b1.drew
  go_region_held3 (fun w' => w'.cell? ⟨w.heap.size, 0, none⟩ = some (.int .i64 ax) ∧ w'.cell? ⟨w.heap.size, 1, none⟩ = some (.int .i64 ay) ∧ w'.cell? ⟨w.heap.size + 1, 0, none⟩ = some (.int .i64 bx) ∧ w'.cell? ⟨w.heap.size + 1, 1, none⟩ = some (.int .i64 by') ∧ Below w.heap.size w w')
    (first
      | go_keep
      | (go_split_ands
         exact ⟨cell_on hq rfl (by assumption), cell_on hq rfl (by assumption), cell_on hq rfl (by assumption), cell_on hq rfl (by assumption), below_on (by assumption) hq⟩))
    (first
      | (go_at_call 24; refine (to_any _ _ _).mono ?_; rintro e wq ⟨rfl, hq⟩)
      | (go_at_call 30; refine (SP.out _).mono ?_; rintro e wq ⟨v0, rfl, own0, hq⟩))
  rename_i hH
  obtain ⟨w2, e2⟩ : ∃ w2, w2 = wq := ⟨_, rfl⟩
  rw [← e2] at own0 hH ⊢
  clear e2 hq c1 c2 c3 c4 b1d t1 b1
  obtain ⟨c1, c2, c3, c4, b2⟩ := hH
  replace own0 := own_base own0 (Nat.zero_le _)
  go_wp2_with fail
  have b2d : Below w2.heap.size w2 w2.drew := (Below.refl _ _).drew
  have own0d := own_drew own0
  go_region_held3 (fun w' => w'.cell? ⟨w.heap.size, 0, none⟩ = some (.int .i64 ax) ∧ w'.cell? ⟨w.heap.size, 1, none⟩ = some (.int .i64 ay) ∧ w'.cell? ⟨w.heap.size + 1, 0, none⟩ = some (.int .i64 bx) ∧ w'.cell? ⟨w.heap.size + 1, 1, none⟩ = some (.int .i64 by') ∧ Below w2.heap.size w2 w' ∧ w'.ownsRow 0 24 2 v0 L.length (flat L))
    (first
      | go_keep
      | (go_split_ands
         exact ⟨cell_on hq rfl (by assumption), cell_on hq rfl (by assumption), cell_on hq rfl (by assumption), cell_on hq rfl (by assumption), below_on (by assumption) hq, own_below (by assumption) hq⟩))
    (first
      | (go_at_call 24; refine (to_any _ _ _).mono ?_; rintro e wq ⟨rfl, hq⟩)
      | (go_at_call 15; refine (IM.out _).mono ?_; rintro e wq ⟨v1, rfl, own1, hq⟩))
  rename_i wa ha wb hb hH
  replace own1 := own_base own1 (show w2.heap.size ≤ wb.heap.size from Nat.le_trans ha.size hb.size)
  obtain ⟨w3, e3⟩ : ∃ w3, w3 = wq := ⟨_, rfl⟩
  rw [← e3] at own1 hH ⊢
  clear e3 hq b2d own0d ha hb
  have hap := own0
  have a1 := c1; have a3 := c3
  clear own0 c1 c2 c3 c4
  obtain ⟨c1, c2, c3, c4, b3', own0⟩ := hH
  have hne := own_apart hap (Nat.le_refl _) own1
  have b3 := b2.trans (b3'.mono b2.size)
  have h1lt : ∀ k, v1.ownBlock = some k → w2.heap.size ≤ k := fun k hk => (own1.lt k hk).1
  clear hap
  obtain ⟨_, A0, d0, rfl, p0⟩ := own_pts own0
  obtain ⟨_, A1, d1, rfl, p1⟩ := own_pts own1
  go_wp2_with fail
  refine (eq_pts A1 A0 d1 d0 L w3 p1 p0 HM.out).mono ?_
  rintro e w4 ⟨rfl, hb4⟩
  replace own0 := own_below own0 hb4
  replace own1 := own_below own1 hb4
  replace b3' := below_on b3' hb4
  replace c1 := cell_on hb4 rfl c1; replace c2 := cell_on hb4 rfl c2; replace c3 := cell_on hb4 rfl c3; replace c4 := cell_on hb4 rfl c4
  clear hb4 p0 p1 b3
  go_wp2_with fail
  refine (mark_pts _ _ _ _ w4 own1 HM.out).mono ?_
  rintro e w5 ⟨rfl, own1m, hg5⟩
  replace own0 := own0.kept hg5 hne
  have la : w.heap.size < w2.heap.size := World.block_lt_of_cell? w2 _ a1
  have lb : w.heap.size + 1 < w2.heap.size := World.block_lt_of_cell? w2 _ a3
  replace c1 := hg5.cell c1 (fun e => by have : w2.heap.size ≤ w.heap.size := h1lt _ e.symm; omega)
  replace c2 := hg5.cell c2 (fun e => by have : w2.heap.size ≤ w.heap.size := h1lt _ e.symm; omega)
  replace c3 := hg5.cell c3 (fun e => by have : w2.heap.size ≤ w.heap.size + 1 := h1lt _ e.symm; omega)
  replace c4 := hg5.cell c4 (fun e => by have : w2.heap.size ≤ w.heap.size + 1 := h1lt _ e.symm; omega)
  replace b3' := b3'.grown hg5 b3'.size h1lt
  clear hg5 own1
  go_wp2_with fail
  refine (held_pts _ _ _ w5 own1m HM.out).mono ?_
  rintro e w6 ⟨rfl, rfl⟩
  go_wp2_with fail
  have b6 := b2.trans (b3'.mono b2.size)
  have b6d : Below w6.heap.size w6 w6.drew := (Below.refl _ _).drew
  have own0d := own_drew own0
  have own1d := own_drew own1m
  go_region_held3 (fun w' => w'.cell? ⟨w.heap.size, 0, none⟩ = some (.int .i64 ax) ∧ w'.cell? ⟨w.heap.size, 1, none⟩ = some (.int .i64 ay) ∧ w'.cell? ⟨w.heap.size + 1, 0, none⟩ = some (.int .i64 bx) ∧ w'.cell? ⟨w.heap.size + 1, 1, none⟩ = some (.int .i64 by') ∧ Below w6.heap.size w6 w' ∧ w'.ownsRow 0 24 2 (.slice A0 L.length d0) L.length (flat L) ∧ w'.ownsRow w2.heap.size 24 2 (.slice A1 L.length d1) L.length (marksI (L.length * 2)))
    (first
      | go_keep
      | (go_split_ands
         exact ⟨cell_on hq rfl (by assumption), cell_on hq rfl (by assumption), cell_on hq rfl (by assumption), cell_on hq rfl (by assumption), below_on (by assumption) hq, own_below (by assumption) hq, own_below (by assumption) hq⟩))
    (first
      | (go_at_call 24; refine (to_any _ _ _).mono ?_; rintro e wq ⟨rfl, hq⟩)
      | (go_at_call 15; refine (IM.out _).mono ?_; rintro e wq ⟨v2, rfl, own2, hq⟩))
  rename_i hH
  obtain ⟨w7, e7⟩ : ∃ w7, w7 = wq := ⟨_, rfl⟩
  rw [← e7] at own2 hH ⊢
  clear e7 hq b6d own0d own1d own0 own1m c1 c2 c3 c4
  obtain ⟨-, -, -, -, b7, own0, own1⟩ := hH
  replace b7 := below_on b6 b7
  obtain ⟨_, A2, d2, rfl, p2⟩ := own_pts own2
  have p0 := ptsA_of own0
  go_wp2_with fail
  refine (eq_pts A2 A0 d2 d0 L w7 p2 p0 HM.out).mono ?_
  rintro e w8 ⟨rfl, hb8⟩
  replace own1 := own_below own1 hb8
  have b8 := below_on b7 hb8
  clear hb8 p0 p2 own0 own2 b7
  go_wp2_with fail
  refine (held_pts _ _ _ w8 own1 HM.out).mono ?_
  rintro e w9 ⟨rfl, rfl⟩
  go_wp2_with fail
  go_ret
  exact ⟨rfl, b8⟩
end Go.Proofs.Ythepgmpkakmcdaa
