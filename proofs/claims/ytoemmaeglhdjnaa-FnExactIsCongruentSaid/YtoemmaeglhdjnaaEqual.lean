/-
  Walks for l03Equal, slices.Equal and slices.Index on points.
-/
import Derived.Test.YtoemmaeglhdjnaaStart
namespace Go.Proofs.Ytoemmaeglhdjnaa
open Go.RowKit

theorem take_step {L M : List (Int × Int)} {k : Nat} (h1 : k < L.length) (h2 : k < M.length) (h : L.take k = M.take k) (he : gt L k = gt M k) : L.take (k + 1) = M.take (k + 1) := by
  rw [List.take_succ_eq_append_getElem h1, List.take_succ_eq_append_getElem h2, h]
  rw [gt_at h1, gt_at h2] at he
  rw [he]
theorem ne_at {L M : List (Int × Int)} {k : Nat} (he : gt L k ≠ gt M k) : L ≠ M := fun h => he (by rw [h])
set_option maxRecDepth 100000 in
set_option maxHeartbeats 1000000 in
theorem sEq_any (A B : Option Addr) (c d : Nat) (L M : List (Int × Int)) (w : World) (hA : PtsA w A L) (hB : PtsA w B M) (h1 : L.length ≤ 1048576) (h2 : M.length ≤ 1048576) :
    Calls Try.prog 83 #[.slice A L.length c, .slice B M.length d] w fun e w' => e = .returned (.bool (decide (L = M))) ∧ Below w.heap.size w w' := by
  have HA := Lib.hid hA
  have HB := Lib.hid hB
  clear hA hB
  by_cases hl : L.length = M.length
  · have hl1 : (L.length : Int) = (M.length : Int) := by omega
    have HL := Lib.hid hl
    obtain ⟨n, hn⟩ : ∃ n, n = L.length := ⟨_, rfl⟩
    have HN := Lib.hid hn
    have hm : M.length = n := by omega
    rw [hm, ← hn]
    rw [hm] at h2
    clear hl hl1 hn hm h1
    go_enter Try.func83, Try.ntmps83
    go_wp2_with fail
    go_loopw [14] (fun i wr => ∃ k : Nat, k ≤ n ∧ i = .int .i64 k ∧ Hid (L.take k = M.take k) ∧ Below w.heap.size w wr) (fun i _ => n - (intOf i).toNat)
    case atStart => exact ⟨0, Nat.zero_le _, rfl, rfl, Below.refl _ _⟩
    case round =>
      obtain ⟨wo, rfl⟩ : ∃ wo : World, wo = wr := ⟨_, rfl⟩
      obtain ⟨k, hk, rfl, HK, hb⟩ := hrel
      by_cases hlt : k < n
      · have hkL : k < L.length := by have := HN.out; omega
        have hkM : k < M.length := by have := HN.out; have := HL.out; omega
        obtain ⟨g1, rfl, -⟩ := HA.out k hkL
        obtain ⟨g2, rfl, -⟩ := HB.out k hkM
        obtain ⟨c1, c2⟩ := gt_cells (ptsA_on HA.out hb) hkL
        obtain ⟨c3, c4⟩ := gt_cells (ptsA_on HB.out hb) hkM
        have GP := guard_pt
        have EP := fun w x y x' y' => neq_pt w x y x' y'
        obtain ⟨x, hx⟩ : ∃ x, x = (gt L k).1 := ⟨_, rfl⟩
        obtain ⟨y, hy⟩ : ∃ y, y = (gt L k).2 := ⟨_, rfl⟩
        obtain ⟨x', hx'⟩ : ∃ x', x' = (gt M k).1 := ⟨_, rfl⟩
        obtain ⟨y', hy'⟩ : ∃ y', y' = (gt M k).2 := ⟨_, rfl⟩
        have HX : Hid ((gt L k = (x, y)) ∧ (gt M k = (x', y'))) := ⟨by rw [hx, hy], by rw [hx', hy']⟩
        rw [← hx] at c1; rw [← hy] at c2; rw [← hx'] at c3; rw [← hy'] at c4
        clear hx hy hx' hy'
        have hal := below1 wo (.cells #[.int .i64 x, .int .i64 y] 56)
        have d3 := cell_on hal rfl c3; have d4 := cell_on hal rfl c4
        have n1 := at_new wo x y 56
        have d1 := n1.c0; have d2 := n1.c1
        have k1 := cell_regrown d1; have k2 := cell_regrown d2; have k3 := cell_regrown d3; have k4 := cell_regrown d4
        have b2 := hb.trans (hal.mono hb.size)
        have hki : (k : Int) < (n : Int) := by omega
        cases he : (x == x' && y == y')
        · have HD : Hid (decide (L = M) = false) := decide_eq_false (ne_at (k := k) (by
            rw [HX.out.1, HX.out.2]
            intro e
            simp only [Prod.mk.injEq] at e
            rw [e.1, e.2] at he; simp at he))
          go_wp2_with fail
          refine wp_region_quiet_below (by kernel_rfl) (by kernel_rfl) ?_
          repeat (first
            | go_big_quiet_step (fail)
            | quiet_step (fail))
          refine wpQuiet_nil ?_
          rintro _ ⟨⟨dq, osq⟩, rfl⟩
          have b3 := b2.trans ((below_regrown _ dq osq).mono b2.size)
          clear k1 k2 k3 k4 d1 d2 d3 d4 c1 c2 c3 c4 n1 hal
          go_wp2_with fail
          go_ret
          exact ⟨ret_bool HD.out.symm, b3⟩
        · have HT : Hid (L.take (k + 1) = M.take (k + 1)) := take_step hkL hkM HK.out (by
            rw [HX.out.1, HX.out.2]
            simp only [Bool.and_eq_true, beq_iff_eq] at he
            rw [he.1, he.2])
          go_wp2_with fail
          refine wp_region_quiet_below (by kernel_rfl) (by kernel_rfl) ?_
          repeat (first
            | go_big_quiet_step (fail)
            | quiet_step (fail))
          refine wpQuiet_nil ?_
          rintro _ ⟨⟨dq, osq⟩, rfl⟩
          have b3 := b2.trans ((below_regrown _ dq osq).mono b2.size)
          clear k1 k2 k3 k4 d1 d2 d3 d4 c1 c2 c3 c4 n1 hal
          go_wp2_with fail
          go_roundw
          case rel => exact ⟨k + 1, by omega, by go_num, HT, b3⟩
          case measure => simp [intOf]; omega
      · obtain rfl : k = n := by omega
        have HD : Hid (decide (L = M) = true) := decide_eq_true (by
          have h3 := HK.out
          rw [List.take_of_length_le (by have := HN.out; omega), List.take_of_length_le (by have := HN.out; have := HL.out; omega)] at h3
          exact h3)
        go_wp2_with fail
        go_ret
        exact ⟨ret_bool HD.out.symm, hb⟩
  · have HD : Hid (decide (L = M) = false) := decide_eq_false (fun h => hl (by rw [h]))
    have hl1 : ((L.length : Int) != (M.length : Int)) = true := by simp; omega
    go_enter Try.func83, Try.ntmps83
    go_wp2_with fail
    go_ret
    exact ⟨ret_bool HD.out.symm, Below.refl _ _⟩
set_option maxRecDepth 100000 in
set_option maxHeartbeats 1000000 in
theorem iEq_any (A B : Option Addr) (c d : Nat) (L M : List (Int × Int)) (w : World) (hA : PtsA w A L) (hB : PtsA w B M) (h1 : L.length ≤ 1048576) (h2 : M.length ≤ 1048576) :
    Calls Try.prog 84 #[.slice A L.length c, .slice B M.length d] w fun e w' => e = .returned (.bool (decide (L = M))) ∧ Below w.heap.size w w' := by
  have HA := Lib.hid hA
  have HB := Lib.hid hB
  clear hA hB
  by_cases hl : L.length = M.length
  · have hl1 : (L.length : Int) = (M.length : Int) := by omega
    have HL := Lib.hid hl
    obtain ⟨n, hn⟩ : ∃ n, n = L.length := ⟨_, rfl⟩
    have HN := Lib.hid hn
    have hm : M.length = n := by omega
    rw [hm, ← hn]
    rw [hm] at h2
    clear hl hl1 hn hm h1
    go_enter Try.func84, Try.ntmps84
    go_wp2_with fail
    go_loopw [13] (fun i wr => ∃ k : Nat, k ≤ n ∧ i = .int .i64 k ∧ Hid (L.take k = M.take k) ∧ Below w.heap.size w wr) (fun i _ => n - (intOf i).toNat)
    case atStart => exact ⟨0, Nat.zero_le _, rfl, rfl, Below.refl _ _⟩
    case round =>
      obtain ⟨wo, rfl⟩ : ∃ wo : World, wo = wr := ⟨_, rfl⟩
      obtain ⟨k, hk, rfl, HK, hb⟩ := hrel
      by_cases hlt : k < n
      · have hkL : k < L.length := by have := HN.out; omega
        have hkM : k < M.length := by have := HN.out; have := HL.out; omega
        obtain ⟨g1, rfl, -⟩ := HA.out k hkL
        obtain ⟨g2, rfl, -⟩ := HB.out k hkM
        obtain ⟨c1, c2⟩ := gt_cells (ptsA_on HA.out hb) hkL
        obtain ⟨c3, c4⟩ := gt_cells (ptsA_on HB.out hb) hkM
        have GP := guard_pt
        have EP := fun w x y x' y' => neq_pt w x y x' y'
        obtain ⟨x, hx⟩ : ∃ x, x = (gt L k).1 := ⟨_, rfl⟩
        obtain ⟨y, hy⟩ : ∃ y, y = (gt L k).2 := ⟨_, rfl⟩
        obtain ⟨x', hx'⟩ : ∃ x', x' = (gt M k).1 := ⟨_, rfl⟩
        obtain ⟨y', hy'⟩ : ∃ y', y' = (gt M k).2 := ⟨_, rfl⟩
        have HX : Hid ((gt L k = (x, y)) ∧ (gt M k = (x', y'))) := ⟨by rw [hx, hy], by rw [hx', hy']⟩
        rw [← hx] at c1; rw [← hy] at c2; rw [← hx'] at c3; rw [← hy'] at c4
        clear hx hy hx' hy'
        have k1 := cell_regrown c1; have k2 := cell_regrown c2; have k3 := cell_regrown c3; have k4 := cell_regrown c4
        have hki : (k : Int) < (n : Int) := by omega
        cases he : (x == x' && y == y')
        · have HD : Hid (decide (L = M) = false) := decide_eq_false (ne_at (k := k) (by
            rw [HX.out.1, HX.out.2]
            intro e
            simp only [Prod.mk.injEq] at e
            rw [e.1, e.2] at he; simp at he))
          go_wp2_with fail
          refine wp_region_quiet_below (by kernel_rfl) (by kernel_rfl) ?_
          repeat (first
            | go_big_quiet_step (fail)
            | quiet_step (fail))
          refine wpQuiet_nil ?_
          rintro _ ⟨⟨dq, osq⟩, rfl⟩
          have b3 := hb.trans ((below_regrown _ dq osq).mono hb.size)
          clear k1 k2 k3 k4 c1 c2 c3 c4
          go_wp2_with fail
          go_ret
          exact ⟨ret_bool HD.out.symm, b3⟩
        · have HT : Hid (L.take (k + 1) = M.take (k + 1)) := take_step hkL hkM HK.out (by
            rw [HX.out.1, HX.out.2]
            simp only [Bool.and_eq_true, beq_iff_eq] at he
            rw [he.1, he.2])
          go_wp2_with fail
          refine wp_region_quiet_below (by kernel_rfl) (by kernel_rfl) ?_
          repeat (first
            | go_big_quiet_step (fail)
            | quiet_step (fail))
          refine wpQuiet_nil ?_
          rintro _ ⟨⟨dq, osq⟩, rfl⟩
          have b3 := hb.trans ((below_regrown _ dq osq).mono hb.size)
          clear k1 k2 k3 k4 c1 c2 c3 c4
          go_wp2_with fail
          go_roundw
          case rel => exact ⟨k + 1, by omega, by go_num, HT, b3⟩
          case measure => simp [intOf]; omega
      · obtain rfl : k = n := by omega
        have HD : Hid (decide (L = M) = true) := decide_eq_true (by
          have h3 := HK.out
          rw [List.take_of_length_le (by have := HN.out; omega), List.take_of_length_le (by have := HN.out; have := HL.out; omega)] at h3
          exact h3)
        go_wp2_with fail
        go_ret
        exact ⟨ret_bool HD.out.symm, hb⟩
  · have HD : Hid (decide (L = M) = false) := decide_eq_false (fun h => hl (by rw [h]))
    have hl1 : ((L.length : Int) != (M.length : Int)) = true := by simp; omega
    go_enter Try.func84, Try.ntmps84
    go_wp2_with fail
    go_ret
    exact ⟨ret_bool HD.out.symm, Below.refl _ _⟩
def IdxAt (L : List (Int × Int)) (p : Int × Int) (z : Int) : Prop := (z = -1 ∧ p ∉ L) ∨ ∃ k : Nat, k < L.length ∧ z = k ∧ gt L k = p
set_option maxRecDepth 100000 in
set_option maxHeartbeats 1000000 in
theorem idx_any (A : Option Addr) (c : Nat) (L : List (Int × Int)) (x y : Int) (w : World) (hP : PtsA w A L) (hL : L.length ≤ 1048576) :
    Calls Try.prog 77 #[.slice A L.length c, (.agg #[.int .i64 x, .int .i64 y])] w fun e w' => (∃ z : Int, e = .returned (.int .i64 z) ∧ IdxAt L (x, y) z) ∧ Below w.heap.size w w' := by
  have HP := Lib.hid (ptsA_on hP ((Below.refl w.heap.size w).alloc (Nat.le_refl _) (.cells #[.int .i64 x, .int .i64 y] 56))); clear hP
  have HID : Hid (∀ z, IdxAt L (x, y) z ↔ ((z = -1 ∧ (x, y) ∉ L) ∨ ∃ k : Nat, k < L.length ∧ z = k ∧ gt L k = (x, y))) := fun _ => Iff.rfl
  have t1 := at_new w x y 56
  go_enter Try.func77, Try.ntmps77
  go_wp2_with fail
  have b1 := below1 w (.cells #[.int .i64 x, .int .i64 y] 56)
  generalize w.alloc (.cells #[.int .i64 x, .int .i64 y] 56) = w1 at *
  have c1 := t1.c0; have c2 := t1.c1
  go_loopw [5, 8] (fun _ i w' => ∃ (k d : Nat), k ≤ L.length ∧ i = .int .i64 k ∧ w' = w1.drewN d ∧ Hid (∀ j, j < k → gt L j ≠ (x, y))) (fun _ i _ => L.length - (intOf i).toNat)
  case atStart => exact ⟨0, 0, Nat.zero_le _, rfl, rfl, fun j hj => by omega⟩
  case round =>
    obtain ⟨k, d, hk, rfl, rfl, HN⟩ := hrel
    by_cases hlt : k < L.length
    · obtain ⟨g1, rfl, -⟩ := HP.out k hlt
      obtain ⟨hc1, hd1⟩ := gt_cells HP.out hlt
      have GP := guard_pt
      have EP := fun w x y x' y' => eql_pt w x y x' y'
      obtain ⟨p, hp⟩ : ∃ p, p = (gt L k).1 := ⟨_, rfl⟩
      obtain ⟨q, hq⟩ : ∃ q, q = (gt L k).2 := ⟨_, rfl⟩
      rw [← hp] at hc1
      rw [← hq] at hd1
      have HPQ : Hid (gt L k = (p, q)) := by
        show _ = _
        rw [hp, hq]
      clear hp hq
      cases he : (x == p && y == q)
      · have HN2 : Hid (∀ j, j < k + 1 → gt L j ≠ (x, y)) := fun j hj => by
          rcases Nat.lt_or_ge j k with h1 | h1
          · exact HN.out j h1
          · obtain rfl : j = k := by omega
            rw [HPQ.out]
            intro e
            simp only [Prod.mk.injEq] at e
            rw [e.1, e.2] at he; simp at he
        go_wp2_with fail
        go_quiet (fail)
        go_wp2_with fail
        go_roundw
        case rel => exact ⟨k + 1, d + nq, by omega, by go_num, by simp [World.drewN_drewN], HN2⟩
        case measure => simp [intOf]; omega
      · have HY : Hid (IdxAt L (x, y) k) := by
          simp only [Bool.and_eq_true, beq_iff_eq] at he
          exact .inr ⟨k, hlt, rfl, by rw [HPQ.out, he.1, he.2]⟩
        go_wp2_with fail
        go_quiet (fail)
        go_wp2_with fail
        go_ret
        exact ⟨⟨_, rfl, HY.out⟩, b1.os, b1.tape, b1.output, b1.size, b1.block⟩
    · have HY : Hid (IdxAt L (x, y) (-1)) := .inl ⟨rfl, fun h => by
        obtain ⟨j, hj, e⟩ := List.getElem_of_mem h
        exact HN.out j (by omega) (by rw [gt_at hj]; exact e)⟩
      go_wp2_with fail
      go_ret
      exact ⟨⟨_, rfl, HY.out⟩, b1.os, b1.tape, b1.output, b1.size, b1.block⟩
end Go.Proofs.Ytoemmaeglhdjnaa
