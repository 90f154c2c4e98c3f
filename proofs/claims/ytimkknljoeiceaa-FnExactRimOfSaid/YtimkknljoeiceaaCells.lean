/-
  The cells of a shape as points: l08Cells of the model, the board's cells.
-/
import Derived.Test.YtimkknljoeiceaaBoard3
import Derived.Test.YtimkknljoeiceaaMoveS
import Derived.Test.YtimkknljoeiceaaFloat
namespace Go.Proofs.Ytimkknljoeiceaa
open Go.RowKit
attribute [local go_sem] quietB uponB

def ptI (a i : Nat) : Int × Int := (((i % a : Nat) : Int), ((i / a : Nat) : Int))
def cellsL (a : Nat) (F : Nat → Bool) (n : Nat) : List (Int × Int) := ((List.range n).filter F).map (ptI a)
theorem cellsL_zero (a : Nat) (F : Nat → Bool) : cellsL a F 0 = [] := rfl
theorem cellsL_yes {a k : Nat} {F : Nat → Bool} (h : F k = true) : cellsL a F (k + 1) = cellsL a F k ++ [(((k % a : Nat) : Int), ((k / a : Nat) : Int))] := by
  unfold cellsL
  rw [List.range_succ, List.filter_append, List.map_append]
  simp [h, ptI]
theorem cellsL_no {a k : Nat} {F : Nat → Bool} (h : F k = false) : cellsL a F (k + 1) = cellsL a F k := by
  unfold cellsL
  rw [List.range_succ, List.filter_append, List.map_append]
  simp [h]
theorem cellsL_len (a : Nat) (F : Nat → Bool) (n : Nat) : (cellsL a F n).length ≤ n := by
  unfold cellsL
  rw [List.length_map]
  exact Nat.le_trans (List.length_filter_le _ _) (by simp)
theorem cellsL_more {a : Nat} {F : Nat → Bool} {k : Nat} (h : ∀ j, k ≤ j → F j = false) : ∀ d, cellsL a F (k + d) = cellsL a F k
  | 0 => rfl
  | d + 1 => by rw [← Nat.add_assoc, cellsL_no (h (k + d) (by omega)), cellsL_more h d]
theorem testBit_off {M k : Nat} (h : M < 2 ^ k) : ∀ j, k ≤ j → M.testBit j = false := fun j hj => Nat.testBit_lt_two_pow (Nat.lt_of_lt_of_le h (Nat.pow_le_pow_right (by omega) hj))
/-- All cells of a mask below 2 to the 36. -/
def cellsC (a M : Nat) : List (Int × Int) := cellsL a M.testBit 36
theorem cellsC_of {a M k : Nat} (h : M < 2 ^ k) (hk : k ≤ 36) : cellsL a M.testBit k = cellsC a M := by
  unfold cellsC
  have := cellsL_more (a := a) (testBit_off h) (36 - k)
  rw [show k + (36 - k) = 36 by omega] at this
  exact this.symm
theorem cellsC_len (a M : Nat) : (cellsC a M).length ≤ 36 := cellsL_len _ _ _
theorem shr_pos {M k : Nat} : 0 < M >>> k ↔ ¬ M < 2 ^ k := by
  rw [Nat.shiftRight_eq_div_pow, Nat.div_pos_iff]
  have := Nat.two_pow_pos k
  omega
theorem bit_at2 (M k : Nat) (hM : M < 2 ^ 36) : ∃ z : Nat, (M : Int) / 2 ^ k = (z : Int) ∧ (bits BinOp.and IntKind.i64 (z : Int) 1 = if M.testBit k then 1 else 0) ∧ (0 < z ↔ ¬ M < 2 ^ k) :=
  ⟨M >>> k, shr_cast M k, bit_eq M k hM, shr_pos⟩
set_option maxRecDepth 100000 in
set_option maxHeartbeats 2000000 in
theorem cellsS_any (a M : Nat) (W : World) (ha : 1 ≤ a) (hM : M < 2 ^ 36) :
    Calls Try.prog 82 #[.int .i64 a, .int .i64 M] W (Lists W (cellsC a M)) := by
  obtain ⟨i0, hi0, hz0, hz1, hz2⟩ := info_parts infoPt
  have own0 := World.ownsRow_lit (base := W.heap.size) (e := 54) (size := 2) W #[] 0 (Nat.le_refl _) (by unfold maxLen; omega) (by rfl)
  have b0 := below1 W (.cells #[] 54)
  have HB := Lib.hid (fun k => bit_at2 M k hM)
  have HE := Lib.hid (fun k (h : M < 2 ^ k) hk => cellsC_of (a := a) h hk)
  have HLT : Hid (M < 2 ^ 36) := hM
  go_enter Try.func82, Try.ntmps82
  go_wp2_with fail
  go_loopw [5, 6] (fun o i wr => ∃ (k : Nat) (L : List (Int × Int)), k ≤ 36 ∧ i = .int .i64 k ∧ L.length ≤ k ∧ Hid (L = cellsL a M.testBit k) ∧ wr.ownsRow W.heap.size 54 2 o L.length (flat L) ∧ Below W.heap.size W wr) (fun _ i _ => 36 - (intOf i).toNat)
  case atStart => exact ⟨0, [], by omega, rfl, Nat.le_refl _, rfl, own0, b0⟩
  case round =>
    clear own0 b0
    obtain ⟨wo, rfl⟩ : ∃ wo : World, wo = wr := ⟨_, rfl⟩
    obtain ⟨k, L, hk, rfl, hLk, HL, own, hb⟩ := hrel
    obtain ⟨z, hz, hbit, hzp⟩ := HB.out k
    by_cases h0 : 0 < z
    · have hk36 : k < 36 := by
        rcases Nat.lt_or_ge k 36 with h | h
        · exact h
        · obtain rfl : k = 36 := by omega
          exact absurd HLT.out (hzp.1 h0)
      clear hzp
      cases ht : M.testBit k
      · rw [ht] at hbit
        simp only [Bool.false_eq_true, if_false] at hbit
        have HL2 : Hid (L = cellsL a M.testBit (k + 1)) := by
          show _ = _
          rw [cellsL_no ht]; exact HL.out
        have R := Lib.hid (And.intro own hb)
        clear ht HL own hb
        go_wp2_with fail
        go_roundw
        case rel => exact ⟨k + 1, L, by omega, by go_num, by omega, HL2, R.out.1, R.out.2⟩
        case measure => simp [intOf]; omega
      · rw [ht] at hbit
        simp only [if_true] at hbit
        have HL2 : Hid (L ++ [(((k % a : Nat) : Int), ((k / a : Nat) : Int))] = cellsL a M.testBit (k + 1)) := by
          show _ = _
          rw [cellsL_yes ht, HL.out]
        obtain ⟨e1, e2, e3⟩ := mod_eqs k a ha (by omega)
        have ha0 : ((a : Int) == 0) = false := by simp; omega
        have ha2 : ¬ a = 0 := by omega
        have hs6 := hb.size
        clear ht HL
        generalize k % a = x at *
        generalize k / a = y at *
        go_wp2_with fail
        refine region_move1 8 _ _ (by rfl) (by rfl) (by rfl) (fun _ _ d _ _ h => by cases d <;> exact h) (by kernel_rfl) (by kernel_rfl) ?_
        simp only [List.take_succ_cons, List.take_zero, List.drop_succ_cons, List.drop_zero]
        repeat (
          refine wpQuietB_step (fun K hK => ?_)
          go_simp
          first
            | (refine hK _ ?_; clear hK K)
            | (apply Exists.intro
               refine ⟨fun _ => ?_, hK _ ?_⟩
               ((fail))
               clear hK K))
        refine wpQuietB_nil ?_
        intro w6 hr
        replace hb := below_on hb hr
        replace own := own_below own hr
        replace hs6 := hb.size
        clear hr e1 ha0 ha2 hbit
        go_wp2_with (at_builtin; refine wpList_append_own _ rfl _ _ 27 rfl W.heap.size 54 i0 (.agg #[.int .i64 0, .int .i64 0]) 2 16 Try.underlying27 hi0 hz0 hz1 hz2 rfl (by decide) _ _ _ rfl (own.alloc _) ⟨w6.heap.size, 0, none⟩ 1 1 [.int .i64 (x : Int), .int .i64 (y : Int)] rfl rfl ?d1 ?d2 ?d3 ?d4 ?d5 ?_)
        case d1 => (simp only [e2]; exact World.news_of_block (cs := #[.int .i64 (x : Int), .int .i64 (y : Int)]) (t := 54) (fr := (0, 0)) (heap_alloc_new w6 _))
        case d2 => simp [Value.oneCell']
        case d3 => unfold maxLen; omega
        case d4 => omega
        case d5 => simp; omega
        intro v' w7 own7 hgrow _
        have hrw := fun k hk => (own.lt k hk).1
        have R : Hid (w7.ownsRow W.heap.size 54 2 v' (L ++ [((x : Int), (y : Int))]).length (flat (L ++ [((x : Int), (y : Int))])) ∧ Below W.heap.size W w7) :=
          ⟨by rw [flat_append, List.length_append]; exact own7, (hb.alloc hs6 _).grown hgrow (by simp; omega) hrw⟩
        clear own own7 hgrow hb hrw
        go_wp2_with fail
        go_roundw
        case rel => exact ⟨k + 1, L ++ [((x : Int), (y : Int))], by omega, by go_num, by simp; omega, HL2, R.out.1, R.out.2⟩
        case measure => simp [intOf]; omega
    · have hM2 : M < 2 ^ k := by
        rcases Nat.lt_or_ge M (2 ^ k) with h | h
        · exact h
        · exact absurd (hzp.2 (by omega)) h0
      have HQ : Hid (L = cellsC a M) := by
        show _ = _
        rw [HL.out]; exact HE.out k hM2 hk
      obtain rfl : z = 0 := by omega
      have R := Lib.hid (And.intro own hb)
      clear hzp HL hM2 own hb hbit
      go_wp2_with fail
      go_ret
      rw [← HQ.out]
      exact ⟨_, rfl, R.out.1, R.out.2⟩
set_option maxRecDepth 100000 in
set_option maxHeartbeats 2000000 in
theorem cellsB_any (a b M : Nat) (W : World) (ha : 1 ≤ a) (hab : a * b ≤ 36) (hM : M < 2 ^ (a * b)) :
    Calls Try.prog 86 #[.agg (bdV a b M.testBit)] W (Lists W (cellsC a M)) := by
  obtain ⟨i0, hi0, hz0, hz1, hz2⟩ := info_parts infoPt
  obtain ⟨n, hn⟩ : ∃ n, n = a * b := ⟨_, rfl⟩
  have hN : ((a : Int) * (b : Int) = (n : Int)) := by rw [hn, Int.natCast_mul]
  rw [← hn] at hab hM
  have HE := Lib.hid (cellsC_of (a := a) hM hab)
  have t1 := brd_new W a b M.testBit
  have c0 := t1.c0; have c1 := t1.c1
  have b1 := below1 W (.cells (bdV a b M.testBit) 75)
  have hsz : (W.alloc (.cells (bdV a b M.testBit) 75)).heap.size = W.heap.size + 1 := by simp
  clear hM hn
  go_enter Try.func86, Try.ntmps86
  go_wp2_with fail
  generalize W.alloc (.cells (bdV a b M.testBit) 75) = w1 at *
  have hsz1 : W.heap.size + 1 ≤ w1.heap.size := by omega
  clear hsz c0 c1
  go_loopw [3, 4, 10] (fun o _ i wr => ∃ (k : Nat) (L : List (Int × Int)), k ≤ n ∧ i = .int .i64 k ∧ L.length ≤ k ∧ Hid (L = cellsL a M.testBit k) ∧ wr.ownsRow (W.heap.size + 1) 54 2 o L.length (flat L) ∧ Brd wr W.heap.size a b M.testBit ∧ W.heap.size + 1 ≤ wr.heap.size ∧ Below W.heap.size W wr) (fun _ _ i _ => n - (intOf i).toNat)
  case atStart => exact ⟨0, [], by omega, rfl, Nat.le_refl _, rfl, World.ownsRow_nil _ _ _ _, t1, hsz1, b1⟩
  case round =>
    clear t1 b1 hsz1
    obtain ⟨wo, rfl⟩ : ∃ wo : World, wo = wr := ⟨_, rfl⟩
    obtain ⟨k, L, hk, rfl, hLk, HL, own, hg, hsz, hb⟩ := hrel
    by_cases hlt : k < n
    · have hk36 : k < 36 := by omega
      have c1 := hg.at hk36
      cases ht : M.testBit k
      · rw [ht] at c1
        have HL2 : Hid (L = cellsL a M.testBit (k + 1)) := by
          show _ = _
          rw [cellsL_no ht]; exact HL.out
        have R := Lib.hid (And.intro own (And.intro hg hb))
        clear ht HL own hb hg
        go_wp2_with fail
        go_roundw
        case rel => exact ⟨k + 1, L, by omega, by go_num, by omega, HL2, R.out.1, R.out.2.1, hsz, R.out.2.2⟩
        case measure => simp [intOf]; omega
      · rw [ht] at c1
        have HL2 : Hid (L ++ [(((k % a : Nat) : Int), ((k / a : Nat) : Int))] = cellsL a M.testBit (k + 1)) := by
          show _ = _
          rw [cellsL_yes ht, HL.out]
        have HC := Lib.hid (fun w => cellAt_any a b M.testBit k w ha (by omega))
        clear ht HL
        generalize k % a = x at *
        generalize k / a = y at *
        go_wp2_with (refine wpList_loadB rfl _ rfl _ _ _ _ rfl hg ?_)
        refine (HC.out _).mono ?_
        rintro e w6 ⟨rfl, hb6⟩
        replace hb := below_on hb hb6
        replace own := own_below own hb6
        replace hg := hg.step hb6
        replace hsz : W.heap.size + 1 ≤ w6.heap.size := Nat.le_trans hsz hb6.size
        have hs6 := hb.size
        clear hb6 HC c1
        go_wp2_with (at_builtin; refine wpList_append_own _ rfl _ _ 27 rfl (W.heap.size + 1) 54 i0 (.agg #[.int .i64 0, .int .i64 0]) 2 16 Try.underlying27 hi0 hz0 hz1 hz2 rfl (by decide) _ _ _ rfl (own.alloc _) ⟨w6.heap.size, 0, none⟩ 1 1 [.int .i64 (x : Int), .int .i64 (y : Int)] rfl rfl ?d1 ?d2 ?d3 ?d4 ?d5 ?_)
        case d1 => exact World.news_of_block (cs := #[.int .i64 (x : Int), .int .i64 (y : Int)]) (t := 54) (fr := (0, 0)) (heap_alloc_new w6 _)
        case d2 => simp [Value.oneCell']
        case d3 => unfold maxLen; omega
        case d4 => omega
        case d5 => simp; omega
        intro v' w7 own7 hgrow _
        have hrw := fun k hk => (own.lt k hk).1
        have R : Hid (w7.ownsRow (W.heap.size + 1) 54 2 v' (L ++ [((x : Int), (y : Int))]).length (flat (L ++ [((x : Int), (y : Int))])) ∧ Brd w7 W.heap.size a b M.testBit ∧ W.heap.size + 1 ≤ w7.heap.size ∧ Below W.heap.size W w7) :=
          ⟨by rw [flat_append, List.length_append]; exact own7, (hgrow.block _ (hg.alloc _).lt (fun e => by have := hrw _ e.symm; omega)).trans (hg.alloc _), Nat.le_trans hsz (by have := hgrow.size; simp at this; omega), (hb.alloc hs6 _).grown hgrow (by simp; omega) (fun k hk => by have := hrw k hk; omega)⟩
        clear own own7 hgrow hb hrw hg
        go_wp2_with fail
        go_roundw
        case rel => exact ⟨k + 1, L ++ [((x : Int), (y : Int))], by omega, by go_num, by simp; omega, HL2, R.out.1, R.out.2.1, R.out.2.2.1, R.out.2.2.2⟩
        case measure => simp [intOf]; omega
    · obtain rfl : k = n := by omega
      have HQ : Hid (L = cellsC a M) := by
        show _ = _
        rw [HL.out]; exact HE.out
      have R := Lib.hid (And.intro (own_base own (show W.heap.size ≤ W.heap.size + 1 by omega)) hb)
      clear HL own hb hg
      go_wp2_with fail
      go_ret
      rw [← HQ.out]
      exact ⟨_, rfl, R.out.1, R.out.2⟩
end Go.Proofs.Ytimkknljoeiceaa
