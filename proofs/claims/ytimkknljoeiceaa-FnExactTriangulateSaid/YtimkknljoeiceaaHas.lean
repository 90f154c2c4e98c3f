/-
  Walks for slices.Index and slices.Contains over points.
-/
import Derived.Test.YtimkknljoeiceaaOn
import Derived.Laws.StructEq
namespace Go.Proofs.Ytimkknljoeiceaa
open Go.RowKit

theorem under_pt : Try.prog.underlying 54 = some (.struct (Try.prog.fieldsOf 54)) := by kernel_rfl
theorem held_pt : Try.prog.stoodInHeld 54 = false := by kernel_rfl
theorem guard_pt : Try.prog.eqGuardType Try.prog.depth 54 = false := by kernel_rfl
theorem eql_pt (w : World) (x y x' y' : Int) : (binOp .eql 54 (.agg #[.int .i64 x, .int .i64 y]) (.agg #[.int .i64 x', .int .i64 y'])).run Try.prog w = .ok (.bool (x == x' && y == y')) w := by
  rw [run_eql_struct, run_equalIn_struct _ _ _ _ _ under_pt held_pt]
  cases h : (x == x') <;> cases h2 : (y == y') <;> simp_all [go_sem, Program.fieldsOf, Try.underlying54, Try.underlying3]
theorem neq_pt (w : World) (x y x' y' : Int) : (binOp .neq 54 (.agg #[.int .i64 x, .int .i64 y]) (.agg #[.int .i64 x', .int .i64 y'])).run Try.prog w = .ok (.bool (!(x == x' && y == y'))) w := by
  rw [run_neq_struct, run_equalIn_struct _ _ _ _ _ under_pt held_pt]
  cases h : (x == x') <;> cases h2 : (y == y') <;> simp_all [go_sem, Program.fieldsOf, Try.underlying54, Try.underlying3]
def hasP (L : List (Int × Int)) (x y : Int) : Bool := L.any fun p => p.1 == x && p.2 == y
theorem hasP_no {L : List (Int × Int)} {x y : Int} : hasP L x y = false ↔ ∀ p ∈ L, ¬ (p.1 = x ∧ p.2 = y) := by
  simp [hasP]
set_option maxRecDepth 100000 in
set_option maxHeartbeats 800000 in
theorem index_any (A : Option Addr) (c : Nat) (L : List (Int × Int)) (x y : Int) (w : World) (hP : PtsA w A L) (hL : L.length ≤ 1048576) :
    Calls Try.prog 162 #[.slice A L.length c, (.agg #[.int .i64 x, .int .i64 y])] w fun e w' => (∃ z : Int, e = .returned (.int .i64 z) ∧ decide (0 ≤ z) = hasP L x y) ∧ Below w.heap.size w w' := by
  have HP := Lib.hid (ptsA_on hP ((Below.refl w.heap.size w).alloc (Nat.le_refl _) (.cells #[.int .i64 x, .int .i64 y] 54))); clear hP
  have t1 := at_new w x y 54
  go_enter Try.func162, Try.ntmps162
  go_wp2_with fail
  have b1 := below1 w (.cells #[.int .i64 x, .int .i64 y] 54)
  generalize w.alloc (.cells #[.int .i64 x, .int .i64 y] 54) = w1 at *
  have c1 := t1.c0; have c2 := t1.c1
  go_loopw [5, 8] (fun _ i w' => ∃ (k d : Nat), k ≤ L.length ∧ i = .int .i64 k ∧ w' = w1.drewN d ∧ Hid (∀ j (h : j < L.length), j < k → ¬ (L[j].1 = x ∧ L[j].2 = y))) (fun _ i _ => L.length - (intOf i).toNat)
  case atStart => exact ⟨0, 0, Nat.zero_le _, rfl, rfl, fun j h hj => by omega⟩
  case round =>
    obtain ⟨k, d, hk, rfl, rfl, HN⟩ := hrel
    by_cases hlt : k < L.length
    · obtain ⟨g1, rfl, hc1, hd1⟩ := HP.out k hlt
      have GP := guard_pt
      have EP := fun w x y x' y' => eql_pt w x y x' y'
      obtain ⟨p, hp⟩ : ∃ p, p = L[k].1 := ⟨_, rfl⟩
      obtain ⟨q, hq⟩ : ∃ q, q = L[k].2 := ⟨_, rfl⟩
      rw [← hp] at hc1
      rw [← hq] at hd1
      have HPQ : Hid (L[k].1 = p ∧ L[k].2 = q) := ⟨hp.symm, hq.symm⟩
      clear hp hq
      cases he : (x == p && y == q)
      · have HN2 : Hid (∀ j (h : j < L.length), j < k + 1 → ¬ (L[j].1 = x ∧ L[j].2 = y)) := fun j h hj => by
          rcases Nat.lt_or_ge j k with h1 | h1
          · exact HN.out j h h1
          · obtain rfl : j = k := by omega
            rw [HPQ.out.1, HPQ.out.2]
            simp at he
            exact fun ⟨h1, h2⟩ => he h1.symm h2.symm
        go_wp2_with fail
        go_quiet (fail)
        go_wp2_with fail
        go_roundw
        case rel => exact ⟨k + 1, d + nq, by omega, by go_num, by simp, HN2⟩
        case measure => simp [intOf]; omega
      · have HY : Hid (hasP L x y = true) := by
          simp at he
          show _ = _
          rw [hasP, List.any_eq_true]
          exact ⟨L[k], List.getElem_mem hlt, by rw [HPQ.out.1, HPQ.out.2, he.1, he.2]; simp⟩
        go_wp2_with fail
        go_quiet (fail)
        go_wp2_with fail
        go_ret
        exact ⟨⟨_, rfl, by rw [HY.out]; simp⟩, b1.os, b1.tape, b1.output, b1.size, b1.block⟩
    · go_wp2_with fail
      go_ret
      refine ⟨⟨_, rfl, ?_⟩, b1.os, b1.tape, b1.output, b1.size, b1.block⟩
      have : hasP L x y = false := by
        rw [hasP_no]
        intro p hp
        obtain ⟨j, hj, rfl⟩ := List.getElem_of_mem hp
        exact HN.out j hj (by omega)
      rw [this]; rfl
theorem has_any (A : Option Addr) (c : Nat) (L : List (Int × Int)) (x y : Int) (w : World) (hP : PtsA w A L) (hL : L.length ≤ 1048576) :
    Calls Try.prog 118 #[.slice A L.length c, (.agg #[.int .i64 x, .int .i64 y])] w fun e w' => e = .returned (.bool (hasP L x y)) ∧ Below w.heap.size w w' := by
  have HI := Lib.hid (index_any A c L x y _ (ptsA_on hP ((Below.refl w.heap.size w).alloc (Nat.le_refl _) (.cells #[.int .i64 x, .int .i64 y] 54))) hL); clear hP
  go_enter Try.func118, Try.ntmps118
  go_wp2_with fail
  refine HI.out.mono ?_
  rintro e w1 ⟨⟨z, rfl, hz⟩, hb1⟩
  have b1 := below_on (below1 w _) hb1
  clear hb1
  have HZ := Lib.hid hz
  clear hz HI
  go_wp2_with fail
  go_ret
  exact ⟨ret_bool HZ.out, b1⟩
end Go.Proofs.Ytimkknljoeiceaa
