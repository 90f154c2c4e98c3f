/-
  Walks for l02Steps, StepsOf of both programs.
-/
import Derived.Test.YtimkknljoeiceaaGcd
import Derived.Test.YtimkknljoeiceaaSquare
namespace Go.Proofs.Ytimkknljoeiceaa
open Go.RowKit

theorem gcd_le {dx dy : Int} (hx : dx.natAbs ≤ 40) (hy : dy.natAbs ≤ 40) : Nat.gcd dx.natAbs dy.natAbs ≤ 40 := by
  rcases Nat.eq_zero_or_pos dx.natAbs with h | h
  · rw [h, Nat.gcd_zero_left]; exact hy
  · exact Nat.le_trans (Nat.gcd_le_left _ h) hx
def stepsN (ax ay bx by' : Int) : Nat := Nat.gcd (bx - ax).natAbs (by' - ay).natAbs
def stepsV (ax ay bx by' : Int) : Int := bif okP ax ay && okP bx by' then (stepsN ax ay bx by' : Int) else -1
theorem impl_steps (ax ay bx by' : Int) (w : World) :
    Calls Try.prog 186 #[(.agg #[.int .i64 ax, .int .i64 ay]), (.agg #[.int .i64 bx, .int .i64 by'])] w fun e w' => e = .returned (.int .i64 (stepsV ax ay bx by')) ∧ Below w.heap.size w w' := by
  have HP := Lib.hid (pts2 w ax ay bx by')
  go_enter Try.func186, Try.ntmps186
  go_wp2_with fail
  refine (all_any _ _ [(ax, ay), (bx, by')] _ HP.out (by simp) (by simp)).mono ?_
  rintro e w1 ⟨rfl, hb1⟩
  have t1 := ((two0 w ax ay bx by' 54).alloc _).step hb1
  have b1 := below_on (below3 w _ _ _) hb1
  clear hb1 HP
  have HO := Lib.hid (all2 ax ay bx by')
  cases hok : allOk [(ax, ay), (bx, by')]
  · go_wp2_with fail
    go_ret
    exact ⟨ret_int (by rw [stepsV, ← HO.out, hok]; rfl), b1⟩
  have hok2 := HO.out.symm
  rw [hok] at hok2
  simp only [Bool.and_eq_true] at hok2
  obtain ⟨ha, hb⟩ := hok2
  have c1 := t1.1.c0; have c2 := t1.1.c1; have c3 := t1.2.c0; have c4 := t1.2.c1
  go_wp2_with fail
  refine (minus_any _ _ _ _ _).mono ?_
  rintro e w2 ⟨rfl, hb2⟩
  have b2 := below_on b1 hb2
  clear hb2 t1 b1 c1 c2 c3 c4
  have h1 := okP_bounds ha; have h2 := okP_bounds hb
  rw [wrap_id (x := bx - ax) (by omega), wrap_id (x := by' - ay) (by omega)]
  obtain ⟨m, em, hm⟩ := ab (bx - ax)
  obtain ⟨n, en, hn⟩ := ab (by' - ay)
  have HN : Hid (stepsV ax ay bx by' = (Nat.gcd m n : Nat)) := by rw [← em, ← en]; show _ = _; rw [stepsV, ha, hb]; rfl
  have hm1 : m ≤ 1000000 := by omega
  have hn1 : n ≤ 1000000 := by omega
  have hdx : -100 ≤ bx - ax ∧ bx - ax ≤ 100 := by omega
  have hdy : -100 ≤ by' - ay ∧ by' - ay ≤ 100 := by omega
  obtain ⟨dx, hdx0⟩ : ∃ d, d = bx - ax := ⟨_, rfl⟩
  obtain ⟨dy, hdy0⟩ : ∃ d, d = by' - ay := ⟨_, rfl⟩
  rw [← hdx0] at hm hdx ⊢
  rw [← hdy0] at hn hdy ⊢
  clear ha hb h1 h2 em en hok HO hdx0 hdy0
  have HG := Lib.hid (fun w => gcdI_any m n w hm1 hn1)
  rcases hm with ⟨hm, hm'⟩ | ⟨rfl, hm'⟩ | ⟨hm, hm'⟩ <;> rcases hn with ⟨hn, hn'⟩ | ⟨rfl, hn'⟩ | ⟨hn, hn'⟩
  all_goals (
    go_wp2_with fail
    refine (show Calls _ _ _ _ _ from by
      have := HG.out
      try simp only [hm', hn'] at this
      exact this _).mono ?_
    rintro e w3 ⟨rfl, hb3⟩
    have b3 := below_on (b2.alloc b2.size _) hb3
    clear hb3
    go_wp2_with fail
    go_ret
    exact ⟨ret_int HN.out.symm, b3⟩)
end Go.Proofs.Ytimkknljoeiceaa
