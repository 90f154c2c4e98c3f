/-
  The model's growth of a set of cells: l08Near, l08Reach.
-/
import Derived.Test.YtimkknljoeiceaaBoard
namespace Go.Proofs.Ytimkknljoeiceaa
open Go.RowKit

theorem near_opt (c : Prop) [Decidable c] (o k : Nat) (t : Int) (ho : o < 68719476736) (hk : c → k < 36) (ht : c → t = k) : ∃ o1 : Nat, o1 = (if c then o ||| 2 ^ k else o) ∧ o1 < 68719476736 ∧
    ((c ∧ ∃ p : Nat, 0 ≤ t ∧ t.toNat = k ∧ k < 36 ∧ (2 : Int) ^ k = (p : Int) ∧ p ≤ 68719476736 ∧ bits BinOp.or IntKind.i64 (o : Int) (p : Int) = (o1 : Int)) ∨ (¬ c ∧ o1 = o)) := by
  by_cases h : c
  · have hk := hk h
    have hp : 2 ^ k < 68719476736 := Nat.pow_lt_pow_of_lt (a := 2) (by omega) hk
    refine ⟨o ||| 2 ^ k, by rw [if_pos h], Nat.or_lt_two_pow (n := 36) ho hp, .inl ⟨h, 2 ^ k, by rw [ht h]; omega, by rw [ht h, Int.toNat_natCast], hk, pow_cast k, by omega, ?_⟩⟩
    exact or_nat (by omega) (by omega)
  · exact ⟨o, by rw [if_neg h], ho, .inr ⟨h, rfl⟩⟩
theorem near_yes {a b M k x y o o1 o2 o3 o4 : Nat} (hk1 : k % a = x) (hk2 : k / a = y) (hM : M.testBit k = true) (h : o = nearT a b M k)
    (h1 : o1 = if 0 < x then o ||| 2 ^ (k - 1) else o) (h2 : o2 = if x + 1 < a then o1 ||| 2 ^ (k + 1) else o1) (h3 : o3 = if 0 < y then o2 ||| 2 ^ (k - a) else o2) (h4 : o4 = if y + 1 < b then o3 ||| 2 ^ (k + a) else o3) : o4 = nearT a b M (k + 1) := by
  simp only [nearT, hM, if_true, sides, hk1, hk2]
  rw [h4, h3, h2, h1, h]
theorem near_no {a b M k o : Nat} (hM : M.testBit k = false) (h : o = nearT a b M k) : o = nearT a b M (k + 1) := by
  simp only [nearT, hM]; exact h
set_option maxRecDepth 100000 in
set_option maxHeartbeats 4000000 in
theorem near_any (a b M : Nat) (W : World) (ha : 1 ≤ a ∧ a ≤ 6) (hb : 1 ≤ b ∧ b ≤ 6) (hab : a * b ≤ 36) (hM : M < 2 ^ (a * b)) :
    Calls Try.prog 128 #[.int .i64 a, .int .i64 b, .int .i64 M] W fun e w' => e = .returned (.int .i64 (nearT a b M (a * b))) ∧ w' = W := by
  have hM36 := lt62 hM hab
  have HL := Lib.hid (fun k hk => Nat.lt_of_lt_of_le (nearT_lt (w := a) (h := b) (M := M) (by omega) hM k hk) (Nat.pow_le_pow_right (n := 2) (by omega) hab))
  have H0 : Hid (M = nearT a b M (0 * a)) := by
    show _ = _
    rw [Nat.zero_mul]; rfl
  clear hM
  go_enter Try.func128, Try.ntmps128
  go_wp2_with fail
  go_loop [7, 8, 9] (fun s j _ => ∃ y o : Nat, y ≤ b ∧ j = .int .i64 y ∧ s = .int .i64 o ∧ Hid (o = nearT a b M (y * a))) (fun _ j _ => b - (intOf j).toNat)
  case atStart => exact ⟨0, M, Nat.zero_le _, rfl, rfl, H0⟩
  case round =>
    clear H0
    obtain ⟨y, o, hy, rfl, rfl, HO⟩ := hrel
    by_cases hlt : y < b
    · obtain ⟨m, hm⟩ : ∃ m, m = y * a := ⟨_, rfl⟩
      have hmi : (y : Int) * (a : Int) = (m : Int) := by rw [hm, Int.natCast_mul]
      rw [← hm] at HO
      have HM := Lib.hid hm
      have hm36 : m + a ≤ 36 := by
        have : (y + 1) * a ≤ b * a := Nat.mul_le_mul_right a hlt
        rw [Nat.add_mul, Nat.one_mul, Nat.mul_comm b a] at this
        omega
      have HAB : Hid (m + a ≤ a * b) := by
        have : (y + 1) * a ≤ b * a := Nat.mul_le_mul_right a hlt
        rw [Nat.add_mul, Nat.one_mul, Nat.mul_comm b a] at this
        show _ ≤ _
        omega
      have HB := Lib.hid hab
      clear hm hab
      go_wp2_with fail
      go_loop [7, 9] (fun s j => ∃ x o : Nat, x ≤ a ∧ j = .int .i64 x ∧ s = .int .i64 o ∧ Hid (o = nearT a b M (m + x))) (fun _ j => a - (intOf j).toNat)
      case atStart => exact ⟨0, o, Nat.zero_le _, rfl, rfl, HO⟩
      case round =>
        clear HO
        obtain ⟨x, o, hx, rfl, rfl, HO⟩ := hrel
        by_cases hlx : x < a
        · obtain ⟨k, hk⟩ : ∃ k, k = m + x := ⟨_, rfl⟩
          have hk36 : k < 36 := by omega
          have hki : ((m : Int) + (x : Int)).toNat = k := by omega
          have ho : o < 68719476736 := by
            rw [HO.out]
            exact HL.out (m + x) (by have := HAB.out; omega)
          obtain ⟨z, hz, hbit⟩ := bit_at M k hM36
          cases ht : M.testBit k
          · rw [ht] at hbit
            simp only [Bool.false_eq_true, if_false] at hbit
            have HO2 : Hid (o = nearT a b M (m + (x + 1))) := by
              show _ = _
              rw [← Nat.add_assoc, ← hk]
              exact near_no ht (by rw [hk]; exact HO.out)
            clear hk ht
            go_wp2_with fail
            go_round
            case rel => exact ⟨x + 1, o, by omega, by go_num, rfl, HO2⟩
            case measure => simp [intOf]; omega
          · rw [ht] at hbit
            simp only [if_true] at hbit
            obtain ⟨q1, q2⟩ := row_col (show 0 < a by omega) hlx (show k = y * a + x by rw [hk, HM.out])
            obtain ⟨o1, s1, l1, E1⟩ := near_opt (0 < x) o (k - 1) ((m : Int) + (x : Int) - 1) ho (by omega) (by omega)
            obtain ⟨o2, s2, l2, E2⟩ := near_opt (x + 1 < a) o1 (k + 1) ((m : Int) + (x : Int) + 1) l1 (by omega) (by omega)
            obtain ⟨o3, s3, l3, E3⟩ := near_opt (0 < y) o2 (k - a) ((m : Int) + (x : Int) - (a : Int)) l2 (by omega) (fun h => by
              have : a ≤ m := by rw [HM.out]; exact Nat.le_mul_of_pos_left a h
              omega)
            obtain ⟨o4, s4, l4, E4⟩ := near_opt (y + 1 < b) o3 (k + a) ((m : Int) + (x : Int) + (a : Int)) l3 (fun h => by
              have : (y + 1 + 1) * a ≤ b * a := Nat.mul_le_mul_right a h
              rw [Nat.add_mul, Nat.add_mul, Nat.one_mul, ← HM.out, Nat.mul_comm b a] at this
              have := HB.out
              omega) (by omega)
            have HO2 : Hid (o4 = nearT a b M (m + (x + 1))) := by
              show _ = _
              rw [← Nat.add_assoc, ← hk]
              exact near_yes q1 q2 ht (by rw [hk]; exact HO.out) s1 s2 s3 s4
            clear s1 s2 s3 s4 q1 q2 hk ht HO
            rcases E1 with ⟨h1, p1, n1, i1, j1, k1, m1, r1⟩ | ⟨h1, rfl⟩ <;> rcases E2 with ⟨h2, p2, n2, i2, j2, k2, m2, r2⟩ | ⟨h2, rfl⟩ <;> rcases E3 with ⟨h3, p3, n3, i3, j3, k3, m3, r3⟩ | ⟨h3, rfl⟩ <;> rcases E4 with ⟨h4, p4, n4, i4, j4, k4, m4, r4⟩ | ⟨h4, rfl⟩
            all_goals
              go_wp2_with fail
              go_round
              case rel => exact ⟨x + 1, _, by omega, by go_num, rfl, HO2⟩
              case measure => simp [intOf]; omega
        · obtain rfl : x = a := by omega
          have HO2 : Hid (o = nearT x b M ((y + 1) * x)) := by
            show _ = _
            rw [Nat.add_mul, Nat.one_mul, ← HM.out]; exact HO.out
          clear HO
          go_wp2_with fail
          go_round
          case rel => exact ⟨y + 1, o, by omega, by go_num, rfl, HO2⟩
          case measure => simp [intOf]; omega
    · obtain rfl : y = b := by omega
      have HE : Hid (o = nearT a y M (a * y)) := by
        show _ = _
        rw [Nat.mul_comm a y]; exact HO.out
      clear HO
      go_wp2_with fail
      go_ret
      rw [← HE.out]
      exact ⟨rfl, rfl⟩
end Go.Proofs.Ytimkknljoeiceaa
