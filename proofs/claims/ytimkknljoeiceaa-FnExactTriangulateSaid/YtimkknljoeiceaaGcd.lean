/-
  Walks for commonDivisor, l02Gcd, l02Steps, StepsOf of both programs.
-/
import Derived.Test.YtimkknljoeiceaaCross
namespace Go.Proofs.Ytimkknljoeiceaa
open Go.RowKit

theorem tmod_nat (m n : Nat) : Int.tmod (m : Int) (n : Int) = ((m % n : Nat) : Int) := by
  rw [Int.tmod_eq_emod_of_nonneg (by omega)]; simp
theorem gcd_round {m n : Nat} (_ : 0 < n) : Nat.gcd n (m % n) = Nat.gcd m n := by
  rw [Nat.gcd_comm m n, Nat.gcd_rec n m, Nat.gcd_comm]
theorem gcdI_any (m n : Nat) (w : World) (hm : m ≤ 1000000) (hn : n ≤ 1000000) :
    Calls Try.prog 212 #[.int .i64 m, .int .i64 n] w fun e w' => e = .returned (.int .i64 (Nat.gcd m n : Nat)) ∧ Below w.heap.size w w' := by
  go_enter Try.func212, Try.ntmps212
  go_wp2_with fail
  go_loopw [0, 1] (fun x y w' => ∃ p q : Nat, x = .int .i64 p ∧ y = .int .i64 q ∧ p ≤ 1000000 ∧ q ≤ 1000000 ∧ Hid (Nat.gcd p q = Nat.gcd m n) ∧ Below w.heap.size w w') (fun _ y _ => (intOf y).toNat)
  case atStart => exact ⟨m, n, rfl, rfl, hm, hn, rfl, Below.refl _ _⟩
  case round =>
    obtain ⟨wo, rfl⟩ : ∃ wo : World, wo = wr := ⟨_, rfl⟩
    obtain ⟨p, q, rfl, rfl, hp, hq, HG, hb⟩ := hrel
    by_cases hlt : 0 < q
    · have HG2 : Hid (Nat.gcd q (p % q) = Nat.gcd m n) := (gcd_round hlt).trans HG.out
      have hlt' := Nat.mod_lt p hlt
      have hle := Nat.mod_le p q
      obtain ⟨r, hr⟩ : ∃ r : Nat, r = p % q := ⟨_, rfl⟩
      have hmod : Int.tmod (p : Int) (q : Int) = (r : Int) := by rw [tmod_nat, hr]
      rw [← hr] at HG2 hlt' hle
      clear hr
      go_wp2_with fail
      go_quiet (fail)
      go_wp2_with fail
      go_roundw
      case rel => exact ⟨q, r, rfl, rfl, by omega, by omega, HG2, ⟨hb.os, hb.tape, hb.output, hb.size, hb.block⟩⟩
      case measure => simp [intOf]; omega
    · obtain rfl : q = 0 := by omega
      go_wp2_with fail
      go_ret
      exact ⟨ret_int (by rw [← HG.out]; simp), hb⟩
theorem ab (a : Int) : ∃ m : Nat, a.natAbs = m ∧ ((0 < a ∧ a = m) ∨ (a = 0 ∧ (m : Int) = 0) ∨ (a < 0 ∧ -a = m)) := ⟨_, rfl, by omega⟩
end Go.Proofs.Ytimkknljoeiceaa
