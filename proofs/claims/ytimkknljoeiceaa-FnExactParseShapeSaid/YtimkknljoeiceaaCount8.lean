/-
  CellCount of both programs: the ones of a mask.
-/
import Derived.Test.YtimkknljoeiceaaCell
import Derived.Test.YtimkknljoeiceaaOnes
import Derived.Laws.Bits64
namespace Go.Proofs.Ytimkknljoeiceaa
open Go.RowKit

theorem and_one (m : Nat) (h : m < 2 ^ 62) : bits BinOp.and IntKind.i64 (m : Int) 1 = ((m % 2 : Nat) : Int) := by
  have := and_nat (b := 1) h (by omega)
  rw [Nat.and_one_is_mod] at this
  exact this
theorem and_mask127 (m : Nat) (h : m < 2 ^ 62) : bits BinOp.and IntKind.i64 (m : Int) 127 = ((m % 128 : Nat) : Int) := by
  have := and_nat (b := 127) h (by omega)
  rw [show (127 : Nat) = 2 ^ 7 - 1 from rfl, Nat.and_two_pow_sub_one_eq_mod] at this
  exact this
theorem and_mask127' (m : Nat) (h : m < 9223372036854775807) : bits BinOp.and IntKind.i64 (m : Int) 127 = ((m % 128 : Nat) : Int) := by
  have h1 : (BitVec.ofInt 64 (m : Int)).toNat = m := by rw [BitVec.ofInt_natCast, BitVec.toNat_ofNat]; exact Nat.mod_eq_of_lt (by omega)
  have h2 : (BitVec.ofInt 64 (127 : Int)).toNat = 127 := by decide
  have h4 : bits BinOp.and IntKind.i64 (m : Int) 127 = IntKind.i64.wrap ((BitVec.ofInt 64 (m : Int) &&& BitVec.ofInt 64 (127 : Int)).toNat : Int) := rfl
  rw [h4, BitVec.toNat_and, h1, h2, show (127 : Nat) = 2 ^ 7 - 1 from rfl, Nat.and_two_pow_sub_one_eq_mod]
  exact IntWalk.i64_in _ (by omega)
/-- A mask of a table has fewer than 37 bits. -/
theorem mask_nat {w h M : Int} (hB : shapeB w h M = true) : ∃ a b m : Nat, w = a ∧ h = b ∧ M = m ∧ 1 ≤ a ∧ a ≤ 6 ∧ 1 ≤ b ∧ b ≤ 6 ∧ m < 2 ^ (a * b) ∧ a * b ≤ 36 := by
  unfold shapeB at hB
  simp only [Bool.and_eq_true, inB_spec] at hB
  obtain ⟨⟨h1, h2⟩, h3⟩ := hB
  have hm := mul_le36 h1 h2
  refine ⟨w.toNat, h.toNat, M.toNat, by omega, by omega, by omega, by omega, by omega, by omega, by omega, ?_, ?_⟩
  · have e : (w * h).toNat = w.toNat * h.toNat := by
      have : w * h = ((w.toNat * h.toNat : Nat) : Int) := by
        rw [Int.natCast_mul, Int.toNat_of_nonneg (by omega), Int.toNat_of_nonneg (by omega)]
      omega
    rw [← e]
    have h4 := pow_cast (w * h).toNat
    omega
  · have : w * h = ((w.toNat * h.toNat : Nat) : Int) := by
      rw [Int.natCast_mul, Int.toNat_of_nonneg (by omega), Int.toNat_of_nonneg (by omega)]
    omega
theorem lt62 {m n : Nat} (h : m < 2 ^ n) (hn : n ≤ 36) : m < 2 ^ 36 := Nat.lt_of_lt_of_le h (Nat.pow_le_pow_right (by omega) hn)
set_option maxRecDepth 100000 in
theorem ones_any (M : Nat) (W : World) (hM : M < 2 ^ 36) : Calls Try.prog 75 #[.int .i64 M] W fun e w' => e = .returned (.int .i64 (pc 64 M)) ∧ w' = W := by
  have HP : Hid (∀ k m, pc (k + 1) m = m % 2 + pc k (m / 2)) := fun _ _ => rfl
  have HZ := Lib.hid pc_zero
  have HA := Lib.hid and_one
  have HL := Lib.hid (pc_le 64 M)
  obtain ⟨T, hT⟩ : ∃ T, T = pc 64 M := ⟨_, rfl⟩
  rw [← hT] at HL
  rw [← hT]
  have HT : Hid (T = 0 + pc 64 M) := by show _ = _; omega
  clear hT
  go_enter Try.func75, Try.ntmps75
  go_wp2_with fail
  go_loop [0, 3] (fun a n => ∃ (k m c : Nat), k ≤ 64 ∧ a = .int .i64 m ∧ n = .int .i64 c ∧ m < 2 ^ 36 ∧ Hid (m < 2 ^ k) ∧ Hid (T = c + pc k m)) (fun a _ => (intOf a).toNat)
  case atStart => exact ⟨64, M, 0, Nat.le_refl _, rfl, rfl, hM, Nat.lt_of_lt_of_le hM (by decide), HT⟩
  case round =>
    clear HT
    obtain ⟨k, m, c, hk, rfl, rfl, hm, HK, HT⟩ := hrel
    have hc : c ≤ 64 := by have := HT.out; have := HL.out; omega
    by_cases h0 : 0 < m
    · have hk1 : 1 ≤ k := by
        rcases Nat.eq_zero_or_pos k with rfl | h
        · have := HK.out; omega
        · exact h
      obtain ⟨k, rfl⟩ : ∃ k', k = k' + 1 := ⟨k - 1, by omega⟩
      have HK2 : Hid (m / 2 < 2 ^ k) := by
        have := HK.out
        show _ < _
        rw [Nat.pow_succ] at this; omega
      have HT2 : Hid (T = (c + m % 2) + pc k (m / 2)) := by
        show _ = _
        rw [HT.out, HP.out]; omega
      have hm0 : (m % 2 : Nat) ≤ 1 := by omega
      have ha := HA.out m (by omega)
      clear HT HK
      go_wp2_with fail
      go_round
      case rel => exact ⟨k, m / 2, c + m % 2, by omega, by go_num, by go_num, by omega, HK2, HT2⟩
      case measure => simp [intOf]; omega
    · obtain rfl : m = 0 := by omega
      have hE : T = c := by have := HT.out; rw [HZ.out] at this; omega
      have HE := Lib.hid hE
      clear HT hE HK
      go_wp2_with fail
      go_ret
      exact ⟨by rw [HE.out]; rfl, rfl⟩
theorem and_u64 {a b : Nat} (ha : a < 18446744073709551616) (hb : b < 18446744073709551616) : bits BinOp.and IntKind.u64 (a : Int) (b : Int) = ((a &&& b : Nat) : Int) := by
  have h1 : (BitVec.ofInt 64 (a : Int)).toNat = a := by rw [BitVec.ofInt_natCast, BitVec.toNat_ofNat]; exact Nat.mod_eq_of_lt (by omega)
  have h2 : (BitVec.ofInt 64 (b : Int)).toNat = b := by rw [BitVec.ofInt_natCast, BitVec.toNat_ofNat]; exact Nat.mod_eq_of_lt (by omega)
  have h4 : bits BinOp.and IntKind.u64 (a : Int) b = IntKind.u64.wrap ((BitVec.ofInt 64 (a : Int) &&& BitVec.ofInt 64 (b : Int)).toNat : Int) := rfl
  rw [h4, BitVec.toNat_and, h1, h2, IntKind.wrap_u64]
  have : a &&& b ≤ a := Nat.and_le_left
  omega
theorem st1_bd : ∀ n x, st1 n x < 256 ^ n
  | 0, x => by simp [st1, rep]
  | n + 1, x => by
    have hb := (byte_ok (x % 256) (by omega)).1
    have := st1_bd n (x / 256)
    rw [st1_step, Nat.pow_succ]; omega
theorem twoB_bd : ∀ n x, twoB n x < 256 ^ n
  | 0, x => by simp [twoB]
  | n + 1, x => by
    have hb := byte_ok (x % 256) (by omega)
    have := twoB_bd n (x / 256)
    simp only [twoB]
    rw [Nat.pow_succ]; omega
theorem twoB_div : ∀ n x, twoB n x / 16 + twoB n x < 256 ^ n
  | 0, x => by simp [twoB]
  | n + 1, x => by
    have hb := byte_ok (x % 256) (by omega)
    have := twoB_div n (x / 256)
    have := twoB_mod n (x / 256)
    simp only [twoB]
    rw [Nat.pow_succ]; omega
theorem u64_st1 (x : Nat) (h : x < 18446744073709551616) : IntKind.u64.wrap (bits BinOp.and IntKind.u64 ((x : Int) / 2) 6148914691236517205 + bits BinOp.and IntKind.u64 (x : Int) 6148914691236517205) = ((st1 8 x : Nat) : Int) := by
  have e1 := and_u64 (a := x / 2) (b := rep 85 8) (by omega) (by decide)
  have e2 := and_u64 (a := x) (b := rep 85 8) (by omega) (by decide)
  have er : ((rep 85 8 : Nat) : Int) = 6148914691236517205 := by decide
  rw [er] at e1 e2
  have ed : ((x / 2 : Nat) : Int) = (x : Int) / 2 := by omega
  rw [ed] at e1
  have hb := st1_bd 8 x
  rw [show (256 : Nat) ^ 8 = 18446744073709551616 from rfl] at hb
  unfold st1 at hb ⊢
  rw [e1, e2, IntKind.wrap_u64]
  omega
theorem u64_st2 (x : Nat) (h : x < 18446744073709551616) (hb : st2 8 x < 18446744073709551616) : IntKind.u64.wrap (bits BinOp.and IntKind.u64 ((x : Int) / 4) 3689348814741910323 + bits BinOp.and IntKind.u64 (x : Int) 3689348814741910323) = ((st2 8 x : Nat) : Int) := by
  have e1 := and_u64 (a := x / 4) (b := rep 51 8) (by omega) (by decide)
  have e2 := and_u64 (a := x) (b := rep 51 8) (by omega) (by decide)
  have er : ((rep 51 8 : Nat) : Int) = 3689348814741910323 := by decide
  rw [er] at e1 e2
  have ed : ((x / 4 : Nat) : Int) = (x : Int) / 4 := by omega
  rw [ed] at e1
  unfold st2 at hb ⊢
  rw [e1, e2, IntKind.wrap_u64]
  omega
theorem u64_st3 (x : Nat) (h : x / 16 + x < 18446744073709551616) : bits BinOp.and IntKind.u64 (IntKind.u64.wrap ((x : Int) / 16 + (x : Int))) 1085102592571150095 = ((st3 8 x : Nat) : Int) := by
  have e1 := and_u64 (a := x / 16 + x) (b := rep 15 8) h (by decide)
  have er : ((rep 15 8 : Nat) : Int) = 1085102592571150095 := by decide
  rw [er] at e1
  have ed : IntKind.u64.wrap ((x : Int) / 16 + (x : Int)) = ((x / 16 + x : Nat) : Int) := by rw [IntKind.wrap_u64]; omega
  rw [ed, e1]; rfl
/-- All steps of OnesCount64 as equations of the walk's own terms. -/
theorem ones_steps (x : Nat) (hx : x < 68719476736) : ∃ s1 s2 y a b c : Nat,
    IntKind.u64.wrap (bits BinOp.and IntKind.u64 ((x : Int) / 2) 6148914691236517205 + bits BinOp.and IntKind.u64 (x : Int) 6148914691236517205) = (s1 : Int) ∧
    IntKind.u64.wrap (bits BinOp.and IntKind.u64 ((s1 : Int) / 4) 3689348814741910323 + bits BinOp.and IntKind.u64 (s1 : Int) 3689348814741910323) = (s2 : Int) ∧
    bits BinOp.and IntKind.u64 (IntKind.u64.wrap ((s2 : Int) / 16 + (s2 : Int))) 1085102592571150095 = (y : Int) ∧
    IntKind.u64.wrap ((y : Int) + (y : Int) / 256) = (a : Int) ∧ IntKind.u64.wrap ((a : Int) + (a : Int) / 65536) = (b : Int) ∧ IntKind.u64.wrap ((b : Int) + (b : Int) / 4294967296) = (c : Int) ∧
    wrap64 (c : Int) = (c : Int) ∧ bits BinOp.and IntKind.i64 (c : Int) 127 = ((pc 64 x : Nat) : Int) := by
  have l1 := st1_bd 8 x
  have l2 := twoB_bd 8 x
  have l3 := twoB_div 8 x
  rw [show (256 : Nat) ^ 8 = 18446744073709551616 from rfl] at l1 l2 l3
  have e1 := u64_st1 x (by omega)
  have e2 := u64_st2 (st1 8 x) l1 (by rw [st12]; exact l2)
  obtain ⟨y, hy, hy1, hy2, hy3, hy4⟩ := ones_sum x
  rw [st12] at e2 hy
  have e3 := u64_st3 (twoB 8 x) l3
  rw [← hy] at e3
  change (y + y / 2 ^ 8 + (y + y / 2 ^ 8) / 2 ^ 16 + (y + y / 2 ^ 8 + (y + y / 2 ^ 8) / 2 ^ 16) / 2 ^ 32) % 128 = pc 64 x at hy2
  rw [show (2 : Nat) ^ 8 = 256 from rfl, show (2 : Nat) ^ 16 = 65536 from rfl, show (2 : Nat) ^ 32 = 4294967296 from rfl] at hy2
  rw [show (2 : Nat) ^ 8 = 256 from rfl, show (2 : Nat) ^ 61 = 2305843009213693952 from rfl] at hy3
  rw [show (2 : Nat) ^ 8 = 256 from rfl, show (2 : Nat) ^ 16 = 65536 from rfl, show (2 : Nat) ^ 62 = 4611686018427387904 from rfl] at hy4
  clear hy hy1 l1 l2 l3 hx
  generalize twoB 8 x = s2 at *
  generalize st1 8 x = s1 at *
  obtain ⟨a, ha⟩ : ∃ a, a = y + y / 256 := ⟨_, rfl⟩
  rw [← ha] at hy2 hy3 hy4
  obtain ⟨b, hb⟩ : ∃ b, b = a + a / 65536 := ⟨_, rfl⟩
  rw [← hb] at hy2 hy4
  obtain ⟨c, hc⟩ : ∃ c, c = b + b / 4294967296 := ⟨_, rfl⟩
  rw [← hc] at hy2
  have hc2 : c < 9223372036854775807 := by omega
  have e8 : bits BinOp.and IntKind.i64 (c : Int) 127 = ((pc 64 x : Nat) : Int) := by
    rw [and_mask127' c hc2, hy2]
  clear hy2
  exact ⟨s1, s2, y, a, b, c, e1, e2, e3, by rw [IntKind.wrap_u64]; omega, by rw [IntKind.wrap_u64]; omega, by rw [IntKind.wrap_u64]; omega, IntWalk.wrap64_in _ (by omega), e8⟩
set_option maxRecDepth 100000 in
theorem ones64_any (x : Nat) (W : World) (hx : x < 68719476736) : Calls Try.prog 127 #[.int .u64 x] W fun e w' => e = .returned (.int .i64 (pc 64 x)) ∧ w' = W := by
  obtain ⟨s1, s2, y, a, b, c, e1, e2, e3, e4, e5, e6, e7, e8⟩ := ones_steps x hx
  go_enter Try.func127, Try.ntmps127
  go_wp2_with fail
  go_ret
  exact ⟨rfl, rfl⟩
theorem onesW_any (x : Nat) (W : World) (hx : x < 68719476736) : Calls Try.prog 76 #[.int .u64 x] W fun e w' => e = .returned (.int .i64 (pc 64 x)) ∧ w' = W := by
  have HC := Lib.hid (fun W => ones64_any x W hx)
  go_enter Try.func76, Try.ntmps76
  go_wp2_with fail
  refine (HC.out _).mono ?_
  rintro e w1 ⟨rfl, rfl⟩
  go_wp2_with fail
  go_ret
  exact ⟨rfl, rfl⟩
/-- What CellCount answers. -/
def cellsV (w h M : Int) : Int := bif shapeB w h M then (pc 64 M.toNat : Int) else -1
theorem cellsV_no {w h M : Int} (hB : shapeB w h M = false) : cellsV w h M = -1 := by unfold cellsV; rw [hB]; rfl
theorem cellsV_yes {w h : Int} {m : Nat} (hB : shapeB w h m = true) : cellsV w h m = (pc 64 m : Nat) := by unfold cellsV; rw [hB]; rfl
set_option maxRecDepth 100000 in
theorem spec_cells (w h M : Int) (W : World) : Calls Try.prog 26 #[.int .i64 w, .int .i64 h, .int .i64 M] W fun e w' => e = .returned (.int .i64 (cellsV w h M)) ∧ w' = W := by
  have HS := Lib.hid (fun W => spec_shape w h M W)
  cases hB : shapeB w h M
  · rw [hB] at HS
    have HV := Lib.hid (cellsV_no hB)
    rw [HV.out]
    go_enter Try.func26, Try.ntmps26
    go_wp2_with fail
    refine (HS.out _).mono ?_
    rintro e w1 ⟨rfl, rfl⟩
    go_wp2_with fail
    go_ret
    exact ⟨rfl, rfl⟩
  · rw [hB] at HS
    obtain ⟨a, b, m, rfl, rfl, rfl, ha1, ha2, hb1, hb2, hm, hab⟩ := mask_nat hB
    have HV := Lib.hid (cellsV_yes hB)
    rw [HV.out]
    have HO := Lib.hid (fun W => ones_any m W (lt62 hm hab))
    clear hm hab hB
    go_enter Try.func26, Try.ntmps26
    go_wp2_with fail
    refine (HS.out _).mono ?_
    rintro e w1 ⟨rfl, rfl⟩
    go_wp2_with fail
    refine (HO.out _).mono ?_
    rintro e w1 ⟨rfl, rfl⟩
    go_wp2_with fail
    go_ret
    exact ⟨rfl, rfl⟩
set_option maxRecDepth 100000 in
theorem impl_cells (w h M : Int) (W : World) : Calls Try.prog 27 #[.int .i64 w, .int .i64 h, .int .i64 M] W fun e w' => e = .returned (.int .i64 (cellsV w h M)) ∧ w' = W := by
  have HS := Lib.hid (fun W => impl_shape w h M W)
  cases hB : shapeB w h M
  · rw [hB] at HS
    have HV := Lib.hid (cellsV_no hB)
    rw [HV.out]
    go_enter Try.func27, Try.ntmps27
    go_wp2_with fail
    refine (HS.out _).mono ?_
    rintro e w1 ⟨rfl, rfl⟩
    go_wp2_with fail
    go_ret
    exact ⟨rfl, rfl⟩
  · rw [hB] at HS
    obtain ⟨a, b, m, rfl, rfl, rfl, ha1, ha2, hb1, hb2, hm, hab⟩ := mask_nat hB
    have HV := Lib.hid (cellsV_yes hB)
    rw [HV.out]
    have hm2 : m < 68719476736 := lt62 hm hab
    have HO := Lib.hid (fun W => onesW_any m W hm2)
    have e1 : IntKind.u64.wrap (m : Int) = (m : Int) := by rw [IntKind.wrap_u64]; omega
    clear hm hab hB
    go_enter Try.func27, Try.ntmps27
    go_wp2_with fail
    refine (HS.out _).mono ?_
    rintro e w1 ⟨rfl, rfl⟩
    go_wp2_with fail
    refine (HO.out _).mono ?_
    rintro e w1 ⟨rfl, rfl⟩
    go_wp2_with fail
    go_ret
    exact ⟨rfl, rfl⟩
theorem ex_cellCount (w h M : Int) (W : World) : Calls Try.prog 5 #[.int .i64 w, .int .i64 h, .int .i64 M] W fun e w' => e = .returned (.bool true) ∧ Below W.heap.size W w' := by
  have HS := Lib.hid (fun W => spec_cells w h M W)
  have HI := Lib.hid (fun W => impl_cells w h M W)
  generalize cellsV w h M = r at *
  go_enter Try.func5, Try.ntmps5
  go_wp2_with fail
  refine (HS.out _).mono ?_
  rintro e w1 ⟨rfl, rfl⟩
  go_wp2_with fail
  refine (HI.out _).mono ?_
  rintro e w2 ⟨rfl, rfl⟩
  go_wp2_with fail
  go_ret
  exact ⟨rfl, Below.refl _ _⟩
end Go.Proofs.Ytimkknljoeiceaa
