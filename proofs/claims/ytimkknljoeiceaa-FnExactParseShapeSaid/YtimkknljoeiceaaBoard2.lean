/-
  The board's methods: mask, covers, indexOf, has, cellAt; neighborsOf.
-/
import Derived.Test.YtimkknljoeiceaaBoard
namespace Go.Proofs.Ytimkknljoeiceaa
open Go.RowKit

section
variable {ops : Array Oper} {rest : List Oper} {o : Oper} {a : Act} {w : World} {Q : Exit → Act → World → Prop}
/-- A board is read as a whole, under a guard that is met. -/
theorem wpList_loadB (hw : Region.wanted o (yielded ops a.tmps) = true) (x : Operand) (ho : o.op = .load 75 x) (g p q : Nat) (F : Nat → Bool) (hx : a.eval x = .pointer (some ⟨g, 0, none⟩)) (hg : Brd w g p q F)
    (h : wpList Try.prog ops Q rest (a.put o.dst (.agg (bdV p q F))) w) : wpList Try.prog ops Q (o :: rest) a w :=
  wpList_step fun K hK => by
    rw [if_pos hw]
    exact wp_load_row 75 x ho g hx 75 (bdV p q F) (0, 0) _ hg Try.underlying75 rfl (infoB' _ _ _) (hK _ _ h)
/-- A board is written as a whole. -/
theorem wpList_storeB (hw : o.guard = none) (x y : Operand) (ho : o.op = .store 75 x y) (g p q p' q' : Nat) (F G : Nat → Bool) (hx : a.eval x = .pointer (some ⟨g, 0, none⟩)) (hy : a.eval y = .agg (bdV p q F)) (hg : Brd w g p' q' G)
    (h : wpList Try.prog ops Q rest (a.put o.dst undef) (w.setRow g (bdV p q F))) : wpList Try.prog ops Q (o :: rest) a w :=
  wpList_store_row hw 75 x y ho g (bdV p q F) hx hy 75 _ hg (infoB' _ _ _) (by rw [bdV_size, bdV_size]) (bdV_one _ _ _) h
end
def covB (a b : Nat) (x y : Int) : Bool := inB x 0 (a - 1) && inB y 0 (b - 1)
def hasB (a b : Nat) (F : Nat → Bool) (x y : Int) : Bool := covB a b x y && F (y * a + x).toNat
theorem two_le36 {k : Nat} (h : k ≤ 36) : 2 ^ k ≤ 68719476736 := Nat.pow_le_pow_right (n := 2) (by omega) h
theorem pow_nat (k : Nat) (h : k < 36) : ∃ p : Nat, (2 : Int) ^ k = (p : Int) ∧ p = 2 ^ k ∧ p ≤ 68719476736 :=
  ⟨2 ^ k, pow_cast k, rfl, two_le36 (by omega)⟩
set_option maxRecDepth 100000 in
set_option maxHeartbeats 1600000 in
theorem maskB_any (a b : Nat) (F : Nat → Bool) (W : World) (hab : a * b ≤ 36) :
    Calls Try.prog 95 #[.agg (bdV a b F)] W fun e w' => e = .returned (.int .i64 (ofF F (a * b))) ∧ Below W.heap.size W w' := by
  obtain ⟨n, hn⟩ : ∃ n, n = a * b := ⟨_, rfl⟩
  have hN : ((a : Int) * (b : Int) = (n : Int)) := by rw [hn, Int.natCast_mul]
  rw [← hn] at hab ⊢
  have t1 := brd_new W a b F
  have c0 := t1.c0; have c1 := t1.c1
  have b1 := below1 W (.cells (bdV a b F) 75)
  have H0 : Hid (0 = ofF F 0) := rfl
  clear hn
  go_enter Try.func95, Try.ntmps95
  go_wp2_with fail
  generalize W.alloc (.cells (bdV a b F) 75) = w1 at *
  have HT := Lib.hid t1
  clear t1
  go_loopw [3, 4, 10] (fun s _ i wr => ∃ k m : Nat, k ≤ n ∧ i = .int .i64 k ∧ s = .int .i64 m ∧ Hid (m = ofF F k) ∧ wr = w1) (fun _ _ i _ => n - (intOf i).toNat)
  case atStart => exact ⟨0, 0, Nat.zero_le _, rfl, rfl, H0, rfl⟩
  case round =>
    obtain ⟨k, m, hk, rfl, rfl, HM, rfl⟩ := hrel
    by_cases hlt : k < n
    · have hlt36 : k < 36 := by omega
      have c2 := HT.out.at hlt36
      obtain ⟨p, hp, hp2, hp3⟩ := pow_nat k hlt36
      have hm : m < 68719476736 := by
        rw [HM.out]
        exact Nat.lt_of_lt_of_le (ofF_lt F k) (two_le36 (by omega))
      have hor := or_nat (a := m) (b := p) (by omega) (by omega)
      cases hF : F k
      · rw [hF] at c2
        have HS : Hid (m = ofF F (k + 1)) := by
          show _ = _
          rw [HM.out]; simp [ofF, hF]
        clear hor hp hp2 hp3 hF
        go_wp2_with fail
        go_roundw
        case rel => exact ⟨k + 1, m, by omega, by go_num, rfl, HS, by first | trivial | rfl⟩
        case measure => simp [intOf]; omega
      · rw [hF] at c2
        have HS : Hid (m ||| p = ofF F (k + 1)) := by
          show _ = _
          rw [HM.out, hp2]; simp [ofF, hF]
        clear hF hp2
        generalize m ||| p = m2 at *
        go_wp2_with fail
        go_roundw
        case rel => exact ⟨k + 1, m2, by omega, by go_num, rfl, HS, by first | trivial | rfl⟩
        case measure => simp [intOf]; omega
    · obtain rfl : k = n := by omega
      go_wp2_with fail
      go_ret
      rw [← HM.out]
      exact ⟨rfl, b1⟩
theorem covers_any (a b : Nat) (F : Nat → Bool) (x y : Int) (W : World) (ha : 1 ≤ a ∧ a ≤ 6) (hb : 1 ≤ b ∧ b ≤ 6) :
    Calls Try.prog 140 #[.agg (bdV a b F), (.agg #[.int .i64 x, .int .i64 y])] W fun e w' => e = .returned (.bool (covB a b x y)) ∧ Below W.heap.size W w' := by
  have t1 := (brd_new W a b F).alloc (.cells #[.int .i64 x, .int .i64 y] 54)
  have t2 := at_new (W.alloc (.cells (bdV a b F) 75)) x y 54
  rw [size_alloc] at t2
  have b2 := below2 W (.cells (bdV a b F) 75) (.cells #[.int .i64 x, .int .i64 y] 54)
  have c0 := t1.c0; have c1 := t1.c1; have c2 := t2.c0; have c3 := t2.c1
  have HV : Hid (covB a b x y = (inB x 0 (a - 1) && inB y 0 (b - 1))) := rfl
  clear t1 t2
  cases hx : inB x 0 (a - 1)
  all_goals
    rw [hx] at HV
    go_enter Try.func140, Try.ntmps140
    go_wp2_with fail
    refine (from_any _ _ _ _).mono ?_
    rintro e w1 ⟨rfl, rfl⟩
    rw [hx]
    go_wp2_with fail
  · go_ret
    exact ⟨ret_bool HV.out.symm, b2⟩
  · refine (from_any _ _ _ _).mono ?_
    rintro e w1 ⟨rfl, rfl⟩
    go_wp2_with fail
    go_ret
    exact ⟨ret_bool HV.out.symm, b2⟩
theorem covB_nat {a b : Nat} {x y : Int} (h : covB a b x y = true) : ∃ i j : Nat, x = i ∧ y = j ∧ i < a ∧ j < b ∧ j * a + i < a * b ∧ (y * a + x) = ((j * a + i : Nat) : Int) := by
  unfold covB at h
  simp only [Bool.and_eq_true, inB_spec] at h
  refine ⟨x.toNat, y.toNat, by omega, by omega, by omega, by omega, in_tab (by omega) (by omega), ?_⟩
  rw [Int.natCast_add, Int.natCast_mul, Int.toNat_of_nonneg (by omega), Int.toNat_of_nonneg (by omega)]
theorem indexOf_any (a b : Nat) (F : Nat → Bool) (i j : Nat) (W : World) (ha : a ≤ 6) (hb : b ≤ 6) (hi : i < a) (hj : j < b) :
    Calls Try.prog 129 #[.agg (bdV a b F), (.agg #[.int .i64 (i : Int), .int .i64 (j : Int)])] W fun e w' => e = .returned (.int .i64 (j * a + i : Nat)) ∧ Below W.heap.size W w' := by
  have t1 := (brd_new W a b F).alloc (.cells #[.int .i64 i, .int .i64 j] 54)
  have t2 := at_new (W.alloc (.cells (bdV a b F) 75)) i j 54
  rw [size_alloc] at t2
  have b2 := below2 W (.cells (bdV a b F) 75) (.cells #[.int .i64 i, .int .i64 j] 54)
  have c0 := t1.c0; have c2 := t2.c0; have c3 := t2.c1
  obtain ⟨m, hm⟩ : ∃ m, m = j * a := ⟨_, rfl⟩
  have hm2 : m ≤ 36 := by rw [hm]; exact Nat.mul_le_mul (by omega : j ≤ 6) ha
  have hM : (j : Int) * (a : Int) = (m : Int) := by rw [hm, Int.natCast_mul]
  rw [← hm]
  clear t1 t2 hm
  go_enter Try.func129, Try.ntmps129
  go_wp2_with fail
  go_ret
  exact ⟨by go_num, b2⟩
set_option maxRecDepth 100000 in
theorem hasCell_any (a b : Nat) (F : Nat → Bool) (x y : Int) (W : World) (ha : 1 ≤ a ∧ a ≤ 6) (hb : 1 ≤ b ∧ b ≤ 6) (hab : a * b ≤ 36) :
    Calls Try.prog 97 #[.agg (bdV a b F), (.agg #[.int .i64 x, .int .i64 y])] W fun e w' => e = .returned (.bool (hasB a b F x y)) ∧ Below W.heap.size W w' := by
  have t1 := (brd_new W a b F).alloc (.cells #[.int .i64 x, .int .i64 y] 54)
  have t2 := at_new (W.alloc (.cells (bdV a b F) 75)) x y 54
  rw [size_alloc] at t2
  have b2 := below2 W (.cells (bdV a b F) 75) (.cells #[.int .i64 x, .int .i64 y] 54)
  have c2 := t2.c0; have c3 := t2.c1
  have HC := Lib.hid (fun w => covers_any a b F x y w ha hb)
  have HV : Hid (hasB a b F x y = (covB a b x y && F (y * a + x).toNat)) := rfl
  cases hc : covB a b x y
  · rw [hc] at HV HC
    go_enter Try.func97, Try.ntmps97
    go_wp2_with (refine wpList_loadB rfl _ rfl _ _ _ _ rfl t1 ?_)
    refine (HC.out _).mono ?_
    rintro e w1 ⟨rfl, hb1⟩
    have b3 := below_on b2 hb1
    go_wp2_with fail
    go_ret
    exact ⟨ret_bool (by rw [HV.out]; rfl), b3⟩
  · rw [hc] at HV HC
    obtain ⟨i, j, rfl, rfl, hi, hj, hij, hK⟩ := covB_nat hc
    have HI := Lib.hid (fun w => indexOf_any a b F i j w ha.2 hb.2 hi hj)
    rw [hK, Int.toNat_natCast] at HV
    generalize j * a + i = k at *
    clear hK
    have hk36 : k < 36 := by omega
    go_enter Try.func97, Try.ntmps97
    go_wp2_with (refine wpList_loadB rfl _ rfl _ _ _ _ rfl t1 ?_)
    refine (HC.out _).mono ?_
    rintro e w1 ⟨rfl, hb1⟩
    have b3 := below_on b2 hb1
    have t3 := t1.step hb1
    have t4 := t2.step hb1
    have c4 := t4.c0; have c5 := t4.c1
    clear t1 t2 b2 hb1 c2 c3
    go_wp2_with (refine wpList_loadB rfl _ rfl _ _ _ _ rfl t3 ?_)
    refine (HI.out _).mono ?_
    rintro e w2 ⟨rfl, hb2⟩
    have b4 := below_on b3 hb2
    have t5 := t3.step hb2
    have c6 := t5.at hk36
    clear t3 b3 hb2 c4 c5 t4
    go_wp2_with fail
    go_ret
    exact ⟨ret_bool (by rw [HV.out]; rfl), b4⟩
end Go.Proofs.Ytimkknljoeiceaa
