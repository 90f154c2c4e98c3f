/-
  takePart: a cell and all that can be reached from it are taken off the board.
-/
import Derived.Test.YtimkknljoeiceaaBoard3
namespace Go.Proofs.Ytimkknljoeiceaa
open Go.RowKit

def spot (a b : Nat) (x y : Int) : Option Nat := if covB a b x y = true then some (y * a + x).toNat else none
theorem spot_nat {a b i j : Nat} (hi : i < a) (hj : j < b) : spot a b (i : Int) (j : Int) = some (j * a + i) := by
  have hc : covB a b (i : Int) (j : Int) = true := by
    unfold covB
    simp only [Bool.and_eq_true, inB_spec]
    omega
  unfold spot
  rw [if_pos hc, ← Int.natCast_mul, ← Int.natCast_add, Int.toNat_natCast]
theorem spot_out {a b : Nat} {x y : Int} (h : x < 0 ∨ (a : Int) ≤ x ∨ y < 0 ∨ (b : Int) ≤ y) : spot a b x y = none := by
  have hc : ¬ covB a b x y = true := by
    unfold covB
    simp only [Bool.and_eq_true, inB_spec]
    omega
  unfold spot
  rw [if_neg hc]
theorem nbI_at {a b i j : Nat} (hi : i < a) (hj : j < b) (t : Nat) : spot a b (nbP i j t).1 (nbP i j t).2 = nbI a b (j * a + i) t := by
  obtain ⟨e1, e2⟩ := row_col (by omega) hi (rfl : j * a + i = j * a + i)
  have hs : ∀ u v : Nat, ∀ x y : Int, x = u → y = v → u < a → v < b → spot a b x y = some (v * a + u) := fun u v x y h1 h2 h3 h4 => by
    subst h1; subst h2; exact spot_nat h3 h4
  match t with
  | 0 =>
    simp only [nbP, nbI, e2]
    by_cases h : 0 < j
    · rw [if_pos h, hs i (j - 1) _ _ rfl (by omega) hi (by omega)]
      have : j * a = (j - 1) * a + a := by
        rw [show j = (j - 1) + 1 by omega, Nat.add_mul, Nat.one_mul]; simp
      congr 1; omega
    · rw [if_neg h, spot_out (by omega)]
  | 1 =>
    simp only [nbP, nbI, e1]
    by_cases h : 0 < i
    · rw [if_pos h, hs (i - 1) j _ _ (by omega) rfl (by omega) hj]
      congr 1; omega
    · rw [if_neg h, spot_out (by omega)]
  | 2 =>
    simp only [nbP, nbI, e1]
    by_cases h : i + 1 < a
    · rw [if_pos h, hs (i + 1) j _ _ (by omega) rfl h hj]
      congr 1
    · rw [if_neg h, spot_out (by omega)]
  | t + 3 =>
    simp only [nbP, nbI, e2]
    by_cases h : j + 1 < b
    · rw [if_pos h, hs i (j + 1) _ _ rfl (by omega) hi h]
      congr 1
      rw [Nat.add_mul, Nat.one_mul]; omega
    · rw [if_neg h, spot_out (by omega)]
theorem has_spot {a b : Nat} {F : Nat → Bool} {x y : Int} : hasB a b F x y = true ↔ ∃ i j : Nat, x = i ∧ y = j ∧ i < a ∧ j < b ∧ F (j * a + i) = true := by
  unfold hasB
  constructor
  · intro h
    simp only [Bool.and_eq_true] at h
    obtain ⟨i, j, rfl, rfl, hi, hj, _, e⟩ := covB_nat h.1
    rw [e, Int.toNat_natCast] at h
    exact ⟨i, j, rfl, rfl, hi, hj, h.2⟩
  · rintro ⟨i, j, rfl, rfl, hi, hj, hF⟩
    have hc : covB a b (i : Int) (j : Int) = true := by
      unfold covB
      simp only [Bool.and_eq_true, inB_spec]
      omega
    rw [hc, ← Int.natCast_mul, ← Int.natCast_add, Int.toNat_natCast, hF]; rfl
theorem took_no {a b : Nat} {F : Nat → Bool} {x y : Int} (h : hasB a b F x y = false) : Took (Adj a b) F (spot a b x y) 0 := by
  unfold hasB at h
  unfold spot
  cases hc : covB a b x y
  · rw [if_neg (by simp)]; exact Took.none
  · rw [hc, Bool.true_and] at h
    rw [if_pos rfl]; exact Took.off h
theorem upd_rem (F : Nat → Bool) (k : Nat) : updF F k false = rem1 F k := by
  funext j
  by_cases e : j = k
  · subst e; simp [updF, rem1]
  · simp [updF, rem1, e]
theorem took_lt {A : Nat → Nat → Prop} {F : Nat → Bool} {o : Option Nat} {P n : Nat} (hF : ∀ j, n ≤ j → F j = false) (h : Took A F o P) : P < 2 ^ n := by
  apply Nat.lt_pow_two_of_testBit
  intro j hj
  rw [← Bool.not_eq_true, h j]
  rintro ⟨k, _, r⟩
  have := r.mem
  rw [hF j hj] at this; cases this
theorem taking_lt {A : Nat → Nat → Prop} {F : Nat → Bool} {i P n : Nat} {os : List (Option Nat)} (hF : ∀ j, n ≤ j → F j = false) (hi : i < n) (h : Taking A F i os P) : P < 2 ^ n := by
  apply Nat.lt_pow_two_of_testBit
  intro j hj
  rw [← Bool.not_eq_true, h j]
  rintro (rfl | ⟨k, _, r⟩)
  · omega
  · have := r.mem
    simp [rem1, hF j hj] at this
theorem less_cnt {A : Nat → Nat → Prop} {F : Nat → Bool} {i P n : Nat} {os : List (Option Nat)} (hF : F i = true) (hi : i < n) (h : Taking A F i os P) : cntF (less F P) n < cntF F n := by
  refine Nat.lt_of_le_of_lt (cntF_mono (G := rem1 F i) fun j hj => ?_) (cntF_rem hi hF)
  simp only [less, rem1, Bool.and_eq_true, Bool.not_eq_true', decide_eq_false_iff_not] at hj ⊢
  refine ⟨hj.1, fun e => ?_⟩
  have := (h j).2 (.inl e)
  rw [hj.2] at this; cases this
theorem less_off {F : Nat → Bool} {P n : Nat} (hF : ∀ j, n ≤ j → F j = false) : ∀ j, n ≤ j → less F P j = false := fun j hj => by simp [less, hF j hj]
theorem range_snoc {α : Type} (f : Nat → α) (t : Nat) : (List.range (t + 1)).map f = (List.range t).map f ++ [f t] := by rw [List.range_succ, List.map_append]; rfl

theorem gb_trans {a w w' : World} {r : Option Nat} (h : a.grownBy w r) (h2 : w.grownBy w' r) : a.grownBy w' r :=
  ⟨h2.os.trans h.os, h2.tape.trans h.tape, h2.output.trans h.output, Nat.le_trans h.size h2.size, fun k hk hr => (h2.block k (Nat.lt_of_lt_of_le hk h.size) hr).trans (h.block k hk hr)⟩
theorem gb_below {a w w' : World} {r : Option Nat} (h : a.grownBy w r) (h2 : Below w.heap.size w w') : a.grownBy w' r :=
  ⟨h2.os.trans h.os, h2.tape.trans h.tape, h2.output.trans h.output, Nat.le_trans h.size h2.size, fun k hk hr => (h2.block k (Nat.lt_of_lt_of_le hk h.size)).trans (h.block k hk hr)⟩
theorem gb_set {a w : World} {g : Nat} (h : a.grownBy w (some g)) (j : Nat) (u : Value) : a.grownBy (w.setCell ⟨g, j, none⟩ u) (some g) :=
  ⟨h.os, h.tape, h.output, by simpa [World.setCell] using h.size, fun k hk hr => (Below.heap_setCell w ⟨g, j, none⟩ u k (by
    intro e; exact hr (by rw [e]))).trans (h.block k hk hr)⟩
def TookP (a b g : Nat) (F : Nat → Bool) (o : Option Nat) (W : World) (e : Ending) (w' : World) : Prop :=
  ∃ P : Nat, e = .returned (.int .i64 P) ∧ Took (Adj a b) F o P ∧ Brd w' g a b (less F P) ∧ W.grownBy w' (some g)
theorem idx_nb (x y : Int) (t : Nat) (ht : t < 4) (w : World) : (Instr.index 99 (.agg (nbA x y)) (.int .i64 (t : Int))).run Try.prog w = .ok (.agg #[.int .i64 (nbP x y t).1, .int .i64 (nbP x y t).2]) w := by
  match t, ht with
  | 0, _ => simp [go_sem, Instr.index, nbA, nbP]
  | 1, _ => simp [go_sem, Instr.index, nbA, nbP]
  | 2, _ => simp [go_sem, Instr.index, nbA, nbP]
  | 3, _ => simp [go_sem, Instr.index, nbA, nbP]
  | t + 4, h => omega
theorem nbP_bd {x y : Int} (h : 0 ≤ x ∧ x ≤ 6 ∧ 0 ≤ y ∧ y ≤ 6) (t : Nat) : -2 ≤ (nbP x y t).1 ∧ (nbP x y t).1 ≤ 7 ∧ -2 ≤ (nbP x y t).2 ∧ (nbP x y t).2 ≤ 7 := by
  match t with
  | 0 => simp only [nbP]; omega
  | 1 => simp only [nbP]; omega
  | 2 => simp only [nbP]; omega
  | t + 3 => simp only [nbP]; omega
theorem wpQuiet_loadB {ops : Array Oper} {rest : List Oper} {o : Oper} {a : Act} {w : World} {Q : Act → Prop} (hw : Region.wanted o (yielded ops a.tmps) = true) (x : Operand) (ho : o.op = .load 75 x) (g p q : Nat) (F : Nat → Bool) (hx : a.eval x = .pointer (some ⟨g, 0, none⟩)) (hg : Brd w g p q F)
    (h : wpQuiet Try.prog ops (fun w' => ∃ p : Regrown, w' = Go.Sort.grow (redrawn w p.d) p.os) Q rest (a.put o.dst (.agg (bdV p q F)))) : wpQuiet Try.prog ops (fun w' => ∃ p : Regrown, w' = Go.Sort.grow (redrawn w p.d) p.os) Q (o :: rest) a :=
  wpQuiet_step fun K hK => by
    rw [if_pos hw]
    refine ⟨.agg (bdV p q F), fun w' hC => ?_, hK _ h⟩
    obtain ⟨r, rfl⟩ := hC
    have hl := run_loadVar_row (P := Try.prog) _ g 75 75 _ (0, 0) _ (hg.step (below_regrown w r.d r.os)) Try.underlying75 rfl (infoB' _ _ _)
    unfold Oper.quietAt execOp
    simp only [ho, hx, Instr.loadAt, Instr.sureAddr, Sem.run_bind, Sem.run_pure, Result.andThen_ok, hl]
    exact ⟨rfl, rfl⟩
set_option maxRecDepth 100000 in
set_option maxHeartbeats 2000000 in
theorem take_any (a b : Nat) (ha : 1 ≤ a ∧ a ≤ 6) (hb : 1 ≤ b ∧ b ≤ 6) (hab : a * b ≤ 36) : ∀ (N : Nat) (F : Nat → Bool) (x y : Int) (g : Nat) (W : World), cntF F (a * b) ≤ N → (∀ j, a * b ≤ j → F j = false) → Brd W g a b F → (-2 ≤ x ∧ x ≤ 7 ∧ -2 ≤ y ∧ y ≤ 7) →
    Calls Try.prog 79 #[.pointer (some ⟨g, 0, none⟩), (.agg #[.int .i64 x, .int .i64 y])] W (TookP a b g F (spot a b x y) W)
  | N, F, x, y, g, W, hN, hF, hg, hxy => by
    have HH := Lib.hid (fun w => hasCell_any a b F x y w ha hb hab)
    have t1 := hg.alloc (.cells #[.int .i64 x, .int .i64 y] 54)
    have t2 := at_new W x y 54
    have b1 := below1 W (.cells #[.int .i64 x, .int .i64 y] 54)
    have c2 := t2.c0; have c3 := t2.c1
    have k2 := cell_regrown c2; have k3 := cell_regrown c3
    cases hh : hasB a b F x y
    · have HT : Hid (Took (Adj a b) F (spot a b x y) 0) := took_no hh
      rw [hh] at HH
      clear hN hF hh hxy
      generalize spot a b x y = o at *
      go_enter Try.func79, Try.ntmps79
      go_wp2_with fail
      refine wp_region_quiet_below (by kernel_rfl) (by kernel_rfl) ?_
      repeat (first
        | refine wpQuiet_loadB rfl _ rfl _ _ _ _ rfl t1 ?_
        | go_big_quiet_step (first | exact Calls.regrown_of (HH.out _))
        | quiet_step (first | exact Calls.regrown_of (HH.out _)))
      refine wpQuiet_nil ?_
      rintro _ ⟨⟨dq, osq⟩, rfl⟩
      have hb2 := below_on b1 (below_regrown (W.alloc (.cells #[.int .i64 x, .int .i64 y] 54)) dq osq)
      clear t1 t2 b1 c2 c3 k2 k3
      simp only at *
      generalize Go.Sort.grow (redrawn (W.alloc (.cells #[.int .i64 x, .int .i64 y] 54)) dq) osq = w2 at *
      have R : Hid (TookP a b g F o W (.returned (.int .i64 0)) w2) := ⟨0, rfl, HT.out, by rw [less_zero]; exact hg.step hb2, gb_below (World.grownBy.refl W _) hb2⟩
      clear hg hb2 HH HT
      go_wp2_with fail
      go_ret
      exact R.out
    · obtain ⟨i, j, rfl, rfl, hi, hj, hFk⟩ := has_spot.1 hh
      rw [hh] at HH
      clear hh
      have HO := Lib.hid (spot_nat (a := a) (b := b) hi hj)
      have HI := Lib.hid (fun w => indexOf_any a b F i j w ha.2 hb.2 hi hj)
      have hk := in_tab (h := b) hi hj
      have HN := Lib.hid (nbI_at (a := a) (b := b) hi hj)
      rw [HO.out]
      obtain ⟨k, hkk⟩ : ∃ k, k = j * a + i := ⟨_, rfl⟩
      rw [← hkk] at HO HI hk HN hFk ⊢
      clear hkk
      obtain ⟨N, rfl⟩ : ∃ N', N = N' + 1 := ⟨N - 1, by have := cntF_rem hk hFk; omega⟩
      have HIH := Lib.hid (fun F x y g W h1 h2 h3 h4 => take_any a b ha hb hab N F x y g W h1 h2 h3 h4)
      have HNB := Lib.hid (fun w => nbs_any (i : Int) (j : Int) w (by omega) (by omega))
      have HX : ∀ w (t : Nat), t < 4 → (Instr.index 99 (.agg (nbA i j)) (.int .i64 (t : Int))).run Try.prog w = .ok (.agg #[.int .i64 (nbP i j t).1, .int .i64 (nbP i j t).2]) w := fun w t ht => idx_nb i j t ht w
      have HXX := Lib.hid HX
      have HBD := Lib.hid (nbP_bd (x := (i : Int)) (y := (j : Int)) (by omega))
      have hk36 : k < 36 := by omega
      have HF0 := Lib.hid (And.intro hN (And.intro hF hFk))
      have HDN := Lib.hid (fun P (T : Taking (Adj a b) F k ((List.range 4).map (nbI a b k)) P) => Taking.done hFk (nbI_adj (by omega) hk) T)
      clear hN hF HX hFk
      go_enter Try.func79, Try.ntmps79
      go_wp2_with fail
      refine wp_region_quiet_below (by kernel_rfl) (by kernel_rfl) ?_
      repeat (first
        | refine wpQuiet_loadB rfl _ rfl _ _ _ _ rfl t1 ?_
        | go_big_quiet_step (first | exact Calls.regrown_of (HH.out _))
        | quiet_step (first | exact Calls.regrown_of (HH.out _)))
      refine wpQuiet_nil ?_
      rintro _ ⟨⟨dq, osq⟩, rfl⟩
      have hr2 := below_regrown (W.alloc (.cells #[.int .i64 i, .int .i64 j] 54)) dq osq
      have b2 := below_on b1 hr2
      replace t1 := t1.step hr2
      replace t2 := t2.step hr2
      clear b1 c2 c3 k2 k3 hr2 HH
      simp only at *
      generalize Go.Sort.grow (redrawn (W.alloc (.cells #[.int .i64 i, .int .i64 j] 54)) dq) osq = w2 at *
      have c2 := t2.c0; have c3 := t2.c1
      have k2 := cell_regrown c2; have k3 := cell_regrown c3
      go_wp2_with fail
      refine wp_region_quiet_below (by kernel_rfl) (by kernel_rfl) ?_
      repeat (first
        | refine wpQuiet_loadB rfl _ rfl _ _ _ _ rfl t1 ?_
        | go_big_quiet_step (first | exact Calls.regrown_of (HI.out _))
        | quiet_step (first | exact Calls.regrown_of (HI.out _)))
      refine wpQuiet_nil ?_
      rintro _ ⟨⟨dq, osq⟩, rfl⟩
      have hr2 := below_regrown w2 dq osq
      replace b2 := below_on b2 hr2
      replace t1 := t1.step hr2
      replace t2 := t2.step hr2
      clear c2 c3 k2 k3 hr2 HI
      simp only at *
      generalize Go.Sort.grow (redrawn w2 dq) osq = w3 at *
      have c2 := t2.c0; have c3 := t2.c1
      have f1 := t1.frozen (2 + k)
      have v1 := t1.at hk36
      have hgW := hg.lt
      have n2 : W.heap.size ≠ g := by omega
      have s1 := t1.set hk36 false
      rw [upd_rem, ← less_pow] at s1
      have s2 := at_set t2 (b := g) n2 (2 + k) (.bool false)
      have g2 := gb_set (gb_below (World.grownBy.refl W (some g)) b2) (2 + k) (.bool false)
      have e5 : (w3.setCell ⟨g, 2 + k, none⟩ (.bool false)).heap.size = w3.heap.size := by simp
      obtain ⟨p, hp, hp2, hp3⟩ := pow_nat k hk36
      rw [← hp2] at s1
      have HP : Hid (Taking (Adj a b) F k ((List.range 0).map (nbI a b k)) p) := by
        show Taking _ _ _ _ _
        rw [hp2]; exact Taking.start
      clear hp2 c2 c3
      have c2 := s2.c0; have c3 := s2.c1
      clear t1 t2 b2 hg
      go_wp2_with fail
      generalize w3.setCell ⟨g, 2 + k, none⟩ (.bool false) = w4 at *
      refine (HNB.out _).mono ?_
      rintro e w5 ⟨rfl, hb5⟩
      replace s1 := s1.step hb5
      replace g2 := gb_below g2 hb5
      clear hb5 c2 c3 s2 f1 v1 e5 HNB hp
      go_wp2_with fail
      go_loopw [6, 29] (fun s i wr => ∃ t P : Nat, t ≤ 4 ∧ i = .int .i64 t ∧ s = .int .i64 P ∧ Hid (Taking (Adj a b) F k ((List.range t).map (nbI a b k)) P) ∧ Brd wr g a b (less F P) ∧ W.grownBy wr (some g)) (fun _ i _ => 4 - (intOf i).toNat)
      case atStart => exact ⟨0, p, by omega, rfl, rfl, HP, s1, g2⟩
      case round =>
        clear s1 g2 HP
        obtain ⟨wo, rfl⟩ : ∃ wo : World, wo = wr := ⟨_, rfl⟩
        obtain ⟨t, P, ht, rfl, rfl, HT, hg, hgr⟩ := hrel
        have hP := Nat.lt_of_lt_of_le (taking_lt HF0.out.2.1 hk HT.out) (two_le36 hab)
        by_cases hlt : t < 4
        · have hx := HXX.out
          have hx1 : (Instr.index 99 (.agg (nbA i j)) (.int .i64 (t : Int))).run Try.prog wo = .ok (.agg #[.int .i64 (nbP i j t).1, .int .i64 (nbP i j t).2]) wo := hx wo t hlt
          clear hx
          have hbd := HBD.out t
          have hnb := HN.out t
          have hcn : cntF (less F P) (a * b) ≤ N := by
            have := less_cnt HF0.out.2.2 hk HT.out
            have := HF0.out.1
            omega
          have hoff := less_off (P := P) HF0.out.2.1
          have HC := Lib.hid (fun w hw => HIH.out (less F P) (nbP i j t).1 (nbP i j t).2 g w hcn hoff hw hbd)
          rw [hnb] at HC
          clear hnb hcn
          have HFO := Lib.hid hoff
          clear hoff
          generalize (nbP (i : Int) (j : Int) t).1 = u at *
          generalize (nbP (i : Int) (j : Int) t).2 = v at *
          have a1 := at_new wo u v 54
          have c2 := a1.c0; have c3 := a1.c1
          have hg1 := hg.alloc (.cells #[.int .i64 u, .int .i64 v] 54)
          have hgr1 := gb_below hgr (below1 wo (.cells #[.int .i64 u, .int .i64 v] 54))
          have HCC := Lib.hid (HC.out _ hg1)
          clear HC hg hgr hg1 a1 hbd
          go_wp2_with fail
          refine HCC.out.mono ?_
          rintro e w6 ⟨Q, rfl, hQ, hg6, hgr6⟩
          have hQ2 := Nat.lt_of_lt_of_le (took_lt HFO.out hQ) (two_le36 hab)
          have hor := or_nat (a := P) (b := Q) (by omega) (by omega)
          have HT2 : Hid (Taking (Adj a b) F k ((List.range (t + 1)).map (nbI a b k)) (P ||| Q)) := by
            show Taking _ _ _ _ _
            rw [range_snoc]
            exact HT.out.next (fun _ _ h => h.symm) hQ
          rw [less_or] at hg6
          have R := Lib.hid (And.intro hg6 (gb_trans hgr1 hgr6))
          clear hQ hg6 hgr6 hgr1 HT HCC c2 c3 hx1
          generalize P ||| Q = P2 at *
          go_wp2_with fail
          go_roundw
          case rel => exact ⟨t + 1, P2, by omega, by go_num, rfl, HT2, R.out.1, R.out.2⟩
          case measure => simp [intOf]; omega
        · obtain rfl : t = 4 := by omega
          have R : Hid (TookP a b g F (some k) W (.returned (.int .i64 P)) wo) := ⟨P, rfl, HDN.out P HT.out, hg, hgr⟩
          clear HT hg hgr
          go_wp2_with fail
          go_ret
          exact R.out
end Go.Proofs.Ytimkknljoeiceaa
