/-
  RimOf of both programs.
-/
import Derived.Test.YtimkknljoeiceaaCells
import Derived.Test.YtimkknljoeiceaaTake
namespace Go.Proofs.Ytimkknljoeiceaa
open Go.RowKit

def outN (a b M : Nat) (x y : Int) : Nat := if hasB a b M.testBit x y = true then 0 else 1
/-- The sides of a cell that no other has, in the program's order, and in the model's. -/
def rimP8 (a b M : Nat) (x y : Int) : Nat → Nat
  | 0 => 0
  | t + 1 => rimP8 a b M x y t + outN a b M (nbP x y t).1 (nbP x y t).2
def dirS (t : Nat) : Int × Int :=
  match t with
  | 0 => (1, 0)
  | 1 => (-1, 0)
  | 2 => (0, 1)
  | _ => (0, -1)
def rimS8 (a b M : Nat) (x y : Int) : Nat → Nat
  | 0 => 0
  | t + 1 => rimS8 a b M x y t + outN a b M (x + (dirS t).1) (y + (dirS t).2)
theorem rim8_eq (a b M : Nat) (x y : Int) : rimS8 a b M x y 4 = rimP8 a b M x y 4 := by
  simp only [rimS8, rimP8, nbP, dirS, Int.add_zero, ← Int.sub_eq_add_neg]
  omega
theorem outN_le (a b M : Nat) (x y : Int) : outN a b M x y ≤ 1 := by unfold outN; split <;> omega
theorem rimP8_le (a b M : Nat) (x y : Int) : ∀ t, rimP8 a b M x y t ≤ t
  | 0 => Nat.le_refl _
  | t + 1 => by have := rimP8_le a b M x y t; have := outN_le a b M (nbP x y t).1 (nbP x y t).2; simp only [rimP8]; omega
theorem rimS8_le (a b M : Nat) (x y : Int) : ∀ t, rimS8 a b M x y t ≤ t
  | 0 => Nat.le_refl _
  | t + 1 => by have := rimS8_le a b M x y t; have := outN_le a b M (x + (dirS t).1) (y + (dirS t).2); simp only [rimS8]; omega
def rimT8 (a b M : Nat) (L : List (Int × Int)) : Nat → Nat
  | 0 => 0
  | k + 1 => rimT8 a b M L k + rimP8 a b M (gt L k).1 (gt L k).2 4
theorem rimT8_le (a b M : Nat) (L : List (Int × Int)) : ∀ k, rimT8 a b M L k ≤ 4 * k
  | 0 => Nat.le_refl _
  | k + 1 => by have := rimT8_le a b M L k; have := rimP8_le a b M (gt L k).1 (gt L k).2 4; simp only [rimT8]; omega
def rimV8 (w h M : Int) : Int := bif shapeB w h M then (rimT8 w.toNat h.toNat M.toNat (cellsC w.toNat M.toNat) (cellsC w.toNat M.toNat).length : Int) else -1
theorem rimV8_no {w h M : Int} (hB : shapeB w h M = false) : rimV8 w h M = -1 := by unfold rimV8; rw [hB]; rfl
theorem rimV8_yes {a b m : Nat} (hB : shapeB a b m = true) : rimV8 a b m = (rimT8 a b m (cellsC a m) (cellsC a m).length : Nat) := by unfold rimV8; rw [hB]; rfl
/-- The cells lie in the table. -/
theorem cellsL_bd {a b n : Nat} {F : Nat → Bool} (ha : 0 < a) (hn : n ≤ a * b) : ∀ p ∈ cellsL a F n, 0 ≤ p.1 ∧ p.1 < a ∧ 0 ≤ p.2 ∧ p.2 < b := by
  intro p hp
  unfold cellsL at hp
  obtain ⟨i, hi, rfl⟩ := List.mem_map.1 hp
  have hi2 : i < n := by simpa using (List.mem_filter.1 hi).1
  have h1 := Nat.mod_lt i ha
  have h2 : i / a < b := by rw [Nat.div_lt_iff_lt_mul ha, Nat.mul_comm]; omega
  simp only [ptI]
  generalize i % a = x at *
  generalize i / a = y at *
  omega
theorem cellsC_bd {a b m : Nat} (ha : 0 < a) (hab : a * b ≤ 36) (hm : m < 2 ^ (a * b)) {k : Nat} (hk : k < (cellsC a m).length) :
    0 ≤ (gt (cellsC a m) k).1 ∧ (gt (cellsC a m) k).1 < a ∧ 0 ≤ (gt (cellsC a m) k).2 ∧ (gt (cellsC a m) k).2 < b := by
  refine cellsL_bd (F := m.testBit) (n := a * b) ha (Nat.le_refl _) _ ?_
  rw [cellsC_of hm hab, gt_at hk]
  exact List.getElem_mem hk
set_option maxRecDepth 100000 in
set_option maxHeartbeats 2000000 in
theorem impl_rim (w h M : Int) (W : World) : Calls Try.prog 46 #[.int .i64 w, .int .i64 h, .int .i64 M] W fun e w' => e = .returned (.int .i64 (rimV8 w h M)) ∧ Below W.heap.size W w' := by
  have HS := Lib.hid (fun W => impl_shape w h M W)
  cases hB : shapeB w h M
  · rw [hB] at HS
    have HV := Lib.hid (rimV8_no hB)
    rw [HV.out]
    clear hB
    go_enter Try.func46, Try.ntmps46
    go_wp2_with fail
    refine (HS.out _).mono ?_
    rintro e w1 ⟨rfl, rfl⟩
    go_wp2_with fail
    go_ret
    exact ⟨rfl, Below.refl _ _⟩
  · rw [hB] at HS
    obtain ⟨a, b, m, rfl, rfl, rfl, ha1, ha2, hb1, hb2, hm, hab⟩ := mask_nat hB
    have HV := Lib.hid (rimV8_yes hB)
    rw [HV.out]
    have HBO := Lib.hid (fun W => boardOf_any a b m W hm hab)
    have HCE := Lib.hid (fun W => cellsB_any a b m W ha1 hab hm)
    unfold Lists at HCE
    have HHA := Lib.hid (fun x y W => hasCell_any a b m.testBit x y W ⟨ha1, ha2⟩ ⟨hb1, hb2⟩ hab)
    have HBD := Lib.hid (fun k hk => cellsC_bd (a := a) (b := b) (m := m) ha1 hab hm (k := k) hk)
    have hlen := cellsC_len a m
    have HTL := Lib.hid (rimT8_le a b m (cellsC a m))
    have HPL := Lib.hid (rimP8_le a b m)
    have HOU : Hid (∀ x y, outN a b m x y = if hasB a b m.testBit x y = true then 0 else 1) := fun _ _ => rfl
    generalize cellsC a m = L at *
    clear hB hm hab
    go_enter Try.func46, Try.ntmps46
    go_wp2_with fail
    refine (HS.out _).mono ?_
    rintro e w1 ⟨rfl, rfl⟩
    go_wp2_with fail
    refine (HBO.out _).mono ?_
    rintro e w2 ⟨rfl, hb2'⟩
    have hw2 := hb2'.size
    have t2 := brd_new w2 0 0 fun _ => false
    go_wp2_with (first
      | (refine wpList_allocB rfl rfl ?_; try simp only [size_alloc])
      | refine wpList_storeB rfl _ _ rfl w2.heap.size a b _ _ m.testBit _ rfl rfl t2 ?_
      | refine wpList_loadB rfl _ rfl w2.heap.size a b m.testBit rfl (brd_setRow t2 a b m.testBit) ?_)
    have t1 := brd_setRow t2 a b m.testBit
    have bb := below_rowB (hb2'.alloc hw2 (.cells (bdV 0 0 fun _ => false) 75)) hw2 (bdV a b m.testBit)
    generalize (w2.alloc (.cells (bdV 0 0 fun _ => false) 75)).setRow w2.heap.size (bdV a b m.testBit) = w3 at *
    clear t2 hb2' HBO HS
    refine (HCE.out _).mono ?_
    rintro e w4 ⟨v4, rfl, own4, hb4⟩
    replace bb := below_on bb hb4
    replace t1 := t1.step hb4
    obtain ⟨_, A4, c4, rfl, p4⟩ := own_pts own4
    have HA := Lib.hid p4
    clear hb4 own4 p4 HCE hw2
    go_wp2_with fail
    go_loopw [8, 25] (fun s i wr => ∃ k c : Nat, k ≤ L.length ∧ i = .int .i64 k ∧ s = .int .i64 c ∧ Hid (c = rimT8 a b m L k) ∧ Brd wr w2.heap.size a b m.testBit ∧ Below w4.heap.size w4 wr) (fun _ i _ => L.length - (intOf i).toNat)
    case atStart => exact ⟨0, 0, Nat.zero_le _, rfl, rfl, rfl, t1, Below.refl _ _⟩
    case round =>
      clear t1
      obtain ⟨wo, rfl⟩ : ∃ wo : World, wo = wr := ⟨_, rfl⟩
      obtain ⟨k, c, hk, rfl, rfl, HC, hg, hb⟩ := hrel
      by_cases hlt : k < L.length
      · obtain ⟨g4, rfl, -⟩ := HA.out k hlt
        obtain ⟨d1, d2⟩ := gt_cells (ptsA_on HA.out hb) hlt
        have hbd := HBD.out k hlt
        have hc : c ≤ 4 * 36 := by
          rw [HC.out]
          have := HTL.out k
          omega
        have HC2 : Hid (c + rimP8 a b m (gt L k).1 (gt L k).2 4 = rimT8 a b m L (k + 1)) := by
          show _ = _
          rw [HC.out]; rfl
        clear HC
        generalize (gt L k).1 = x at *
        generalize (gt L k).2 = y at *
        have a1 := at_new wo x y 54
        have v1 := a1.c0; have v2 := a1.c1
        have hg1 := hg.alloc (.cells #[.int .i64 x, .int .i64 y] 54)
        have hb1 := hb.alloc hb.size (.cells #[.int .i64 x, .int .i64 y] 54)
        have HNB := Lib.hid (fun w => nbs_any x y w (by omega) (by omega))
        have HXX : Hid (∀ w (t : Nat), t < 4 → (Instr.index 99 (.agg (nbA x y)) (.int .i64 (t : Int))).run Try.prog w = .ok (.agg #[.int .i64 (nbP x y t).1, .int .i64 (nbP x y t).2]) w) := fun w t ht => idx_nb x y t ht w
        clear hg hb a1 hbd
        go_wp2_with fail
        refine (HNB.out _).mono ?_
        rintro e w5 ⟨rfl, hb5⟩
        replace hg1 := hg1.step hb5
        replace hb1 := below_on hb1 hb5
        have H0 : Hid (c = c + rimP8 a b m x y 0) := rfl
        clear hb5 v1 v2 HNB d1 d2
        go_wp2_with fail
        go_loopw [8, 31] (fun s i wr => ∃ t d : Nat, t ≤ 4 ∧ i = .int .i64 t ∧ s = .int .i64 d ∧ Hid (d = c + rimP8 a b m x y t) ∧ Brd wr w2.heap.size a b m.testBit ∧ Below w4.heap.size w4 wr) (fun _ i _ => 4 - (intOf i).toNat)
        case atStart => exact ⟨0, c, by omega, rfl, rfl, H0, hg1, hb1⟩
        case round =>
          clear hg1 hb1 H0
          obtain ⟨wi, rfl⟩ : ∃ wi : World, wi = wr := ⟨_, rfl⟩
          obtain ⟨t, d, ht, rfl, rfl, HD, hg, hb⟩ := hrel
          by_cases hlt4 : t < 4
          · have hx1 := HXX.out wi t hlt4
            have hd : d ≤ 4 * 36 + 4 := by
              rw [HD.out]
              have := HPL.out x y t
              omega
            have HD2 : Hid (d + outN a b m (nbP x y t).1 (nbP x y t).2 = c + rimP8 a b m x y (t + 1)) := by
              show _ = _
              rw [HD.out]
              simp only [rimP8]; omega
            clear HD
            generalize (nbP x y t).1 = u at *
            generalize (nbP x y t).2 = v at *
            have a1 := at_new wi u v 54
            have v1 := a1.c0; have v2 := a1.c1
            have hg1 := hg.alloc (.cells #[.int .i64 u, .int .i64 v] 54)
            have hb1 := hb.alloc hb.size (.cells #[.int .i64 u, .int .i64 v] 54)
            have HH := Lib.hid (fun W => HHA.out u v W)
            have hou := HOU.out u v
            clear hg hb a1
            cases hh : hasB a b m.testBit u v
            all_goals
              rw [hh] at hou HH
              simp only [Bool.false_eq_true, if_true, if_false] at hou
              rw [hou] at HD2
              clear hh hou
              go_wp2_with (refine wpList_loadB rfl _ rfl _ _ _ _ rfl hg1 ?_)
              refine (HH.out _).mono ?_
              rintro e w6 ⟨rfl, hb6⟩
              have R := Lib.hid (And.intro (hg1.step hb6) (below_on hb1 hb6))
              clear hg1 hb1 hb6 v1 v2 hx1 HH
              go_wp2_with fail
              go_roundw
            case rel => exact ⟨t + 1, _, by omega, by go_num, by go_num, HD2, R.out.1, R.out.2⟩
            case measure => simp [intOf]; omega
            case rel => exact ⟨t + 1, _, by omega, by go_num, by go_num, HD2, R.out.1, R.out.2⟩
            case measure => simp [intOf]; omega
          · obtain rfl : t = 4 := by omega
            rw [← HD.out] at HC2
            have R := Lib.hid (And.intro hg hb)
            clear hg hb HD
            go_wp2_with fail
            go_roundw
            case rel => exact ⟨k + 1, d, by omega, by go_num, rfl, HC2, R.out.1, R.out.2⟩
            case measure => simp [intOf]; omega
      · obtain rfl : k = L.length := by omega
        have hE := HC.out
        have R := Lib.hid (below_on bb hb)
        clear HC hg hb bb
        have HE := Lib.hid hE
        clear hE
        go_wp2_with fail
        go_ret
        rw [← HE.out]
        exact ⟨rfl, R.out⟩
end Go.Proofs.Ytimkknljoeiceaa
